/- A slice of cells that comes in. -/
import Derived.Test.YtkjoonmnedofiaaMgFAl
import Derived.Deep.Slices
import Derived.Deep.Strs
import Derived.OpenShut
namespace Go.Proofs.Ytkjoonmnedofiaa.Def
set_option linter.unusedVariables false
set_option linter.unusedSimpArgs false
open Go.RowKit Go.Proofs.Ytkjoonmnedofiaa.Base Go.Proofs.Ytkjoonmnedofiaa.Cell Go.Joins Go.ChangeShapes Go.WideShapes Go.Deep

theorem add_plain' (b o j : Nat) : (⟨b, o, none⟩ : Addr).add j = ⟨b, o + j, none⟩ := by unfold Addr.add; split <;> simp_all
theorem open_cells {H : Type} {enc : TypeId × Value → H} {P : Program} {W : World} {held : Bool} {r : Reach} {b0 : Nat} {t e : TypeId} {f0 f1 : Field} {v : Value} {d : DataW H} {p : List MemPlace}
    (ht : P.underlying t = some (.slice e)) (he : P.underlying e = some (.struct #[f0, f1])) (hone : oneCellFields P #[f0, f1] = true) (hc : P.cellsOf e = 2)
    (k0 : P.underlying f0.type = some (.int .i64)) (k1 : P.underlying f1.type = some (.int .i64))
    (hv : Value.okWide P W r b0 t v) (h : DataW.Trod enc P W 0 (fun _ => true) held t v d p) :
    ∃ (A : Option Addr) (n cap : Nat) (L : List (Int × Int)), v = .slice A n cap ∧ L.length = n ∧ (n : Int) ≤ 9223372036854775807 ∧ RowK W W.heap.size A L := by
  obtain ⟨a0, len0, cap0, rfl⟩ := okWide_slice ht hv
  obtain ⟨fuel, hf⟩ := h
  have hf' : DataW.trod enc P W 0 (fun _ => true) held fuel t [.slice a0 len0 cap0] = some (d, p) := by simpa [Value.cells] using hf
  rcases open_slice ht hf' with ⟨hcs, _⟩ | ⟨a, len, cap, m, n, D, Pl, hcs, _, hl, hm, hmm, _, hx⟩
  · simp only [List.cons.injEq, and_true, Value.slice.injEq] at hcs
    obtain ⟨rfl, rfl, rfl⟩ := hcs
    exact ⟨none, 0, 0, [], rfl, rfl, by omega, ⟨0, 0, fun h => by simp at h, fun j u hu => by simp at hu⟩⟩
  · simp only [List.cons.injEq, and_true, Value.slice.injEq] at hcs
    obtain ⟨rfl, rfl, rfl⟩ := hcs
    simp only [if_true] at hmm
    subst hmm
    have each : ∀ i, i < len0 → ∃ q : Int × Int, W.cell? (a.add (i * 2)) = some (.int .i64 q.1) ∧ W.cell? (a.add (i * 2 + 1)) = some (.int .i64 q.2) := by
      intro i hi
      obtain ⟨cs', h1, h2⟩ := hx i (by omega)
      rw [hc] at h1
      obtain ⟨_, hlen, hcell⟩ := World.cells?_some h1
      obtain ⟨y0, y1, n', _, _, g0, g1⟩ := trod_struct2 he h2
      obtain ⟨o0, s0⟩ := hone_of hone 0 f0 rfl
      obtain ⟨o1, s1⟩ := hone_of hone 1 f1 rfl
      match cs', hlen with
      | [c0, c1], _ =>
        rw [o0, s0] at g0
        rw [o1, s1] at g1
        obtain ⟨q0, e0, _, w0⟩ := DataW.trod_int k0 (by simpa using g0)
        obtain ⟨q1, e1, _, w1⟩ := DataW.trod_int k1 (by simpa using g1)
        simp only [List.cons.injEq, and_true] at e0 e1
        subst e0 e1
        have a0 := hcell 0 (by omega)
        have a1 := hcell 1 (by omega)
        rw [add_add] at a0 a1
        exact ⟨(q0, q1), a0, a1⟩
    obtain ⟨V, hV⟩ := choose_lt (α := Int × Int) each
    refine ⟨some a, len0, _, (List.range len0).map V, rfl, by simp, by unfold maxLen at hm; omega, ?_⟩
    by_cases h00 : len0 = 0
    · subst h00
      exact ⟨0, 0, fun h => by simp at h, fun j u hu => by simp at hu⟩
    · obtain ⟨b, off, spot⟩ := a
      have hc0 := (hV 0 (by omega)).1
      have hsp : spot = none := by
        have h1 := World.cell?_spot hc0
        simpa [Addr.add] using h1
      subst hsp
      refine ⟨b, off, fun _ => ⟨rfl, ?_⟩, fun j d hd => ?_⟩
      · rw [add_plain'] at hc0
        exact World.block_lt_of_cell? W _ hc0
      · have hj : j < len0 := by
          have := (List.getElem?_eq_some_iff.1 hd).1
          simpa using this
        have hd' : V j = d := by simpa [List.getElem?_range hj] using hd
        obtain ⟨c0, c1⟩ := hV j hj
        rw [add_plain'] at c0 c1
        rw [hd'] at c0 c1
        exact ⟨c0, c1⟩
end Go.Proofs.Ytkjoonmnedofiaa.Def
