/- Regions and dominoes that come in, opened (for texts from which need.py has struck this: import it beside them). -/
import Derived.Test.YtmajllgfmclcoaaGreatDoorMe10
import Derived.OpenShut
import Derived.ChangeSlices
import Derived.ProofKit
import Derived.Test.YtmajllgfmclcoaaGreatDoorMe02
import Derived.OwnWalk
import Derived.Laws.AppendOwn
import Derived.Deep.AppendLies
import Derived.Laws.OwnMore
import Derived.Deep.Slices
import Derived.Deep.Strs
namespace Go.Proofs.YtmajllgfmclcoaaGreatDoor.Reg
open Go.ChangeShapes Go.WideShapes Go.ChangeAt Go.RowKit Go.Joins
set_option linter.unusedVariables false
theorem array1 {α : Type} {cs : Array α} (h : cs.size = 1) : ∃ c0, cs = #[c0] := by
  obtain ⟨l⟩ := cs
  match l, h with
  | [c0], _ => exact ⟨c0, rfl⟩
theorem add_noneF (b o j : Nat) : (⟨b, o, none⟩ : Addr).add j = ⟨b, o + j, none⟩ := by unfold Addr.add; split <;> simp_all

theorem open_reg {H : Type} {enc : TypeId × Value → H} {P : Program} {W : World} {held : Bool} {r : Reach} {b0 : Nat} {t e : TypeId} {f0 : Field} {v : Value} {d : DataW H} {p : List MemPlace}
    (ht : P.underlying t = some (.struct #[f0])) (hC : P.cellsOf t = 1) (h0 : f0.offset = 0) (h1 : P.cellsOf f0.type = 1) (hs : P.underlying f0.type = some (.slice e)) (he : P.underlying e = some (.int .i64)) (hc : P.cellsOf e = 1)
    (hv : Value.okWide P W r b0 t v) (h : DataW.Trod enc P W 0 (fun _ => true) held t v d p) :
    ∃ (A : Option Addr) (n cap : Nat) (xs : List Int), v = .agg #[.slice A n cap] ∧ xs.length = n ∧ (n : Int) ≤ 9223372036854775807 ∧ RowB W W.heap.size A xs := by
  obtain ⟨cs, rfl, hsz⟩ := okWide_struct ht hv
  obtain ⟨c0, rfl⟩ := array1 (hsz.trans hC)
  obtain ⟨fuel, hf⟩ := h
  obtain ⟨y0, n, hx, _, hy⟩ := trod_struct1 ht hf
  rw [h0, h1] at hy
  have hy' : DataW.trod enc P W 0 (fun _ => true) held n f0.type [c0] = some y0 := by simpa [Value.cells] using hy
  rcases open_ints hs he hc hy' with ⟨hcs, _⟩ | ⟨a, len, cap, zs, hcs, _, hl, hm, hz, _, hcell, _⟩
  · simp only [List.cons.injEq, and_true] at hcs
    subst hcs
    exact ⟨none, 0, 0, [], rfl, rfl, by omega, 0, 0, fun h => by simp at h, fun j u hu => by simp at hu⟩
  · simp only [List.cons.injEq, and_true] at hcs
    subst hcs
    simp only [if_true] at hz
    have hlen : (zs.take len).length = len := by rw [List.length_take]; omega
    refine ⟨some a, len, cap, zs.take len, rfl, hlen, by unfold maxLen at hm; omega, ?_⟩
    by_cases h00 : len = 0
    · subst h00
      exact ⟨0, 0, fun h => by simp at h, fun j u hu => by simp at hu⟩
    · obtain ⟨b, off, spot⟩ := a
      have hc0 := hcell 0 (by omega)
      have hsp : spot = none := by
        have h1 := World.cell?_spot hc0
        simpa [Addr.add] using h1
      subst hsp
      refine ⟨b, off, fun _ => ⟨rfl, ?_⟩, fun j x hx => ?_⟩
      · rw [add_noneF] at hc0
        exact World.block_lt_of_cell? W _ hc0
      · have hj : j < len := by
          have := (List.getElem?_eq_some_iff.1 hx).1
          omega
        have := hcell j (by omega)
        rw [add_noneF] at this
        rw [this]
        rw [List.getElem?_take, if_pos hj] at hx
        simp [List.getD, hx]
end Go.Proofs.YtmajllgfmclcoaaGreatDoor.Reg
namespace Go.Proofs.YtmajllgfmclcoaaGreatDoor.Dms
set_option linter.unusedVariables false
set_option linter.unusedSimpArgs false
open Go.RowKit Go.Proofs.YtmajllgfmclcoaaGreatDoor.Base Go.Proofs.YtmajllgfmclcoaaGreatDoor.Cell Go.Proofs.YtmajllgfmclcoaaGreatDoor.Dom Go.Joins Go.ChangeShapes Go.WideShapes Go.Deep
theorem add_noneF (b o j : Nat) : (⟨b, o, none⟩ : Addr).add j = ⟨b, o + j, none⟩ := by unfold Addr.add; split <;> simp_all
theorem open_doms {H : Type} {enc : TypeId × Value → H} {P : Program} {W : World} {held : Bool} {r : Reach} {b0 : Nat} {t e : TypeId} {f0 f1 f2 : Field} {v : Value} {d : DataW H} {p : List MemPlace}
    (ht : P.underlying t = some (.slice e)) (he : P.underlying e = some (.struct #[f0, f1, f2])) (hone : oneCellFields P #[f0, f1, f2] = true) (hc : P.cellsOf e = 3)
    (k0 : P.underlying f0.type = some (.int .i64)) (k1 : P.underlying f1.type = some (.int .i64)) (k2 : P.underlying f2.type = some .bool)
    (hv : Value.okWide P W r b0 t v) (h : DataW.Trod enc P W 0 (fun _ => true) held t v d p) :
    ∃ (A : Option Addr) (n cap : Nat) (L : List Dm), v = .slice A n cap ∧ L.length = n ∧ (n : Int) ≤ 9223372036854775807 ∧ RowM W W.heap.size A L ∧ Fits L := by
  obtain ⟨a0, len0, cap0, rfl⟩ := okWide_slice ht hv
  obtain ⟨fuel, hf⟩ := h
  have hf' : DataW.trod enc P W 0 (fun _ => true) held fuel t [.slice a0 len0 cap0] = some (d, p) := by simpa [Value.cells] using hf
  rcases open_slice ht hf' with ⟨hcs, _⟩ | ⟨a, len, cap, m, n, D, Pl, hcs, _, hl, hm, hmm, _, hx⟩
  · simp only [List.cons.injEq, and_true, Value.slice.injEq] at hcs
    obtain ⟨rfl, rfl, rfl⟩ := hcs
    exact ⟨none, 0, 0, [], rfl, rfl, by omega, ⟨0, 0, fun h => by simp at h, fun j u hu => by simp at hu⟩, fun d hd => by simp at hd⟩
  · simp only [List.cons.injEq, and_true, Value.slice.injEq] at hcs
    obtain ⟨rfl, rfl, rfl⟩ := hcs
    simp only [if_true] at hmm
    subst hmm
    have each : ∀ i, i < len0 → ∃ q : Dm, (W.cell? (a.add (i * 3)) = some (.int .i64 q.1) ∧ W.cell? (a.add (i * 3 + 1)) = some (.int .i64 q.2.1) ∧ W.cell? (a.add (i * 3 + 2)) = some (.bool q.2.2)) ∧ Sm q.1 ∧ Sm q.2.1 := by
      intro i hi
      obtain ⟨cs', h1, h2⟩ := hx i (by omega)
      rw [hc] at h1
      obtain ⟨_, hlen, hcell⟩ := World.cells?_some h1
      obtain ⟨y0, y1, y2, n', _, _, g0, g1, g2⟩ := trod_struct3 he h2
      obtain ⟨o0, s0⟩ := hone_of hone 0 f0 rfl
      obtain ⟨o1, s1⟩ := hone_of hone 1 f1 rfl
      obtain ⟨o2, s2⟩ := hone_of hone 2 f2 rfl
      match cs', hlen with
      | [c0, c1, c2], _ =>
        rw [o0, s0] at g0
        rw [o1, s1] at g1
        rw [o2, s2] at g2
        obtain ⟨q0, e0, _, w0⟩ := DataW.trod_int k0 (by simpa using g0)
        obtain ⟨q1, e1, _, w1⟩ := DataW.trod_int k1 (by simpa using g1)
        obtain ⟨q2, e2, _⟩ := DataW.trod_bool k2 (by simpa using g2)
        simp only [List.cons.injEq, and_true] at e0 e1 e2
        subst e0 e1 e2
        have a0 := hcell 0 (by omega)
        have a1 := hcell 1 (by omega)
        have a2 := hcell 2 (by omega)
        rw [add_add] at a0 a1 a2
        exact ⟨(q0, q1, q2), ⟨a0, a1, a2⟩, bounds_i64 w0, bounds_i64 w1⟩
    obtain ⟨V, hV⟩ := choose_lt (α := Dm) each
    refine ⟨some a, len0, _, (List.range len0).map V, rfl, by simp, by unfold maxLen at hm; omega, ?_, ?_⟩
    · by_cases h00 : len0 = 0
      · subst h00
        exact ⟨0, 0, fun h => by simp at h, fun j u hu => by simp at hu⟩
      · obtain ⟨b, off, spot⟩ := a
        have hc0 := (hV 0 (by omega)).1.1
        have hsp : spot = none := by
          have h1 := World.cell?_spot hc0
          simpa [Addr.add] using h1
        subst hsp
        refine ⟨b, off, fun _ => ⟨rfl, ?_⟩, fun j d hd => ?_⟩
        · rw [add_noneF] at hc0
          exact World.block_lt_of_cell? W _ hc0
        · have hj : j < len0 := by
            have := (List.getElem?_eq_some_iff.1 hd).1
            simpa using this
          have hd' : V j = d := by simpa [List.getElem?_range hj] using hd
          obtain ⟨⟨c0, c1, c2⟩, _⟩ := hV j hj
          rw [add_noneF] at c0 c1 c2
          rw [hd'] at c0 c1 c2
          exact ⟨c0, c1, c2⟩
    · intro d hd
      obtain ⟨j, hj, rfl⟩ := List.mem_map.1 hd
      exact (hV j (List.mem_range.1 hj)).2
end Go.Proofs.YtmajllgfmclcoaaGreatDoor.Dms
