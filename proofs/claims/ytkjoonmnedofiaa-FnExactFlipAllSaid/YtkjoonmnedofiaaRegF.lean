/- A region that came in as a parameter: a struct of one slice of ints, opened. -/
import Derived.Test.YtkjoonmnedofiaaRegM
import Derived.OpenShut
import Derived.ChangeSlices
import Derived.ProofKit
namespace Go.Proofs.Ytkjoonmnedofiaa.Reg
open Go.ChangeShapes Go.WideShapes Go.ChangeAt Go.RowKit Go.Joins
set_option linter.unusedVariables false

theorem array1 {α : Type} {cs : Array α} (h : cs.size = 1) : ∃ c0, cs = #[c0] := by
  obtain ⟨l⟩ := cs
  match l, h with
  | [c0], _ => exact ⟨c0, rfl⟩
theorem add_none (b o j : Nat) : (⟨b, o, none⟩ : Addr).add j = ⟨b, o + j, none⟩ := by unfold Addr.add; split <;> simp_all

theorem open_reg {H : Type} {enc : TypeId × Value → H} {P : Program} {W : World} {held : Bool} {r : Reach} {b0 : Nat} {t e : TypeId} {f0 : Field} {v : Value} {d : DataW H} {p : List MemPlace}
    (ht : P.underlying t = some (.struct #[f0])) (hC : P.cellsOf t = 1) (h0 : f0.offset = 0) (h1 : P.cellsOf f0.type = 1) (hs : P.underlying f0.type = some (.slice e)) (he : P.underlying e = some (.int .i64)) (hc : P.cellsOf e = 1)
    (hv : Value.okWide P W r b0 t v) (h : DataW.Trod enc P W 0 (fun _ => true) held t v d p) :
    ∃ (A : Option Addr) (n cap : Nat) (xs : List Int), v = .agg #[.slice A n cap] ∧ xs.length = n ∧ (n : Int) ≤ 9223372036854775807 ∧ RowB W W.heap.size A xs := by
  obtain ⟨cs, rfl, hsz⟩ := okWide_struct ht hv
  obtain ⟨c0, rfl⟩ := array1 (hsz.trans hC)
  obtain ⟨fuel, hf⟩ := h
  obtain ⟨y0, n, hx, _, hy⟩ := trod_struct1 ht hf
  rw [h0, h1] at hy
  have hy' : DataW.trod enc P W 0 (fun _ => true) held n f0.type [c0] = some y0 := by simpa [Value.cells] using hy
  rcases open_ints hs he hc hy' with ⟨hcs, _⟩ | ⟨a, len, cap, zs, hcs, _, hl, hm, hz, _, hcell, _⟩
  · simp only [List.cons.injEq, and_true] at hcs
    subst hcs
    exact ⟨none, 0, 0, [], rfl, rfl, by omega, 0, 0, fun h => by simp at h, fun j u hu => by simp at hu⟩
  · simp only [List.cons.injEq, and_true] at hcs
    subst hcs
    simp only [if_true] at hz
    have hlen : (zs.take len).length = len := by rw [List.length_take]; omega
    refine ⟨some a, len, cap, zs.take len, rfl, hlen, by unfold maxLen at hm; omega, ?_⟩
    by_cases h00 : len = 0
    · subst h00
      exact ⟨0, 0, fun h => by simp at h, fun j u hu => by simp at hu⟩
    · obtain ⟨b, off, spot⟩ := a
      have hc0 := hcell 0 (by omega)
      have hsp : spot = none := by
        have h1 := World.cell?_spot hc0
        simpa [Addr.add] using h1
      subst hsp
      refine ⟨b, off, fun _ => ⟨rfl, ?_⟩, fun j x hx => ?_⟩
      · rw [add_none] at hc0
        exact World.block_lt_of_cell? W _ hc0
      · have hj : j < len := by
          have := (List.getElem?_eq_some_iff.1 hx).1
          omega
        have := hcell j (by omega)
        rw [add_none] at this
        rw [this]
        rw [List.getElem?_take, if_pos hj] at hx
        simp [List.getD, hx]
end Go.Proofs.Ytkjoonmnedofiaa.Reg
