/- Opi in one text. -/
import Derived.Test.YtieophdbhnpncaaGreatMt24
import Derived.Test.YtieophdbhnpncaaGreatMt03

/- A slice of ints, handed in: what it holds. -/
namespace Go.Proofs.YtieophdbhnpncaaGreat.Opi
set_option linter.unusedVariables false
set_option linter.unusedSimpArgs false
open Go.RowKit Go.Proofs.YtieophdbhnpncaaGreat.Base Go.Joins Go.ChangeShapes Go.WideShapes Go.ChangeAt Go.Deep
open Go.Proofs.YtieophdbhnpncaaGreat.Reg (RowB)
theorem add_noneI (b o j : Nat) : (⟨b, o, none⟩ : Addr).add j = ⟨b, o + j, none⟩ := by unfold Addr.add; split <;> simp_all
theorem open_intS {H : Type} {enc : TypeId × Value → H} {P : Program} {W : World} {held : Bool} {r : Reach} {b0 : Nat} {t e : TypeId} {v : Value} {d : DataW H} {p : List MemPlace}
    (ht : P.underlying t = some (.slice e)) (he : P.underlying e = some (.int .i64)) (hc : P.cellsOf e = 1)
    (hv : Value.okWide P W r b0 t v) (h : DataW.Trod enc P W 0 (fun _ => true) held t v d p) :
    ∃ (A : Option Addr) (n cap : Nat) (xs : List Int), v = .slice A n cap ∧ xs.length = n ∧ (n : Int) ≤ 9223372036854775807 ∧ RowB W W.heap.size A xs := by
  obtain ⟨a0, len0, cap0, rfl⟩ := okWide_slice ht hv
  obtain ⟨fuel, hf⟩ := h
  have hf' : DataW.trod enc P W 0 (fun _ => true) held fuel t [.slice a0 len0 cap0] = some (d, p) := by simpa [Value.cells] using hf
  rcases open_ints ht he hc hf' with ⟨hcs, _⟩ | ⟨a, len, cap, zs, hcs, _, hl, hm, hz, _, hcell, _⟩
  · simp only [List.cons.injEq, and_true, Value.slice.injEq] at hcs
    obtain ⟨rfl, rfl, rfl⟩ := hcs
    exact ⟨none, 0, 0, [], rfl, rfl, by omega, 0, 0, fun h => by simp at h, fun j u hu => by simp at hu⟩
  · simp only [List.cons.injEq, and_true, Value.slice.injEq] at hcs
    obtain ⟨rfl, rfl, rfl⟩ := hcs
    simp only [if_true] at hz
    have hlen : (zs.take len0).length = len0 := by rw [List.length_take]; omega
    refine ⟨some a, len0, _, zs.take len0, rfl, hlen, by unfold maxLen at hm; omega, ?_⟩
    by_cases h00 : len0 = 0
    · subst h00
      exact ⟨0, 0, fun h => by simp at h, fun j u hu => by simp at hu⟩
    · obtain ⟨b, off, spot⟩ := a
      have hc0 := hcell 0 (by omega)
      have hsp : spot = none := by
        have h1 := World.cell?_spot hc0
        simpa [Addr.add] using h1
      subst hsp
      refine ⟨b, off, fun _ => ⟨rfl, ?_⟩, fun j x hx => ?_⟩
      · rw [add_noneI] at hc0
        exact World.block_lt_of_cell? W _ hc0
      · have hj : j < len0 := by
          have := (List.getElem?_eq_some_iff.1 hx).1
          omega
        have := hcell j (by omega)
        rw [add_noneI] at this
        rw [this]
        rw [List.getElem?_take, if_pos hj] at hx
        simp [List.getD, hx]
end Go.Proofs.YtieophdbhnpncaaGreat.Opi
