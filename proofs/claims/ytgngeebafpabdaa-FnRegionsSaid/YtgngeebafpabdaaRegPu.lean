/- What the law of regions rests on, without a program: a cell that is put in is there, one that is taken out is not, nothing else turns; the cells of a rectangle; the marks of a text. -/
import Derived.Test.YtgngeebafpabdaaRegWc
import Derived.Test.YtgngeebafpabdaaRegSs
import Derived.Test.YtgngeebafpabdaaRegCn
namespace Go.Proofs.Ytgngeebafpabdaa.Reg
set_option linter.unusedVariables false
open Go.RowKit Go.Proofs.Ytgngeebafpabdaa.Base Go.Proofs.Ytgngeebafpabdaa.Pure Go.Proofs.Ytgngeebafpabdaa.Cell Go.Joins

theorem put_table : ∀ r : Fin 256, ∀ k : Fin 8, bitB (putB ((r.val : Nat) : Int) k.val true) k.val = true ∧ bitB (putB ((r.val : Nat) : Int) k.val false) k.val = false ∧ (putB ((r.val : Nat) : Int) k.val true = ((r.val : Nat) : Int) ↔ bitB ((r.val : Nat) : Int) k.val = true) := by decide +kernel
theorem put_bits {r : Int} (h0 : 0 ≤ r) (h1 : r ≤ 255) {k : Nat} (hk : k < 8) : bitB (putB r k true) k = true ∧ bitB (putB r k false) k = false ∧ (putB r k true = r ↔ bitB r k = true) := by
  have h := put_table ⟨r.toNat, by omega⟩ ⟨k, hk⟩
  have e : ((r.toNat : Nat) : Int) = r := Int.toNat_of_nonneg h0
  simp only [e] at h
  exact h
theorem ok_with {xs : List Int} (ho : okR xs) {x y : Nat} (hx : x < 8) (hy : y < 8) (on : Bool) : okR (withR xs x y on) := by
  refine ⟨by rw [withR_length ho.1]; omega, fun r hr => ?_⟩
  obtain ⟨z, hz, rfl⟩ := List.mem_iff_getElem.1 hr
  have e := rowD_with ho.1 x hy on z
  rw [rowD_at (List.getElem?_eq_getElem hz)] at e
  have hb := rowD_ok ho y
  have t := table hb.1 hb.2 hx
  rw [e]
  split
  · cases on
    · exact ⟨t.2.2.2.2.2.2.2.1, t.2.2.2.2.2.2.2.2.1⟩
    · exact ⟨t.2.2.2.2.2.1, t.2.2.2.2.2.2.1⟩
  · exact rowD_ok ho z
theorem has_put {xs : List Int} (ho : okR xs) {x y : Nat} (hx : x < 8) (hy : y < 8) (on : Bool) : hasB (withR xs x y on) (x : Int) (y : Int) = on := by
  have hb := rowD_ok ho y
  have p := put_bits hb.1 hb.2 hx
  rw [has_at (ok_with ho hx hy on) hx hy, rowD_with ho.1 x hy on y, if_pos rfl]
  cases on
  · exact p.2.1
  · exact p.1
theorem same_put {xs : List Int} (ho : okR xs) {x y : Nat} (hx : x < 8) (hy : y < 8) : sameR xs (withR xs x y true) = hasB xs (x : Int) (y : Int) := by
  have hb := rowD_ok ho y
  have p := put_bits hb.1 hb.2 hx
  rw [has_at ho hx hy, Bool.eq_iff_iff, sameR_iff, ← p.2.2]
  constructor
  · rintro ⟨_, _, h⟩
    have := h y hy
    rw [rowD_with ho.1 x hy true y, if_pos rfl] at this
    exact this.symm
  · intro h
    refine ⟨ho, ok_with ho hx hy true, fun z hz => ?_⟩
    rw [rowD_with ho.1 x hy true z]
    split
    · rename_i e; subst e; exact h.symm
    · rfl
theorem same_taken {xs : List Int} (ho : okR xs) {x y : Nat} (hx : x < 8) (hy : y < 8) : sameR xs (withR (withR xs x y true) x y false) = !hasB xs (x : Int) (y : Int) := by
  have hb := rowD_ok ho y
  have t := table hb.1 hb.2 hx
  have ho2 := ok_with ho hx hy true
  have e : ∀ z, rowD (withR (withR xs x y true) x y false) z = if z = y then putB (putB (rowD xs y) x true) x false else rowD xs z := by
    intro z
    rw [rowD_with ho2.1 x hy false z, rowD_with ho.1 x hy true y, if_pos rfl, rowD_with ho.1 x hy true z]
    split <;> rfl
  have t9 := t.2.2.2.2.2.2.2.2.2
  rw [has_at ho hx hy, Bool.eq_iff_iff, sameR_iff, Bool.not_eq_true', ← t9]
  constructor
  · rintro ⟨_, _, h⟩
    have := h y hy
    rw [e y, if_pos rfl] at this
    exact this.symm
  · intro h
    refine ⟨ho, ok_with ho2 hx hy false, fun z hz => ?_⟩
    rw [e z]
    split
    · rename_i q; subst q; exact h.symm
    · rfl
theorem rect_table : ∀ a : Fin 8, ∀ b : Fin 8, countR (rectR (((a.val + 1 : Nat)) : Int) (((b.val + 1 : Nat)) : Int)) = (((a.val + 1) * (b.val + 1) : Nat) : Int) := by decide +kernel
theorem rect_count {a b : Nat} (ha : 1 ≤ a) (ha8 : a ≤ 8) (hb : 1 ≤ b) (hb8 : b ≤ 8) : countR (rectR (a : Int) (b : Int)) = (a : Int) * (b : Int) := by
  have h := rect_table ⟨a - 1, by omega⟩ ⟨b - 1, by omega⟩
  rw [show (a - 1 + 1) = a by omega, show (b - 1 + 1) = b by omega] at h
  rw [h, Int.natCast_mul]
/-- the marks of a text's first k places. -/
def marksTo (xs : List Int) (k : Nat) : Int := ((cellsTo xs k).length : Int)
theorem marks_yes {xs : List Int} {y x : Nat} (hx : x < 8) (h : bitB (rowD xs y) x = true) : marksTo xs (y * 8 + (x + 1)) = marksTo xs (y * 8 + x) + 1 := by
  unfold marksTo; rw [← Nat.add_assoc, cellsTo_yes' hx h, List.length_append]; simp
theorem marks_no {xs : List Int} {y x : Nat} (hx : x < 8) (h : bitB (rowD xs y) x = false) : marksTo xs (y * 8 + (x + 1)) = marksTo xs (y * 8 + x) := by
  unfold marksTo; rw [← Nat.add_assoc, cellsTo_no' hx h]
theorem marks_bound (xs : List Int) (k : Nat) : 0 ≤ marksTo xs k ∧ marksTo xs k ≤ (k : Int) := by
  unfold marksTo; have := cellsTo_length xs k; omega
theorem marks_all {xs : List Int} (ho : okR xs) : marksTo xs (xs.length * 8) = countR xs := by
  unfold marksTo countR; rw [cellsR_ok' ho]
theorem rowS_size (r : Int) : (rowS r).size = 8 := by unfold rowS; rw [strOfNums_size, charsTo_length]
theorem rowS_byte {r : Int} {k : Nat} (hk : k < 8) (h : k < (rowS r).size) : (rowS r)[k]'h = if bitB r k then 35 else 46 := by
  have e : (rowS r).data.toList[k]? = some (if bitB r k then 35 else 46) := by
    unfold rowS
    rw [strOfNums_data]
    unfold charsTo
    rw [List.map_map, List.getElem?_map, List.getElem?_range hk]
    simp only [Option.map_some, Function.comp_apply]
    cases bitB r k <;> rfl
  have h2 : k < (rowS r).data.toList.length := by rw [Array.length_toList]; exact h
  rw [List.getElem?_eq_getElem h2] at e
  exact Option.some.inj e
end Go.Proofs.Ytgngeebafpabdaa.Reg
