/- Regions as lists of numbers: which are valid, which cells they have, a cell that is put in or taken out, their texts: no program here. -/
import Derived.WalkKit
import Derived.Laws.BytesArg
import Derived.Laws.BitsAllLaws
namespace Go.Proofs.Ytkjoonmnedofiaa.Pure
open Go.RowKit

/-- a valid region. -/
def okR (xs : List Int) : Prop := xs.length ≤ 8 ∧ ∀ x ∈ xs, 0 ≤ x ∧ x ≤ 255
instance (xs : List Int) : Decidable (okR xs) := inferInstanceAs (Decidable (_ ∧ _))
def okRB (xs : List Int) : Bool := decide (okR xs)
theorem okRB_iff {xs : List Int} : okRB xs = true ↔ okR xs := by unfold okRB; simp
theorem okRB_of {xs : List Int} (h : okR xs) : okRB xs = true := decide_eq_true h
theorem okRB_not {xs : List Int} (h : ¬ okR xs) : okRB xs = false := decide_eq_false h
/-- the bit of a row. -/
def bitB (r : Int) (k : Nat) : Bool := decide (r / 2 ^ k % 2 = 1)
theorem bitB_zero (k : Nat) : bitB 0 k = false := by unfold bitB; simp
theorem bitB_iff {r : Int} {k : Nat} : bitB r k = true ↔ r / 2 ^ k % 2 = 1 := by unfold bitB; simp
/-- a row, which is 0 if it is missing. -/
def rowD (xs : List Int) (y : Nat) : Int := xs.getD y 0
theorem rowD_at {xs : List Int} {y : Nat} {r : Int} (h : xs[y]? = some r) : rowD xs y = r := by unfold rowD; simp [List.getD, h]
theorem rowD_out {xs : List Int} {y : Nat} (h : xs.length ≤ y) : rowD xs y = 0 := by unfold rowD; simp [List.getD, List.getElem?_eq_none h]
theorem rowD_ok {xs : List Int} (h : okR xs) (y : Nat) : 0 ≤ rowD xs y ∧ rowD xs y ≤ 255 := by
  by_cases hy : y < xs.length
  · have e : rowD xs y = xs[y] := rowD_at (List.getElem?_eq_getElem hy)
    rw [e]; exact h.2 _ (List.getElem_mem hy)
  · rw [rowD_out (by omega)]; omega
/-- the cells among the first k indexes. -/
def cellsTo (xs : List Int) (k : Nat) : List (Int × Int) := ((List.range k).filter fun j => bitB (rowD xs (j / 8)) (j % 8)).map fun j => (((j % 8 : Nat) : Int), ((j / 8 : Nat) : Int))
theorem cellsTo_yes {xs : List Int} {k : Nat} (h : bitB (rowD xs (k / 8)) (k % 8) = true) : cellsTo xs (k + 1) = cellsTo xs k ++ [(((k % 8 : Nat) : Int), ((k / 8 : Nat) : Int))] := by
  unfold cellsTo; rw [List.range_succ, List.filter_append, List.map_append]; simp [h]
theorem cellsTo_no {xs : List Int} {k : Nat} (h : bitB (rowD xs (k / 8)) (k % 8) = false) : cellsTo xs (k + 1) = cellsTo xs k := by
  unfold cellsTo; rw [List.range_succ, List.filter_append, List.map_append]; simp [h]
theorem cellsTo_length (xs : List Int) (k : Nat) : (cellsTo xs k).length ≤ k := by
  unfold cellsTo; rw [List.length_map]; exact Nat.le_trans (List.length_filter_le _ _) (by simp)
theorem cellsTo_out {xs : List Int} {k : Nat} (h : xs.length * 8 ≤ k) (m : Nat) : cellsTo xs (k + m) = cellsTo xs k := by
  induction m with
  | zero => rfl
  | succ m ih =>
    rw [← Nat.add_assoc, cellsTo_no, ih]
    rw [rowD_out (by omega)]; exact bitB_zero _
/-- all cells. -/
def cellsR (xs : List Int) : List (Int × Int) := if okR xs then cellsTo xs 64 else []
theorem cellsR_ok {xs : List Int} (h : okR xs) : cellsR xs = cellsTo xs 64 := by unfold cellsR; simp [h]
theorem cellsR_ok' {xs : List Int} (h : okR xs) : cellsR xs = cellsTo xs (xs.length * 8) := by
  rw [cellsR_ok h]
  have := h.1
  have e := cellsTo_out (xs := xs) (k := xs.length * 8) (Nat.le_refl _) (64 - xs.length * 8)
  rw [show xs.length * 8 + (64 - xs.length * 8) = 64 by omega] at e
  exact e
theorem cellsR_not {xs : List Int} (h : ¬ okR xs) : cellsR xs = [] := by unfold cellsR; simp [h]
theorem cellsR_length (xs : List Int) : (cellsR xs).length ≤ 64 := by
  unfold cellsR; split
  · exact cellsTo_length _ _
  · simp
/-- does the region have the cell x, y? (x, y from 0 to 7.) -/
def hasB (xs : List Int) (x y : Int) : Bool := decide (okR xs ∧ 0 ≤ x ∧ x ≤ 7 ∧ 0 ≤ y ∧ y ≤ 7 ∧ bitB (rowD xs y.toNat) x.toNat = true)
theorem hasB_iff {xs : List Int} {x y : Int} : hasB xs x y = true ↔ okR xs ∧ 0 ≤ x ∧ x ≤ 7 ∧ 0 ≤ y ∧ y ≤ 7 ∧ bitB (rowD xs y.toNat) x.toNat = true := by unfold hasB; simp
/-- a rectangle. -/
def rectR (w h : Int) : List Int := if 1 ≤ w ∧ w ≤ 8 ∧ 1 ≤ h ∧ h ≤ 8 then List.replicate h.toNat (2 ^ w.toNat - 1) else []
theorem rectR_in {w h : Int} (k : 1 ≤ w ∧ w ≤ 8 ∧ 1 ≤ h ∧ h ≤ 8) : rectR w h = List.replicate h.toNat (2 ^ w.toNat - 1) := by unfold rectR; simp [k]
theorem rectR_out {w h : Int} (k : ¬ (1 ≤ w ∧ w ≤ 8 ∧ 1 ≤ h ∧ h ≤ 8)) : rectR w h = [] := by unfold rectR; rw [if_neg k]
theorem rectR_length (w h : Int) : (rectR w h).length ≤ 8 := by
  unfold rectR; split
  · rw [List.length_replicate]; omega
  · simp
/-- a row with a bit put in or taken out. -/
def putB (r : Int) (k : Nat) (on : Bool) : Int := if bitB r k = on then r else if on then r + 2 ^ k else r - 2 ^ k
/-- eight rows. -/
def pad8 (xs : List Int) : List Int := xs ++ List.replicate (8 - xs.length) 0
theorem pad8_length {xs : List Int} (h : xs.length ≤ 8) : (pad8 xs).length = 8 := by unfold pad8; simp; omega
theorem rowD_pad8 (xs : List Int) (y : Nat) : rowD (pad8 xs) y = rowD xs y := by
  unfold rowD pad8
  simp only [List.getD]
  by_cases h : y < xs.length
  · rw [List.getElem?_append_left h]
  · rw [List.getElem?_append_right (by omega), List.getElem?_eq_none (l := xs) (by omega)]
    by_cases h2 : y - xs.length < 8 - xs.length
    · rw [List.getElem?_replicate]; simp [h2]
    · rw [List.getElem?_eq_none (by simp; omega)]
/-- with the cell x, y or without it. -/
def withR (xs : List Int) (x y : Nat) (on : Bool) : List Int := (pad8 xs).set y (putB (rowD xs y) x on)
theorem withR_length {xs : List Int} (h : xs.length ≤ 8) (x y : Nat) (on : Bool) : (withR xs x y on).length = 8 := by unfold withR; rw [List.length_set, pad8_length h]
theorem rowD_with {xs : List Int} (h : xs.length ≤ 8) (x : Nat) {y : Nat} (hy : y < 8) (on : Bool) (z : Nat) : rowD (withR xs x y on) z = if z = y then putB (rowD xs y) x on else rowD xs z := by
  have hl := pad8_length h
  by_cases e : z = y
  · subst e
    rw [if_pos rfl]
    unfold withR
    refine rowD_at ?_
    rw [List.getElem?_set_self (by omega)]
  · rw [if_neg e, ← rowD_pad8 xs z]
    unfold withR rowD
    simp only [List.getD]
    rw [List.getElem?_set_ne (by omega)]
/-- the same cells. -/
def sameR (a b : List Int) : Bool := okRB a && (okRB b && (List.range 8).all fun y => rowD a y == rowD b y)
theorem sameR_iff {a b : List Int} : sameR a b = true ↔ okR a ∧ okR b ∧ ∀ y, y < 8 → rowD a y = rowD b y := by unfold sameR; simp [okRB_iff]
/-- the bytes of a row's text. -/
def charsTo (r : Int) (k : Nat) : List Int := (List.range k).map fun j => if bitB r j then 35 else 46
def rowS (r : Int) : ByteArray := strOfNums (charsTo r 8)
def textR (xs : List Int) : List ByteArray := if okR xs then xs.map rowS else []
theorem textR_ok {xs : List Int} (h : okR xs) : textR xs = xs.map rowS := by unfold textR; simp [h]
theorem textR_not {xs : List Int} (h : ¬ okR xs) : textR xs = [] := by unfold textR; simp [h]
theorem charsTo_length (r : Int) (k : Nat) : (charsTo r k).length = k := by unfold charsTo; simp
theorem charsTo_yes {r : Int} {k : Nat} (h : bitB r k = true) : charsTo r (k + 1) = charsTo r k ++ [35] := by unfold charsTo; rw [List.range_succ, List.map_append]; simp [h]
theorem charsTo_no {r : Int} {k : Nat} (h : bitB r k = false) : charsTo r (k + 1) = charsTo r k ++ [46] := by unfold charsTo; rw [List.range_succ, List.map_append]; simp [h]
theorem strOfNums_app (a b : List Int) : strOfNums (a ++ b) = strOfNums a ++ strOfNums b := by
  apply ByteArray.ext
  rw [ByteArray.data_append]
  unfold strOfNums
  simp

/-! Numbers from 0 to 255, by looking at all of them. -/
theorem and_table : ∀ r : Fin 256, ∀ k : Fin 8, (bits .and .i64 ((r.val : Nat) : Int) ((2 ^ k.val : Nat) : Int) = if bitB ((r.val : Nat) : Int) k.val then ((2 ^ k.val : Nat) : Int) else 0) ∧
    (bits .and .i64 (((r.val : Nat) : Int) / 2 ^ k.val) 1 = if bitB ((r.val : Nat) : Int) k.val then 1 else 0) ∧ (bits .or .i64 ((r.val : Nat) : Int) ((2 ^ k.val : Nat) : Int) = putB ((r.val : Nat) : Int) k.val true) ∧
    (bits .andNot .i64 ((r.val : Nat) : Int) ((2 ^ k.val : Nat) : Int) = putB ((r.val : Nat) : Int) k.val false) ∧ (putB ((r.val : Nat) : Int) k.val true - 2 ^ k.val = putB ((r.val : Nat) : Int) k.val false) ∧
    0 ≤ putB ((r.val : Nat) : Int) k.val true ∧ putB ((r.val : Nat) : Int) k.val true ≤ 255 ∧ 0 ≤ putB ((r.val : Nat) : Int) k.val false ∧ putB ((r.val : Nat) : Int) k.val false ≤ 255 ∧
    (putB (putB ((r.val : Nat) : Int) k.val true) k.val false = ((r.val : Nat) : Int) ↔ bitB ((r.val : Nat) : Int) k.val = false) := by decide +kernel
theorem table {r : Int} (h0 : 0 ≤ r) (h1 : r ≤ 255) {k : Nat} (hk : k < 8) : (bits .and .i64 r (2 ^ k) = if bitB r k then (2 : Int) ^ k else 0) ∧
    (bits .and .i64 (r / 2 ^ k) 1 = if bitB r k then 1 else 0) ∧ (bits .or .i64 r (2 ^ k) = putB r k true) ∧
    (bits .andNot .i64 r (2 ^ k) = putB r k false) ∧ (putB r k true - 2 ^ k = putB r k false) ∧
    0 ≤ putB r k true ∧ putB r k true ≤ 255 ∧ 0 ≤ putB r k false ∧ putB r k false ≤ 255 ∧ (putB (putB r k true) k false = r ↔ bitB r k = false) := by
  have h := and_table ⟨r.toNat, by omega⟩ ⟨k, hk⟩
  have e : ((r.toNat : Nat) : Int) = r := Int.toNat_of_nonneg h0
  have e2 : ((2 ^ k : Nat) : Int) = 2 ^ k := by simp
  simp only [e, e2] at h
  exact h
theorem and_no {r : Int} (h0 : 0 ≤ r) (h1 : r ≤ 255) {k : Nat} (hk : k < 8) (hb : bitB r k = false) : bits .and .i64 r (2 ^ k) = 0 := by rw [(table h0 h1 hk).1, hb]; rfl
theorem and_yes {r : Int} (h0 : 0 ≤ r) (h1 : r ≤ 255) {k : Nat} (hk : k < 8) (hb : bitB r k = true) : bits .and .i64 r (2 ^ k) = 2 ^ k := by rw [(table h0 h1 hk).1, hb]; rfl
theorem shr_no {r : Int} (h0 : 0 ≤ r) (h1 : r ≤ 255) {k : Nat} (hk : k < 8) (hb : bitB r k = false) : bits .and .i64 (r / 2 ^ k) 1 = 0 := by rw [(table h0 h1 hk).2.1, hb]; rfl
theorem shr_yes {r : Int} (h0 : 0 ≤ r) (h1 : r ≤ 255) {k : Nat} (hk : k < 8) (hb : bitB r k = true) : bits .and .i64 (r / 2 ^ k) 1 = 1 := by rw [(table h0 h1 hk).2.1, hb]; rfl
end Go.Proofs.Ytkjoonmnedofiaa.Pure
