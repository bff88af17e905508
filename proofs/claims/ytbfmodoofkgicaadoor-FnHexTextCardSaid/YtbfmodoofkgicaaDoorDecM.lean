/- Pairs of hexadecimal digits: the plain mathematics. -/
import Derived.Test.YtbfmodoofkgicaaDoorHexM
namespace Go.Proofs.YtbfmodoofkgicaaDoor.Dec
set_option linter.unusedVariables false
open Go.RowKit Go.Proofs.YtbfmodoofkgicaaDoor.Base Go.Proofs.YtbfmodoofkgicaaDoor.Hex
/-- the value of a hexadecimal digit, -1 for another character. -/
def val (c : Nat) : Int := if 48 ≤ c ∧ c ≤ 57 then c - 48 else if 97 ≤ c ∧ c ≤ 102 then c - 87 else -1
theorem val_bd (c : Nat) : -1 ≤ val c ∧ val c ≤ 15 := by unfold val; split <;> (try split) <;> omega
/-- the bytes that pairs of digits stand for. -/
def pairs : List UInt8 → List Int
  | a :: b :: r => (16 * val a.toNat + val b.toNat) :: pairs r
  | _ => []
/-- all pairs are digits. -/
def allOk : List UInt8 → Prop
  | a :: b :: r => (0 ≤ val a.toNat ∧ 0 ≤ val b.toNat) ∧ allOk r
  | _ => True
theorem pairs_snoc (a b : UInt8) : ∀ l : List UInt8, l.length % 2 = 0 → pairs (l ++ [a, b]) = pairs l ++ [16 * val a.toNat + val b.toNat]
  | [], _ => rfl
  | [_], h => by simp at h
  | x :: y :: r, h => by
    have ih := pairs_snoc a b r (by simp only [List.length_cons] at h; omega)
    simp only [List.cons_append, pairs, ih]
theorem len_s (s : ByteArray) : s.data.toList.length = s.size := Array.length_toList
theorem pairs_length : ∀ l : List UInt8, (pairs l).length = l.length / 2
  | [] => rfl
  | [_] => by simp [pairs]
  | x :: y :: r => by
    have ih := pairs_length r
    simp only [pairs, List.length_cons, ih]; omega
theorem allOk_append (r : List UInt8) : ∀ l : List UInt8, l.length % 2 = 0 → (allOk (l ++ r) ↔ allOk l ∧ allOk r)
  | [], _ => by simp [allOk]
  | [_], h => by simp at h
  | x :: y :: t, h => by
    have ih := allOk_append r t (by simp only [List.length_cons] at h; omega)
    simp only [List.cons_append, allOk, ih, and_assoc]
theorem split_at (s : ByteArray) (k : Nat) (h : k + 1 < s.size) : s.data.toList = s.data.toList.take k ++ (s[k] :: s[k + 1] :: s.data.toList.drop (k + 2)) := by
  have h1 : k < s.data.toList.length := by rw [len_s]; omega
  have h2 : k + 1 < s.data.toList.length := by rw [len_s]; omega
  have e1 := List.drop_eq_getElem_cons h1
  have e2 := List.drop_eq_getElem_cons h2
  have e0 := (List.take_append_drop k s.data.toList).symm
  rw [e1, e2] at e0
  exact e0
theorem take_two (s : ByteArray) (k : Nat) (h : k + 1 < s.size) : s.data.toList.take (k + 2) = s.data.toList.take k ++ [s[k], s[k + 1]] := by
  rw [take_snoc s (k + 1) h, take_snoc s k (by omega), List.append_assoc]; rfl
theorem ok_two (s : ByteArray) (k : Nat) (h : k + 1 < s.size) (he : k % 2 = 0) (h0 : allOk (s.data.toList.take k)) (ha : 0 ≤ val s[k].toNat) (hb : 0 ≤ val s[k + 1].toNat) : allOk (s.data.toList.take (k + 2)) := by
  rw [take_two s k h, allOk_append _ _ (by rw [List.length_take, len_s]; omega)]
  exact ⟨h0, ⟨ha, hb⟩, trivial⟩
theorem bad_at (s : ByteArray) (k : Nat) (h : k + 1 < s.size) (he : k % 2 = 0) (hab : val s[k].toNat < 0 ∨ val s[k + 1].toNat < 0) : ¬ allOk s.data.toList := by
  rw [split_at s k h, allOk_append _ _ (by rw [List.length_take, len_s]; omega)]
  rintro ⟨_, ⟨ha, hb⟩, _⟩
  omega

/-- what both return for a text of even length that isn't too long. -/
def DecPost (s : ByteArray) (w : World) (e : Ending) (w' : World) : Prop :=
  (allOk s.data.toList ∧ e = .returned (.tuple #[.string (strOfNums (pairs s.data.toList)), .bool true]) ∨
   ¬ allOk s.data.toList ∧ e = .returned (.tuple #[.string ByteArray.empty, .bool false])) ∧ Below w.heap.size w w'

/-- what both return for a text of odd length, or one that is too long. -/
def NoPost (w : World) (e : Ending) (w' : World) : Prop := e = .returned (.tuple #[.string ByteArray.empty, .bool false]) ∧ Below w.heap.size w w'

end Go.Proofs.YtbfmodoofkgicaaDoor.Dec
