/- The fields of a line: the plain mathematics. -/
import Derived.Lib.Fields
import Derived.Lib.Strings
import Derived.WalkKit
import Derived.OwnWalk
namespace Go.Proofs.YtbfmodoofkgicaaDoor.Spl
set_option linter.unusedVariables false
open Go.RowKit

/-- a byte that a line may have. -/
def Ok1 (c : UInt8) : Prop := 32 ≤ c.toNat ∧ c.toNat ≤ 126
def AllOk (l : List UInt8) : Prop := ∀ c ∈ l, Ok1 c
/-- a line that has fields. -/
def Good (s : ByteArray) : Prop := s.size ≤ 600 ∧ AllOk s.data.toList ∧ (Lib.fields s.data.toList).length ≤ 24
def strV (l : List UInt8) : Value := .string ⟨l.toArray⟩
def rowOf (F : List (List UInt8)) : List Value := F.map strV
theorem rowOf_length (F : List (List UInt8)) : (rowOf F).length = F.length := by unfold rowOf; simp
theorem rowOf_one (F : List (List UInt8)) : ∀ u ∈ rowOf F, u.oneCell' = true := by
  intro u hu
  unfold rowOf at hu
  rw [List.mem_map] at hu
  obtain ⟨l, _, rfl⟩ := hu
  rfl
theorem sp_iff (c : UInt8) (h : Ok1 c) : Lib.isSp c = decide (c.toNat = 32) := by
  have hc : ∀ n : Nat, n < 256 → 32 ≤ n → Lib.isSp (UInt8.ofNat n) = decide (n = 32) := by decide +kernel
  have := hc c.toNat c.toNat_lt h.1
  simpa using this
theorem len_s (s : ByteArray) : s.data.toList.length = s.size := Array.length_toList

/-- the part of the line from b to k, not closed yet. -/
def cur (s : ByteArray) (b k : Nat) : List UInt8 := (s.data.toList.take k).drop b
/-- where a walk over the line stands at k: F is closed, the part from b on is open. -/
def At (s : ByteArray) (F : List (List UInt8)) (b k : Nat) : Prop :=
  b ≤ k ∧ AllOk (s.data.toList.take k) ∧ Lib.fields s.data.toList = F ++ Lib.fieldsGo (cur s b k) (s.data.toList.drop k)
theorem At.start (s : ByteArray) : At s [] 0 0 := ⟨Nat.le_refl _, by intro c hc; simp at hc, by unfold cur; simp [Lib.fields]⟩
theorem take_snoc (s : ByteArray) (k : Nat) (h : k < s.size) : s.data.toList.take (k + 1) = s.data.toList.take k ++ [s[k]] := by
  rw [List.take_succ_eq_append_getElem (by simpa using h)]; rfl
theorem drop_cons (s : ByteArray) (k : Nat) (h : k < s.size) : s.data.toList.drop k = s[k] :: s.data.toList.drop (k + 1) := by
  rw [List.drop_eq_getElem_cons (by rw [len_s]; exact h)]; rfl
theorem ok_snoc {s : ByteArray} {k : Nat} (h : k < s.size) (ha : AllOk (s.data.toList.take k)) (hc : Ok1 s[k]) : AllOk (s.data.toList.take (k + 1)) := by
  rw [take_snoc s k h]
  intro c hm
  rw [List.mem_append] at hm
  rcases hm with hm | hm
  · exact ha c hm
  · simp only [List.mem_singleton] at hm; rw [hm]; exact hc
theorem cur_empty (s : ByteArray) (b k : Nat) (hk : k ≤ s.size) : (cur s b k).isEmpty = decide (k ≤ b) := by
  have hl : (cur s b k).length = k - b := by unfold cur; rw [List.length_drop, List.length_take, len_s]; omega
  cases h : cur s b k with
  | nil => rw [h] at hl; simp only [List.length_nil] at hl; rw [decide_eq_true (by omega)]; rfl
  | cons x r => rw [h] at hl; simp only [List.length_cons] at hl; rw [decide_eq_false (by omega)]; rfl
theorem cur_snoc (s : ByteArray) (b k : Nat) (h : k < s.size) (hb : b ≤ k) : cur s b (k + 1) = cur s b k ++ [s[k]] := by
  unfold cur
  rw [take_snoc s k h, List.drop_append_of_le_length (by rw [List.length_take, len_s]; omega)]
theorem cur_none (s : ByteArray) (k : Nat) : cur s k k = [] := by
  unfold cur
  exact List.drop_eq_nil_of_le (by rw [List.length_take]; omega)

/-- a byte of a field. -/
theorem At.byte {s : ByteArray} {F : List (List UInt8)} {b k : Nat} (h : At s F b k) (hk : k < s.size) (hc : Ok1 s[k]) (hn : s[k].toNat ≠ 32) : At s F b (k + 1) := by
  obtain ⟨hb, ha, hf⟩ := h
  refine ⟨by omega, ok_snoc hk ha hc, ?_⟩
  rw [hf, drop_cons s k hk]
  simp only [Lib.fieldsGo]
  rw [sp_iff _ hc, decide_eq_false hn, cur_snoc s b k hk hb]
  simp
/-- a space behind a field. -/
theorem At.close {s : ByteArray} {F : List (List UInt8)} {b k : Nat} (h : At s F b k) (hk : k < s.size) (hc : Ok1 s[k]) (hs : s[k].toNat = 32) (hbk : b < k) : At s (F ++ [cur s b k]) (k + 1) (k + 1) := by
  obtain ⟨hb, ha, hf⟩ := h
  refine ⟨Nat.le_refl _, ok_snoc hk ha hc, ?_⟩
  rw [hf, drop_cons s k hk]
  simp only [Lib.fieldsGo]
  rw [sp_iff _ hc, decide_eq_true hs, cur_empty s b k (by omega), decide_eq_false (by omega), cur_none]
  simp
/-- a space behind a space. -/
theorem At.skip {s : ByteArray} {F : List (List UInt8)} {b k : Nat} (h : At s F b k) (hk : k < s.size) (hc : Ok1 s[k]) (hs : s[k].toNat = 32) (hbk : ¬ b < k) : At s F (k + 1) (k + 1) := by
  obtain ⟨hb, ha, hf⟩ := h
  refine ⟨Nat.le_refl _, ok_snoc hk ha hc, ?_⟩
  rw [hf, drop_cons s k hk]
  simp only [Lib.fieldsGo]
  rw [sp_iff _ hc, decide_eq_true hs, cur_empty s b k (by omega), decide_eq_true (by omega), cur_none]
  simp
theorem At.all {s : ByteArray} {F : List (List UInt8)} {b : Nat} (h : At s F b s.size) : AllOk s.data.toList := by
  have := h.2.1
  rwa [List.take_of_length_le (by rw [len_s]; omega)] at this
/-- the end of the line behind a field, or behind a space. -/
theorem At.end1 {s : ByteArray} {F : List (List UInt8)} {b : Nat} (h : At s F b s.size) (hbk : b < s.size) : Lib.fields s.data.toList = F ++ [cur s b s.size] := by
  rw [h.2.2, List.drop_eq_nil_of_le (by rw [len_s]; omega)]
  simp only [Lib.fieldsGo]
  rw [cur_empty s b s.size (Nat.le_refl _), decide_eq_false (by omega)]
  simp
theorem At.end0 {s : ByteArray} {F : List (List UInt8)} {b : Nat} (h : At s F b s.size) (hbk : ¬ b < s.size) : Lib.fields s.data.toList = F := by
  rw [h.2.2, List.drop_eq_nil_of_le (by rw [len_s]; omega)]
  simp only [Lib.fieldsGo]
  rw [cur_empty s b s.size (Nat.le_refl _), decide_eq_true (by omega)]
  simp
theorem cut_eq (s : ByteArray) (b k : Nat) (hb : b ≤ k) (hk : k ≤ s.size) : Value.string (s.extract b k) = strV (cur s b k) := by
  unfold strV cur
  have h : (s.extract b k).data.toList = (s.data.toList.take k).drop b := by
    rw [ByteArray.data_extract, Array.toList_extract, List.extract_eq_take_drop, List.drop_take]
  have : ∀ (t : ByteArray) (l : List UInt8), t.data.toList = l → t = ⟨l.toArray⟩ := fun t l e => by cases t with | mk d => subst e; simp
  rw [this _ _ h]
end Go.Proofs.YtbfmodoofkgicaaDoor.Spl
