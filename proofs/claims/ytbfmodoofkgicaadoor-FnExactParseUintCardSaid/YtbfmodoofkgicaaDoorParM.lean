/- Decimal numerals: the plain mathematics of parsing them. -/
import Derived.Lib.ItoaNum
import Derived.Lib.AtoiAll
namespace Go.Proofs.YtbfmodoofkgicaaDoor.Par
set_option linter.unusedVariables false

theorem ofNat_toNat (x : Nat) (h : x < 256) : (UInt8.ofNat x).toNat = x := by simp [UInt8.toNat_ofNat']; omega
theorem dd_small (m : Nat) (h : m < 10) : Lib.decDigits m = [UInt8.ofNat (48 + m)] := by rw [Lib.decDigits, dif_pos h]
theorem dd_big (m : Nat) (h : ¬ m < 10) : Lib.decDigits m = Lib.decDigits (m / 10) ++ [UInt8.ofNat (48 + m % 10)] := by rw [Lib.decDigits, dif_neg h]

/-- all are digits. -/
def AllD (l : List UInt8) : Prop := ∀ c ∈ l, 48 ≤ c.toNat ∧ c.toNat ≤ 57
theorem allD_dd (m : Nat) : AllD (Lib.decDigits m) := by
  induction m using Nat.strongRecOn with
  | _ m ih =>
    by_cases h : m < 10
    · rw [dd_small m h]
      intro c hc
      simp only [List.mem_singleton] at hc
      rw [hc, ofNat_toNat _ (by omega)]; omega
    · rw [dd_big m h]
      intro c hc
      rw [List.mem_append] at hc
      rcases hc with hc | hc
      · exact ih (m / 10) (by omega) c hc
      · simp only [List.mem_singleton] at hc
        rw [hc, ofNat_toNat _ (by omega)]; omega
theorem dd_ne (m : Nat) : Lib.decDigits m ≠ [] := by
  by_cases h : m < 10
  · rw [dd_small m h]; simp
  · rw [dd_big m h]; simp
theorem dd_step (k : Nat) : ∀ (m : Nat), m < 10 ^ (k + 1) → (Lib.decDigits m).length ≤ k + 1 := by
  induction k with
  | zero => intro m hm; rw [dd_small m (by simpa using hm)]; simp
  | succ k ih =>
    intro m hm
    by_cases h : m < 10
    · rw [dd_small m h]; simp
    · rw [dd_big m h, List.length_append]
      have := ih (m / 10) (by rw [Nat.pow_succ] at hm; omega)
      simp only [List.length_cons, List.length_nil]; omega
theorem dd_length (m : Nat) (h : m < 10000000000) : (Lib.decDigits m).length ≤ 10 := dd_step 9 m (by simpa using h)
theorem dd_length20 (m : Nat) (h : m ≤ 9223372036854775808) : (Lib.decDigits m).length ≤ 20 := dd_step 19 m (by
  have : (10 : Nat) ^ (19 + 1) = 100000000000000000000 := by decide
  omega)

/-- the value of digits. -/
def valD (l : List UInt8) : Nat := l.foldl (fun a c => 10 * a + (c.toNat - 48)) 0
theorem valD_snoc (l : List UInt8) (c : UInt8) : valD (l ++ [c]) = 10 * valD l + (c.toNat - 48) := by simp [valD]
theorem valD_dd (m : Nat) : valD (Lib.decDigits m) = m := by
  induction m using Nat.strongRecOn with
  | _ m ih =>
    by_cases h : m < 10
    · rw [dd_small m h]
      simp only [valD, List.foldl_cons, List.foldl_nil]
      rw [ofNat_toNat _ (by omega)]; omega
    · rw [dd_big m h, valD_snoc, ih (m / 10) (by omega), ofNat_toNat _ (by omega)]; omega
theorem valD_lt : ∀ (k : Nat) (l : List UInt8), l.length = k → AllD l → valD l < 10 ^ k := by
  intro k
  induction k with
  | zero => intro l hl _; rw [List.eq_nil_of_length_eq_zero hl]; decide
  | succ k ih =>
    intro l hl ha
    have hne : l ≠ [] := by intro e; rw [e] at hl; simp at hl
    have e := List.dropLast_concat_getLast hne
    have h1 := ih l.dropLast (by rw [List.length_dropLast]; omega) (fun c hc => ha c (by rw [← e]; exact List.mem_append_left _ hc))
    have h2 := ha (l.getLast hne) (List.getLast_mem hne)
    rw [← e, valD_snoc, Nat.pow_succ]
    omega

theorem parse_snoc (c : UInt8) (hc : 48 ≤ c.toNat ∧ c.toNat ≤ 57) : ∀ (l : List UInt8) (acc u : Nat), Lib.parseUint10 acc l = .ok u → u < 10000000000 → Lib.parseUint10 acc (l ++ [c]) = .ok (u * 10 + (c.toNat - 48))
  | [], acc, u, h, hu => by
    simp only [Lib.parseUint10] at h
    injection h with h
    subst h
    simp only [List.nil_append, Lib.parseUint10]
    rw [if_pos hc, if_neg (by omega), if_neg (by omega)]
  | d :: r, acc, u, h, hu => by
    simp only [List.cons_append, Lib.parseUint10] at h ⊢
    split at h
    · rename_i h1
      split at h
      · cases h
      · rename_i h2
        split at h
        · cases h
        · rename_i h3
          rw [if_pos h1, if_neg h2, if_neg h3]
          exact parse_snoc c hc r _ u h hu
    · cases h
theorem parse_dd (m : Nat) (hm : m < 10000000000) : Lib.parseUint10 0 (Lib.decDigits m) = .ok m := by
  induction m using Nat.strongRecOn with
  | _ m ih =>
    by_cases h : m < 10
    · rw [dd_small m h]
      simp only [Lib.parseUint10]
      rw [ofNat_toNat _ (by omega), if_pos (by omega), if_neg (by omega), if_neg (by omega)]
      congr 1; omega
    · rw [dd_big m h, parse_snoc _ (by rw [ofNat_toNat _ (by omega)]; omega) _ 0 (m / 10) (ih (m / 10) (by omega) (by omega)) (by omega), ofNat_toNat _ (by omega)]
      congr 1; omega
theorem atoi_dd (m : Nat) (hm : m ≤ 1000000000) : Lib.atoiAll (Lib.decDigits m) = .ok (m : Int) := by
  have hp := parse_dd m (by omega)
  have ha := allD_dd m
  have hne := dd_ne m
  generalize Lib.decDigits m = l at hp ha hne
  match l, hne with
  | c :: r, _ =>
    have hc := ha c (by simp)
    simp only [Lib.atoiAll]
    rw [if_neg (show ¬ (c.toNat = 43 ∨ c.toNat = 45) by omega)]
    rw [show Lib.parseMag (c :: r) = .ok m by unfold Lib.parseMag; rw [if_neg (by simp), hp]]
    simp only
    rw [if_neg (by omega), if_neg (by omega), if_neg (by omega)]
end Go.Proofs.YtbfmodoofkgicaaDoor.Par
