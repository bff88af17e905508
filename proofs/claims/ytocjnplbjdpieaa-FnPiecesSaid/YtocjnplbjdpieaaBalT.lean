/- The first cell of a piece; the corners where a region touches itself. -/
import Derived.Test.YtocjnplbjdpieaaBalN
namespace Go.Proofs.Ytocjnplbjdpieaa.Bal
set_option linter.unusedVariables false
open Go.Proofs.Ytocjnplbjdpieaa.Pure Go.Proofs.Ytocjnplbjdpieaa.Euler

def cellI (i : Nat) : Int × Int := (((i % 8 : Nat) : Int), ((i / 8 : Nat) : Int))
theorem cellI_inj {i j : Nat} (h : cellI i = cellI j) : i = j := by
  unfold cellI at h
  have h1 := congrArg Prod.fst h
  have h2 := congrArg Prod.snd h
  simp only at h1 h2
  omega
/-- the first cell of a cell's piece is the least one. -/
theorem piece_first {xs : List Int} {a : Nat} (ha : a < 64) (hb : bitI xs a = true) : ∃ m, m < 64 ∧ (pieceTo xs a 64)[0]? = some (cellI m) ∧ (m = a ↔ leastI xs a = true) := by
  have e : (pieceTo xs a 64)[0]? = ((List.range 64).find? fun j => bitI xs j && sameP xs a j).map cellI := by
    unfold pieceTo
    rw [List.getElem?_map, ← List.head?_eq_getElem?, List.head?_filter]
    rfl
  cases hf : (List.range 64).find? fun j => bitI xs j && sameP xs a j with
  | none =>
    have := List.find?_eq_none.1 hf a (List.mem_range.2 ha)
    rw [hb, sameP_refl] at this
    exact absurd rfl this
  | some m =>
    obtain ⟨p, hm, hl⟩ := List.find?_range_eq_some.1 hf
    refine ⟨m, List.mem_range.1 hm, by rw [e, hf]; rfl, ?_⟩
    rw [leastI_iff]
    constructor
    · rintro rfl j hj hbj
      have := hl j hj
      rw [hbj] at this
      simpa using this
    · intro h
      rcases Nat.lt_trichotomy m a with q | q | q
      · simp only [Bool.and_eq_true] at p
        rw [h m q p.1] at p
        exact absurd p.2 (by simp)
      · exact q
      · have := hl a q
        rw [hb, sameP_refl] at this
        exact absurd this (by simp)
theorem hasB_at {xs : List Int} (ho : okR xs) {u v : Nat} (hu : u < 8) (hv : v < 8) : hasB xs (u : Int) (v : Int) = bitI xs (8 * v + u) := by
  rw [Bool.eq_iff_iff, hasB_iff]
  unfold bitI
  rw [show (8 * v + u) / 8 = v by omega, show (8 * v + u) % 8 = u by omega]
  constructor
  · rintro ⟨_, _, _, _, _, b⟩; simpa using b
  · intro b; exact ⟨ho, by omega, by omega, by omega, by omega, by simpa using b⟩
theorem hasB_out {xs : List Int} {u v : Int} (h : ¬ (0 ≤ u ∧ u ≤ 7 ∧ 0 ≤ v ∧ v ≤ 7)) : hasB xs u v = false := by
  cases k : hasB xs u v
  · rfl
  · exact absurd (by obtain ⟨_, a, b, c, d, _⟩ := hasB_iff.1 k; exact ⟨a, b, c, d⟩) h
/-- two squares of four, the corner between them: as IsSimple looks. -/
def touchAt (xs : List Int) (i : Nat) : Bool := (bitI xs i == bitI xs (i + 9)) && (bitI xs (i + 1) == bitI xs (i + 8)) && (bitI xs i != bitI xs (i + 1))
def Touch (xs : List Int) : Prop := ∃ i, i < 64 ∧ i % 8 < 7 ∧ i / 8 < 7 ∧ touchAt xs i = true
/-- as the law looks, from a cell. -/
def touchOf (xs : List Int) (i : Nat) : Bool :=
  (hasX xs i && !hasR xs i && !hasD xs i) || (hasB xs (((i % 8 : Nat) : Int) - 1) (((i / 8 : Nat) : Int) + 1) && !hasB xs (((i % 8 : Nat) : Int) - 1) ((i / 8 : Nat) : Int) && !hasD xs i)
theorem at_r {xs : List Int} (ho : okR xs) {i : Nat} (hi : i < 64) (h : i % 8 < 7) : hasR xs i = bitI xs (i + 1) := by
  have := hasB_at ho (u := i % 8 + 1) (v := i / 8) (by omega) (by omega)
  unfold hasR
  rw [show (((i % 8 : Nat) : Int) + 1) = ((i % 8 + 1 : Nat) : Int) by omega, this, show 8 * (i / 8) + (i % 8 + 1) = i + 1 by omega]
theorem at_d {xs : List Int} (ho : okR xs) {i : Nat} (hi : i < 64) (h : i / 8 < 7) : hasD xs i = bitI xs (i + 8) := by
  have := hasB_at ho (u := i % 8) (v := i / 8 + 1) (by omega) (by omega)
  unfold hasD
  rw [show (((i / 8 : Nat) : Int) + 1) = ((i / 8 + 1 : Nat) : Int) by omega, this, show 8 * (i / 8 + 1) + i % 8 = i + 8 by omega]
theorem at_x {xs : List Int} (ho : okR xs) {i : Nat} (hi : i < 64) (h : i % 8 < 7) (h2 : i / 8 < 7) : hasX xs i = bitI xs (i + 9) := by
  have := hasB_at ho (u := i % 8 + 1) (v := i / 8 + 1) (by omega) (by omega)
  unfold hasX
  rw [show (((i % 8 : Nat) : Int) + 1) = ((i % 8 + 1 : Nat) : Int) by omega, show (((i / 8 : Nat) : Int) + 1) = ((i / 8 + 1 : Nat) : Int) by omega, this, show 8 * (i / 8 + 1) + (i % 8 + 1) = i + 9 by omega]
theorem at_l {xs : List Int} (ho : okR xs) {i : Nat} (hi : i < 64) (h : 0 < i % 8) : hasB xs (((i % 8 : Nat) : Int) - 1) ((i / 8 : Nat) : Int) = bitI xs (i - 1) := by
  have := hasB_at ho (u := i % 8 - 1) (v := i / 8) (by omega) (by omega)
  rw [show (((i % 8 : Nat) : Int) - 1) = ((i % 8 - 1 : Nat) : Int) by omega, this, show 8 * (i / 8) + (i % 8 - 1) = i - 1 by omega]
theorem at_b {xs : List Int} (ho : okR xs) {i : Nat} (hi : i < 64) (h : 0 < i % 8) (h2 : i / 8 < 7) : hasB xs (((i % 8 : Nat) : Int) - 1) (((i / 8 : Nat) : Int) + 1) = bitI xs (i + 7) := by
  have := hasB_at ho (u := i % 8 - 1) (v := i / 8 + 1) (by omega) (by omega)
  rw [show (((i % 8 : Nat) : Int) - 1) = ((i % 8 - 1 : Nat) : Int) by omega, show (((i / 8 : Nat) : Int) + 1) = ((i / 8 + 1 : Nat) : Int) by omega, this, show 8 * (i / 8 + 1) + (i % 8 - 1) = i + 7 by omega]
/-- both look at the same corners. -/
theorem touch_iff {xs : List Int} (ho : okR xs) : Touch xs ↔ ∃ i, i < 64 ∧ bitI xs i = true ∧ touchOf xs i = true := by
  constructor
  · rintro ⟨i, hi, h7, h8, t⟩
    unfold touchAt at t
    cases hb : bitI xs i
    · rw [hb] at t
      have t1 : bitI xs (i + 1) = true := by cases q : bitI xs (i + 1) <;> simp_all
      have t8 : bitI xs (i + 8) = true := by cases q : bitI xs (i + 8) <;> simp_all
      have t9 : bitI xs (i + 9) = false := by cases q : bitI xs (i + 9) <;> simp_all
      refine ⟨i + 1, by omega, t1, ?_⟩
      unfold touchOf
      rw [at_b ho (by omega) (by omega) (by omega), at_l ho (by omega) (by omega), at_d ho (by omega) (by omega), show i + 1 + 7 = i + 8 by omega, show i + 1 - 1 = i by omega, show i + 1 + 8 = i + 9 by omega, t8, hb, t9]
      simp
    · rw [hb] at t
      have t1 : bitI xs (i + 1) = false := by cases q : bitI xs (i + 1) <;> simp_all
      have t8 : bitI xs (i + 8) = false := by cases q : bitI xs (i + 8) <;> simp_all
      have t9 : bitI xs (i + 9) = true := by cases q : bitI xs (i + 9) <;> simp_all
      refine ⟨i, hi, hb, ?_⟩
      unfold touchOf
      rw [at_x ho hi h7 h8, at_r ho hi h7, at_d ho hi h8, t1, t8, t9]
      rfl
  · rintro ⟨i, hi, hb, t⟩
    unfold touchOf at t
    rw [Bool.or_eq_true] at t
    rcases t with t | t
    · by_cases h7 : i % 8 < 7 ∧ i / 8 < 7
      · rw [at_x ho hi h7.1 h7.2, at_r ho hi h7.1, at_d ho hi h7.2] at t
        simp only [Bool.and_eq_true, Bool.not_eq_true'] at t
        refine ⟨i, hi, h7.1, h7.2, ?_⟩
        unfold touchAt
        rw [hb, t.1.1, t.1.2, t.2]; rfl
      · unfold hasX at t
        rw [hasB_out (u := ((i % 8 : Nat) : Int) + 1) (v := ((i / 8 : Nat) : Int) + 1) (by omega)] at t
        cases t
    · by_cases h7 : 0 < i % 8 ∧ i / 8 < 7
      · rw [at_b ho hi h7.1 h7.2, at_l ho hi h7.1, at_d ho hi h7.2] at t
        simp only [Bool.and_eq_true, Bool.not_eq_true'] at t
        refine ⟨i - 1, by omega, by omega, by omega, ?_⟩
        unfold touchAt
        rw [show i - 1 + 9 = i + 8 by omega, show i - 1 + 1 = i by omega, show i - 1 + 8 = i + 7 by omega, hb, t.1.1, t.1.2, t.2]; rfl
      · rw [hasB_out (u := ((i % 8 : Nat) : Int) - 1) (v := ((i / 8 : Nat) : Int) + 1) (by omega)] at t
        cases t
end Go.Proofs.Ytocjnplbjdpieaa.Bal
