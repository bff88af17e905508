/- CntM in one text. -/
import Derived.Test.YtmajllgfmclcoaaGreatDoorMe04
import Derived.Test.YtmajllgfmclcoaaGreatDoorMe10

namespace Go.Proofs.YtmajllgfmclcoaaGreatDoor.Cnt
set_option linter.unusedVariables false
set_option linter.unusedSimpArgs false
open Go.RowKit Go.Proofs.YtmajllgfmclcoaaGreatDoor.Pure Go.Joins

theorem state_table : ∀ s : Fin 256, ∀ x : Fin 8, bitB ((s.val : Nat) : Int) x.val = s.val.testBit x.val ∧ (s.val.testBit x.val = false → bits .or .i64 ((s.val : Nat) : Int) ((2 ^ x.val : Nat) : Int) = ((s.val + 2 ^ x.val : Nat) : Int)) ∧ (s.val.testBit x.val = true → 2 ^ x.val ≤ s.val) := by decide +kernel
theorem state_bit {s x : Nat} (hs : s < 256) (hx : x < 8) : bitB (s : Int) x = s.testBit x := (state_table ⟨s, hs⟩ ⟨x, hx⟩).1
theorem state_or {s x : Nat} (hs : s < 256) (hx : x < 8) (h : s.testBit x = false) : bits .or .i64 (s : Int) (2 ^ x) = ((s + 2 ^ x : Nat) : Int) := by
 have := (state_table ⟨s, hs⟩ ⟨x, hx⟩).2.1 h
 simpa using this
theorem state_sub {s x : Nat} (hs : s < 256) (hx : x < 8) (h : s.testBit x = true) : (s : Int) - 2 ^ x = ((s - 2 ^ x : Nat) : Int) := by
 have := (state_table ⟨s, hs⟩ ⟨x, hx⟩).2.2 h
 rw [Int.natCast_sub this]; simp
theorem state_shr0 {s x : Nat} (hs : s < 256) (hx : x < 8) (h : s.testBit x = false) : bits .and .i64 ((s : Int) / 2 ^ x) 1 = 0 := shr_no (by omega) (by omega) hx (by rw [state_bit hs hx]; exact h)
theorem state_shr1 {s x : Nat} (hs : s < 256) (hx : x < 8) (h : s.testBit x = true) : bits .and .i64 ((s : Int) / 2 ^ x) 1 = 1 := shr_yes (by omega) (by omega) hx (by rw [state_bit hs hx]; exact h)
end Go.Proofs.YtmajllgfmclcoaaGreatDoor.Cnt
