/- Numbers out of a code, as the laws take them; bools as numbers. -/
import Derived.Test.YtcncikgcieigaaaDraw0
import Derived.Test.YtcncikgcieigaaaCellB
namespace Go.Proofs.Ytcncikgcieigaaa.Draw
set_option linter.unusedVariables false
open Go.RowKit Go.Proofs.Ytcncikgcieigaaa.Base Go.Proofs.Ytcncikgcieigaaa.Cell

set_option maxRecDepth 100000 in
set_option maxHeartbeats 1000000 in
theorem at0 (w : World) (A : Option Addr) (len cap B : Nat) (h : len ≤ 1048576) (hr : Rd w B A len) :
    Calls Try.prog 13 #[.slice A len cap, .int .i64 0] w fun e w' => ∃ x : Int, (0 ≤ x ∧ x ≤ 255) ∧ e = .returned (.int .i64 x) ∧ w' = w := by
  by_cases h0 : len = 0
  · subst h0
    go_enter Try.func13, Try.ntmps13
    go_wp2
    go_ret
    exact ⟨0, ⟨by omega, by omega⟩, rfl, rfl⟩
  · obtain ⟨b, off, f, hA, hc⟩ := hr
    obtain ⟨hb, rfl⟩ := hA (by omega)
    obtain ⟨j, hj⟩ : ∃ j, j = 1 % len := ⟨_, rfl⟩
    have hjl : j < len := by rw [hj]; exact Nat.mod_lt _ (by omega)
    have hji : ((1 : Int) % (len : Int)) = (j : Int) := by rw [hj]; rfl
    obtain ⟨hcj, hf0, hf1⟩ := hc j hjl
    have hne : ((len : Int) == 0) = false := by simp; omega
    have hl0 : (len : Int) ≠ 0 := by omega
    have hl1 : (0 : Int) < (len : Int) := by omega
    have hb1 : (0 : Int) ≤ (j : Int) := by omega
    have hb2 : (j : Int) < (len : Int) := by omega
    clear hA hc hj
    generalize f j = v at hcj hf0 hf1
    go_enter Try.func13, Try.ntmps13
    go_wp2
    go_ret
    exact ⟨v, ⟨hf0, hf1⟩, by first | rfl | go_num, rfl⟩

set_option maxRecDepth 100000 in
set_option maxHeartbeats 1000000 in
theorem at1 (w : World) (A : Option Addr) (len cap B : Nat) (h : len ≤ 1048576) (hr : Rd w B A len) :
    Calls Try.prog 13 #[.slice A len cap, .int .i64 1] w fun e w' => ∃ x : Int, (0 ≤ x ∧ x ≤ 255) ∧ e = .returned (.int .i64 x) ∧ w' = w := by
  by_cases h0 : len = 0
  · subst h0
    go_enter Try.func13, Try.ntmps13
    go_wp2
    go_ret
    exact ⟨0, ⟨by omega, by omega⟩, rfl, rfl⟩
  · obtain ⟨b, off, f, hA, hc⟩ := hr
    obtain ⟨hb, rfl⟩ := hA (by omega)
    obtain ⟨j, hj⟩ : ∃ j, j = 6 % len := ⟨_, rfl⟩
    have hjl : j < len := by rw [hj]; exact Nat.mod_lt _ (by omega)
    have hji : ((6 : Int) % (len : Int)) = (j : Int) := by rw [hj]; rfl
    obtain ⟨hcj, hf0, hf1⟩ := hc j hjl
    have hne : ((len : Int) == 0) = false := by simp; omega
    have hl0 : (len : Int) ≠ 0 := by omega
    have hl1 : (0 : Int) < (len : Int) := by omega
    have hb1 : (0 : Int) ≤ (j : Int) := by omega
    have hb2 : (j : Int) < (len : Int) := by omega
    clear hA hc hj
    generalize f j = v at hcj hf0 hf1
    go_enter Try.func13, Try.ntmps13
    go_wp2
    go_ret
    exact ⟨v, ⟨hf0, hf1⟩, by first | rfl | go_num, rfl⟩

set_option maxRecDepth 100000 in
set_option maxHeartbeats 1000000 in
theorem at2 (w : World) (A : Option Addr) (len cap B : Nat) (h : len ≤ 1048576) (hr : Rd w B A len) :
    Calls Try.prog 13 #[.slice A len cap, .int .i64 2] w fun e w' => ∃ x : Int, (0 ≤ x ∧ x ≤ 255) ∧ e = .returned (.int .i64 x) ∧ w' = w := by
  by_cases h0 : len = 0
  · subst h0
    go_enter Try.func13, Try.ntmps13
    go_wp2
    go_ret
    exact ⟨0, ⟨by omega, by omega⟩, rfl, rfl⟩
  · obtain ⟨b, off, f, hA, hc⟩ := hr
    obtain ⟨hb, rfl⟩ := hA (by omega)
    obtain ⟨j, hj⟩ : ∃ j, j = 11 % len := ⟨_, rfl⟩
    have hjl : j < len := by rw [hj]; exact Nat.mod_lt _ (by omega)
    have hji : ((11 : Int) % (len : Int)) = (j : Int) := by rw [hj]; rfl
    obtain ⟨hcj, hf0, hf1⟩ := hc j hjl
    have hne : ((len : Int) == 0) = false := by simp; omega
    have hl0 : (len : Int) ≠ 0 := by omega
    have hl1 : (0 : Int) < (len : Int) := by omega
    have hb1 : (0 : Int) ≤ (j : Int) := by omega
    have hb2 : (j : Int) < (len : Int) := by omega
    clear hA hc hj
    generalize f j = v at hcj hf0 hf1
    go_enter Try.func13, Try.ntmps13
    go_wp2
    go_ret
    exact ⟨v, ⟨hf0, hf1⟩, by first | rfl | go_num, rfl⟩

end Go.Proofs.Ytcncikgcieigaaa.Draw
