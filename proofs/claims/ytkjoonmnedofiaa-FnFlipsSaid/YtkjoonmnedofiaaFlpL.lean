/- Flips of a tiling, pure, as FnFlips asks of them: a flip is a tiling, another one, with two dominoes more down or two fewer; the flip at the same cell turns it back, one after another too: no program here. -/
import Derived.Test.YtkjoonmnedofiaaFlpQ
namespace Go.Proofs.Ytkjoonmnedofiaa.Flp
set_option linter.unusedVariables false
set_option linter.unusedSimpArgs false
open Go.RowKit Go.Proofs.Ytkjoonmnedofiaa.Base Go.Proofs.Ytkjoonmnedofiaa.Pure Go.Proofs.Ytkjoonmnedofiaa.Cell Go.Proofs.Ytkjoonmnedofiaa.Dom Go.Proofs.Ytkjoonmnedofiaa.Dms Go.Proofs.Ytkjoonmnedofiaa.Til Go.Proofs.Ytkjoonmnedofiaa.Grd Go.Joins

theorem flips_can {L : List Dm} {c : Int × Int} (h : c ∈ flipsR L) : canB L c.1 c.2 = true := by
  unfold flipsR at h
  obtain ⟨k, hk, rfl⟩ := List.mem_map.1 h
  exact (List.mem_filter.1 hk).2
theorem can_flips {L : List Dm} {x y : Int} (h : canB L x y = true) : (x, y) ∈ flipsR L := by
  have h0 : kindN L x y ≠ 0 := by have := of_decide_eq_true h; omega
  obtain ⟨h6, _⟩ := kind_is h0
  obtain ⟨a0, a1, b0, b1⟩ := in6_iff.1 h6
  unfold flipsR
  have e1 : (((8 * y.toNat + x.toNat) % 8 : Nat) : Int) = x := by omega
  have e2 : (((8 * y.toNat + x.toNat) / 8 : Nat) : Int) = y := by omega
  refine List.mem_map.2 ⟨8 * y.toNat + x.toNat, List.mem_filter.2 ⟨List.mem_range.2 (by omega), ?_⟩, Prod.ext e1 e2⟩
  rw [e1, e2]; exact h
theorem flips_none {L : List Dm} (h : flipsR L = []) (x y : Int) : canB L x y = false := by
  apply Bool.eq_false_iff.2
  intro q
  have := can_flips q
  rw [h] at this; cases this
/-- all that FnFlips asks of a flip. -/
theorem flips_all {xs : List Int} {L : List Dm} {x y : Int} (hL : tilB xs L = true) (hc : canB L x y = true) :
    tilB xs (flipL L x y) = true ∧ canB (flipL L x y) x y = true ∧ flipL (flipL L x y) x y = L ∧ flipL L x y ≠ L ∧ ((downR (flipL L x y) : Int) - (downR L : Int) = 2 ∨ (downR (flipL L x y) : Int) - (downR L : Int) = -2) ∧ flipAllR L [(x, y), (x, y)] = some L := by
  have hp : partB xs L = true := by unfold tilB at hL; rw [Bool.and_eq_true] at hL; exact hL.1
  have h0 : kindN L x y ≠ 0 := by have := of_decide_eq_true hc; omega
  obtain ⟨h6', hb⟩ := kind_is h0
  have h6 := in6_iff.1 h6'
  have e := flip_yes h0
  generalize hbb : decide (kindN L x y = 2) = b at hb e
  have hk := turn_kind hp h6 hb
  have hk2 : kindN (turn L x y b) x y ≠ 0 := by rw [hk]; cases b <;> simp
  have e2 : flipL (turn L x y b) x y = L := by
    rw [flip_yes hk2, hk]
    have := turn_back hp h6 hb
    cases b
    · exact this
    · exact this
  have hc2 : canB (turn L x y b) x y = true := decide_eq_true (by omega)
  rw [e]
  refine ⟨turn_til hp h6 hb hL, hc2, e2, turn_ne hp h6 hb, ?_, ?_⟩
  · have := turn_down hp h6 hb
    cases b
    · exact .inl this
    · exact .inr this
  · have s1 : flipAllR L [(x, y), (x, y)] = if canB L x y then (if canB (flipL L x y) x y then some (flipL (flipL L x y) x y) else none) else none := rfl
    rw [s1, if_pos hc, e, if_pos hc2, e2]
end Go.Proofs.Ytkjoonmnedofiaa.Flp
