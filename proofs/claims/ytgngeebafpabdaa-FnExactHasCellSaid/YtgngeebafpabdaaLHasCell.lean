/- The law FnExactHasCell returns true: the program's HasCell and the model's say the same of every region and every cell, and the region is left as it was. -/
import Derived.Test.YtgngeebafpabdaaRegLC
namespace Go.Proofs.Ytgngeebafpabdaa.Reg
set_option linter.unusedVariables false
open Go.RowKit Go.Proofs.Ytgngeebafpabdaa.Base Go.Proofs.Ytgngeebafpabdaa.Pure Go.Proofs.Ytgngeebafpabdaa.Cell Go.Joins

set_option maxRecDepth 100000 in
set_option maxHeartbeats 4000000 in
theorem lawHasCell (w : World) (A : Option Addr) (n cap : Nat) (xs : List Int) (hx : xs.length = n) (hn : (n : Int) ≤ 9223372036854775807) (h : RowB w w.heap.size A xs) (x y : Int) :
    Calls Try.prog 5 #[.agg #[.slice A n cap], .agg #[.int .i64 x, .int .i64 y]] w (Yes w) := by
  have T0 := Lib.hid (fun T T' => rc_start (T := T) (T' := T') (.slice A n cap) x y w)
  have HZ := Lib.hid (fun W => szRegion A n cap 1048576 (by omega) (by omega) hn W)
  by_cases hs : (n : Int) ≤ 1048576
  · have HTo := Lib.hid (fun W (hb : Below w.heap.size w W) => toRegion W A n cap w.heap.size xs hx hs (h.below hb (Nat.le_refl _)) hb.size)
    have HEq := Lib.hid (fun W A A' c c' (h1 : RowB W W.heap.size A xs) (h2 : RowB W W.heap.size A' xs) => eqRegion W A A' n c c' _ _ xs hx hn h1 h2 (Nat.le_refl _) (Nat.le_refl _))
    have HS := Lib.hid (fun W A c (h1 : RowB W W.heap.size A xs) => sHasCell W A n c W.heap.size xs hx hn h1 (Nat.le_refl _) x y)
    have HI := Lib.hid (fun W A c (h1 : RowB W W.heap.size A xs) => iHasCell W A n c W.heap.size xs hx hn h1 (Nat.le_refl _) x y)
    have hz := szR_yes hs
    generalize szR 1048576 n = z at HZ hz
    obtain ⟨z0, z1⟩ := hz
    have z2 : ¬ z < 0 := by omega
    generalize hasB xs x y = b at HS HI
    have hq : (b != b) = false := by simp
    clear hs hx hn h
    go_enter Try.func5, Try.ntmps5
    go_wp2_with fail
    have T1 := T0.out 45 49
    clear T0
    refine (HZ.out _).mono ?_
    rintro e w1 ⟨rfl, hb1⟩
    have T2 := T1.on hb1
    clear T1 hb1 HZ
    go_wp2_with fail
    go_region_held3 (fun w' => Below w.heap.size w w' ∧ w.heap.size + 2 ≤ w'.heap.size ∧ w'.cell? ⟨w.heap.size, 0, none⟩ = some (.slice A n cap) ∧ w'.cell? ⟨w.heap.size + 1, 0, none⟩ = some (.int .i64 x) ∧ w'.cell? ⟨w.heap.size + 1, 1, none⟩ = some (.int .i64 y))
      (first | assumption | exact RC.drew (by assumption) | exact RC.on (by assumption) (by assumption))
      (first | (go_at_call 27; refine (HTo.out _ (show RC w (.slice A n cap) x y _ by assumption).1).mono ?_; rintro e wr ⟨A1, cap1, rfl, hown, hbr⟩; (have HRx := Lib.hid (rowB_own hown)); clear hown) | (go_at_call 30; refine (toCell x y _).mono ?_; rintro e wc ⟨rfl, hbc⟩) | (go_at_call 29; refine (HS.out _ _ _ (by first | exact HRx.out | exact row_on HRx.out (by assumption))).mono ?_; rintro e wx ⟨rfl, hbx⟩))
    all_goals
      have T3 : RC w (.slice A n cap) x y wx := by assumption
      clear T2
      obtain ⟨_, _, c0, _, _⟩ := id T3
      go_wp2_with fail
      refine (HTo.out _ T3.1).mono ?_
      rintro e w4 ⟨A2, cap2, rfl, hown, hb4⟩
      have T5 := T3.on hb4
      have HO := Lib.hid (own_base hown T3.2.1)
      clear T3 hown hb4 c0
      go_wp2_with fail
      have T6 := ry_start T5 (Nat.le_refl _) HO.out (Below.refl (w4.alloc (.cells #[.slice A2 n cap2] 26)).heap.size (w4.alloc (.cells #[.slice A2 n cap2] 26)))
      clear T5 HO
      generalize w4.alloc (.cells #[.slice A2 n cap2] 26) = W5 at T6 ⊢
      generalize w4.heap.size = p at T6 ⊢
      go_region_held3 (fun w' => Below w.heap.size w w' ∧ w.heap.size + 2 ≤ w'.heap.size ∧ w'.cell? ⟨w.heap.size, 0, none⟩ = some (.slice A n cap) ∧ w'.cell? ⟨w.heap.size + 1, 0, none⟩ = some (.int .i64 x) ∧ w'.cell? ⟨w.heap.size + 1, 1, none⟩ = some (.int .i64 y) ∧ w'.cell? ⟨p, 0, none⟩ = some (.slice A2 n cap2) ∧ (w.heap.size ≤ p ∧ p < w'.heap.size ∧ w'.ownsRow (w.heap.size + 2) 3 1 (.slice A2 n cap2) n (ints xs)))
        (first | assumption | exact RY.drew (by assumption) | exact RY.on (by assumption) (by assumption))
        (first | (go_at_call 30; refine (toCell x y _).mono ?_; rintro e wc ⟨rfl, hbc⟩) | (go_at_call 20; refine (HI.out _ _ _ (RY.row (by assumption))).mono ?_; rintro e wy ⟨rfl, hby⟩))
      all_goals
        have T7 : RY w (.slice A n cap) x y p A2 n cap2 xs wy := by assumption
        clear T6
        go_wp2_with fail
        go_region_held3 (fun w' => Below w.heap.size w w' ∧ w.heap.size + 2 ≤ w'.heap.size ∧ w'.cell? ⟨w.heap.size, 0, none⟩ = some (.slice A n cap) ∧ w'.cell? ⟨w.heap.size + 1, 0, none⟩ = some (.int .i64 x) ∧ w'.cell? ⟨w.heap.size + 1, 1, none⟩ = some (.int .i64 y) ∧ w'.cell? ⟨p, 0, none⟩ = some (.slice A2 n cap2) ∧ (w.heap.size ≤ p ∧ p < w'.heap.size ∧ w'.ownsRow (w.heap.size + 2) 3 1 (.slice A2 n cap2) n (ints xs)))
          (first | assumption | exact RY.drew (by assumption) | exact RY.on (by assumption) (by assumption))
          (first | (go_at_call 27; refine (HTo.out _ (RY.rc (by assumption)).1).mono ?_; rintro e wx ⟨A3, cap3, rfl, hown, hbx⟩; (have HRx := Lib.hid (rowB_own hown)); clear hown) | (go_at_call 28; refine (HEq.out _ _ _ _ _ (RY.row (by assumption)) HRx.out).mono ?_; rintro e wz ⟨rfl, hbz⟩))
        all_goals
          have T9 : RY w (.slice A n cap) x y p A2 n cap2 xs wz := by assumption
          have hb := T9.1
          clear T9 T7
          go_wp2
          go_ret
          exact ⟨rfl, hb⟩
  · rw [szR_no hs] at HZ
    clear hs hx hn h
    go_enter Try.func5, Try.ntmps5
    go_wp2_with fail
    have T1 := T0.out 45 49
    clear T0
    refine (HZ.out _).mono ?_
    rintro e w1 ⟨rfl, hb1⟩
    have hb := (T1.on hb1).1
    clear T1 hb1 HZ
    go_wp2
    go_ret
    exact ⟨rfl, hb⟩
end Go.Proofs.Ytgngeebafpabdaa.Reg
