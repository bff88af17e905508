/- The law FnExactWithCell returns true: the program's WithCell and the model's give the same region for every region, every cell and either bool; the region that came in is left as it was, and the program's answers own their memory. -/
import Derived.Test.YtgngeebafpabdaaRegBox
import Derived.Test.YtgngeebafpabdaaRegWt
namespace Go.Proofs.Ytgngeebafpabdaa.Reg
set_option linter.unusedVariables false
open Go.RowKit Go.Proofs.Ytgngeebafpabdaa.Base Go.Proofs.Ytgngeebafpabdaa.Pure Go.Proofs.Ytgngeebafpabdaa.Cell Go.Joins

theorem withX_length (xs : List Int) (x y : Int) (on : Bool) : (withX xs x y on).length ≤ xs.length + 8 := by
  unfold withX; split
  · rename_i h; rw [withR_length h.1.1]; omega
  · omega

set_option maxRecDepth 100000 in
set_option maxHeartbeats 8000000 in
theorem lawWithCell (w : World) (A : Option Addr) (n cap : Nat) (xs : List Int) (hx : xs.length = n) (hn : (n : Int) ≤ 9223372036854775807) (h : RowB w w.heap.size A xs) (x y : Int) (on : Bool) :
    Calls Try.prog 9 #[.agg #[.slice A n cap], .agg #[.int .i64 x, .int .i64 y], .bool on] w (Yes w) := by
  have T0 := Lib.hid (fun T T' => rc_start (T := T) (T' := T') (.slice A n cap) x y w)
  have HZ := Lib.hid (fun W => szRegion A n cap 1048576 (by omega) (by omega) hn W)
  by_cases hs : (n : Int) ≤ 1048576
  · have HTo := Lib.hid (fun W (hr : RC w (.slice A n cap) x y W) => toRegion W A n cap w.heap.size xs hx hs (h.below hr.1 (Nat.le_refl _)) hr.1.size)
    have HEq := Lib.hid (fun W A A' c c' (h1 : RowB W W.heap.size A xs) (h2 : RowB W W.heap.size A' xs) => eqRegion W A A' n c c' _ _ xs hx hn h1 h2 (Nat.le_refl _) (Nat.le_refl _))
    have HS := Lib.hid (fun W A c (hc : A = none → n = 0 ∧ c = 0) (h1 : RowB W W.heap.size A xs) => sWithCell W A n c W.heap.size xs hx hs h1 (Nat.le_refl _) hc x y on)
    have HI := Lib.hid (fun W A c (hc : A = none → n = 0 ∧ c = 0) (h1 : RowB W W.heap.size A xs) => iWithCell W A n c W.heap.size xs hx hs h1 (Nat.le_refl _) hc x y on)
    have HL := withX_length xs x y on
    generalize withX xs x y on = L at HS HI HL
    generalize withB xs x y = b at HS HI
    have hbb : (b != b) = false := by simp
    obtain ⟨m, hm⟩ : ∃ m, m = L.length := ⟨_, rfl⟩
    rw [← hm] at HS HI HL
    have HEL := Lib.hid (fun W A A' c c' (h1 : RowB W W.heap.size A L) (h2 : RowB W W.heap.size A' L) => eqRegion W A A' m c c' _ _ L hm.symm (by omega) h1 h2 (Nat.le_refl _) (Nat.le_refl _))
    have hz := szR_yes hs
    generalize szR 1048576 n = z at HZ hz
    obtain ⟨z0, z1⟩ := hz
    have z2 : ¬ z < 0 := by omega
    obtain ⟨k1, hk1⟩ : ∃ k1 : Int, k1 = ((1 + n : Nat) : Int) := ⟨_, rfl⟩
    have hk0 : ¬ k1 < 0 := by omega
    have HMx := Lib.hid (fun W B H p A c (hr : BoxAt W B H p (.slice A n c) n (ints xs)) => markBox W B H p n c A xs k1 hk1 (by omega) hr)
    obtain ⟨g1, hg1⟩ : ∃ g1 : Int, g1 = ((1 + m : Nat) : Int) := ⟨_, rfl⟩
    have hg0 : ¬ g1 < 0 := by omega
    have hgg : (g1 != g1) = false := by simp
    have HMg := Lib.hid (fun W B H p A c (hr : BoxAt W B H p (.slice A m c) m (ints L)) => markBox W B H p m c A L g1 hg1 (by omega) hr)
    have HHg := Lib.hid (fun W A c (hr : RowB W W.heap.size A (marksI 1 m)) => heldReg1 W m c _ A g1 hg1 (by omega) hr (Nat.le_refl _))
    clear hs hx hn h hm hk1 hg1 HL
    go_enter Try.func9, Try.ntmps9
    go_wp2_with fail
    have T1 := T0.out 45 49
    clear T0
    refine (HZ.out _).mono ?_
    rintro e w1 ⟨rfl, hb1⟩
    have T2 := T1.on hb1
    clear T1 hb1 HZ
    go_wp2_with fail
    refine' wp_of_rest5 _ (fun W p A2 c2 => RC w (.slice A n cap) x y W ∧ BoxAt W (w.heap.size + 2) W.heap.size p (.slice A2 m c2) m (ints L)) ?_ ?_
    rotate_left
    · intro Q R
      have R := Lib.hid R
      have HRC := Lib.hid T2
      go_region_held3 (fun w' => Below w.heap.size w w' ∧ w.heap.size + 2 ≤ w'.heap.size ∧ w'.cell? ⟨w.heap.size, 0, none⟩ = some (.slice A n cap) ∧ w'.cell? ⟨w.heap.size + 1, 0, none⟩ = some (.int .i64 x) ∧ w'.cell? ⟨w.heap.size + 1, 1, none⟩ = some (.int .i64 y))
        (first | assumption | exact RC.drew (by assumption) | exact RC.on (by assumption) (by assumption) | exact RC.on (by assumption) (below_alloc1 _ _) | exact RC.store (by assumption) (by assumption) _ | exact RC.on HRC.out (below_alloc1 _ _))
        (first | (go_at_call 27; refine (HTo.out _ (by assumption)).mono ?_; rintro e wr ⟨A1, c1, rfl, hown, hbr⟩; (have HR1 := Lib.hid (rowB_own hown)); (have HC1 := Lib.hid (own_none hown)); clear hown; (first | (have hfr := fresh_new HRC.out.2.1 hbr; obtain ⟨q0, q1, q2, q3, q4⟩ := hfr) | (have hfr := fresh_newD HRC.out.2.1 hbr; obtain ⟨q0, q1, q2, q3, q4⟩ := hfr) | skip); (have HRC := Lib.hid (RC.on (show RC w (.slice A n cap) x y _ by assumption) hbr))) | (go_at_call 30; refine (toCell x y _).mono ?_; rintro e wc ⟨rfl, hbc⟩; (first | (have HR1 := Lib.hid (row_on HR1.out hbc)) | (have HR1 := Lib.hid (row_on (row_on HR1.out (below_alloc1 _ _)) hbc))); (first | (have hfr := fresh_new HRC.out.2.1 hbc; obtain ⟨q0, q1, q2, q3, q4⟩ := hfr) | (have hfr := fresh_newD HRC.out.2.1 hbc; obtain ⟨q0, q1, q2, q3, q4⟩ := hfr) | (have hfr := fresh_old ⟨q0, q1, q2, q3, q4⟩ hbc; obtain ⟨q0, q1, q2, q3, q4⟩ := hfr) | skip); (have HRC := Lib.hid (RC.on (show RC w (.slice A n cap) x y _ by assumption) hbc))) | (go_at_call 39; refine (HS.out _ _ _ HC1.out (by first | exact HR1.out | exact row_on HR1.out (below_alloc1 _ _))).mono ?_; rintro e wx ⟨A2, c2, rfl, hown, hbx⟩; (have HO := Lib.hid hown); (have HO2 := Lib.hid (own_base hown (show w.heap.size + 2 ≤ _ from (show RC w (.slice A n cap) x y _ by assumption).2.1))); clear hown; (first | (have hfr := fresh_new HRC.out.2.1 hbx; obtain ⟨q0, q1, q2, q3, q4⟩ := hfr) | (have hfr := fresh_newD HRC.out.2.1 hbx; obtain ⟨q0, q1, q2, q3, q4⟩ := hfr) | (have hfr := fresh_old ⟨q0, q1, q2, q3, q4⟩ hbx; obtain ⟨q0, q1, q2, q3, q4⟩ := hfr) | skip); (have HRC := Lib.hid (RC.on (show RC w (.slice A n cap) x y _ by assumption) hbx))))
      all_goals (first | (have hbox := box_last HO2.out HRC.out.2.1; have hrc := RC.on HRC.out (below_alloc1 wx (.cells #[.slice A2 m c2] 26)); generalize wx.alloc (.cells #[.slice A2 m c2] 26) = W9 at hbox hrc ⊢; generalize wx.heap.size = p at hbox ⊢; exact R.out W9 p A1 c1 A2 c2 ⟨hrc, hbox⟩) | skip)
      all_goals exact R.out _ _ A1 c1 A2 c2 ⟨RC.store HRC.out q3 _, box_first q0 HO.out hbx.size (by first | omega | (simp; omega) | simp) q3⟩
    · intro W5 pw A1 c1 Aw cw ⟨T3, S0⟩
      clear T2
      obtain ⟨_, _, d0, d1, d2⟩ := id T3
      go_wp2_with fail
      refine (HTo.out _ T3).mono ?_
      rintro e w6 ⟨Ax, cx, rfl, hown, hb6⟩
      have T4 := T3.on hb6
      have S1 := Lib.hid (S0.on hb6)
      have X0 := Lib.hid (box_last hown hb6.size)
      have HCx := Lib.hid (own_none hown)
      have hw6 := hb6.size
      clear T3 S0 hown hb6 d0 d1 d2
      go_wp2_with fail
      have X1 := Lib.hid (X0.out)
      have S2 := Lib.hid (S1.out.on (below_alloc1 w6 (.cells #[.slice Ax n cx] 26)))
      have T5 := T4.on (below_alloc1 w6 (.cells #[.slice Ax n cx] 26))
      clear X0 S1 T4
      generalize w6.alloc (.cells #[.slice Ax n cx] 26) = W7 at X1 S2 T5 ⊢
      generalize w6.heap.size = px at X1 hw6 ⊢
      have K0 := rk_start T5 X1.out.cell X1.out.2.2.1
      refine' wp_of_rest3 _ (fun W p A2 c2 => Below W7.heap.size W7 W ∧ BoxAt W W7.heap.size W.heap.size p (.slice A2 m c2) m (ints L)) ?_ ?_
      rotate_left
      · intro Q R
        have R := Lib.hid R
        have HRK := Lib.hid K0
        have HRx := Lib.hid X1.out.row
        go_region_held3 (fun w' => Below W7.heap.size W7 w' ∧ w'.cell? ⟨w.heap.size, 0, none⟩ = some (.slice A n cap) ∧ w'.cell? ⟨w.heap.size + 1, 0, none⟩ = some (.int .i64 x) ∧ w'.cell? ⟨w.heap.size + 1, 1, none⟩ = some (.int .i64 y) ∧ w'.cell? ⟨px, 0, none⟩ = some (.slice Ax n cx) ∧ (w.heap.size + 2 ≤ W7.heap.size ∧ px < W7.heap.size))
          (first | assumption | exact RK.drew (by assumption) | exact RK.on (by assumption) (by assumption) | exact RK.on (by assumption) (below_alloc1 _ _) | exact RK.store (by assumption) (by assumption) _ | exact RK.on HRK.out (below_alloc1 _ _))
          (first | (go_at_call 30; refine (toCell x y _).mono ?_; rintro e wc ⟨rfl, hbc⟩; (first | (have hfr := fresh_new HRK.out.1.size hbc; obtain ⟨q0, q1, q2, q3, q4⟩ := hfr) | (have hfr := fresh_newD HRK.out.1.size hbc; obtain ⟨q0, q1, q2, q3, q4⟩ := hfr) | (have hfr := fresh_old ⟨q0, q1, q2, q3, q4⟩ hbc; obtain ⟨q0, q1, q2, q3, q4⟩ := hfr) | skip); (have HRK := Lib.hid (RK.on (show RK W7 w.heap.size (.slice A n cap) x y px (.slice Ax n cx) _ by assumption) hbc))) | (go_at_call 16; refine (HI.out _ _ _ HCx.out (by first | exact (X1.out.on (show RK W7 w.heap.size (.slice A n cap) x y px (.slice Ax n cx) _ by assumption).1).row)).mono ?_; rintro e wx ⟨A2, c2, rfl, hown, hbx⟩; (have HO := Lib.hid hown); (have HO2 := Lib.hid (own_base hown (show W7.heap.size ≤ _ from (show RK W7 w.heap.size (.slice A n cap) x y px (.slice Ax n cx) _ by assumption).1.size))); clear hown; (first | (have hfr := fresh_new HRK.out.1.size hbx; obtain ⟨q0, q1, q2, q3, q4⟩ := hfr) | (have hfr := fresh_newD HRK.out.1.size hbx; obtain ⟨q0, q1, q2, q3, q4⟩ := hfr) | (have hfr := fresh_old ⟨q0, q1, q2, q3, q4⟩ hbx; obtain ⟨q0, q1, q2, q3, q4⟩ := hfr) | skip); (have HRK := Lib.hid (RK.on (show RK W7 w.heap.size (.slice A n cap) x y px (.slice Ax n cx) _ by assumption) hbx))))
        all_goals (first | (have hbox := box_last HO2.out HRK.out.1.size; have hrk := RK.on HRK.out (below_alloc1 wx (.cells #[.slice A2 m c2] 26)); generalize wx.alloc (.cells #[.slice A2 m c2] 26) = W9 at hbox hrk ⊢; generalize wx.heap.size = p at hbox ⊢; exact R.out W9 p A2 c2 ⟨hrk.1, hbox⟩) | skip)
        all_goals exact R.out _ _ A2 c2 ⟨(RK.store HRK.out q3 _).1, box_first q0 HO.out hbx.size (by first | omega | (simp; omega) | simp) q3⟩
      · intro W8 pg Ag cg ⟨hb8, G0⟩
        have S3 := S2.out.on hb8
        have X2 := X1.out.on hb8
        have T6 := T5.on hb8
        clear S2 X1 T5 K0 hb8
        have cg0 := G0.cell
        have cw0 := S3.cell
        go_wp2_with fail
        refine (HEL.out _ _ _ _ _ G0.row S3.row).mono ?_
        rintro e w9 ⟨rfl, hb9⟩
        have S4 := Lib.hid (S3.on hb9)
        have X3 := Lib.hid (X2.on hb9)
        have T7 := T6.on hb9
        have G1 := Lib.hid (G0.on hb9)
        clear S3 X2 T6 G0 hb9 cg0 cw0
        go_wp2_with fail
        have hl1 : W5.heap.size ≤ W7.heap.size := by have := X3.out.2.2.1; omega
        have hl2 : W7.heap.size ≤ w9.heap.size := X3.out.2.2.2.1
        have hl3 : W7.heap.size ≤ W8.heap.size := by have h1 := G1.out.2.1; have h2 := G1.out.2.2.1; omega
        have hw5 : w.heap.size + 2 ≤ W5.heap.size := by have h1 := S4.out.2.1; have h2 := S4.out.2.2.1; omega
        have K1 := rk_start T7 X3.out.cell (by have := X3.out.2.2.1; omega)
        go_region_held3 (fun w' => Below w9.heap.size w9 w' ∧ w'.cell? ⟨w.heap.size, 0, none⟩ = some (.slice A n cap) ∧ w'.cell? ⟨w.heap.size + 1, 0, none⟩ = some (.int .i64 x) ∧ w'.cell? ⟨w.heap.size + 1, 1, none⟩ = some (.int .i64 y) ∧ w'.cell? ⟨px, 0, none⟩ = some (.slice Ax n cx) ∧ (w.heap.size + 2 ≤ w9.heap.size ∧ px < w9.heap.size))
          (first | assumption | exact RK.drew (by assumption) | exact RK.on (by assumption) (by assumption))
          (first | (go_at_call 27; refine (HTo.out _ (T7.on (show RK w9 w.heap.size (.slice A n cap) x y px (.slice Ax n cx) _ by assumption).1)).mono ?_; rintro e wr ⟨A3, c3, rfl, hown, hbr⟩; (have HRx := Lib.hid (rowB_own hown)); clear hown) | (go_at_call 28; refine (HEq.out _ _ _ _ _ ((X3.out.on (show RK w9 w.heap.size (.slice A n cap) x y px (.slice Ax n cx) _ by assumption).1).row) HRx.out).mono ?_; rintro e wz ⟨rfl, hbz⟩))
        all_goals
          have hb10 := (show RK w9 w.heap.size (.slice A n cap) x y px (.slice Ax n cx) wz by assumption).1
          have S5 := S4.out.on hb10
          have X4 := X3.out.on hb10
          have T8 := T7.on hb10
          have G2 := G1.out.on hb10
          clear S4 X3 T7 G1 K1 hb10 HEq
          have cx0 := X4.cell
          go_wp2_with fail
          refine (HMx.out _ _ _ _ _ _ X4).mono ?_
          rintro e w10 ⟨rfl, X5, ha⟩
          have S6 := S5.far ha (.inl (Nat.le_refl _))
          have G3 := G2.far ha (.inr (Nat.le_refl _))
          have T9 := T8.onB (ha.below (Nat.le_refl _) (by have := X4.2.2.2.1; omega)) (by omega)
          clear S5 G2 T8 X4 ha HMx cx0
          have cg0 := G3.cell
          have cw0 := S6.cell
          go_wp2_with fail
          refine (HEL.out _ _ _ _ _ G3.row S6.row).mono ?_
          rintro e w11 ⟨rfl, hb11⟩
          have S7 := S6.on hb11
          have X6 := X5.on hb11
          have T10 := T9.on hb11
          have G4 := G3.on hb11
          clear S6 X5 T9 G3 hb11 cg0 cw0
          have cg0 := G4.cell
          go_wp2_with fail
          refine (HMg.out _ _ _ _ _ _ G4).mono ?_
          rintro e w12 ⟨rfl, G5, ha⟩
          have S8 := S7.far ha (.inl (by omega))
          have X7 := X6.far ha (.inl (Nat.le_refl _))
          have T11 := T10.onB (ha.below (Nat.le_refl _) (by have := G4.2.2.2.1; omega)) (by omega)
          clear S7 X6 T10 G4 ha HMg cg0
          have cg0 := G5.cell
          go_wp2_with fail
          refine (HHg.out _ _ _ G5.row).mono ?_
          rintro e w13 ⟨rfl, hb13⟩
          have S9 := Lib.hid (S8.on hb13)
          have X8 := Lib.hid (X7.on hb13)
          have T12 := T11.on hb13
          have G6 := Lib.hid (G5.on hb13)
          clear S8 X7 T11 G5 hb13 cg0
          have hl4 : W7.heap.size ≤ w13.heap.size := X8.out.2.2.2.1
          have K2 := rk_start T12 X8.out.cell (by have := X8.out.2.2.1; omega)
          go_wp2_with fail
          refine' wp_of_rest5 _ (fun W p A2 c2 => Below w13.heap.size w13 W ∧ BoxAt W w13.heap.size W.heap.size p (.slice A2 m c2) m (ints L)) ?_ ?_
          rotate_left
          · intro Q R
            have R := Lib.hid R
            have HRK := Lib.hid K2
            go_region_held3 (fun w' => Below w13.heap.size w13 w' ∧ w'.cell? ⟨w.heap.size, 0, none⟩ = some (.slice A n cap) ∧ w'.cell? ⟨w.heap.size + 1, 0, none⟩ = some (.int .i64 x) ∧ w'.cell? ⟨w.heap.size + 1, 1, none⟩ = some (.int .i64 y) ∧ w'.cell? ⟨px, 0, none⟩ = some (.slice Ax n cx) ∧ (w.heap.size + 2 ≤ w13.heap.size ∧ px < w13.heap.size))
              (first | assumption | exact RK.drew (by assumption) | exact RK.on (by assumption) (by assumption) | exact RK.on (by assumption) (below_alloc1 _ _) | exact RK.store (by assumption) (by assumption) _ | exact RK.on HRK.out (below_alloc1 _ _))
              (first | (go_at_call 27; refine (HTo.out _ (T12.on (show RK w13 w.heap.size (.slice A n cap) x y px (.slice Ax n cx) _ by assumption).1)).mono ?_; rintro e wr ⟨A4, c4, rfl, hown, hbr⟩; (have HR1 := Lib.hid (rowB_own hown)); (have HC1 := Lib.hid (own_none hown)); clear hown; (first | (have hfr := fresh_new HRK.out.1.size hbr; obtain ⟨q0, q1, q2, q3, q4⟩ := hfr) | (have hfr := fresh_newD HRK.out.1.size hbr; obtain ⟨q0, q1, q2, q3, q4⟩ := hfr) | skip); (have HRK := Lib.hid (RK.on (show RK w13 w.heap.size (.slice A n cap) x y px (.slice Ax n cx) _ by assumption) hbr))) | (go_at_call 30; refine (toCell x y _).mono ?_; rintro e wc ⟨rfl, hbc⟩; (first | (have HR1 := Lib.hid (row_on HR1.out hbc)) | (have HR1 := Lib.hid (row_on (row_on HR1.out (below_alloc1 _ _)) hbc))); (first | (have hfr := fresh_new HRK.out.1.size hbc; obtain ⟨q0, q1, q2, q3, q4⟩ := hfr) | (have hfr := fresh_newD HRK.out.1.size hbc; obtain ⟨q0, q1, q2, q3, q4⟩ := hfr) | (have hfr := fresh_old ⟨q0, q1, q2, q3, q4⟩ hbc; obtain ⟨q0, q1, q2, q3, q4⟩ := hfr) | skip); (have HRK := Lib.hid (RK.on (show RK w13 w.heap.size (.slice A n cap) x y px (.slice Ax n cx) _ by assumption) hbc))) | (go_at_call 16; refine (HI.out _ _ _ HC1.out (by first | exact HR1.out | exact row_on HR1.out (below_alloc1 _ _))).mono ?_; rintro e wx ⟨A2, c2, rfl, hown, hbx⟩; (have HO := Lib.hid hown); (have HO2 := Lib.hid (own_base hown (show w13.heap.size ≤ _ from (show RK w13 w.heap.size (.slice A n cap) x y px (.slice Ax n cx) _ by assumption).1.size))); clear hown; (first | (have hfr := fresh_new HRK.out.1.size hbx; obtain ⟨q0, q1, q2, q3, q4⟩ := hfr) | (have hfr := fresh_newD HRK.out.1.size hbx; obtain ⟨q0, q1, q2, q3, q4⟩ := hfr) | (have hfr := fresh_old ⟨q0, q1, q2, q3, q4⟩ hbx; obtain ⟨q0, q1, q2, q3, q4⟩ := hfr) | skip); (have HRK := Lib.hid (RK.on (show RK w13 w.heap.size (.slice A n cap) x y px (.slice Ax n cx) _ by assumption) hbx))))
            all_goals (first | (have hbox := box_last HO2.out HRK.out.1.size; have hrk := RK.on HRK.out (below_alloc1 wx (.cells #[.slice A2 m c2] 26)); generalize wx.alloc (.cells #[.slice A2 m c2] 26) = W9 at hbox hrk ⊢; generalize wx.heap.size = p at hbox ⊢; exact R.out W9 p A4 c4 A2 c2 ⟨hrk.1, hbox⟩) | skip)
            all_goals exact R.out _ _ A4 c4 A2 c2 ⟨(RK.store HRK.out q3 _).1, box_first q0 HO.out hbx.size (by first | omega | (simp; omega) | simp) q3⟩
          · intro W14 ph A4 c4 Ah ch ⟨hb14, H0⟩
            have S10 := S9.out.on hb14
            have T13 := T12.on hb14
            have G7 := G6.out.on hb14
            clear S9 T12 G6 K2 hb14 X8
            have ch0 := H0.cell
            have cw0 := S10.cell
            go_wp2_with fail
            refine (HEL.out _ _ _ _ _ H0.row S10.row).mono ?_
            rintro e w15 ⟨rfl, hb15⟩
            have T14 := T13.on hb15
            have G8 := G7.on hb15
            clear S10 T13 G7 H0 hb15 ch0 cw0
            have cg0 := G8.cell
            go_wp2_with fail
            refine (HHg.out _ _ _ G8.row).mono ?_
            rintro e w16 ⟨rfl, hb16⟩
            have hb := (T14.on hb16).1
            clear T14 G8 hb16 cg0
            go_wp2
            go_ret
            exact ⟨rfl, hb⟩
  · rw [szR_no hs] at HZ
    clear hs hx hn h
    go_enter Try.func9, Try.ntmps9
    go_wp2_with fail
    have T1 := T0.out 45 49
    clear T0
    refine (HZ.out _).mono ?_
    rintro e w1 ⟨rfl, hb1⟩
    have hb := (T1.on hb1).1
    clear T1 hb1 HZ
    go_wp2
    go_ret
    exact ⟨rfl, hb⟩
end Go.Proofs.Ytgngeebafpabdaa.Reg
