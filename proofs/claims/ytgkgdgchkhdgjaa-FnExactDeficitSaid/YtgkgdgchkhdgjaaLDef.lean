/- The law FnExactDeficit returns true: the program's function and the model's say the same; the region and the list are left as they were. -/
import Derived.Test.YtgkgdgchkhdgjaaMgDfM
import Derived.Test.YtgkgdgchkhdgjaaMgArd
import Derived.Test.YtgkgdgchkhdgjaaRegL
import Derived.Test.YtgkgdgchkhdgjaaRegF
namespace Go.Proofs.Ytgkgdgchkhdgjaa.Def
set_option linter.unusedVariables false
set_option linter.unusedSimpArgs false
open Go.RowKit Go.Proofs.Ytgkgdgchkhdgjaa.Base Go.Proofs.Ytgkgdgchkhdgjaa.Pure Go.Proofs.Ytgkgdgchkhdgjaa.Cell Go.Proofs.Ytgkgdgchkhdgjaa.CellF Go.Proofs.Ytgkgdgchkhdgjaa.Cels Go.Joins
open Go.Proofs.Ytgkgdgchkhdgjaa.Reg hiding Yes RC rc_start

set_option maxRecDepth 100000 in
set_option maxHeartbeats 2000000 in
theorem lawDeficit (w : World) (A : Option Addr) (n cap : Nat) (xs : List Int) (hx : xs.length = n) (hn : (n : Int) ≤ 9223372036854775807) (h : RowB w w.heap.size A xs)
    (A' : Option Addr) (n' cap' : Nat) (L : List (Int × Int)) (hL : L.length = n') (hn' : (n' : Int) ≤ 9223372036854775807) (h' : RowK w w.heap.size A' L) :
    Calls Try.prog 3 #[.agg #[.slice A n cap], .slice A' n' cap'] w (Reg.Yes w) := by
  have T0 := Lib.hid (fun T => rb_start (T := T) (.slice A n cap) w)
  have HZ := Lib.hid (fun W => szRegion A n cap 1048576 (by omega) (by omega) hn W)
  by_cases hs : (n : Int) ≤ 1048576
  · obtain ⟨y0, y1⟩ := szR_yes hs
    have HY := Lib.hid (fun W => szCellS A' n' cap' (szR 1048576 n) y0 y1 hn' W)
    have hzz : (szR (szR 1048576 n) n' = -1) ∨ (0 ≤ szR (szR 1048576 n) n' ∧ (n' : Int) ≤ 1048576) := by
      by_cases h2 : (n' : Int) ≤ szR 1048576 n
      · right; constructor
        · rw [show szR (szR 1048576 n) n' = szR 1048576 n - n' by unfold szR; rw [if_pos (by unfold szR at h2; exact h2)]]; omega
        · omega
      · left; rw [show szR (szR 1048576 n) n' = -1 by generalize szR 1048576 n = q at h2; unfold szR; rw [if_neg h2]]
    have HTo := Lib.hid (fun W (hb : Below w.heap.size w W) => toRegion W A n cap w.heap.size xs hx hs (h.below hb (Nat.le_refl _)) hb.size)
    have HTm := Lib.hid (fun (hs' : (n' : Int) ≤ 1048576) W (hb : Below w.heap.size w W) => toCellS W A' n' cap' w.heap.size L hL hs' (h'.below hb (Nat.le_refl _)) hb.size)
    have HSp := Lib.hid (fun W A c (hr : RowB W W.heap.size A xs) A' c' (hr' : RowK W W.heap.size A' L) (hc : n' ≤ c') => sDeficit W A n c W.heap.size xs hx hn hr (Nat.le_refl _) A' n' c' W.heap.size L hL hn' hr' (Nat.le_refl _) hc)
    have HIm := Lib.hid (fun (hs' : (n' : Int) ≤ 1048576) W A c (hr : RowB W W.heap.size A xs) A' c' (hr' : RowK W W.heap.size A' L) => iDeficit W A n c W.heap.size xs hx hn hr (Nat.le_refl _) A' n' c' W.heap.size L hL hs' hr' (Nat.le_refl _))
    have HEr := Lib.hid (fun W A A' c c' (h1 : RowB W W.heap.size A xs) (h2 : RowB W W.heap.size A' xs) => eqRegion W A A' n c c' _ _ xs hx hn h1 h2 (Nat.le_refl _) (Nat.le_refl _))
    have HEq := Lib.hid (fun (hs' : (n' : Int) ≤ 1048576) W A A' c c' (h1 : RowK W W.heap.size A L) (h2 : RowK W W.heap.size A' L) => eqCellsK W A A' n' c c' L hL hs' h1 h2)
    generalize szR (szR 1048576 n) n' = zz at HY hzz
    generalize szR 1048576 n = z at HZ HY y0
    have z2 : ¬ z < 0 := by omega
    generalize defR xs L = r at HSp HIm
    have hq : (r != r) = false := by simp
    clear hs hx hn h hL hn' h' y1
    go_enter Try.func3, Try.ntmps3
    go_wp2_with fail
    have T1 := T0.out 24
    clear T0
    refine (HZ.out _).mono ?_
    rintro e w1 ⟨rfl, hb1⟩
    have T2 := T1.on hb1
    clear T1 hb1 HZ
    go_wp2_with fail
    refine (HY.out _).mono ?_
    rintro e w1 ⟨rfl, rfl⟩
    clear HY
    rcases hzz with rfl | ⟨zz0, hs'⟩
    · have hb := T2.1
      go_wp2
      go_ret
      exact ⟨rfl, hb⟩
    · have HTm := Lib.hid (fun W hb => HTm.out hs' W hb)
      have HIm := Lib.hid (fun W A c hr A' c' hr' => HIm.out hs' W A c hr A' c' hr')
      have HEq := Lib.hid (fun W A A' c c' h1 h2 => HEq.out hs' W A A' c c' h1 h2)
      have zz2 : ¬ zz < 0 := by omega
      clear hs'
      obtain ⟨_, _, c0⟩ := id T2
      go_wp2_with fail
      refine (HTo.out _ T2.1).mono ?_
      rintro e w2 ⟨A1, cap1, rfl, hown, hb2⟩
      have T3 := T2.on hb2
      have R1 := rowB_own hown
      clear T2 hown hb2 c0
      go_wp2_with fail
      refine (HTm.out _ T3.1).mono ?_
      rintro e w3 ⟨A2, cap2, rfl, hc2, hown, hb3⟩
      have T4 := T3.on hb3
      have R1 := (R1.below hb3 (Nat.le_refl _)).mono hb3.size
      have R2 := rowK_own hown
      clear T3 hown hb3
      go_wp2_with fail
      refine (HSp.out _ _ _ R1 _ _ R2 hc2).mono ?_
      rintro e w4 ⟨rfl, hb4⟩
      have T5 := T4.on hb4
      clear T4 hb4 HSp R1 R2
      obtain ⟨_, hl5, c0⟩ := id T5
      go_wp2_with fail
      refine (HTo.out _ T5.1).mono ?_
      rintro e w5 ⟨A3, cap3, rfl, hown, hb5⟩
      have T6 := T5.on hb5
      have hl6 := T6.2.1
      have hz5 := hb5.size
      have X0 := fun T => rx_start (T := T) T6 (by omega) hown (Below.refl _ _)
      clear T5 hb5 c0 T6 hown
      go_upto_region 10 with fail
      have X1 := X0 29
      clear X0
      generalize w5.alloc (.cells #[.slice A3 n cap3] 29) = W5 at X1 ⊢
      generalize w5.heap.size = p at X1 ⊢
      go_wp2_with fail
      refine (HTm.out _ X1.1).mono ?_
      rintro e w6 ⟨A4, cap4, rfl, hc4, hown, hb6⟩
      have X2 := X1.on hb6
      have R4 := rowK_own hown
      clear X1 hown hb6
      obtain ⟨_, _, _, c1, _⟩ := id X2
      go_wp2_with fail
      refine (HIm.out _ _ _ X2.row _ _ R4).mono ?_
      rintro e w7 ⟨rfl, hb7⟩
      have X3 := X2.on hb7
      have R4 := (R4.below hb7 (Nat.le_refl _)).mono hb7.size
      clear X2 hb7 HIm c1
      go_upto_region 14 with fail
      refine wp_region_noPanic ?_
      refine wp_region_held_drew (S := (fun w' => w'.cell? ⟨w.heap.size, 0, none⟩ = some (.slice A n cap) ∧ w'.cell? ⟨p, 0, none⟩ = some (.slice A3 n cap3))) (by kernel_rfl) (⟨X3.drew.2.2.1, X3.drew.2.2.2.1⟩) (fun hHeld => ?_)
      refine wpAnyH_take (i := 0) (v := ?_) rfl (by kernel_rfl) (by kernel_rfl) (by kernel_rfl) (fun _ _ _ h => h) (Or.inl ⟨by rfl, ?_⟩) (by assumption) ?_
      rotate_left
      · (intro w' hS; (try dsimp only at hS); go_simp; try with_reducible rfl)
      try simp only [Act.put, List.getElem_toArray, List.getElem_cons_succ, List.getElem_cons_zero, List.setIfInBounds_toArray, List.set_cons_zero, List.set_cons_succ]
      refine wpAnyH_take (i := 1) (v := ?_) rfl (by kernel_rfl) (by kernel_rfl) (by kernel_rfl) (fun _ _ _ h => h) (Or.inl ⟨by rfl, ?_⟩) (by assumption) ?_
      rotate_left
      · (intro w' hS; (try dsimp only at hS); go_simp; try with_reducible rfl)
      try simp only [Act.put, List.getElem_toArray, List.getElem_cons_succ, List.getElem_cons_zero, List.setIfInBounds_toArray, List.set_cons_zero, List.set_cons_succ]
      refine wpAnyH_ready (rs := [2]) (by kernel_rfl) (by simp) ?_
      refine AllReadyH.cons rfl (fun K hK => ?_) AllReadyH.nil
      go_simp
      refine (HTo.out _ X3.drew.1).mono ?_
      rintro e wx ⟨A5, cap5, rfl, hown, hb1⟩
      have X4 := X3.drew.on hb1
      have R4 := (RowK.below (w := w7.drew) R4 hb1 (Nat.le_refl _)).mono hb1.size
      have R5 := rowB_own hown
      clear X3 hb1 hown
      go_wp2_with fail
      refine hK.out _ _ (⟨X4.2.2.1, X4.2.2.2.1⟩) (fun hHeld => ?_)
      clear hK K
      try simp only [Act.put, List.getElem_toArray, List.getElem_cons_succ, List.getElem_cons_zero, List.setIfInBounds_toArray, List.set_cons_zero, List.set_cons_succ]
      refine wpAnyH_ready (rs := [3]) (by kernel_rfl) (by simp) ?_
      refine AllReadyH.cons rfl (fun K hK => ?_) AllReadyH.nil
      go_simp
      refine (HEr.out _ _ _ _ _ X4.row R5).mono ?_
      rintro e wx ⟨rfl, hb2⟩
      have X5 := X4.on hb2
      have R4 := (R4.below hb2 (Nat.le_refl _)).mono hb2.size
      clear X4 hb2 R5 HEr
      go_wp2_with fail
      refine hK.out _ _ (⟨X5.2.2.1, X5.2.2.2.1⟩) (fun hHeld => ?_)
      clear hK K
      try simp only [Act.put, List.getElem_toArray, List.getElem_cons_succ, List.getElem_cons_zero, List.setIfInBounds_toArray, List.set_cons_zero, List.set_cons_succ]
      refine wpAnyH_take (i := 4) (v := ?_) rfl (by kernel_rfl) (by kernel_rfl) (by kernel_rfl) (fun _ _ _ h => h) (Or.inl ⟨by rfl, ?_⟩) (by assumption) ?_
      rotate_left
      · (intro w' hS; (try dsimp only at hS); go_simp; try with_reducible rfl)
      try simp only [Act.put, List.getElem_toArray, List.getElem_cons_succ, List.getElem_cons_zero, List.setIfInBounds_toArray, List.set_cons_zero, List.set_cons_succ]
      refine wpAnyH_done (by kernel_rfl) ?_ _
      refine NoPanic.normal ?_
      clear hHeld
      generalize wx = W8 at X5 R4 ⊢
      go_wp2_with fail
      refine (HTm.out _ X5.1).mono ?_
      rintro e w9 ⟨A6, cap6, rfl, _, hown, hb9⟩
      have hb := X5.1.trans (hb9.mono X5.1.size)
      have R4 := (R4.below hb9 (Nat.le_refl _)).mono hb9.size
      have R6 := rowK_own hown
      clear X5 hown hb9
      go_wp2_with fail
      refine (HEq.out _ _ _ _ _ R4 R6).mono ?_
      rintro e w10 ⟨rfl, hb10⟩
      have hb := hb.trans (hb10.mono hb.size)
      clear hb10 R4 R6
      go_wp2
      go_ret
      exact ⟨rfl, hb⟩
  · rw [szR_no hs] at HZ
    clear hs hx hn h hL hn' h'
    go_enter Try.func3, Try.ntmps3
    go_wp2_with fail
    have T1 := T0.out 24
    clear T0
    refine (HZ.out _).mono ?_
    rintro e w1 ⟨rfl, hb1⟩
    have hb := (T1.on hb1).1
    clear T1 hb1 HZ
    go_wp2
    go_ret
    exact ⟨rfl, hb⟩
end Go.Proofs.Ytgkgdgchkhdgjaa.Def
