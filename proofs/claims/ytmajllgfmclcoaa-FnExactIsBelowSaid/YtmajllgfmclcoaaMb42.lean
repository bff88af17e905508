/- LBel in one text. -/
import Derived.Test.YtmajllgfmclcoaaMb33
import Derived.Test.YtmajllgfmclcoaaMb40
import Derived.Test.YtmajllgfmclcoaaMb41
import Derived.Test.YtmajllgfmclcoaaMb13

namespace Go.Proofs.Ytmajllgfmclcoaa.Jn
set_option linter.unusedVariables false
set_option linter.unusedSimpArgs false
set_option maxRecDepth 100000
open Go.RowKit Go.Proofs.Ytmajllgfmclcoaa.Dom Go.Proofs.Ytmajllgfmclcoaa.Dms Go.Proofs.Ytmajllgfmclcoaa.Til Go.Proofs.Ytmajllgfmclcoaa.Hgt Go.Joins
open Go.Proofs.Ytmajllgfmclcoaa.Reg hiding Yes RC rc_start

theorem sz_two' (z : Int) (n : Nat) (h0 : 0 ≤ z) (h1 : z ≤ 1048576) : szR z n = -1 ∨ (0 ≤ szR z n ∧ szR z n ≤ 1048576 ∧ (n : Int) ≤ 1048576) := by
 by_cases h2 : (n : Int) ≤ z
 ·right
  have e : szR z n = z - n := by unfold szR; rw [if_pos h2]
  rw [e]; omega
 ·left; unfold szR; rw [if_neg h2]
set_option maxHeartbeats 4000000 in
theorem lawIsBelow
  (w : World) (A : Option Addr) (n cap : Nat) (xs : List Int) (hx : xs.length = n) (hn : (n : Int) ≤ 9223372036854775807) (h : RowB w w.heap.size A xs)
  (A' : Option Addr) (n' cap' : Nat) (L : List Dm) (hL : L.length = n') (hn' : (n' : Int) ≤ 9223372036854775807) (h' : RowM w w.heap.size A' L) (hf : Fits L)
  (A'' : Option Addr) (n'' cap'' : Nat) (M : List Dm) (hM : M.length = n'') (hn'' : (n'' : Int) ≤ 9223372036854775807) (h'' : RowM w w.heap.size A'' M) (hf' : Fits M) :
  Calls Try.prog 3 #[.agg #[.slice A n cap], .slice A' n' cap', .slice A'' n'' cap''] w (Dom.Yes w) := by
 have T0 := Lib.hid (fun T => rb_start (T := T) (.slice A n cap) w)
 have HZ := Lib.hid (fun W => szRegion A n cap 1048576 (by omega) (by omega) hn W)
 by_cases hs : (n : Int) ≤ 1048576
 ·obtain ⟨y0, y1⟩ := szR_yes hs
  have HY := Lib.hid (fun W => szDominoS A' n' cap' (szR 1048576 n) y0 y1 hn' W)
  have hzz := sz_two' (szR 1048576 n) n' y0 y1
  have HY2 := Lib.hid (fun (h0 : 0 ≤ szR (szR 1048576 n) n') (h1 : szR (szR 1048576 n) n' ≤ 1048576) W => szDominoS A'' n'' cap'' (szR (szR 1048576 n) n') h0 h1 hn'' W)
  have hzz2 := Lib.hid (fun (h0 : 0 ≤ szR (szR 1048576 n) n') (h1 : szR (szR 1048576 n) n' ≤ 1048576) => sz_two' (szR (szR 1048576 n) n') n'' h0 h1)
  have HTo := Lib.hid (fun W (hb : Below w.heap.size w W) => toRegion W A n cap w.heap.size xs hx hs (h.below hb (Nat.le_refl _)) hb.size)
  have HTm := Lib.hid (fun (hs' : (n' : Int) ≤ 1048576) W (hb : Below w.heap.size w W) => toDominoS W A' n' cap' w.heap.size L hL hs' (h'.below hb (Nat.le_refl _)) hb.size)
  have HTn := Lib.hid (fun (hs' : (n'' : Int) ≤ 1048576) W (hb : Below w.heap.size w W) => toDominoS W A'' n'' cap'' w.heap.size M hM hs' (h''.below hb (Nat.le_refl _)) hb.size)
  have HSp := Lib.hid (fun W A c (hr : RowB W W.heap.size A xs) A' c' (hr' : RowM W W.heap.size A' L) A'' c'' (hr'' : RowM W W.heap.size A'' M) => sIsBelow W A n c W.heap.size xs hx hn hr (Nat.le_refl _) A' n' c' W.heap.size L hL hn' hr' (Nat.le_refl _) A'' n'' c'' W.heap.size M hM hn'' hr'' (Nat.le_refl _))
  have HIm := Lib.hid (fun (hs1 : (n' : Int) ≤ 1048576) (hs2 : (n'' : Int) ≤ 1048576) W (hb : Below w.heap.size w W) A c (hr : RowB W W.heap.size A xs) A' c' (hr' : RowM W W.heap.size A' L) (hc' : n' ≤ c') A'' c'' (hr'' : RowM W W.heap.size A'' M) (hc'' : n'' ≤ c'') => iIsBelow W A n c W.heap.size xs hx hn hr (Nat.le_refl _) A' n' c' W.heap.size L hL hn' hf hr' (Nat.le_refl _) hc' A'' n'' c'' W.heap.size M hM hn'' hf' hr'' (Nat.le_refl _) hc'')
  have HEr := Lib.hid (fun W A A' c c' (h1 : RowB W W.heap.size A xs) (h2 : RowB W W.heap.size A' xs) => eqRegion W A A' n c c' _ _ xs hx hn h1 h2 (Nat.le_refl _) (Nat.le_refl _))
  have HEq := Lib.hid (fun W A A' c c' (h1 : RowM W W.heap.size A L) (h2 : RowM W W.heap.size A' L) => eqDoms W A A' n' c c' W.heap.size W.heap.size L hL hn' h1 h2 (Nat.le_refl _) (Nat.le_refl _))
  have HEq2 := Lib.hid (fun W A A' c c' (h1 : RowM W W.heap.size A M) (h2 : RowM W W.heap.size A' M) => eqDoms W A A' n'' c c' W.heap.size W.heap.size M hM hn'' h1 h2 (Nat.le_refl _) (Nat.le_refl _))
  have HUq := Lib.hid (fun d e h1 h2 => belR_uniq (xs := xs) (L := L) (M := M) (b := d) (b' := e) h1 h2)
  unfold BelP at HSp HIm
  generalize belR xs L M = TT at HSp HIm HUq
  generalize szR (szR 1048576 n) n' = zz at HY hzz HY2 hzz2
  generalize szR 1048576 n = z at HZ HY y0
  have z2 : ¬ z < 0 := by omega
  clear hs hx hn h hL hn' h' hf y1 hM hn'' h'' hf'
  go_enter Try.func3, Try.ntmps3
  go_wp2_with fail
  have T1 := T0.out 24
  clear T0
  refine (HZ.out _).mono ?_
  rintro e w1 ⟨rfl, hb1⟩
  have T2 := T1.on hb1
  clear T1 hb1 HZ
  go_wp2_with fail
  refine (HY.out _).mono ?_
  rintro e w1 ⟨rfl, rfl⟩
  clear HY
  rcases hzz with rfl | ⟨zz0, zz1, hs1⟩
  ·have hb := T2.1
   go_wp2
   go_ret
   exact ⟨rfl, hb⟩
  ·have HTm := Lib.hid (fun W hb => HTm.out hs1 W hb)
   have HIm := Lib.hid (fun h2 => HIm.out hs1 h2)
   have HY2 := Lib.hid (HY2.out zz0 zz1)
   have hzz2 := hzz2.out zz0 zz1
   have zz2 : ¬ zz < 0 := by omega
   generalize szR zz n'' = z3 at HY2 hzz2
   clear hs1
   go_wp2_with fail
   refine (HY2.out _).mono ?_
   rintro e w1 ⟨rfl, rfl⟩
   clear HY2
   rcases hzz2 with rfl | ⟨z30, z31, hs2⟩
   ·have hb := T2.1
    go_wp2
    go_ret
    exact ⟨rfl, hb⟩
   have HTn := Lib.hid (fun W hb => HTn.out hs2 W hb)
   have HIm := Lib.hid (HIm.out hs2)
   have z32 : ¬ z3 < 0 := by omega
   clear hs2
   obtain ⟨_, _, c0⟩ := id T2
   go_wp2_with fail
   refine (HTo.out _ T2.1).mono ?_
   rintro e w2 ⟨A1, cap1, rfl, hown, hb2⟩
   have T3 := T2.on hb2
   have R1 := rowB_own hown
   clear T2 hown hb2 c0
   go_wp2_with fail
   refine (HTm.out _ T3.1).mono ?_
   rintro e w3 ⟨A2, cap2, rfl, _, hown, hb3⟩
   have T4 := T3.on hb3
   have R1 := (R1.below hb3 (Nat.le_refl _)).mono hb3.size
   have R2 := rowM_own hown
   clear T3 hown hb3
   go_wp2_with fail
   refine (HTn.out _ T4.1).mono ?_
   rintro e w3 ⟨A9, cap9, rfl, _, hown, hb3⟩
   have T4 := T4.on hb3
   have R1 := (R1.below hb3 (Nat.le_refl _)).mono hb3.size
   have R2 := (R2.below hb3 (Nat.le_refl _)).mono hb3.size
   have R3 := rowM_own hown
   clear hown hb3
   go_wp2_with fail
   refine (HSp.out _ _ _ R1 _ _ R2 _ _ R3).mono ?_
   rintro e w4 ⟨d, rfl, hd, hb4⟩
   have T5 := T4.on hb4
   have HD := Lib.hid hd
   clear T4 hb4 HSp R1 R2 R3 hd
   obtain ⟨_, hl5, c0⟩ := id T5
   go_wp2_with fail
   refine (HTo.out _ T5.1).mono ?_
   rintro e w5 ⟨A3, cap3, rfl, hown, hb5⟩
   have T6 := T5.on hb5
   have hl6 := T6.2.1
   have hz5 := hb5.size
   have X0 := fun T => rx_start (T := T) T6 (by omega) hown (Below.refl _ _)
   clear T5 hb5 c0 T6 hown
   go_upto_region 13 with fail
   have X1 := X0 29
   clear X0
   generalize w5.alloc (.cells #[.slice A3 n cap3] 29) = W5 at X1 ⊢
   generalize w5.heap.size = p at X1 ⊢
   go_wp2_with fail
   refine (HTm.out _ X1.1).mono ?_
   rintro e w6 ⟨A4, cap4, rfl, hc4, hown, hb6⟩
   have X2 := X1.on hb6
   have R4 := rowM_own hown
   clear X1 hown hb6
   go_wp2_with fail
   refine (HTn.out _ X2.1).mono ?_
   rintro e w6 ⟨A8, cap8, rfl, hc8, hown, hb6⟩
   have X2 := X2.on hb6
   have R4 := (R4.below hb6 (Nat.le_refl _)).mono hb6.size
   have R8 := rowM_own hown
   clear hown hb6
   obtain ⟨_, _, _, c1, _⟩ := id X2
   go_wp2_with fail
   refine (HIm.out _ X2.1 _ _ X2.row _ _ R4 hc4 _ _ R8 hc8).mono ?_
   rintro e w7 ⟨d', rfl, hd', hb7⟩
   obtain rfl := HUq.out _ _ hd' HD.out
   have hq : (d' != d') = false := by simp
   have X3 := X2.on hb7
   have R4 := (R4.below hb7 (Nat.le_refl _)).mono hb7.size
   have R8 := (R8.below hb7 (Nat.le_refl _)).mono hb7.size
   clear X2 hb7 HIm c1 hd' HD
   go_upto_region 18 with fail
   refine wp_region_noPanic ?_
   refine wp_region_held_drew (S := (fun w' => w'.cell? ⟨w.heap.size, 0, none⟩ = some (.slice A n cap) ∧ w'.cell? ⟨p, 0, none⟩ = some (.slice A3 n cap3))) (by kernel_rfl) (⟨X3.drew.2.2.1, X3.drew.2.2.2.1⟩) (fun hHeld => ?_)
   refine wpAnyH_take (i := 0) (v := ?_) rfl (by kernel_rfl) (by kernel_rfl) (by kernel_rfl) (fun _ _ _ h => h) (Or.inl ⟨by rfl, ?_⟩) (by assumption) ?_
   rotate_left
   ·(intro w' hS; (try dsimp only at hS); go_simp; try with_reducible rfl)
   try simp only [Act.put, List.getElem_toArray, List.getElem_cons_succ, List.getElem_cons_zero, List.setIfInBounds_toArray, List.set_cons_zero, List.set_cons_succ]
   refine wpAnyH_take (i := 1) (v := ?_) rfl (by kernel_rfl) (by kernel_rfl) (by kernel_rfl) (fun _ _ _ h => h) (Or.inl ⟨by rfl, ?_⟩) (by assumption) ?_
   rotate_left
   ·(intro w' hS; (try dsimp only at hS); go_simp; try with_reducible rfl)
   try simp only [Act.put, List.getElem_toArray, List.getElem_cons_succ, List.getElem_cons_zero, List.setIfInBounds_toArray, List.set_cons_zero, List.set_cons_succ]
   refine wpAnyH_ready (rs := [2]) (by kernel_rfl) (by simp) ?_
   refine AllReadyH.cons rfl (fun K hK => ?_) AllReadyH.nil
   go_simp
   refine (HTo.out _ X3.drew.1).mono ?_
   rintro e wx ⟨A5, cap5, rfl, hown, hb1⟩
   have X4 := X3.drew.on hb1
   have R4 := (RowM.below (w := w7.drew) R4 hb1 (Nat.le_refl _)).mono hb1.size
   have R8 := (RowM.below (w := w7.drew) R8 hb1 (Nat.le_refl _)).mono hb1.size
   have R5 := rowB_own hown
   clear X3 hb1 hown
   go_wp2_with fail
   refine hK.out _ _ (⟨X4.2.2.1, X4.2.2.2.1⟩) (fun hHeld => ?_)
   clear hK K
   try simp only [Act.put, List.getElem_toArray, List.getElem_cons_succ, List.getElem_cons_zero, List.setIfInBounds_toArray, List.set_cons_zero, List.set_cons_succ]
   refine wpAnyH_ready (rs := [3]) (by kernel_rfl) (by simp) ?_
   refine AllReadyH.cons rfl (fun K hK => ?_) AllReadyH.nil
   go_simp
   refine (HEr.out _ _ _ _ _ X4.row R5).mono ?_
   rintro e wx ⟨rfl, hb2⟩
   have X5 := X4.on hb2
   have R4 := (R4.below hb2 (Nat.le_refl _)).mono hb2.size
   have R8 := (R8.below hb2 (Nat.le_refl _)).mono hb2.size
   clear X4 hb2 R5 HEr
   go_wp2_with fail
   refine hK.out _ _ (⟨X5.2.2.1, X5.2.2.2.1⟩) (fun hHeld => ?_)
   clear hK K
   try simp only [Act.put, List.getElem_toArray, List.getElem_cons_succ, List.getElem_cons_zero, List.setIfInBounds_toArray, List.set_cons_zero, List.set_cons_succ]
   refine wpAnyH_take (i := 4) (v := ?_) rfl (by kernel_rfl) (by kernel_rfl) (by kernel_rfl) (fun _ _ _ h => h) (Or.inl ⟨by rfl, ?_⟩) (by assumption) ?_
   rotate_left
   ·(intro w' hS; (try dsimp only at hS); go_simp; try with_reducible rfl)
   try simp only [Act.put, List.getElem_toArray, List.getElem_cons_succ, List.getElem_cons_zero, List.setIfInBounds_toArray, List.set_cons_zero, List.set_cons_succ]
   refine wpAnyH_done (by kernel_rfl) ?_ _
   refine NoPanic.normal ?_
   clear hHeld
   generalize wx = W8 at X5 R4 R8 ⊢
   go_wp2_with fail
   refine (HTm.out _ X5.1).mono ?_
   rintro e w9 ⟨A6, cap6, rfl, _, hown, hb9⟩
   have hb := X5.1.trans (hb9.mono X5.1.size)
   have R4 := (R4.below hb9 (Nat.le_refl _)).mono hb9.size
   have R8 := (R8.below hb9 (Nat.le_refl _)).mono hb9.size
   have R6 := rowM_own hown
   clear X5 hown hb9
   go_wp2_with fail
   refine (HEq.out _ _ _ _ _ R4 R6).mono ?_
   rintro e w10 ⟨rfl, hb10⟩
   have hb := hb.trans (hb10.mono hb.size)
   have R8 := (R8.below hb10 (Nat.le_refl _)).mono hb10.size
   clear hb10 R4 R6
   go_wp2_with fail
   refine (HTn.out _ hb).mono ?_
   rintro e w11 ⟨A7, cap7, rfl, _, hown, hb9⟩
   have hb := hb.trans (hb9.mono hb.size)
   have R8 := (R8.below hb9 (Nat.le_refl _)).mono hb9.size
   have R6 := rowM_own hown
   clear hown hb9
   go_wp2_with fail
   refine (HEq2.out _ _ _ _ _ R8 R6).mono ?_
   rintro e w12 ⟨rfl, hb10⟩
   have hb := hb.trans (hb10.mono hb.size)
   clear hb10 R8 R6
   go_wp2
   go_ret
   exact ⟨rfl, hb⟩
 ·rw [szR_no hs] at HZ
  clear hs hx hn h hL hn' h' hf hM hn'' h'' hf'
  go_enter Try.func3, Try.ntmps3
  go_wp2_with fail
  have T1 := T0.out 24
  clear T0
  refine (HZ.out _).mono ?_
  rintro e w1 ⟨rfl, hb1⟩
  have hb := (T1.on hb1).1
  clear T1 hb1 HZ
  go_wp2
  go_ret
  exact ⟨rfl, hb⟩

set_option maxHeartbeats 4000000 in
theorem lawStepsBetween
  (w : World) (A : Option Addr) (n cap : Nat) (xs : List Int) (hx : xs.length = n) (hn : (n : Int) ≤ 9223372036854775807) (h : RowB w w.heap.size A xs)
  (A' : Option Addr) (n' cap' : Nat) (L : List Dm) (hL : L.length = n') (hn' : (n' : Int) ≤ 9223372036854775807) (h' : RowM w w.heap.size A' L) (hf : Fits L)
  (A'' : Option Addr) (n'' cap'' : Nat) (M : List Dm) (hM : M.length = n'') (hn'' : (n'' : Int) ≤ 9223372036854775807) (h'' : RowM w w.heap.size A'' M) (hf' : Fits M) :
  Calls Try.prog 4 #[.agg #[.slice A n cap], .slice A' n' cap', .slice A'' n'' cap''] w (Dom.Yes w) := by
 have T0 := Lib.hid (fun T => rb_start (T := T) (.slice A n cap) w)
 have HZ := Lib.hid (fun W => szRegion A n cap 1048576 (by omega) (by omega) hn W)
 by_cases hs : (n : Int) ≤ 1048576
 ·obtain ⟨y0, y1⟩ := szR_yes hs
  have HY := Lib.hid (fun W => szDominoS A' n' cap' (szR 1048576 n) y0 y1 hn' W)
  have hzz := sz_two' (szR 1048576 n) n' y0 y1
  have HY2 := Lib.hid (fun (h0 : 0 ≤ szR (szR 1048576 n) n') (h1 : szR (szR 1048576 n) n' ≤ 1048576) W => szDominoS A'' n'' cap'' (szR (szR 1048576 n) n') h0 h1 hn'' W)
  have hzz2 := Lib.hid (fun (h0 : 0 ≤ szR (szR 1048576 n) n') (h1 : szR (szR 1048576 n) n' ≤ 1048576) => sz_two' (szR (szR 1048576 n) n') n'' h0 h1)
  have HTo := Lib.hid (fun W (hb : Below w.heap.size w W) => toRegion W A n cap w.heap.size xs hx hs (h.below hb (Nat.le_refl _)) hb.size)
  have HTm := Lib.hid (fun (hs' : (n' : Int) ≤ 1048576) W (hb : Below w.heap.size w W) => toDominoS W A' n' cap' w.heap.size L hL hs' (h'.below hb (Nat.le_refl _)) hb.size)
  have HTn := Lib.hid (fun (hs' : (n'' : Int) ≤ 1048576) W (hb : Below w.heap.size w W) => toDominoS W A'' n'' cap'' w.heap.size M hM hs' (h''.below hb (Nat.le_refl _)) hb.size)
  have HSp := Lib.hid (fun W A c (hr : RowB W W.heap.size A xs) A' c' (hr' : RowM W W.heap.size A' L) A'' c'' (hr'' : RowM W W.heap.size A'' M) => sStepsBetween W A n c W.heap.size xs hx hn hr (Nat.le_refl _) A' n' c' W.heap.size L hL hn' hr' (Nat.le_refl _) A'' n'' c'' W.heap.size M hM hn'' hr'' (Nat.le_refl _))
  have HIm := Lib.hid (fun (hs1 : (n' : Int) ≤ 1048576) (hs2 : (n'' : Int) ≤ 1048576) W (hb : Below w.heap.size w W) A c (hr : RowB W W.heap.size A xs) A' c' (hr' : RowM W W.heap.size A' L) (hc' : n' ≤ c') A'' c'' (hr'' : RowM W W.heap.size A'' M) (hc'' : n'' ≤ c'') => iStepsBetween W A n c W.heap.size xs hx hn hr (Nat.le_refl _) A' n' c' W.heap.size L hL hn' hf hr' (Nat.le_refl _) hc' A'' n'' c'' W.heap.size M hM hn'' hf' hr'' (Nat.le_refl _) hc'')
  have HEr := Lib.hid (fun W A A' c c' (h1 : RowB W W.heap.size A xs) (h2 : RowB W W.heap.size A' xs) => eqRegion W A A' n c c' _ _ xs hx hn h1 h2 (Nat.le_refl _) (Nat.le_refl _))
  have HEq := Lib.hid (fun W A A' c c' (h1 : RowM W W.heap.size A L) (h2 : RowM W W.heap.size A' L) => eqDoms W A A' n' c c' W.heap.size W.heap.size L hL hn' h1 h2 (Nat.le_refl _) (Nat.le_refl _))
  have HEq2 := Lib.hid (fun W A A' c c' (h1 : RowM W W.heap.size A M) (h2 : RowM W W.heap.size A' M) => eqDoms W A A' n'' c c' W.heap.size W.heap.size M hM hn'' h1 h2 (Nat.le_refl _) (Nat.le_refl _))
  have HUq := Lib.hid (fun d e h1 h2 => stepR_uniq (xs := xs) (L := L) (M := M) (n := d) (n' := e) h1 h2)
  unfold StpP at HSp HIm
  generalize stepR xs L M = TT at HSp HIm HUq
  generalize szR (szR 1048576 n) n' = zz at HY hzz HY2 hzz2
  generalize szR 1048576 n = z at HZ HY y0
  have z2 : ¬ z < 0 := by omega
  clear hs hx hn h hL hn' h' hf y1 hM hn'' h'' hf'
  go_enter Try.func4, Try.ntmps4
  go_wp2_with fail
  have T1 := T0.out 24
  clear T0
  refine (HZ.out _).mono ?_
  rintro e w1 ⟨rfl, hb1⟩
  have T2 := T1.on hb1
  clear T1 hb1 HZ
  go_wp2_with fail
  refine (HY.out _).mono ?_
  rintro e w1 ⟨rfl, rfl⟩
  clear HY
  rcases hzz with rfl | ⟨zz0, zz1, hs1⟩
  ·have hb := T2.1
   go_wp2
   go_ret
   exact ⟨rfl, hb⟩
  ·have HTm := Lib.hid (fun W hb => HTm.out hs1 W hb)
   have HIm := Lib.hid (fun h2 => HIm.out hs1 h2)
   have HY2 := Lib.hid (HY2.out zz0 zz1)
   have hzz2 := hzz2.out zz0 zz1
   have zz2 : ¬ zz < 0 := by omega
   generalize szR zz n'' = z3 at HY2 hzz2
   clear hs1
   go_wp2_with fail
   refine (HY2.out _).mono ?_
   rintro e w1 ⟨rfl, rfl⟩
   clear HY2
   rcases hzz2 with rfl | ⟨z30, z31, hs2⟩
   ·have hb := T2.1
    go_wp2
    go_ret
    exact ⟨rfl, hb⟩
   have HTn := Lib.hid (fun W hb => HTn.out hs2 W hb)
   have HIm := Lib.hid (HIm.out hs2)
   have z32 : ¬ z3 < 0 := by omega
   clear hs2
   obtain ⟨_, _, c0⟩ := id T2
   go_wp2_with fail
   refine (HTo.out _ T2.1).mono ?_
   rintro e w2 ⟨A1, cap1, rfl, hown, hb2⟩
   have T3 := T2.on hb2
   have R1 := rowB_own hown
   clear T2 hown hb2 c0
   go_wp2_with fail
   refine (HTm.out _ T3.1).mono ?_
   rintro e w3 ⟨A2, cap2, rfl, _, hown, hb3⟩
   have T4 := T3.on hb3
   have R1 := (R1.below hb3 (Nat.le_refl _)).mono hb3.size
   have R2 := rowM_own hown
   clear T3 hown hb3
   go_wp2_with fail
   refine (HTn.out _ T4.1).mono ?_
   rintro e w3 ⟨A9, cap9, rfl, _, hown, hb3⟩
   have T4 := T4.on hb3
   have R1 := (R1.below hb3 (Nat.le_refl _)).mono hb3.size
   have R2 := (R2.below hb3 (Nat.le_refl _)).mono hb3.size
   have R3 := rowM_own hown
   clear hown hb3
   go_wp2_with fail
   refine (HSp.out _ _ _ R1 _ _ R2 _ _ R3).mono ?_
   rintro e w4 ⟨d, rfl, hd, hb4⟩
   have T5 := T4.on hb4
   have HD := Lib.hid hd
   clear T4 hb4 HSp R1 R2 R3 hd
   obtain ⟨_, hl5, c0⟩ := id T5
   go_wp2_with fail
   refine (HTo.out _ T5.1).mono ?_
   rintro e w5 ⟨A3, cap3, rfl, hown, hb5⟩
   have T6 := T5.on hb5
   have hl6 := T6.2.1
   have hz5 := hb5.size
   have X0 := fun T => rx_start (T := T) T6 (by omega) hown (Below.refl _ _)
   clear T5 hb5 c0 T6 hown
   go_upto_region 13 with fail
   have X1 := X0 29
   clear X0
   generalize w5.alloc (.cells #[.slice A3 n cap3] 29) = W5 at X1 ⊢
   generalize w5.heap.size = p at X1 ⊢
   go_wp2_with fail
   refine (HTm.out _ X1.1).mono ?_
   rintro e w6 ⟨A4, cap4, rfl, hc4, hown, hb6⟩
   have X2 := X1.on hb6
   have R4 := rowM_own hown
   clear X1 hown hb6
   go_wp2_with fail
   refine (HTn.out _ X2.1).mono ?_
   rintro e w6 ⟨A8, cap8, rfl, hc8, hown, hb6⟩
   have X2 := X2.on hb6
   have R4 := (R4.below hb6 (Nat.le_refl _)).mono hb6.size
   have R8 := rowM_own hown
   clear hown hb6
   obtain ⟨_, _, _, c1, _⟩ := id X2
   go_wp2_with fail
   refine (HIm.out _ X2.1 _ _ X2.row _ _ R4 hc4 _ _ R8 hc8).mono ?_
   rintro e w7 ⟨d', rfl, hd', hb7⟩
   obtain rfl := HUq.out _ _ hd' HD.out
   have hq : (d' != d') = false := by simp
   have X3 := X2.on hb7
   have R4 := (R4.below hb7 (Nat.le_refl _)).mono hb7.size
   have R8 := (R8.below hb7 (Nat.le_refl _)).mono hb7.size
   clear X2 hb7 HIm c1 hd' HD
   go_upto_region 18 with fail
   refine wp_region_noPanic ?_
   refine wp_region_held_drew (S := (fun w' => w'.cell? ⟨w.heap.size, 0, none⟩ = some (.slice A n cap) ∧ w'.cell? ⟨p, 0, none⟩ = some (.slice A3 n cap3))) (by kernel_rfl) (⟨X3.drew.2.2.1, X3.drew.2.2.2.1⟩) (fun hHeld => ?_)
   refine wpAnyH_take (i := 0) (v := ?_) rfl (by kernel_rfl) (by kernel_rfl) (by kernel_rfl) (fun _ _ _ h => h) (Or.inl ⟨by rfl, ?_⟩) (by assumption) ?_
   rotate_left
   ·(intro w' hS; (try dsimp only at hS); go_simp; try with_reducible rfl)
   try simp only [Act.put, List.getElem_toArray, List.getElem_cons_succ, List.getElem_cons_zero, List.setIfInBounds_toArray, List.set_cons_zero, List.set_cons_succ]
   refine wpAnyH_take (i := 1) (v := ?_) rfl (by kernel_rfl) (by kernel_rfl) (by kernel_rfl) (fun _ _ _ h => h) (Or.inl ⟨by rfl, ?_⟩) (by assumption) ?_
   rotate_left
   ·(intro w' hS; (try dsimp only at hS); go_simp; try with_reducible rfl)
   try simp only [Act.put, List.getElem_toArray, List.getElem_cons_succ, List.getElem_cons_zero, List.setIfInBounds_toArray, List.set_cons_zero, List.set_cons_succ]
   refine wpAnyH_ready (rs := [2]) (by kernel_rfl) (by simp) ?_
   refine AllReadyH.cons rfl (fun K hK => ?_) AllReadyH.nil
   go_simp
   refine (HTo.out _ X3.drew.1).mono ?_
   rintro e wx ⟨A5, cap5, rfl, hown, hb1⟩
   have X4 := X3.drew.on hb1
   have R4 := (RowM.below (w := w7.drew) R4 hb1 (Nat.le_refl _)).mono hb1.size
   have R8 := (RowM.below (w := w7.drew) R8 hb1 (Nat.le_refl _)).mono hb1.size
   have R5 := rowB_own hown
   clear X3 hb1 hown
   go_wp2_with fail
   refine hK.out _ _ (⟨X4.2.2.1, X4.2.2.2.1⟩) (fun hHeld => ?_)
   clear hK K
   try simp only [Act.put, List.getElem_toArray, List.getElem_cons_succ, List.getElem_cons_zero, List.setIfInBounds_toArray, List.set_cons_zero, List.set_cons_succ]
   refine wpAnyH_ready (rs := [3]) (by kernel_rfl) (by simp) ?_
   refine AllReadyH.cons rfl (fun K hK => ?_) AllReadyH.nil
   go_simp
   refine (HEr.out _ _ _ _ _ X4.row R5).mono ?_
   rintro e wx ⟨rfl, hb2⟩
   have X5 := X4.on hb2
   have R4 := (R4.below hb2 (Nat.le_refl _)).mono hb2.size
   have R8 := (R8.below hb2 (Nat.le_refl _)).mono hb2.size
   clear X4 hb2 R5 HEr
   go_wp2_with fail
   refine hK.out _ _ (⟨X5.2.2.1, X5.2.2.2.1⟩) (fun hHeld => ?_)
   clear hK K
   try simp only [Act.put, List.getElem_toArray, List.getElem_cons_succ, List.getElem_cons_zero, List.setIfInBounds_toArray, List.set_cons_zero, List.set_cons_succ]
   refine wpAnyH_take (i := 4) (v := ?_) rfl (by kernel_rfl) (by kernel_rfl) (by kernel_rfl) (fun _ _ _ h => h) (Or.inl ⟨by rfl, ?_⟩) (by assumption) ?_
   rotate_left
   ·(intro w' hS; (try dsimp only at hS); go_simp; try with_reducible rfl)
   try simp only [Act.put, List.getElem_toArray, List.getElem_cons_succ, List.getElem_cons_zero, List.setIfInBounds_toArray, List.set_cons_zero, List.set_cons_succ]
   refine wpAnyH_done (by kernel_rfl) ?_ _
   refine NoPanic.normal ?_
   clear hHeld
   generalize wx = W8 at X5 R4 R8 ⊢
   go_wp2_with fail
   refine (HTm.out _ X5.1).mono ?_
   rintro e w9 ⟨A6, cap6, rfl, _, hown, hb9⟩
   have hb := X5.1.trans (hb9.mono X5.1.size)
   have R4 := (R4.below hb9 (Nat.le_refl _)).mono hb9.size
   have R8 := (R8.below hb9 (Nat.le_refl _)).mono hb9.size
   have R6 := rowM_own hown
   clear X5 hown hb9
   go_wp2_with fail
   refine (HEq.out _ _ _ _ _ R4 R6).mono ?_
   rintro e w10 ⟨rfl, hb10⟩
   have hb := hb.trans (hb10.mono hb.size)
   have R8 := (R8.below hb10 (Nat.le_refl _)).mono hb10.size
   clear hb10 R4 R6
   go_wp2_with fail
   refine (HTn.out _ hb).mono ?_
   rintro e w11 ⟨A7, cap7, rfl, _, hown, hb9⟩
   have hb := hb.trans (hb9.mono hb.size)
   have R8 := (R8.below hb9 (Nat.le_refl _)).mono hb9.size
   have R6 := rowM_own hown
   clear hown hb9
   go_wp2_with fail
   refine (HEq2.out _ _ _ _ _ R8 R6).mono ?_
   rintro e w12 ⟨rfl, hb10⟩
   have hb := hb.trans (hb10.mono hb.size)
   clear hb10 R8 R6
   go_wp2
   go_ret
   exact ⟨rfl, hb⟩
 ·rw [szR_no hs] at HZ
  clear hs hx hn h hL hn' h' hf hM hn'' h'' hf'
  go_enter Try.func4, Try.ntmps4
  go_wp2_with fail
  have T1 := T0.out 24
  clear T0
  refine (HZ.out _).mono ?_
  rintro e w1 ⟨rfl, hb1⟩
  have hb := (T1.on hb1).1
  clear T1 hb1 HZ
  go_wp2
  go_ret
  exact ⟨rfl, hb⟩

end Go.Proofs.Ytmajllgfmclcoaa.Jn
