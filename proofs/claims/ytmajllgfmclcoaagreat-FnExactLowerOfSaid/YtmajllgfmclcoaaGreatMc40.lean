/- LJoi in one text. -/
import Derived.Test.YtmajllgfmclcoaaGreatMc35
import Derived.Test.YtmajllgfmclcoaaGreatMc37
import Derived.Test.YtmajllgfmclcoaaGreatMc39
import Derived.Test.YtmajllgfmclcoaaGreatMc20
import Derived.Test.YtmajllgfmclcoaaGreatMc09

namespace Go.Proofs.YtmajllgfmclcoaaGreat.Jn
set_option linter.unusedVariables false
set_option linter.unusedSimpArgs false
open Go.RowKit Go.Proofs.YtmajllgfmclcoaaGreat.Dom Go.Proofs.YtmajllgfmclcoaaGreat.Dms Go.Proofs.YtmajllgfmclcoaaGreat.Til Go.Proofs.YtmajllgfmclcoaaGreat.Hgt Go.Joins
open Go.Proofs.YtmajllgfmclcoaaGreat.Reg hiding Yes add_none RC rc_start

theorem sz_two (z : Int) (n : Nat) (h0 : 0 ≤ z) (h1 : z ≤ 1048576) : szR z n = -1 ∨ (0 ≤ szR z n ∧ szR z n ≤ 1048576 ∧ (n : Int) ≤ 1048576) := by
 by_cases h2 : (n : Int) ≤ z
 ·right
  have e : szR z n = z - n := by unfold szR; rw [if_pos h2]
  rw [e]; omega
 ·left; unfold szR; rw [if_neg h2]
theorem iSortD (W : World) (A1 : Option Addr) (n c : Nat) (L : List Dm) (hL : L.length = n) (hn : (n : Int) ≤ 1048576) (hf : Fits L) (hr : RowM W W.heap.size A1 L) : Calls Tryz.prog 71 #[.slice A1 n c] W (DmPost (sortM L) (sortM L).length W) :=
 iSortDominoes W A1 n c W.heap.size L hL hn hf hr (Nat.le_refl _)
set_option maxRecDepth 100000 in
set_option maxHeartbeats 8000000 in
theorem lawLowerOf
  (w : World) (A : Option Addr) (n cap : Nat) (xs : List Int) (hx : xs.length = n) (hn : (n : Int) ≤ 9223372036854775807) (h : RowB w w.heap.size A xs)
  (A' : Option Addr) (n' cap' : Nat) (L : List Dm) (hL : L.length = n') (hn' : (n' : Int) ≤ 9223372036854775807) (h' : RowM w w.heap.size A' L) (hf : Fits L)
  (A'' : Option Addr) (n'' cap'' : Nat) (M : List Dm) (hM : M.length = n'') (hn'' : (n'' : Int) ≤ 9223372036854775807) (h'' : RowM w w.heap.size A'' M) (hf' : Fits M) :
  Calls Tryz.prog 3 #[.agg #[.slice A n cap], .slice A' n' cap', .slice A'' n'' cap''] w (Dom.Yes w) := by
 have T0 := Lib.hid (fun T => rb_start (T := T) (.slice A n cap) w)
 have HZ := Lib.hid (fun W => szRegion A n cap 1048576 (by omega) (by omega) hn W)
 by_cases hs : (n : Int) ≤ 1048576
 ·obtain ⟨y0, y1⟩ := szR_yes hs
  have HY := Lib.hid (fun W => szDominoS A' n' cap' (szR 1048576 n) y0 y1 hn' W)
  have hzz := sz_two (szR 1048576 n) n' y0 y1
  have HY2 := Lib.hid (fun (h0 : 0 ≤ szR (szR 1048576 n) n') (h1 : szR (szR 1048576 n) n' ≤ 1048576) W => szDominoS A'' n'' cap'' (szR (szR 1048576 n) n') h0 h1 hn'' W)
  have hzz2 := Lib.hid (fun (h0 : 0 ≤ szR (szR 1048576 n) n') (h1 : szR (szR 1048576 n) n' ≤ 1048576) => sz_two (szR (szR 1048576 n) n') n'' h0 h1)
  have HTo := Lib.hid (fun W (hb : Below w.heap.size w W) => toRegion W A n cap w.heap.size xs hx hs (h.below hb (Nat.le_refl _)) hb.size)
  have HTm := Lib.hid (fun (hs' : (n' : Int) ≤ 1048576) W (hb : Below w.heap.size w W) => toDominoS W A' n' cap' w.heap.size L hL hs' (h'.below hb (Nat.le_refl _)) hb.size)
  have HTn := Lib.hid (fun (hs' : (n'' : Int) ≤ 1048576) W (hb : Below w.heap.size w W) => toDominoS W A'' n'' cap'' w.heap.size M hM hs' (h''.below hb (Nat.le_refl _)) hb.size)
  have HSp := Lib.hid (fun W A c (hr : RowB W W.heap.size A xs) A' c' (hr' : RowM W W.heap.size A' L) A'' c'' (hr'' : RowM W W.heap.size A'' M) => sLowerOf W A n c W.heap.size xs hx hn hr (Nat.le_refl _) A' n' c' W.heap.size L hL hn' hr' (Nat.le_refl _) A'' n'' c'' W.heap.size M hM hn'' hr'' (Nat.le_refl _))
  have HIm := Lib.hid (fun (hs1 : (n' : Int) ≤ 1048576) (hs2 : (n'' : Int) ≤ 1048576) W (hb : Below w.heap.size w W) A c (hr : RowB W W.heap.size A xs) A' c' (hr' : RowM W W.heap.size A' L) (hc' : n' ≤ c') A'' c'' (hr'' : RowM W W.heap.size A'' M) (hc'' : n'' ≤ c'') => iLowerOf W A n c W.heap.size xs hx hn hr (Nat.le_refl _) A' n' c' W.heap.size L hL hn' hf hr' (Nat.le_refl _) hc' A'' n'' c'' W.heap.size M hM hn'' hf' hr'' (Nat.le_refl _) hc'' iSortD)
  have HEr := Lib.hid (fun W A A' c c' (h1 : RowB W W.heap.size A xs) (h2 : RowB W W.heap.size A' xs) => eqRegion W A A' n c c' _ _ xs hx hn h1 h2 (Nat.le_refl _) (Nat.le_refl _))
  have HEm := Lib.hid (fun W A A' c c' (h1 : RowM W W.heap.size A L) (h2 : RowM W W.heap.size A' L) => eqDoms W A A' n' c c' W.heap.size W.heap.size L hL hn' h1 h2 (Nat.le_refl _) (Nat.le_refl _))
  have HEn := Lib.hid (fun W A A' c c' (h1 : RowM W W.heap.size A M) (h2 : RowM W W.heap.size A' M) => eqDoms W A A' n'' c c' W.heap.size W.heap.size M hM hn'' h1 h2 (Nat.le_refl _) (Nat.le_refl _))
  have HUq := Lib.hid (fun cs cs' b b' h1 h2 => joinR_uniq (m := min) (xs := xs) (L := L) (M := M) (N := cs) (N' := cs') (ok := b) (ok' := b') h1 h2)
  have HLn := Lib.hid (fun cs b h => joinR_len (m := min) (xs := xs) (L := L) (M := M) (N := cs) (ok := b) h)
  unfold JoiP at HSp HIm
  generalize joinR min xs L M = TT at HSp HIm HUq HLn
  obtain ⟨k1, hk1⟩ : ∃ k1 : Int, k1 = ((1 + n : Nat) : Int) := ⟨_, rfl⟩
  have HMx := Lib.hid (fun W lo hi A c (hr : RowIn W lo hi 3 1 (.slice A n c) n (ints xs)) => markReg1 W lo hi n c A xs k1 hk1 (by omega) hr)
  obtain ⟨k2, hk2⟩ : ∃ k2 : Int, k2 = ((1 + n + 3 * n' : Nat) : Int) := ⟨_, rfl⟩
  have HMd := Lib.hid (fun (hs' : (n' : Int) ≤ 1048576) W lo hi A c (hr : RowIn W lo hi 43 3 (.slice A n' c) n' (rowM L)) => markDomsN W lo hi (1 + n) n' c A L k1 k2 hk1 hk2 (by omega) hr)
  obtain ⟨k3, hk3⟩ : ∃ k3 : Int, k3 = ((1 + n + 3 * n' + 3 * n'' : Nat) : Int) := ⟨_, rfl⟩
  have hk30 : ¬ k3 < 0 := by omega
  have HMe := Lib.hid (fun (hs1 : (n' : Int) ≤ 1048576) (hs2 : (n'' : Int) ≤ 1048576) W lo hi A c (hr : RowIn W lo hi 43 3 (.slice A n'' c) n'' (rowM M)) => markDomsN W lo hi (1 + n + 3 * n') n'' c A M k2 k3 hk2 hk3 (by omega) hr)
  generalize szR (szR 1048576 n) n' = zz at HY hzz HY2 hzz2
  generalize szR 1048576 n = z at HZ HY y0
  have z2 : ¬ z < 0 := by omega
  clear hs hx hn h hL hn' h' hf y1 hM hn'' h'' hf' hk1 hk2 hk3
  go_enter Tryz.func3, Tryz.ntmps3
  go_wp2_with fail
  have T1 := T0.out 24
  clear T0
  refine (HZ.out _).mono ?_
  rintro e w1 ⟨rfl, hb1⟩
  have T2 := T1.on hb1
  clear T1 hb1 HZ
  go_wp2_with fail
  refine (HY.out _).mono ?_
  rintro e w1 ⟨rfl, rfl⟩
  clear HY
  rcases hzz with rfl | ⟨zz0, zz1, hs1⟩
  ·have hb := T2.1
   go_wp2
   go_ret
   exact ⟨rfl, hb⟩
  ·have HTm := Lib.hid (fun W hb => HTm.out hs1 W hb)
   have HMd := Lib.hid (fun W lo hi A c hr => HMd.out hs1 W lo hi A c hr)
   have HIm := Lib.hid (fun h2 => HIm.out hs1 h2)
   have HMe := Lib.hid (fun h2 => HMe.out hs1 h2)
   have HY2 := Lib.hid (HY2.out zz0 zz1)
   have hzz2 := hzz2.out zz0 zz1
   have zz2 : ¬ zz < 0 := by omega
   generalize szR zz n'' = z3 at HY2 hzz2
   clear hs1
   go_wp2_with fail
   refine (HY2.out _).mono ?_
   rintro e w1 ⟨rfl, rfl⟩
   clear HY2
   rcases hzz2 with rfl | ⟨z30, z31, hs2⟩
   ·have hb := T2.1
    go_wp2
    go_ret
    exact ⟨rfl, hb⟩
   have HTn := Lib.hid (fun W hb => HTn.out hs2 W hb)
   have HIm := Lib.hid (HIm.out hs2)
   have HMe := Lib.hid (HMe.out hs2)
   have z32 : ¬ z3 < 0 := by omega
   clear hs2
   obtain ⟨_, _, c0⟩ := id T2
   go_wp2_with fail
   refine (HTo.out _ T2.1).mono ?_
   rintro e w2 ⟨A1, cap1, rfl, hown, hb2⟩
   have T3 := T2.on hb2
   have R1 := rowB_own hown
   clear T2 hown hb2 c0
   go_wp2_with fail
   refine (HTm.out _ T3.1).mono ?_
   rintro e w3 ⟨A2, cap2, rfl, _, hown, hb3⟩
   have T4 := T3.on hb3
   have R1 := (R1.below hb3 (Nat.le_refl _)).mono hb3.size
   have R2 := rowM_own hown
   clear T3 hown hb3
   go_wp2_with fail
   refine (HTn.out _ T4.1).mono ?_
   rintro e w3 ⟨A9, cap9, rfl, _, hown, hb3⟩
   have T4 := T4.on hb3
   have R1 := (R1.below hb3 (Nat.le_refl _)).mono hb3.size
   have R2 := (R2.below hb3 (Nat.le_refl _)).mono hb3.size
   have R3 := rowM_own hown
   clear hown hb3
   go_wp2_with fail
   refine (HSp.out _ _ _ R1 _ _ R2 _ _ R3).mono ?_
   rintro e w4 ⟨U, b0, Aw, capw, rfl, hown, hnb, _, hb4⟩
   have HNb := Lib.hid hnb
   obtain ⟨m, hm⟩ : ∃ m, m = U.length := ⟨_, rfl⟩
   have HMs := Lib.hid hm
   rw [← hm] at hown ⊢
   have hUl : m ≤ 32 := by
    rw [hm]
    exact HLn.out U b0 hnb
   have HE := Lib.hid (fun (W : World) (B B' : Option Addr) (c c' : Nat) (h1 : RowM W W.heap.size B U) (h2 : RowM W W.heap.size B' U) => eqDoms W B B' m c c' W.heap.size W.heap.size U hm.symm (by omega) h1 h2 (Nat.le_refl _) (Nat.le_refl _))
   obtain ⟨g1, hg1⟩ : ∃ g1 : Int, g1 = ((1 + 3 * m : Nat) : Int) := ⟨_, rfl⟩
   have hg0 : ¬ g1 < 0 := by omega
   have hgg : (g1 != g1) = false := by simp
   have hbb : (b0 != b0) = false := by simp
   have HMg := Lib.hid (fun W lo hi A c (hr : RowIn W lo hi 43 3 (.slice A m c) m (rowM U)) => markDomsN W lo hi 1 m c A U 1 g1 (by omega) hg1 (by omega) hr)
   have HHg := Lib.hid (fun W A c (hr : RowM W W.heap.size A (marksM 1 m)) => heldDomsN W 1 m c W.heap.size A 1 g1 (by omega) hg1 (by omega) hr)
   clear hnb hm hg1 hUl HLn
   have T5 := T4.on hb4
   have HW := rowIn_new hown
   have hl3 := T4.2.1
   have hw4 := hb4.size
   clear T4 hb4 HSp R1 R2 R3 hown
   obtain ⟨_, _, c0⟩ := id T5
   go_wp2_with fail
   refine (HTo.out _ T5.1).mono ?_
   rintro e w5 ⟨A3, cap3, rfl, hown, hb5⟩
   have T6 := T5.on hb5
   have hw5 := hb5.size
   have S0 := fun T => ls_start (T := T) T6 (rowIn_new hown) (HW.on hb5)
   clear T5 hb5 c0 T6 hown HW
   go_upto_region 13 with fail
   have S1 := S0 31
   have hp1 : (w5.alloc (.cells #[.slice A3 n cap3] 31)).heap.size = w5.heap.size + 1 := by simp
   clear S0
   generalize w5.alloc (.cells #[.slice A3 n cap3] 31) = W5 at S1 hp1 ⊢
   generalize hpp : w5.heap.size = p at S1 hp1 hw5 ⊢
   go_wp2_with fail
   refine (HTm.out _ S1.1).mono ?_
   rintro e w6 ⟨A4, cap4, rfl, hc4, hown, hb6⟩
   have S := S1.on hb6
   have D := rowIn_new hown
   rw [hp1] at D
   have hw6 := hb6.size
   rw [hp1] at hw6
   clear S1 hown hb6 hp1 hpp
   go_wp2_with fail
   refine (HTn.out _ S.1).mono ?_
   rintro e w6b ⟨A10, cap10, rfl, hc10, hown, hb6⟩
   have S := S.on hb6
   have D := D.on hb6
   have E := rowIn_new hown
   have hw6b := hb6.size
   clear hown hb6
   obtain ⟨_, _, _, c1, _⟩ := id S
   go_wp2_with fail
   refine (HIm.out _ S.1 _ _ (rowB_own S.x.1) _ _ (rowM_own D.1) hc4 _ _ (rowM_own E.1) hc10).mono ?_
   rintro e w7 ⟨U', b', Ag, capg, rfl, hown, hnb, _, hb7⟩
   obtain ⟨rfl, rfl⟩ := HUq.out _ _ _ _ HNb.out hnb
   rw [← HMs.out] at hown ⊢
   have S := S.on hb7
   have D := D.on hb7
   have E := E.on hb7
   have G := rowIn_new hown
   have hw7 := hb7.size
   clear hb7 c1 hown hnb
   go_wp2_with fail
   refine (HE.out _ _ _ _ _ (rowM_own G.1) (rowM_own S.ans.1)).mono ?_
   rintro e w8 ⟨rfl, hb8⟩
   have S := S.on hb8
   have D := D.on hb8
   have E := E.on hb8
   have G := G.on hb8
   have hw8 := hb8.size
   clear hb8
   go_upto_region 18 with fail
   refine wp_region_noPanic ?_
   refine wp_region_held_drew (S := (fun w' => w'.cell? ⟨w.heap.size, 0, none⟩ = some (.slice A n cap) ∧ w'.cell? ⟨p, 0, none⟩ = some (.slice A3 n cap3))) (by kernel_rfl) (⟨S.drew.2.2.1, S.drew.2.2.2.1⟩) (fun hHeld => ?_)
   refine wpAnyH_take (i := 0) (v := ?_) rfl (by kernel_rfl) (by kernel_rfl) (by kernel_rfl) (fun _ _ _ h => h) (Or.inl ⟨by rfl, ?_⟩) (by assumption) ?_
   rotate_left
   ·(intro w' hS; (try dsimp only at hS); go_simp; try with_reducible rfl)
   try simp only [Act.put, List.getElem_toArray, List.getElem_cons_succ, List.getElem_cons_zero, List.setIfInBounds_toArray, List.set_cons_zero, List.set_cons_succ]
   refine wpAnyH_take (i := 1) (v := ?_) rfl (by kernel_rfl) (by kernel_rfl) (by kernel_rfl) (fun _ _ _ h => h) (Or.inl ⟨by rfl, ?_⟩) (by assumption) ?_
   rotate_left
   ·(intro w' hS; (try dsimp only at hS); go_simp; try with_reducible rfl)
   try simp only [Act.put, List.getElem_toArray, List.getElem_cons_succ, List.getElem_cons_zero, List.setIfInBounds_toArray, List.set_cons_zero, List.set_cons_succ]
   refine wpAnyH_ready (rs := [2]) (by kernel_rfl) (by simp) ?_
   refine AllReadyH.cons rfl (fun K hK => ?_) AllReadyH.nil
   go_simp
   refine (HTo.out _ S.drew.1).mono ?_
   rintro e wx ⟨A5, cap5, rfl, hown, hb1⟩
   have S := S.drew.on hb1
   have D := D.drew.on hb1
   have E := E.drew.on hb1
   have G := G.drew.on hb1
   have hw9 := hb1.size
   have hdr : w8.drew.heap.size = w8.heap.size := rfl
   rw [hdr] at hw9
   have R5 := rowB_own hown
   clear hb1 hown hdr
   go_wp2_with fail
   refine hK.out _ _ (⟨S.2.2.1, S.2.2.2.1⟩) (fun hHeld => ?_)
   clear hK K
   try simp only [Act.put, List.getElem_toArray, List.getElem_cons_succ, List.getElem_cons_zero, List.setIfInBounds_toArray, List.set_cons_zero, List.set_cons_succ]
   refine wpAnyH_ready (rs := [3]) (by kernel_rfl) (by simp) ?_
   refine AllReadyH.cons rfl (fun K hK => ?_) AllReadyH.nil
   go_simp
   refine (HEr.out _ _ _ _ _ (rowB_own S.x.1) R5).mono ?_
   rintro e wx ⟨rfl, hb2⟩
   have S := S.on hb2
   have D := D.on hb2
   have E := E.on hb2
   have G := G.on hb2
   have hw10 := hb2.size
   clear hb2 R5 HEr
   go_wp2_with fail
   refine hK.out _ _ (⟨S.2.2.1, S.2.2.2.1⟩) (fun hHeld => ?_)
   clear hK K
   try simp only [Act.put, List.getElem_toArray, List.getElem_cons_succ, List.getElem_cons_zero, List.setIfInBounds_toArray, List.set_cons_zero, List.set_cons_succ]
   refine wpAnyH_take (i := 4) (v := ?_) rfl (by kernel_rfl) (by kernel_rfl) (by kernel_rfl) (fun _ _ _ h => h) (Or.inl ⟨by rfl, ?_⟩) (by assumption) ?_
   rotate_left
   ·(intro w' hS; (try dsimp only at hS); go_simp; try with_reducible rfl)
   try simp only [Act.put, List.getElem_toArray, List.getElem_cons_succ, List.getElem_cons_zero, List.setIfInBounds_toArray, List.set_cons_zero, List.set_cons_succ]
   refine wpAnyH_done (by kernel_rfl) ?_ _
   refine NoPanic.normal ?_
   clear hHeld
   generalize wx = W10 at S D E G hw10 ⊢
   go_wp2_with fail
   refine (HTm.out _ S.1).mono ?_
   rintro e v11 ⟨A611, cap611, rfl, _, hown, hb11⟩
   have S := S.on hb11
   have D := D.on hb11
   have E := E.on hb11
   have G := G.on hb11
   have hv11 := hb11.size
   have R6 := rowM_own hown
   clear hb11 hown
   go_wp2_with fail
   refine (HEm.out _ _ _ _ _ (rowM_own D.1) R6).mono ?_
   rintro e x11 ⟨rfl, hb12⟩
   have S := S.on hb12
   have D := D.on hb12
   have E := E.on hb12
   have G := G.on hb12
   have hx11 := hb12.size
   clear hb12 R6 HEm
   go_wp2_with fail
   refine (HTn.out _ S.1).mono ?_
   rintro e v12 ⟨A612, cap612, rfl, _, hown, hb11⟩
   have S := S.on hb11
   have D := D.on hb11
   have E := E.on hb11
   have G := G.on hb11
   have hv12 := hb11.size
   have R6 := rowM_own hown
   clear hb11 hown
   go_wp2_with fail
   refine (HEn.out _ _ _ _ _ (rowM_own E.1) R6).mono ?_
   rintro e x12 ⟨rfl, hb12⟩
   have S := S.on hb12
   have D := D.on hb12
   have E := E.on hb12
   have G := G.on hb12
   have hx12 := hb12.size
   clear hb12 R6 HEn
   obtain ⟨_, _, _, c1, _⟩ := id S
   go_wp2_with fail
   refine (HMx.out _ _ _ _ _ S.x).mono ?_
   rintro e w13 ⟨rfl, hx13, ha13⟩
   have S := S.marked hx13 ha13 (by omega) (Nat.le_refl _) (Nat.le_refl _)
   have D := D.apart ha13 (.inr (by omega))
   have E := E.apart ha13 (.inr (by omega))
   have G := G.apart ha13 (.inr (by omega))
   have hw13 := ha13.size
   clear hx13 ha13 HMx c1
   go_wp2_with fail
   refine (HMd.out _ _ _ _ _ D).mono ?_
   rintro e w14 ⟨rfl, _, ha14⟩
   have S := S.onB (ha14.below (B := p + 1) (Nat.le_refl _) (by omega)) (by omega) (by omega) (by omega) (by omega)
   have E := E.apart ha14 (.inr (by omega))
   have G := G.apart ha14 (.inr (by omega))
   have hw14 := ha14.size
   clear D ha14 HMd
   go_wp2_with fail
   refine (HMe.out _ _ _ _ _ E).mono ?_
   rintro e w14b ⟨rfl, _, ha14⟩
   have S := S.onB (ha14.below (B := p + 1) (by omega) (by omega)) (by omega) (by omega) (by omega) (by omega)
   have G := G.apart ha14 (.inr (by omega))
   have hw14b := ha14.size
   clear E ha14 HMe
   go_wp2_with fail
   refine (HE.out _ _ _ _ _ (rowM_own G.1) (rowM_own S.ans.1)).mono ?_
   rintro e w15 ⟨rfl, hb15⟩
   have S := S.on hb15
   have G := G.on hb15
   have hw15 := hb15.size
   clear hb15
   go_wp2_with fail
   refine (HMg.out _ _ _ _ _ G).mono ?_
   rintro e w16 ⟨rfl, hg16, ha16⟩
   have hb16 := ha16.below (B := w6b.heap.size) (Nat.le_refl _) (by omega)
   have S := S.onB hb16 (by omega) (by omega) (by omega) (by omega)
   have G := hg16
   clear hg16 hb16 ha16 HMg
   go_wp2_with fail
   refine (HHg.out _ _ _ (rowM_own G.1)).mono ?_
   rintro e w17 ⟨rfl, rfl⟩
   obtain ⟨_, _, c0, _⟩ := id S
   go_wp2_with fail
   refine (HTo.out _ S.1).mono ?_
   rintro e w18 ⟨A7, cap7, rfl, hown, hb18⟩
   have S := S.on hb18
   have G := G.on hb18
   have R7 := rowB_own hown
   clear hown hb18 c0
   go_wp2_with fail
   refine (HTm.out _ S.1).mono ?_
   rintro e w19 ⟨A8, cap8, rfl, hc8, hown, hb19⟩
   have S := S.on hb19
   have G := G.on hb19
   have R7 := (R7.below hb19 (Nat.le_refl _)).mono hb19.size
   have R8 := rowM_own hown
   clear hown hb19
   go_wp2_with fail
   refine (HTn.out _ S.1).mono ?_
   rintro e w19b ⟨A11, cap11, rfl, hc11, hown, hb19⟩
   have S := S.on hb19
   have G := G.on hb19
   have R7 := (R7.below hb19 (Nat.le_refl _)).mono hb19.size
   have R8 := (R8.below hb19 (Nat.le_refl _)).mono hb19.size
   have R9 := rowM_own hown
   clear hown hb19
   go_wp2_with fail
   refine (HIm.out _ S.1 _ _ R7 _ _ R8 hc8 _ _ R9 hc11).mono ?_
   rintro e w20 ⟨U'', b'', Ah, caph, rfl, hown, hnb, _, hb20⟩
   obtain ⟨rfl, rfl⟩ := HUq.out _ _ _ _ HNb.out hnb
   rw [← HMs.out] at hown ⊢
   have S := S.on hb20
   have G := G.on hb20
   have HH := rowM_own hown
   clear hown hb20 R7 R8 R9 hnb
   go_wp2_with fail
   refine (HE.out _ _ _ _ _ HH (rowM_own S.ans.1)).mono ?_
   rintro e w21 ⟨rfl, hb21⟩
   have G := G.on hb21
   have hb := (S.on hb21).1
   clear S hb21 HH
   go_wp2_with fail
   refine (HHg.out _ _ _ (rowM_own G.1)).mono ?_
   rintro e w22 ⟨rfl, rfl⟩
   go_wp2
   go_ret
   exact ⟨rfl, hb⟩
 ·rw [szR_no hs] at HZ
  clear hs hx hn h hL hn' h' hf hM hn'' h'' hf'
  go_enter Tryz.func3, Tryz.ntmps3
  go_wp2_with fail
  have T1 := T0.out 24
  clear T0
  refine (HZ.out _).mono ?_
  rintro e w1 ⟨rfl, hb1⟩
  have hb := (T1.on hb1).1
  clear T1 hb1 HZ
  go_wp2
  go_ret
  exact ⟨rfl, hb⟩

set_option maxRecDepth 100000 in
set_option maxHeartbeats 8000000 in
theorem lawHigherOf
  (w : World) (A : Option Addr) (n cap : Nat) (xs : List Int) (hx : xs.length = n) (hn : (n : Int) ≤ 9223372036854775807) (h : RowB w w.heap.size A xs)
  (A' : Option Addr) (n' cap' : Nat) (L : List Dm) (hL : L.length = n') (hn' : (n' : Int) ≤ 9223372036854775807) (h' : RowM w w.heap.size A' L) (hf : Fits L)
  (A'' : Option Addr) (n'' cap'' : Nat) (M : List Dm) (hM : M.length = n'') (hn'' : (n'' : Int) ≤ 9223372036854775807) (h'' : RowM w w.heap.size A'' M) (hf' : Fits M) :
  Calls Tryz.prog 4 #[.agg #[.slice A n cap], .slice A' n' cap', .slice A'' n'' cap''] w (Dom.Yes w) := by
 have T0 := Lib.hid (fun T => rb_start (T := T) (.slice A n cap) w)
 have HZ := Lib.hid (fun W => szRegion A n cap 1048576 (by omega) (by omega) hn W)
 by_cases hs : (n : Int) ≤ 1048576
 ·obtain ⟨y0, y1⟩ := szR_yes hs
  have HY := Lib.hid (fun W => szDominoS A' n' cap' (szR 1048576 n) y0 y1 hn' W)
  have hzz := sz_two (szR 1048576 n) n' y0 y1
  have HY2 := Lib.hid (fun (h0 : 0 ≤ szR (szR 1048576 n) n') (h1 : szR (szR 1048576 n) n' ≤ 1048576) W => szDominoS A'' n'' cap'' (szR (szR 1048576 n) n') h0 h1 hn'' W)
  have hzz2 := Lib.hid (fun (h0 : 0 ≤ szR (szR 1048576 n) n') (h1 : szR (szR 1048576 n) n' ≤ 1048576) => sz_two (szR (szR 1048576 n) n') n'' h0 h1)
  have HTo := Lib.hid (fun W (hb : Below w.heap.size w W) => toRegion W A n cap w.heap.size xs hx hs (h.below hb (Nat.le_refl _)) hb.size)
  have HTm := Lib.hid (fun (hs' : (n' : Int) ≤ 1048576) W (hb : Below w.heap.size w W) => toDominoS W A' n' cap' w.heap.size L hL hs' (h'.below hb (Nat.le_refl _)) hb.size)
  have HTn := Lib.hid (fun (hs' : (n'' : Int) ≤ 1048576) W (hb : Below w.heap.size w W) => toDominoS W A'' n'' cap'' w.heap.size M hM hs' (h''.below hb (Nat.le_refl _)) hb.size)
  have HSp := Lib.hid (fun W A c (hr : RowB W W.heap.size A xs) A' c' (hr' : RowM W W.heap.size A' L) A'' c'' (hr'' : RowM W W.heap.size A'' M) => sHigherOf W A n c W.heap.size xs hx hn hr (Nat.le_refl _) A' n' c' W.heap.size L hL hn' hr' (Nat.le_refl _) A'' n'' c'' W.heap.size M hM hn'' hr'' (Nat.le_refl _))
  have HIm := Lib.hid (fun (hs1 : (n' : Int) ≤ 1048576) (hs2 : (n'' : Int) ≤ 1048576) W (hb : Below w.heap.size w W) A c (hr : RowB W W.heap.size A xs) A' c' (hr' : RowM W W.heap.size A' L) (hc' : n' ≤ c') A'' c'' (hr'' : RowM W W.heap.size A'' M) (hc'' : n'' ≤ c'') => iHigherOf W A n c W.heap.size xs hx hn hr (Nat.le_refl _) A' n' c' W.heap.size L hL hn' hf hr' (Nat.le_refl _) hc' A'' n'' c'' W.heap.size M hM hn'' hf' hr'' (Nat.le_refl _) hc'' iSortD)
  have HEr := Lib.hid (fun W A A' c c' (h1 : RowB W W.heap.size A xs) (h2 : RowB W W.heap.size A' xs) => eqRegion W A A' n c c' _ _ xs hx hn h1 h2 (Nat.le_refl _) (Nat.le_refl _))
  have HEm := Lib.hid (fun W A A' c c' (h1 : RowM W W.heap.size A L) (h2 : RowM W W.heap.size A' L) => eqDoms W A A' n' c c' W.heap.size W.heap.size L hL hn' h1 h2 (Nat.le_refl _) (Nat.le_refl _))
  have HEn := Lib.hid (fun W A A' c c' (h1 : RowM W W.heap.size A M) (h2 : RowM W W.heap.size A' M) => eqDoms W A A' n'' c c' W.heap.size W.heap.size M hM hn'' h1 h2 (Nat.le_refl _) (Nat.le_refl _))
  have HUq := Lib.hid (fun cs cs' b b' h1 h2 => joinR_uniq (m := max) (xs := xs) (L := L) (M := M) (N := cs) (N' := cs') (ok := b) (ok' := b') h1 h2)
  have HLn := Lib.hid (fun cs b h => joinR_len (m := max) (xs := xs) (L := L) (M := M) (N := cs) (ok := b) h)
  unfold JoiP at HSp HIm
  generalize joinR max xs L M = TT at HSp HIm HUq HLn
  obtain ⟨k1, hk1⟩ : ∃ k1 : Int, k1 = ((1 + n : Nat) : Int) := ⟨_, rfl⟩
  have HMx := Lib.hid (fun W lo hi A c (hr : RowIn W lo hi 3 1 (.slice A n c) n (ints xs)) => markReg1 W lo hi n c A xs k1 hk1 (by omega) hr)
  obtain ⟨k2, hk2⟩ : ∃ k2 : Int, k2 = ((1 + n + 3 * n' : Nat) : Int) := ⟨_, rfl⟩
  have HMd := Lib.hid (fun (hs' : (n' : Int) ≤ 1048576) W lo hi A c (hr : RowIn W lo hi 43 3 (.slice A n' c) n' (rowM L)) => markDomsN W lo hi (1 + n) n' c A L k1 k2 hk1 hk2 (by omega) hr)
  obtain ⟨k3, hk3⟩ : ∃ k3 : Int, k3 = ((1 + n + 3 * n' + 3 * n'' : Nat) : Int) := ⟨_, rfl⟩
  have hk30 : ¬ k3 < 0 := by omega
  have HMe := Lib.hid (fun (hs1 : (n' : Int) ≤ 1048576) (hs2 : (n'' : Int) ≤ 1048576) W lo hi A c (hr : RowIn W lo hi 43 3 (.slice A n'' c) n'' (rowM M)) => markDomsN W lo hi (1 + n + 3 * n') n'' c A M k2 k3 hk2 hk3 (by omega) hr)
  generalize szR (szR 1048576 n) n' = zz at HY hzz HY2 hzz2
  generalize szR 1048576 n = z at HZ HY y0
  have z2 : ¬ z < 0 := by omega
  clear hs hx hn h hL hn' h' hf y1 hM hn'' h'' hf' hk1 hk2 hk3
  go_enter Tryz.func4, Tryz.ntmps4
  go_wp2_with fail
  have T1 := T0.out 24
  clear T0
  refine (HZ.out _).mono ?_
  rintro e w1 ⟨rfl, hb1⟩
  have T2 := T1.on hb1
  clear T1 hb1 HZ
  go_wp2_with fail
  refine (HY.out _).mono ?_
  rintro e w1 ⟨rfl, rfl⟩
  clear HY
  rcases hzz with rfl | ⟨zz0, zz1, hs1⟩
  ·have hb := T2.1
   go_wp2
   go_ret
   exact ⟨rfl, hb⟩
  ·have HTm := Lib.hid (fun W hb => HTm.out hs1 W hb)
   have HMd := Lib.hid (fun W lo hi A c hr => HMd.out hs1 W lo hi A c hr)
   have HIm := Lib.hid (fun h2 => HIm.out hs1 h2)
   have HMe := Lib.hid (fun h2 => HMe.out hs1 h2)
   have HY2 := Lib.hid (HY2.out zz0 zz1)
   have hzz2 := hzz2.out zz0 zz1
   have zz2 : ¬ zz < 0 := by omega
   generalize szR zz n'' = z3 at HY2 hzz2
   clear hs1
   go_wp2_with fail
   refine (HY2.out _).mono ?_
   rintro e w1 ⟨rfl, rfl⟩
   clear HY2
   rcases hzz2 with rfl | ⟨z30, z31, hs2⟩
   ·have hb := T2.1
    go_wp2
    go_ret
    exact ⟨rfl, hb⟩
   have HTn := Lib.hid (fun W hb => HTn.out hs2 W hb)
   have HIm := Lib.hid (HIm.out hs2)
   have HMe := Lib.hid (HMe.out hs2)
   have z32 : ¬ z3 < 0 := by omega
   clear hs2
   obtain ⟨_, _, c0⟩ := id T2
   go_wp2_with fail
   refine (HTo.out _ T2.1).mono ?_
   rintro e w2 ⟨A1, cap1, rfl, hown, hb2⟩
   have T3 := T2.on hb2
   have R1 := rowB_own hown
   clear T2 hown hb2 c0
   go_wp2_with fail
   refine (HTm.out _ T3.1).mono ?_
   rintro e w3 ⟨A2, cap2, rfl, _, hown, hb3⟩
   have T4 := T3.on hb3
   have R1 := (R1.below hb3 (Nat.le_refl _)).mono hb3.size
   have R2 := rowM_own hown
   clear T3 hown hb3
   go_wp2_with fail
   refine (HTn.out _ T4.1).mono ?_
   rintro e w3 ⟨A9, cap9, rfl, _, hown, hb3⟩
   have T4 := T4.on hb3
   have R1 := (R1.below hb3 (Nat.le_refl _)).mono hb3.size
   have R2 := (R2.below hb3 (Nat.le_refl _)).mono hb3.size
   have R3 := rowM_own hown
   clear hown hb3
   go_wp2_with fail
   refine (HSp.out _ _ _ R1 _ _ R2 _ _ R3).mono ?_
   rintro e w4 ⟨U, b0, Aw, capw, rfl, hown, hnb, _, hb4⟩
   have HNb := Lib.hid hnb
   obtain ⟨m, hm⟩ : ∃ m, m = U.length := ⟨_, rfl⟩
   have HMs := Lib.hid hm
   rw [← hm] at hown ⊢
   have hUl : m ≤ 32 := by
    rw [hm]
    exact HLn.out U b0 hnb
   have HE := Lib.hid (fun (W : World) (B B' : Option Addr) (c c' : Nat) (h1 : RowM W W.heap.size B U) (h2 : RowM W W.heap.size B' U) => eqDoms W B B' m c c' W.heap.size W.heap.size U hm.symm (by omega) h1 h2 (Nat.le_refl _) (Nat.le_refl _))
   obtain ⟨g1, hg1⟩ : ∃ g1 : Int, g1 = ((1 + 3 * m : Nat) : Int) := ⟨_, rfl⟩
   have hg0 : ¬ g1 < 0 := by omega
   have hgg : (g1 != g1) = false := by simp
   have hbb : (b0 != b0) = false := by simp
   have HMg := Lib.hid (fun W lo hi A c (hr : RowIn W lo hi 43 3 (.slice A m c) m (rowM U)) => markDomsN W lo hi 1 m c A U 1 g1 (by omega) hg1 (by omega) hr)
   have HHg := Lib.hid (fun W A c (hr : RowM W W.heap.size A (marksM 1 m)) => heldDomsN W 1 m c W.heap.size A 1 g1 (by omega) hg1 (by omega) hr)
   clear hnb hm hg1 hUl HLn
   have T5 := T4.on hb4
   have HW := rowIn_new hown
   have hl3 := T4.2.1
   have hw4 := hb4.size
   clear T4 hb4 HSp R1 R2 R3 hown
   obtain ⟨_, _, c0⟩ := id T5
   go_wp2_with fail
   refine (HTo.out _ T5.1).mono ?_
   rintro e w5 ⟨A3, cap3, rfl, hown, hb5⟩
   have T6 := T5.on hb5
   have hw5 := hb5.size
   have S0 := fun T => ls_start (T := T) T6 (rowIn_new hown) (HW.on hb5)
   clear T5 hb5 c0 T6 hown HW
   go_upto_region 13 with fail
   have S1 := S0 31
   have hp1 : (w5.alloc (.cells #[.slice A3 n cap3] 31)).heap.size = w5.heap.size + 1 := by simp
   clear S0
   generalize w5.alloc (.cells #[.slice A3 n cap3] 31) = W5 at S1 hp1 ⊢
   generalize hpp : w5.heap.size = p at S1 hp1 hw5 ⊢
   go_wp2_with fail
   refine (HTm.out _ S1.1).mono ?_
   rintro e w6 ⟨A4, cap4, rfl, hc4, hown, hb6⟩
   have S := S1.on hb6
   have D := rowIn_new hown
   rw [hp1] at D
   have hw6 := hb6.size
   rw [hp1] at hw6
   clear S1 hown hb6 hp1 hpp
   go_wp2_with fail
   refine (HTn.out _ S.1).mono ?_
   rintro e w6b ⟨A10, cap10, rfl, hc10, hown, hb6⟩
   have S := S.on hb6
   have D := D.on hb6
   have E := rowIn_new hown
   have hw6b := hb6.size
   clear hown hb6
   obtain ⟨_, _, _, c1, _⟩ := id S
   go_wp2_with fail
   refine (HIm.out _ S.1 _ _ (rowB_own S.x.1) _ _ (rowM_own D.1) hc4 _ _ (rowM_own E.1) hc10).mono ?_
   rintro e w7 ⟨U', b', Ag, capg, rfl, hown, hnb, _, hb7⟩
   obtain ⟨rfl, rfl⟩ := HUq.out _ _ _ _ HNb.out hnb
   rw [← HMs.out] at hown ⊢
   have S := S.on hb7
   have D := D.on hb7
   have E := E.on hb7
   have G := rowIn_new hown
   have hw7 := hb7.size
   clear hb7 c1 hown hnb
   go_wp2_with fail
   refine (HE.out _ _ _ _ _ (rowM_own G.1) (rowM_own S.ans.1)).mono ?_
   rintro e w8 ⟨rfl, hb8⟩
   have S := S.on hb8
   have D := D.on hb8
   have E := E.on hb8
   have G := G.on hb8
   have hw8 := hb8.size
   clear hb8
   go_upto_region 18 with fail
   refine wp_region_noPanic ?_
   refine wp_region_held_drew (S := (fun w' => w'.cell? ⟨w.heap.size, 0, none⟩ = some (.slice A n cap) ∧ w'.cell? ⟨p, 0, none⟩ = some (.slice A3 n cap3))) (by kernel_rfl) (⟨S.drew.2.2.1, S.drew.2.2.2.1⟩) (fun hHeld => ?_)
   refine wpAnyH_take (i := 0) (v := ?_) rfl (by kernel_rfl) (by kernel_rfl) (by kernel_rfl) (fun _ _ _ h => h) (Or.inl ⟨by rfl, ?_⟩) (by assumption) ?_
   rotate_left
   ·(intro w' hS; (try dsimp only at hS); go_simp; try with_reducible rfl)
   try simp only [Act.put, List.getElem_toArray, List.getElem_cons_succ, List.getElem_cons_zero, List.setIfInBounds_toArray, List.set_cons_zero, List.set_cons_succ]
   refine wpAnyH_take (i := 1) (v := ?_) rfl (by kernel_rfl) (by kernel_rfl) (by kernel_rfl) (fun _ _ _ h => h) (Or.inl ⟨by rfl, ?_⟩) (by assumption) ?_
   rotate_left
   ·(intro w' hS; (try dsimp only at hS); go_simp; try with_reducible rfl)
   try simp only [Act.put, List.getElem_toArray, List.getElem_cons_succ, List.getElem_cons_zero, List.setIfInBounds_toArray, List.set_cons_zero, List.set_cons_succ]
   refine wpAnyH_ready (rs := [2]) (by kernel_rfl) (by simp) ?_
   refine AllReadyH.cons rfl (fun K hK => ?_) AllReadyH.nil
   go_simp
   refine (HTo.out _ S.drew.1).mono ?_
   rintro e wx ⟨A5, cap5, rfl, hown, hb1⟩
   have S := S.drew.on hb1
   have D := D.drew.on hb1
   have E := E.drew.on hb1
   have G := G.drew.on hb1
   have hw9 := hb1.size
   have hdr : w8.drew.heap.size = w8.heap.size := rfl
   rw [hdr] at hw9
   have R5 := rowB_own hown
   clear hb1 hown hdr
   go_wp2_with fail
   refine hK.out _ _ (⟨S.2.2.1, S.2.2.2.1⟩) (fun hHeld => ?_)
   clear hK K
   try simp only [Act.put, List.getElem_toArray, List.getElem_cons_succ, List.getElem_cons_zero, List.setIfInBounds_toArray, List.set_cons_zero, List.set_cons_succ]
   refine wpAnyH_ready (rs := [3]) (by kernel_rfl) (by simp) ?_
   refine AllReadyH.cons rfl (fun K hK => ?_) AllReadyH.nil
   go_simp
   refine (HEr.out _ _ _ _ _ (rowB_own S.x.1) R5).mono ?_
   rintro e wx ⟨rfl, hb2⟩
   have S := S.on hb2
   have D := D.on hb2
   have E := E.on hb2
   have G := G.on hb2
   have hw10 := hb2.size
   clear hb2 R5 HEr
   go_wp2_with fail
   refine hK.out _ _ (⟨S.2.2.1, S.2.2.2.1⟩) (fun hHeld => ?_)
   clear hK K
   try simp only [Act.put, List.getElem_toArray, List.getElem_cons_succ, List.getElem_cons_zero, List.setIfInBounds_toArray, List.set_cons_zero, List.set_cons_succ]
   refine wpAnyH_take (i := 4) (v := ?_) rfl (by kernel_rfl) (by kernel_rfl) (by kernel_rfl) (fun _ _ _ h => h) (Or.inl ⟨by rfl, ?_⟩) (by assumption) ?_
   rotate_left
   ·(intro w' hS; (try dsimp only at hS); go_simp; try with_reducible rfl)
   try simp only [Act.put, List.getElem_toArray, List.getElem_cons_succ, List.getElem_cons_zero, List.setIfInBounds_toArray, List.set_cons_zero, List.set_cons_succ]
   refine wpAnyH_done (by kernel_rfl) ?_ _
   refine NoPanic.normal ?_
   clear hHeld
   generalize wx = W10 at S D E G hw10 ⊢
   go_wp2_with fail
   refine (HTm.out _ S.1).mono ?_
   rintro e v11 ⟨A611, cap611, rfl, _, hown, hb11⟩
   have S := S.on hb11
   have D := D.on hb11
   have E := E.on hb11
   have G := G.on hb11
   have hv11 := hb11.size
   have R6 := rowM_own hown
   clear hb11 hown
   go_wp2_with fail
   refine (HEm.out _ _ _ _ _ (rowM_own D.1) R6).mono ?_
   rintro e x11 ⟨rfl, hb12⟩
   have S := S.on hb12
   have D := D.on hb12
   have E := E.on hb12
   have G := G.on hb12
   have hx11 := hb12.size
   clear hb12 R6 HEm
   go_wp2_with fail
   refine (HTn.out _ S.1).mono ?_
   rintro e v12 ⟨A612, cap612, rfl, _, hown, hb11⟩
   have S := S.on hb11
   have D := D.on hb11
   have E := E.on hb11
   have G := G.on hb11
   have hv12 := hb11.size
   have R6 := rowM_own hown
   clear hb11 hown
   go_wp2_with fail
   refine (HEn.out _ _ _ _ _ (rowM_own E.1) R6).mono ?_
   rintro e x12 ⟨rfl, hb12⟩
   have S := S.on hb12
   have D := D.on hb12
   have E := E.on hb12
   have G := G.on hb12
   have hx12 := hb12.size
   clear hb12 R6 HEn
   obtain ⟨_, _, _, c1, _⟩ := id S
   go_wp2_with fail
   refine (HMx.out _ _ _ _ _ S.x).mono ?_
   rintro e w13 ⟨rfl, hx13, ha13⟩
   have S := S.marked hx13 ha13 (by omega) (Nat.le_refl _) (Nat.le_refl _)
   have D := D.apart ha13 (.inr (by omega))
   have E := E.apart ha13 (.inr (by omega))
   have G := G.apart ha13 (.inr (by omega))
   have hw13 := ha13.size
   clear hx13 ha13 HMx c1
   go_wp2_with fail
   refine (HMd.out _ _ _ _ _ D).mono ?_
   rintro e w14 ⟨rfl, _, ha14⟩
   have S := S.onB (ha14.below (B := p + 1) (Nat.le_refl _) (by omega)) (by omega) (by omega) (by omega) (by omega)
   have E := E.apart ha14 (.inr (by omega))
   have G := G.apart ha14 (.inr (by omega))
   have hw14 := ha14.size
   clear D ha14 HMd
   go_wp2_with fail
   refine (HMe.out _ _ _ _ _ E).mono ?_
   rintro e w14b ⟨rfl, _, ha14⟩
   have S := S.onB (ha14.below (B := p + 1) (by omega) (by omega)) (by omega) (by omega) (by omega) (by omega)
   have G := G.apart ha14 (.inr (by omega))
   have hw14b := ha14.size
   clear E ha14 HMe
   go_wp2_with fail
   refine (HE.out _ _ _ _ _ (rowM_own G.1) (rowM_own S.ans.1)).mono ?_
   rintro e w15 ⟨rfl, hb15⟩
   have S := S.on hb15
   have G := G.on hb15
   have hw15 := hb15.size
   clear hb15
   go_wp2_with fail
   refine (HMg.out _ _ _ _ _ G).mono ?_
   rintro e w16 ⟨rfl, hg16, ha16⟩
   have hb16 := ha16.below (B := w6b.heap.size) (Nat.le_refl _) (by omega)
   have S := S.onB hb16 (by omega) (by omega) (by omega) (by omega)
   have G := hg16
   clear hg16 hb16 ha16 HMg
   go_wp2_with fail
   refine (HHg.out _ _ _ (rowM_own G.1)).mono ?_
   rintro e w17 ⟨rfl, rfl⟩
   obtain ⟨_, _, c0, _⟩ := id S
   go_wp2_with fail
   refine (HTo.out _ S.1).mono ?_
   rintro e w18 ⟨A7, cap7, rfl, hown, hb18⟩
   have S := S.on hb18
   have G := G.on hb18
   have R7 := rowB_own hown
   clear hown hb18 c0
   go_wp2_with fail
   refine (HTm.out _ S.1).mono ?_
   rintro e w19 ⟨A8, cap8, rfl, hc8, hown, hb19⟩
   have S := S.on hb19
   have G := G.on hb19
   have R7 := (R7.below hb19 (Nat.le_refl _)).mono hb19.size
   have R8 := rowM_own hown
   clear hown hb19
   go_wp2_with fail
   refine (HTn.out _ S.1).mono ?_
   rintro e w19b ⟨A11, cap11, rfl, hc11, hown, hb19⟩
   have S := S.on hb19
   have G := G.on hb19
   have R7 := (R7.below hb19 (Nat.le_refl _)).mono hb19.size
   have R8 := (R8.below hb19 (Nat.le_refl _)).mono hb19.size
   have R9 := rowM_own hown
   clear hown hb19
   go_wp2_with fail
   refine (HIm.out _ S.1 _ _ R7 _ _ R8 hc8 _ _ R9 hc11).mono ?_
   rintro e w20 ⟨U'', b'', Ah, caph, rfl, hown, hnb, _, hb20⟩
   obtain ⟨rfl, rfl⟩ := HUq.out _ _ _ _ HNb.out hnb
   rw [← HMs.out] at hown ⊢
   have S := S.on hb20
   have G := G.on hb20
   have HH := rowM_own hown
   clear hown hb20 R7 R8 R9 hnb
   go_wp2_with fail
   refine (HE.out _ _ _ _ _ HH (rowM_own S.ans.1)).mono ?_
   rintro e w21 ⟨rfl, hb21⟩
   have G := G.on hb21
   have hb := (S.on hb21).1
   clear S hb21 HH
   go_wp2_with fail
   refine (HHg.out _ _ _ (rowM_own G.1)).mono ?_
   rintro e w22 ⟨rfl, rfl⟩
   go_wp2
   go_ret
   exact ⟨rfl, hb⟩
 ·rw [szR_no hs] at HZ
  clear hs hx hn h hL hn' h' hf hM hn'' h'' hf'
  go_enter Tryz.func4, Tryz.ntmps4
  go_wp2_with fail
  have T1 := T0.out 24
  clear T0
  refine (HZ.out _).mono ?_
  rintro e w1 ⟨rfl, hb1⟩
  have hb := (T1.on hb1).1
  clear T1 hb1 HZ
  go_wp2
  go_ret
  exact ⟨rfl, hb⟩

end Go.Proofs.YtmajllgfmclcoaaGreat.Jn
