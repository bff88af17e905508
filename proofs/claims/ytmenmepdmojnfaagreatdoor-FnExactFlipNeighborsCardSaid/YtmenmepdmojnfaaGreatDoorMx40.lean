/- LWyN, SrtN, IWn, EWn in one text. -/
import Derived.Test.YtmenmepdmojnfaaGreatDoorMx39
import Derived.Test.YtmenmepdmojnfaaGreatDoorMx29
import Derived.Test.YtmenmepdmojnfaaGreatDoorMx09
import Derived.Test.YtmenmepdmojnfaaGreatDoorMx07
import Derived.Test.YtmenmepdmojnfaaGreatDoorMx19
import Derived.Test.YtmenmepdmojnfaaGreatDoorSrti
import Derived.Test.YtmenmepdmojnfaaGreatDoorMx36

namespace Go.Proofs.YtmenmepdmojnfaaGreatDoor.Wg
set_option linter.unusedVariables false
set_option linter.unusedSimpArgs false
open Go.RowKit Go.Proofs.YtmenmepdmojnfaaGreatDoor.Pure Go.Proofs.YtmenmepdmojnfaaGreatDoor.Cell Go.Proofs.YtmenmepdmojnfaaGreatDoor.Dom Go.Proofs.YtmenmepdmojnfaaGreatDoor.Dms Go.Proofs.YtmenmepdmojnfaaGreatDoor.Til Go.Proofs.YtmenmepdmojnfaaGreatDoor.Sets Go.Joins
open Go.Proofs.YtmenmepdmojnfaaGreatDoor.Reg hiding Yes add_none RC rc_start
open Go.Proofs.YtmenmepdmojnfaaGreatDoor.Lst (listR listR_small)
open Go.Proofs.YtmenmepdmojnfaaGreatDoor.Ext (allR allR_ok allR_not)
open Go.Proofs.YtmenmepdmojnfaaGreatDoor.Lis (allT)

theorem natV_ints (l : List Nat) : natV l = ints (l.map fun n : Nat => (n : Int)) := by unfold natV ints; rw [List.map_map]; rfl
theorem list_all2 {xs : List Int} {k : Nat} (hk : k < (listR xs).length) : okR xs ∧ listR xs = allT xs := by
 by_cases ho : okR xs
 ·refine ⟨ho, ?_⟩
  unfold listR at hk ⊢
  split at hk
  ·rename_i h; rw [if_pos h, allR_ok ho]
  ·simp at hk
 ·unfold listR at hk
  rw [allR_not ho] at hk
  simp at hk
theorem nbr_uniq {xs : List Int} {L : List Dm} {s t : List Nat} (h : NbR (listR xs) L s) (h2 : NbR (listR xs) L t) : s = t := by
 rcases h with ⟨k, hk, ek, p, a⟩ | ⟨hno, rfl⟩ <;> rcases h2 with ⟨k', hk', ek', p', a'⟩ | ⟨hno', rfl⟩
 ·have e := (List.getElem_inj (list_nodup xs)).1 (ek.trans ek'.symm)
  subst e
  obtain ⟨ho, hT⟩ := list_all2 hk
  have hk2 : k < (allT xs).length := by rw [← hT]; exact hk
  rw [hT] at p p'
  rw [nbG_sort ho hk2 p a, nbG_sort ho hk2 p' a']
 ·exact absurd (ek ▸ List.getElem_mem hk) hno'
 ·exact absurd (ek' ▸ List.getElem_mem hk') hno
 ·rfl
theorem nbr_len {xs : List Int} {L : List Dm} {s : List Nat} (h : NbR (listR xs) L s) : s.length ≤ 20000 := by
 rcases h with ⟨k, hk, ek, p, a⟩ | ⟨hno, rfl⟩
 ·rw [p.length_eq]
  have h1 := lnk_length (listR xs) k
  have h2 := listR_small xs
  omega
 ·simp
set_option maxRecDepth 100000 in
set_option maxHeartbeats 4000000 in
theorem lawFlipNeighbors (iFlipNeighbors : ∀ (W : World) (A : Option Addr) (n c B : Nat) (xs : List Int), xs.length = n → (n : Int) ≤ 9223372036854775807 → RowB W B A xs → B ≤ W.heap.size → Tab W → ∀ (A1 : Option Addr) (n1 c1 B1 : Nat) (L : List Dm), L.length = n1 → (n1 : Int) ≤ 1048576 → Fits L → RowM W B1 A1 L → B1 ≤ W.heap.size → Calls Tryz.prog 18 #[.agg #[.slice A n c], .slice A1 n1 c1] W (NbRP (listR xs) L W))
  (w : World) (A : Option Addr) (n cap : Nat) (xs : List Int) (hx : xs.length = n) (hn : (n : Int) ≤ 9223372036854775807) (h : RowB w w.heap.size A xs)
  (A' : Option Addr) (n' cap' : Nat) (L : List Dm) (hL : L.length = n') (hn' : (n' : Int) ≤ 9223372036854775807) (h' : RowM w w.heap.size A' L) (hf : Fits L) (hT : Tab w) :
  Calls Tryz.prog 4 #[.agg #[.slice A n cap], .slice A' n' cap'] w (Dom.Yes w) := by
 have T0 := Lib.hid (fun T => rb_start (T := T) (.slice A n cap) w)
 have HZ := Lib.hid (fun W => szRegion A n cap 1048576 (by omega) (by omega) hn W)
 by_cases hs : (n : Int) ≤ 1048576
 ·obtain ⟨y0, y1⟩ := szR_yes hs
  have HY := Lib.hid (fun W => szDominoS A' n' cap' (szR 1048576 n) y0 y1 hn' W)
  have hzz : (szR (szR 1048576 n) n' = -1) ∨ (0 ≤ szR (szR 1048576 n) n' ∧ (n' : Int) ≤ 1048576) := by
   by_cases h2 : (n' : Int) ≤ szR 1048576 n
   ·right; constructor
    ·rw [show szR (szR 1048576 n) n' = szR 1048576 n - n' by unfold szR; rw [if_pos (by unfold szR at h2; exact h2)]]; omega
    ·omega
   ·left; rw [show szR (szR 1048576 n) n' = -1 by generalize szR 1048576 n = q at h2; unfold szR; rw [if_neg h2]]
  have HTo := Lib.hid (fun W (hb : Below w.heap.size w W) => toRegion W A n cap w.heap.size xs hx hs (h.below hb (Nat.le_refl _)) hb.size)
  have HTm := Lib.hid (fun (hs' : (n' : Int) ≤ 1048576) W (hb : Below w.heap.size w W) => toDominoS W A' n' cap' w.heap.size L hL hs' (h'.below hb (Nat.le_refl _)) hb.size)
  have HSp := Lib.hid (fun W A c (hr : RowB W W.heap.size A xs) A' c' (hr' : RowM W W.heap.size A' L) => sFlipNeighbors W A n c W.heap.size xs hx hn hr (Nat.le_refl _) A' n' c' W.heap.size L hL hn' hr' (Nat.le_refl _))
  have HIm := Lib.hid (fun (hs' : (n' : Int) ≤ 1048576) W (hb : Below w.heap.size w W) A c (hr : RowB W W.heap.size A xs) A' c' (hr' : RowM W W.heap.size A' L) => iFlipNeighbors W A n c W.heap.size xs hx hn hr (Nat.le_refl _) (hT.on hb (Nat.le_refl _)) A' n' c' W.heap.size L hL hs' hf hr' (Nat.le_refl _))
  have HUq := Lib.hid (fun s t h1 h2 => nbr_uniq (xs := xs) (L := L) (s := s) (t := t) h1 h2)
  have HLe := Lib.hid (fun s h1 => nbr_len (xs := xs) (L := L) (s := s) h1)
  unfold NbRP at HSp HIm
  generalize listR xs = TT at HSp HIm HUq HLe
  have HEr := Lib.hid (fun W A A' c c' (h1 : RowB W W.heap.size A xs) (h2 : RowB W W.heap.size A' xs) => eqRegion W A A' n c c' _ _ xs hx hn h1 h2 (Nat.le_refl _) (Nat.le_refl _))
  have HEm := Lib.hid (fun W A A' c c' (h1 : RowM W W.heap.size A L) (h2 : RowM W W.heap.size A' L) => eqDoms W A A' n' c c' W.heap.size W.heap.size L hL hn' h1 h2 (Nat.le_refl _) (Nat.le_refl _))
  obtain ⟨k1, hk1⟩ : ∃ k1 : Int, k1 = ((1 + n : Nat) : Int) := ⟨_, rfl⟩
  have hk0 : ¬ k1 < 0 := by omega
  have HMx := Lib.hid (fun W lo hi A c (hr : RowIn W lo hi 3 1 (.slice A n c) n (ints xs)) => markReg1 W lo hi n c A xs k1 hk1 (by omega) hr)
  obtain ⟨k2, hk2⟩ : ∃ k2 : Int, k2 = ((1 + n + 3 * n' : Nat) : Int) := ⟨_, rfl⟩
  have hk20 : ¬ k2 < 0 := by omega
  have HMd := Lib.hid (fun (hs' : (n' : Int) ≤ 1048576) W lo hi A c (hr : RowIn W lo hi 73 3 (.slice A n' c) n' (rowM L)) => markDomsN W lo hi (1 + n) n' c A L k1 k2 hk1 hk2 (by omega) hr)
  generalize szR (szR 1048576 n) n' = zz at HY hzz
  generalize szR 1048576 n = z at HZ HY y0
  have z2 : ¬ z < 0 := by omega
  clear hs hx hn h hL hn' h' hf y1 hk1 hk2 hT
  go_enter Tryz.func4, Tryz.ntmps4
  go_wp2_with fail
  have T1 := T0.out 42
  clear T0
  refine (HZ.out _).mono ?_
  rintro e w1 ⟨rfl, hb1⟩
  have T2 := T1.on hb1
  clear T1 hb1 HZ
  go_wp2_with fail
  refine (HY.out _).mono ?_
  rintro e w1 ⟨rfl, rfl⟩
  clear HY
  rcases hzz with rfl | ⟨zz0, hs'⟩
  ·have hb := T2.1
   go_wp2
   go_ret
   exact ⟨rfl, hb⟩
  ·have HTm := Lib.hid (fun W hb => HTm.out hs' W hb)
   have HMd := Lib.hid (fun W lo hi A c hr => HMd.out hs' W lo hi A c hr)
   have HIm := Lib.hid (HIm.out hs')
   have zz2 : ¬ zz < 0 := by omega
   clear hs'
   obtain ⟨_, _, c0⟩ := id T2
   go_wp2_with fail
   refine (HTo.out _ T2.1).mono ?_
   rintro e w2 ⟨A1, cap1, rfl, hown, hb2⟩
   have T3 := T2.on hb2
   have R1 := rowB_own hown
   clear T2 hown hb2 c0
   go_wp2_with fail
   refine (HTm.out _ T3.1).mono ?_
   rintro e w3 ⟨A2, cap2, rfl, _, hown, hb3⟩
   have T4 := T3.on hb3
   have R1 := (R1.below hb3 (Nat.le_refl _)).mono hb3.size
   have R2 := rowM_own hown
   clear T3 hown hb3
   go_wp2_with fail
   refine (HSp.out _ _ _ R1 _ _ R2).mono ?_
   rintro e w4 ⟨s, Aw, capw, rfl, hown, hnb, hb4⟩
   have HNb := Lib.hid hnb
   have hUl := HLe.out s hnb
   rw [natV_ints] at hown
   obtain ⟨U, hU⟩ : ∃ U : List Int, s.map (fun n : Nat => (n : Int)) = U := ⟨_, rfl⟩
   have HU := Lib.hid hU
   have hUs : s.length = U.length := by rw [← hU, List.length_map]
   rw [hU] at hown
   obtain ⟨m, hm⟩ : ∃ m, m = s.length := ⟨_, rfl⟩
   have HMs := Lib.hid hm
   rw [← hm] at hown hUl ⊢
   have hmU : U.length = m := by omega
   have HE := Lib.hid (fun (W : World) (B B' : Option Addr) (c c' : Nat) (h1 : RowB W W.heap.size B U) (h2 : RowB W W.heap.size B' U) => show Calls _ _ _ W (Bol true W) from (eqIntS W B B' m c c' W.heap.size W.heap.size U hmU (by omega) h1 h2).mono fun e w' ⟨q1, q, q2⟩ => ⟨q1, q2 ▸ drewBelow (Below.refl _ _) q⟩)
   obtain ⟨g1, hg1⟩ : ∃ g1 : Int, g1 = ((1 + m : Nat) : Int) := ⟨_, rfl⟩
   have hg0 : ¬ g1 < 0 := by omega
   have hgg : (g1 != g1) = false := by simp
   have HMg := Lib.hid (fun W lo hi A c (hr : RowIn W lo hi 3 1 (.slice A m c) m (ints U)) => show Calls _ _ _ W (fun e w' => e = .returned (.int .i64 g1) ∧ w'.ownsRow lo 3 1 (.slice A m c) m (ints (marksI 1 m)) ∧ Apart lo hi W w') from hg1 ▸ markInts W lo 1 m c A U (by omega) hr.1 hi hr.2)
   have HHg := Lib.hid (fun W A c (hr : RowB W W.heap.size A (marksI 1 m)) => show Calls _ _ _ W (fun e w' => e = .returned (.int .i64 g1) ∧ w' = W) from hg1 ▸ heldInts W 1 m c W.heap.size A (by omega) hr)
   clear hnb hU hUs hm hmU hg1 HLe hUl
   have T5 := T4.on hb4
   have HW := rowIn_new hown
   have hl3 := T4.2.1
   have hw4 := hb4.size
   clear T4 hb4 HSp R1 R2 hown
   obtain ⟨_, _, c0⟩ := id T5
   go_wp2_with fail
   refine (HTo.out _ T5.1).mono ?_
   rintro e w5 ⟨A3, cap3, rfl, hown, hb5⟩
   have T6 := T5.on hb5
   have hw5 := hb5.size
   have S0 := fun T => ls_start (T := T) T6 (rowIn_new hown) (HW.on hb5)
   clear T5 hb5 c0 T6 hown HW
   go_upto_region 10 with fail
   have S1 := S0 26
   have hp1 : (w5.alloc (.cells #[.slice A3 n cap3] 26)).heap.size = w5.heap.size + 1 := by simp
   clear S0
   generalize w5.alloc (.cells #[.slice A3 n cap3] 26) = W5 at S1 hp1 ⊢
   generalize hpp : w5.heap.size = p at S1 hp1 hw5 ⊢
   go_wp2_with fail
   refine (HTm.out _ S1.1).mono ?_
   rintro e w6 ⟨A4, cap4, rfl, hc4, hown, hb6⟩
   have S2 := S1.on hb6
   have D2 := rowIn_new hown
   rw [hp1] at D2
   have hw6 := hb6.size
   rw [hp1] at hw6
   clear S1 hown hb6 hp1 hpp
   obtain ⟨_, _, _, c1, _⟩ := id S2
   go_wp2_with fail
   refine (HIm.out _ S2.1 _ _ (rowB_own S2.x.1) _ _ (rowM_own D2.1)).mono ?_
   rintro e w7 ⟨s', Ag, capg, rfl, hown, hnb, hb7⟩
   obtain rfl := HUq.out _ _ hnb HNb.out
   rw [natV_ints, HU.out, ← HMs.out] at hown
   rw [← HMs.out]
   clear hnb
   have S3 := S2.on hb7
   have D3 := D2.on hb7
   have G3 := rowIn_new hown
   have hw7 := hb7.size
   clear S2 D2 hb7 c1 hown
   go_wp2_with fail
   refine (HE.out _ _ _ _ _ (rowB_own G3.1) (rowB_own S3.ans.1)).mono ?_
   rintro e w8 ⟨rfl, hb8⟩
   have S4 := S3.on hb8
   have D4 := D3.on hb8
   have G4 := G3.on hb8
   have hw8 := hb8.size
   clear S3 D3 G3 hb8
   go_upto_region 14 with fail
   refine wp_region_noPanic ?_
   refine wp_region_held_drew (S := (fun w' => w'.cell? ⟨w.heap.size, 0, none⟩ = some (.slice A n cap) ∧ w'.cell? ⟨p, 0, none⟩ = some (.slice A3 n cap3))) (by kernel_rfl) (⟨S4.drew.2.2.1, S4.drew.2.2.2.1⟩) (fun hHeld => ?_)
   refine wpAnyH_take (i := 0) (v := ?_) rfl (by kernel_rfl) (by kernel_rfl) (by kernel_rfl) (fun _ _ _ h => h) (Or.inl ⟨by rfl, ?_⟩) (by assumption) ?_
   rotate_left
   ·(intro w' hS; (try dsimp only at hS); go_simp; try with_reducible rfl)
   try simp only [Act.put, List.getElem_toArray, List.getElem_cons_succ, List.getElem_cons_zero, List.setIfInBounds_toArray, List.set_cons_zero, List.set_cons_succ]
   refine wpAnyH_take (i := 1) (v := ?_) rfl (by kernel_rfl) (by kernel_rfl) (by kernel_rfl) (fun _ _ _ h => h) (Or.inl ⟨by rfl, ?_⟩) (by assumption) ?_
   rotate_left
   ·(intro w' hS; (try dsimp only at hS); go_simp; try with_reducible rfl)
   try simp only [Act.put, List.getElem_toArray, List.getElem_cons_succ, List.getElem_cons_zero, List.setIfInBounds_toArray, List.set_cons_zero, List.set_cons_succ]
   refine wpAnyH_ready (rs := [2]) (by kernel_rfl) (by simp) ?_
   refine AllReadyH.cons rfl (fun K hK => ?_) AllReadyH.nil
   go_simp
   refine (HTo.out _ S4.drew.1).mono ?_
   rintro e wx ⟨A5, cap5, rfl, hown, hb1⟩
   have S5 := S4.drew.on hb1
   have D5 := D4.drew.on hb1
   have G5 := G4.drew.on hb1
   have hw9 := hb1.size
   have hdr : w8.drew.heap.size = w8.heap.size := rfl
   rw [hdr] at hw9
   have R5 := rowB_own hown
   clear S4 D4 G4 hb1 hown hdr
   go_wp2_with fail
   refine hK.out _ _ (⟨S5.2.2.1, S5.2.2.2.1⟩) (fun hHeld => ?_)
   clear hK K
   try simp only [Act.put, List.getElem_toArray, List.getElem_cons_succ, List.getElem_cons_zero, List.setIfInBounds_toArray, List.set_cons_zero, List.set_cons_succ]
   refine wpAnyH_ready (rs := [3]) (by kernel_rfl) (by simp) ?_
   refine AllReadyH.cons rfl (fun K hK => ?_) AllReadyH.nil
   go_simp
   refine (HEr.out _ _ _ _ _ (rowB_own S5.x.1) R5).mono ?_
   rintro e wx ⟨rfl, hb2⟩
   have S6 := S5.on hb2
   have D6 := D5.on hb2
   have G6 := G5.on hb2
   have hw10 := hb2.size
   clear S5 D5 G5 hb2 R5 HEr
   go_wp2_with fail
   refine hK.out _ _ (⟨S6.2.2.1, S6.2.2.2.1⟩) (fun hHeld => ?_)
   clear hK K
   try simp only [Act.put, List.getElem_toArray, List.getElem_cons_succ, List.getElem_cons_zero, List.setIfInBounds_toArray, List.set_cons_zero, List.set_cons_succ]
   refine wpAnyH_take (i := 4) (v := ?_) rfl (by kernel_rfl) (by kernel_rfl) (by kernel_rfl) (fun _ _ _ h => h) (Or.inl ⟨by rfl, ?_⟩) (by assumption) ?_
   rotate_left
   ·(intro w' hS; (try dsimp only at hS); go_simp; try with_reducible rfl)
   try simp only [Act.put, List.getElem_toArray, List.getElem_cons_succ, List.getElem_cons_zero, List.setIfInBounds_toArray, List.set_cons_zero, List.set_cons_succ]
   refine wpAnyH_done (by kernel_rfl) ?_ _
   refine NoPanic.normal ?_
   clear hHeld
   generalize wx = W10 at S6 D6 G6 hw10 ⊢
   go_wp2_with fail
   refine (HTm.out _ S6.1).mono ?_
   rintro e w11 ⟨A6, cap6, rfl, _, hown, hb11⟩
   have S7 := S6.on hb11
   have D7 := D6.on hb11
   have G7 := G6.on hb11
   have hw11 := hb11.size
   have R6 := rowM_own hown
   clear S6 D6 G6 hb11 hown
   go_wp2_with fail
   refine (HEm.out _ _ _ _ _ (rowM_own D7.1) R6).mono ?_
   rintro e w12 ⟨rfl, hb12⟩
   have S8 := S7.on hb12
   have D8 := D7.on hb12
   have G8 := G7.on hb12
   have hw12 := hb12.size
   clear S7 D7 G7 hb12 R6 HEm
   obtain ⟨_, _, _, c1, _⟩ := id S8
   go_wp2_with fail
   refine (HMx.out _ _ _ _ _ S8.x).mono ?_
   rintro e w13 ⟨rfl, hx13, ha13⟩
   have S9 := S8.marked hx13 ha13 (by omega) (Nat.le_refl _) (Nat.le_refl _)
   have D9 := D8.apart ha13 (.inr (by omega))
   have G9 := G8.apart ha13 (.inr (by omega))
   have hw13 := ha13.size
   clear S8 D8 G8 hx13 ha13 HMx c1
   go_wp2_with fail
   refine (HMd.out _ _ _ _ _ D9).mono ?_
   rintro e w14 ⟨rfl, _, ha14⟩
   have S10 := S9.onB (ha14.below (B := p + 1) (Nat.le_refl _) (by omega)) (by omega) (by omega) (by omega) (by omega)
   have G10 := G9.apart ha14 (.inr (by omega))
   have hw14 := ha14.size
   clear S9 D9 G9 ha14 HMd
   go_wp2_with fail
   refine (HE.out _ _ _ _ _ (rowB_own G10.1) (rowB_own S10.ans.1)).mono ?_
   rintro e w15 ⟨rfl, hb15⟩
   have S11 := S10.on hb15
   have G11 := G10.on hb15
   have hw15 := hb15.size
   clear S10 G10 hb15
   go_wp2_with fail
   refine (HMg.out _ _ _ _ _ G11).mono ?_
   rintro e w16 ⟨rfl, hg16, ha16⟩
   have hb16 := ha16.below (B := w6.heap.size) (Nat.le_refl _) (by omega)
   have S12 := S11.onB hb16 (by omega) (by omega) (by omega) (by omega)
   have G12 : RowIn w16 w6.heap.size w7.heap.size 3 1 (.slice Ag m capg) m (ints (marksI 1 m)) := ⟨hg16, G11.2⟩
   clear S11 G11 hg16 hb16 ha16 HMg
   go_wp2_with fail
   refine (HHg.out _ _ _ (rowB_own G12.1)).mono ?_
   rintro e w17 ⟨rfl, rfl⟩
   obtain ⟨_, _, c0, _⟩ := id S12
   go_wp2_with fail
   refine (HTo.out _ S12.1).mono ?_
   rintro e w18 ⟨A7, cap7, rfl, hown, hb18⟩
   have S13 := S12.on hb18
   have G13 := G12.on hb18
   have R7 := rowB_own hown
   clear S12 G12 hown hb18 c0
   go_wp2_with fail
   refine (HTm.out _ S13.1).mono ?_
   rintro e w19 ⟨A8, cap8, rfl, _, hown, hb19⟩
   have S14 := S13.on hb19
   have G14 := G13.on hb19
   have R7 := (R7.below hb19 (Nat.le_refl _)).mono hb19.size
   have R8 := rowM_own hown
   clear S13 G13 hown hb19
   go_wp2_with fail
   refine (HIm.out _ S14.1 _ _ R7 _ _ R8).mono ?_
   rintro e w20 ⟨s'', Ah, caph, rfl, hown, hnb, hb20⟩
   obtain rfl := HUq.out _ _ hnb HNb.out
   rw [natV_ints, HU.out, ← HMs.out] at hown
   rw [← HMs.out]
   clear hnb
   have S15 := S14.on hb20
   have G15 := G14.on hb20
   have HH := rowB_own hown
   clear S14 G14 hown hb20 R7 R8
   go_wp2_with fail
   refine (HE.out _ _ _ _ _ HH (rowB_own S15.ans.1)).mono ?_
   rintro e w21 ⟨rfl, hb21⟩
   have G16 := G15.on hb21
   have hb := (S15.on hb21).1
   clear S15 G15 hb21 HH
   go_wp2_with fail
   refine (HHg.out _ _ _ (rowB_own G16.1)).mono ?_
   rintro e w22 ⟨rfl, rfl⟩
   go_wp2
   go_ret
   exact ⟨rfl, hb⟩
 ·rw [szR_no hs] at HZ
  clear hs hx hn h hL hn' h' hf
  go_enter Tryz.func4, Tryz.ntmps4
  go_wp2_with fail
  have T1 := T0.out 42
  clear T0
  refine (HZ.out _).mono ?_
  rintro e w1 ⟨rfl, hb1⟩
  have hb := (T1.on hb1).1
  clear T1 hb1 HZ
  go_wp2
  go_ret
  exact ⟨rfl, hb⟩
end Go.Proofs.YtmenmepdmojnfaaGreatDoor.Wg

namespace Go.Proofs.YtmenmepdmojnfaaGreatDoor.Wg
set_option linter.unusedVariables false
set_option linter.unusedSimpArgs false
open Go.RowKit Go.Sort Go.Joins

def intN (l : List Nat) : List Int := l.map fun n : Nat => (n : Int)
theorem natV_int (l : List Nat) : natV l = (intN l).map (Value.int .i64) := by unfold natV intN; rw [List.map_map]; rfl
theorem intN_length (l : List Nat) : (intN l).length = l.length := by unfold intN; rw [List.length_map]
theorem intN_back : ∀ (zs : List Int), (∀ z ∈ zs, 0 ≤ z) → ∃ s, intN s = zs := by
 intro zs
 induction zs with
 | nil => intro _; exact ⟨[], rfl⟩
 | cons z zs ih =>
  intro h
  obtain ⟨s, hs⟩ := ih (fun y hy => h y (List.mem_cons_of_mem _ hy))
  have hz := h z List.mem_cons_self
  refine ⟨z.toNat :: s, ?_⟩
  unfold intN at hs ⊢
  rw [List.map_cons, hs]
  congr 1
  omega
theorem perm_int {s l : List Nat} (h : (intN s).Perm (intN l)) : s.Perm l := by
 have := h.map Int.toNat
 unfold intN at this
 simpa [List.map_map, Function.comp_def] using this
theorem put_row (zs : List Int) (n : Nat) (cur : Array Value) (hn : zs.length = n) (h : n ≤ cur.size) : (putCells (Value.int .i64) 0 zs.toArray cur).toList.take n = zs.map (Value.int .i64) := by
 apply List.ext_getElem?
 intro k
 rw [List.getElem?_take, List.getElem?_map]
 by_cases hk : k < n
 ·rw [if_pos hk]
  unfold putCells
  simp only [Array.toList_mapIdx, List.getElem?_mapIdx, Array.getElem?_toList]
  rw [Array.getElem?_eq_getElem (by omega : k < cur.size), List.getElem?_eq_getElem (by omega : k < zs.length)]
  have : k < zs.length := by omega
  simp [this]
 ·rw [if_neg hk, List.getElem?_eq_none (by omega)]; rfl
def SrtP (base n : Nat) (A : Option Addr) (c : Nat) (l : List Nat) (w : World) (e : Ending) (w' : World) : Prop :=
 e = .returned (.tuple #[]) ∧ ∃ s : List Nat, s.Perm l ∧ s.Pairwise (· ≤ ·) ∧ w'.ownsRow base 3 1 (.slice A n c) n (natV s) ∧ Below base w w'
set_option maxHeartbeats 1000000 in
theorem iSortN (w : World) (base n c : Nat) (A : Option Addr) (l : List Nat) (hl : l.length = n) (hn : n ≤ 2000000) (hown : w.ownsRow base 3 1 (.slice A n c) n (natV l)) (hbw : base ≤ w.heap.size) :
  Calls Tryz.prog 51 #[.slice A n c] w (SrtP base n A c l w) := by
 rcases Nat.eq_zero_or_pos n with h0 | h0
 ·subst h0
  have hl0 := List.eq_nil_of_length_eq_zero hl
  subst hl0
  refine Calls.mono (Any.slices_Sort_int_none Tryz.sortI A c w) ?_
  rintro e w' ⟨rfl, rfl⟩
  exact ⟨rfl, [], List.Perm.refl _, List.Pairwise.nil, hown, Below.refl _ _⟩
 ·rcases hown.2 with ⟨_, h⟩ | ⟨blk, cap', cur, hv, hg, hh, h1, h2, h3, h4⟩
  ·have : n = 0 := h
   omega
  ·injection hv with ha _ hc
   subst ha; subst hc
   have hblk := (hown.lt blk rfl).2
   have hH : Holds (Value.int .i64) w blk 0 (intN l).toArray := by
    intro j hj
    have hj' : j < (intN l).length := by simpa using hj
    rw [intN_length] at hj'
    rw [Nat.zero_add]
    refine ⟨?_, hown.frozenAt j⟩
    rw [hown.cellAt j (by omega), natV_int, List.getElem?_map, List.getElem?_eq_getElem (by rw [intN_length]; exact hj')]
    rw [getElem!_pos _ j hj]; simp
   have hcon := Any.slices_Sort_int Tryz.sortI blk 0 c (intN l) w hH hblk (by rw [intN_length]; omega)
   rw [intN_length, hl] at hcon
   refine Calls.mono hcon ?_
   rintro e w' ⟨rfl, q, os, rfl⟩
   have hperm := List.mergeSort_perm (intN l) fun x y => decide (x ≤ y)
   have hsort := List.pairwise_mergeSort (le := fun x y : Int => decide (x ≤ y)) (fun a b c h1 h2 => by simp only [decide_eq_true_eq] at *; omega) (fun a b => by simp only [Bool.or_eq_true, decide_eq_true_eq]; omega) (intN l)
   obtain ⟨s, hs⟩ := intN_back ((intN l).mergeSort fun x y => decide (x ≤ y)) (fun z hz => by
    have := hperm.mem_iff.1 hz
    unfold intN at this
    obtain ⟨k, _, rfl⟩ := List.mem_map.1 this
    omega)
   rw [← hs] at hperm hsort ⊢
   have hsl : s.length = n := by have := hperm.length_eq; rw [intN_length, intN_length] at this; omega
   refine ⟨rfl, s, perm_int hperm, ?_, ⟨by rw [natV_length, hsl, Nat.mul_one], .inr ⟨blk, c, putCells (Value.int .i64) 0 (intN s).toArray cur, rfl, hg, ?_, h1, h2, ?_, ?_⟩⟩, ⟨rfl, rfl, rfl, ?_, fun k hk => ?_⟩⟩
   ·unfold intN at hsort
    rw [List.pairwise_map] at hsort
    refine hsort.imp fun {a b} h => ?_
    simp only [decide_eq_true_eq] at h; omega
   ·unfold putRow mapBlock grow Sort.ahead
    simp only
    rw [Array.getElem?_append_left (by simpa using hblk), Array.getElem?_modify, if_pos rfl, hh]
    rfl
   ·unfold putCells; simpa using h3
   ·rw [Nat.mul_one, put_row (intN s) n cur (by rw [intN_length, hsl]) (by omega), natV_int]
   ·unfold putRow mapBlock grow Sort.ahead; simp
   ·unfold putRow mapBlock grow Sort.ahead
    simp only
    rw [Array.getElem?_append_left (by simp; omega), Array.getElem?_modify, if_neg (by omega)]
end Go.Proofs.YtmenmepdmojnfaaGreatDoor.Wg

namespace Go.Proofs.YtmenmepdmojnfaaGreatDoor.Wg
set_option linter.unusedVariables false
set_option linter.unusedSimpArgs false
set_option maxRecDepth 100000
open Go.RowKit Go.Proofs.YtmenmepdmojnfaaGreatDoor.Base Go.Proofs.YtmenmepdmojnfaaGreatDoor.Dms Go.Proofs.YtmenmepdmojnfaaGreatDoor.Til Go.Proofs.YtmenmepdmojnfaaGreatDoor.Dss Go.Proofs.YtmenmepdmojnfaaGreatDoor.Sets Go.Joins
open Go.Proofs.YtmenmepdmojnfaaGreatDoor.Lst (halfR_le listR listR_small listR_half iListTilings idxR)
open Go.Proofs.YtmenmepdmojnfaaGreatDoor.Ext (SSP halfR)
open Go.Proofs.YtmenmepdmojnfaaGreatDoor.Reg hiding Yes add_none RC rc_start

def plcTo (l : List Ft) (j : Nat) : List Nat := (l.take j).map (·.2)
theorem plcTo_step {l : List Ft} {j : Nat} (h : j < l.length) : plcTo l (j + 1) = plcTo l j ++ [l[j].2] := by
 unfold plcTo
 rw [List.take_succ_eq_append_getElem h, List.map_append]; rfl
theorem plcTo_length {l : List Ft} {j : Nat} (h : j ≤ l.length) : (plcTo l j).length = j := by unfold plcTo; rw [List.length_map, List.length_take]; omega
set_option maxHeartbeats 4000000 in
theorem iFlipNeighbors (w : World) (A : Option Addr) (n cap B : Nat) (xs : List Int) (hx : xs.length = n) (hn : (n : Int) ≤ 9223372036854775807) (hrow : RowB w B A xs) (hB : B ≤ w.heap.size) (hT : Tab w)
  (A1 : Option Addr) (n1 cap1 B1 : Nat) (L : List Dm) (hL : L.length = n1) (hn1 : (n1 : Int) ≤ 1048576) (hf1 : Fits L) (h1 : RowM w B1 A1 L) (hB1 : B1 ≤ w.heap.size) :
  Calls Tryz.prog 18 #[.agg #[.slice A n cap], .slice A1 n1 cap1] w (NbRP (listR xs) L w) := by
 obtain ⟨i0, hi, hz0, hz1, hz2⟩ := info_parts intInfo
 have HLs := Lib.hid (fun W (hb : Below w.heap.size w W) => iListTilings W A n cap B xs hx hn (hrow.below hb hB) (by have := hb.size; omega) (hT.on hb (Nat.le_refl _)))
 have HS := Lib.hid (below_alloc1 w (.cells #[.slice A n cap] 26))
 have HR := Lib.hid (Rg.new w (.slice A n cap))
 have hsm := listR_small xs
 have hHf := listR_half (xs := xs)
 have hhf := halfR_le xs
 have hgd := list_gd xs
 unfold SSP at HLs
 generalize listR xs = T at HLs hsm hHf hgd ⊢
 generalize halfR xs = h at HLs hHf hhf
 have q1 := idx_two T L
 obtain ⟨m, hm⟩ : ∃ m, T.length = m := ⟨_, rfl⟩
 have HM := Lib.hid hm
 rw [hm] at HLs hsm
 have HF1 := Lib.hid (fun W (hb : Below w.heap.size w W) A' c' B' (hr : RowSS W B' A' m h T) (hB' : B' ≤ W.heap.size) => iFind W A' m c' B' h T hm hsm hhf hHf hr hB' A1 n1 cap1 B1 L hL (by omega) (h1.below hb hB1) (by have := hb.size; omega))
 have HFl := Lib.hid (fun W A' c' B' (hr : RowSS W B' A' m h T) (hB' : B' ≤ W.heap.size) k (hk : k < T.length) => iFlips W A' m c' B' h T hm hsm hhf hHf hgd hr hB' k hk)
 have HGm := Lib.hid hgd.lk
 clear hx hn hrow hB hT hL hn1 hf1 h1 hB1 hm hHf hgd
 go_enter Tryz.func18, Tryz.ntmps18
 go_wp2_with fail
 generalize w.alloc (.cells #[.slice A n cap] 26) = W0 at HS HR ⊢
 have c0 := HR.out.c0
 refine (HLs.out _ HS.out).mono ?_
 rintro e w1 ⟨A3, c3, rfl, hss, hb1⟩
 have B1 := Lib.hid (HS.out.trans (hb1.mono HS.out.size))
 have HSS := Lib.hid (ss_row hss)
 clear hss hb1 HS HR c0 HLs
 go_wp2_with fail
 refine (HF1.out _ B1.out _ _ _ HSS.out (Nat.le_refl _)).mono ?_
 rintro e w2 ⟨rfl, hb2⟩
 have B2 := Lib.hid (B1.out.trans (hb2.mono B1.out.size))
 have HSS2 := Lib.hid (rowSS_up (HSS.out.below HM.out hb2 (Nat.le_refl _)) hb2.size)
 clear hb2 B1 HSS HF1
 rcases q1 with ⟨k, hk, ek, e1⟩ | ⟨no, e1⟩
 ·have HFk := Lib.hid (HFl.out w2 A3 c3 w2.heap.size HSS2.out (Nat.le_refl _) k hk)
  have hl := HGm.out k hk
  have hln := lnk_length T k
  obtain ⟨l, hle⟩ : ∃ l, fts T T[k] = l := ⟨_, rfl⟩
  rw [hle] at HFk hl
  have HP := Lib.hid (fun s (hp : s.Perm (plcTo l l.length)) (hs : s.Pairwise (· ≤ ·)) => show NbR T L s from .inl ⟨k, hk, ek, by rw [hl]; unfold plcTo at hp; rwa [List.take_length] at hp, hs⟩)
  have hl20 : l.length ≤ 20000 := by
   have h2 : (lnk T k).length = l.length := by rw [hl, List.length_map]
   have := HM.out
   omega
  have hk0 : ¬ (k : Int) < 0 := by omega
  rw [e1]
  clear hle hl hln ek e1 HFl HGm hk HSS2
  go_wp2_with fail
  refine HFk.out.mono ?_
  rintro e w3 ⟨Af, cf, rfl, hof, hb3⟩
  have B3 := Lib.hid (B2.out.trans (hb3.mono B2.out.size))
  obtain ⟨gf, f1, f2⟩ := rdT_own hof
  have HF1 := Lib.hid f1
  have HF2 := Lib.hid f2
  obtain ⟨nl, hnl⟩ : ∃ nl, l.length = nl := ⟨_, rfl⟩
  have HNl := Lib.hid hnl
  rw [hnl] at hl20 HP ⊢
  clear hof hb3 f1 f2 HFk B2 hnl
  go_wp2_with fail
  go_loopw [7, 21] (fun v i wr => ∃ j : Nat, j ≤ nl ∧ i = .int .i64 j ∧ Hid (wr.ownsRow w3.heap.size 3 1 v j (natV (plcTo l j))) ∧ Hid (Below w3.heap.size w3 wr)) (fun _ i _ => nl - (intOf i).toNat)
  case atStart => exact ⟨0, Nat.zero_le _, rfl, Lib.hid (by simpa [plcTo, natV] using World.ownsRow_nil w3 w3.heap.size 3 1), Lib.hid (Below.refl _ _)⟩
  case round =>
   obtain ⟨j, hj, rfl, HO, HB⟩ := hrel
   by_cases hlt : j < nl
   ·have hjl : j < l.length := by rw [HNl.out]; exact hlt
    obtain ⟨rfl, hgf⟩ := HF1.out (by omega)
    obtain ⟨d0, d1, d2⟩ := HF2.out j hjl
    have e0 := (HB.out.cell (p := ⟨gf, j * 3, none⟩) hgf).trans d0
    have e1 := (HB.out.cell (p := ⟨gf, j * 3 + 1, none⟩) hgf).trans d1
    have e2 := (HB.out.cell (p := ⟨gf, j * 3 + 2, none⟩) hgf).trans d2
    have HSt := Lib.hid (plcTo_step hjl)
    clear d0 d1 d2
    obtain ⟨x, y, v, hxyv⟩ : ∃ x y v, l[j] = ((x, y), v) := ⟨_, _, _, rfl⟩
    rw [hxyv] at e0 e1 e2 HSt
    simp only at e0 e1 e2 HSt
    clear hxyv
    have HLq := Lib.hid (plcTo_length (Nat.le_of_lt hjl))
    have hjI : (j : Int) < (nl : Int) := by omega
    have HBx := Lib.hid (HB.out.alloc HB.out.size (.cells #[.int .i64 x, .int .i64 y, .int .i64 (v : Int)] 69))
    have HOx := Lib.hid (HO.out.alloc (.cells #[.int .i64 x, .int .i64 y, .int .i64 (v : Int)] 69))
    have cb : ∀ o, ((wr.alloc (.cells #[.int .i64 x, .int .i64 y, .int .i64 (v : Int)] 69)).alloc o).heap[wr.heap.size]? = some (.cells #[.int .i64 x, .int .i64 y, .int .i64 (v : Int)] 69) := fun o => by
     rw [Below.heap_alloc _ _ _ (by simp)]; exact heap_alloc_new wr _
    clear hjl cb
    go_upto_region 9 with fail
    have cb2 : (wr.alloc (.cells #[.int .i64 x, .int .i64 y, .int .i64 (v : Int)] 69)).cell? ⟨wr.heap.size, 2, none⟩ = some (.int .i64 (v : Int)) := (cell_of_row _ _ 2 _ _ _ (heap_alloc_new wr _)).trans rfl
    generalize wr.alloc (.cells #[.int .i64 x, .int .i64 y, .int .i64 (v : Int)] 69) = Wb at HBx HOx cb2 ⊢
    generalize wr.heap.size = p at cb2 ⊢
    clear e0 e1 e2 HO HB
    have hbs := HBx.out.size
    go_wp2_with (first
     | (at_builtin; refine wpList_append_own _ rfl _ _ 24 rfl w3.heap.size 3 i0 (.int .i64 0) 1 8 Tryz.underlying24 hi hz0 hz1 hz2 rfl (by decide) _ j (natV (plcTo l j)) rfl (HOx.out.alloc _) ⟨Wb.heap.size, 0, none⟩ 1 1 [.int .i64 (v : Int)] rfl rfl (World.news_of_block (cs := #[.int .i64 (v : Int)]) (t := 3) (fr := (0, 0)) (heap_alloc_new Wb _)) (by simp [Value.oneCell']) (by unfold maxLen; omega) (by omega) (by simp; omega) ?_; intro v2 w6 hown6 hgrow6 _))
    have HO6 := Lib.hid (show w6.ownsRow w3.heap.size 3 1 v2 (j + 1) (natV (plcTo l (j + 1))) by rw [HSt.out, natV_snoc]; exact hown6)
    have HB6 := Lib.hid ((HBx.out.alloc hbs _).grown hgrow6 (by simp; omega) (fun g hg => (HOx.out.lt g hg).1))
    clear hown6 hgrow6 HBx HOx cb2
    go_wp2
    go_roundw
    case rel => exact ⟨j + 1, by omega, by go_num, HO6, HB6⟩
    case measure => (simp [intOf] <;> omega)
   ·obtain rfl : j = nl := by omega
    obtain ⟨A4, c4, rfl⟩ := own_shape HO.out
    have HSr := Lib.hid (iSortN wr w3.heap.size j c4 A4 (plcTo l j) (plcTo_length (by rw [HNl.out]; exact Nat.le_refl _)) (by omega) HO.out HB.out.size)
    clear HO
    go_wp2_with fail
    refine HSr.out.mono ?_
    rintro e w7 ⟨rfl, s, hp, hs, hown, hb7⟩
    have hsl : s.length = j := by rw [hp.length_eq]; exact plcTo_length (by rw [HNl.out]; exact Nat.le_refl _)
    have HE := Lib.hid (show NbRP T L w (.returned (.slice A4 j c4)) w7 from ⟨s, A4, c4, by rw [hsl], by rw [hsl]; exact own_base hown B3.out.size, HP.out s hp hs, B3.out.trans ((HB.out.trans hb7).mono B3.out.size)⟩)
    clear hp hs hown hb7 HSr HB
    go_wp2
    go_ret
    exact HE.out
 ·have HE := Lib.hid (show NbRP T L w (.returned (.slice none 0 0)) w2 from ⟨[], none, 0, rfl, World.ownsRow_nil w2 w.heap.size 3 1, .inr ⟨fun hm => by obtain ⟨k, hk, e⟩ := List.getElem_of_mem hm; exact no k hk e, rfl⟩, B2.out⟩)
  rw [e1]
  clear no e1 HFl HGm HSS2
  go_wp2
  go_ret
  exact HE.out
end Go.Proofs.YtmenmepdmojnfaaGreatDoor.Wg

namespace Go.Proofs.YtmenmepdmojnfaaGreatDoor.Wg
open Go.RowKit Go.Proofs.YtmenmepdmojnfaaGreatDoor.Dms Go.Proofs.YtmenmepdmojnfaaGreatDoor.Sets Go.Proofs.YtmenmepdmojnfaaGreatDoor.Reg
theorem exFlipNeighbors (w : World) (A : Option Addr) (n cap : Nat) (xs : List Int) (hx : xs.length = n) (hn : (n : Int) ≤ 9223372036854775807) (h : RowB w w.heap.size A xs)
  (A' : Option Addr) (n' cap' : Nat) (L : List Dm) (hL : L.length = n') (hn' : (n' : Int) ≤ 9223372036854775807) (h' : RowM w w.heap.size A' L) (hf : Fits L) (hT : Tab w) :
  Calls Tryz.prog 4 #[.agg #[.slice A n cap], .slice A' n' cap'] w (Dom.Yes w) :=
 lawFlipNeighbors iFlipNeighbors w A n cap xs hx hn h A' n' cap' L hL hn' h' hf hT
end Go.Proofs.YtmenmepdmojnfaaGreatDoor.Wg
