/- LTf in one text. -/
import Derived.Test.YtieophdbhnpncaaGreatMt42
import Derived.Test.YtieophdbhnpncaaGreatMt36
import Derived.Test.YtieophdbhnpncaaGreatMt44
import Derived.Test.YtieophdbhnpncaaGreatMt25
import Derived.Test.YtieophdbhnpncaaGreatMt12

/- The law FnExactTilingFrom returns true: the program's TilingFrom and the model's give the same dominoes and say the same; the region and the heights are left as they were, and the answers own their memory. -/
namespace Go.Proofs.YtieophdbhnpncaaGreat.Hgt
set_option linter.unusedVariables false
set_option linter.unusedSimpArgs false
open Go.RowKit Go.Proofs.YtieophdbhnpncaaGreat.Base Go.Proofs.YtieophdbhnpncaaGreat.Pure Go.Proofs.YtieophdbhnpncaaGreat.Cell Go.Proofs.YtieophdbhnpncaaGreat.Cels Go.Proofs.YtieophdbhnpncaaGreat.Dom Go.Proofs.YtieophdbhnpncaaGreat.Dms Go.Proofs.YtieophdbhnpncaaGreat.Til Go.Joins
open Go.Proofs.YtieophdbhnpncaaGreat.Reg hiding Yes add_none RC rc_start
open Go.Proofs.YtieophdbhnpncaaGreat.Cor (TfP iTilingFrom)

theorem iSortD (W : World) (A1 : Option Addr) (n c : Nat) (L : List Dm) (hL : L.length = n) (hn : (n : Int) ≤ 1048576) (hf : Fits L) (hr : RowM W W.heap.size A1 L) : Calls Tryz.prog 68 #[.slice A1 n c] W (DmPost (sortM L) (sortM L).length W) :=
  iSortDominoes W A1 n c W.heap.size L hL hn hf hr (Nat.le_refl _)
set_option maxRecDepth 100000 in
set_option maxHeartbeats 4000000 in
theorem exTilingFrom
    (w : World) (A : Option Addr) (n cap : Nat) (xs : List Int) (hx : xs.length = n) (hn : (n : Int) ≤ 9223372036854775807) (h : RowB w w.heap.size A xs)
    (A' : Option Addr) (n' cap' : Nat) (hs : List Int) (hh : hs.length = n') (hn' : (n' : Int) ≤ 9223372036854775807) (h' : RowB w w.heap.size A' hs) :
    Calls Tryz.prog 4 #[.agg #[.slice A n cap], .slice A' n' cap'] w (Dom.Yes w) := by
  have T0 := Lib.hid (fun T => rb_start (T := T) (.slice A n cap) w)
  have HZ := Lib.hid (fun W => szRegion A n cap 1048576 (by omega) (by omega) hn W)
  by_cases hs' : (n' : Int) ≤ 1048576
  rotate_left
  · have hbig : (1048576 : Int) < (n' : Int) := by omega
    clear hx hn h hh hn' h' hs' HZ
    go_enter Tryz.func4, Tryz.ntmps4
    have T1 := T0.out 43
    go_wp2
    go_ret
    exact ⟨rfl, T1.1⟩
  have hbig : ¬ (1048576 : Int) < (n' : Int) := by omega
  by_cases hsn : (n : Int) ≤ 1048576
  · obtain ⟨y0, y1⟩ := szR_yes hsn
    have HTo := Lib.hid (fun W (hb : Below w.heap.size w W) => toRegion W A n cap w.heap.size xs hx hsn (h.below hb (Nat.le_refl _)) hb.size)
    have HTm := Lib.hid (fun W (hb : Below w.heap.size w W) => toIntS W A' n' cap' w.heap.size hs hh hs' (h'.below hb (Nat.le_refl _)) hb.size)
    have HSp := Lib.hid (fun W A c (hr : RowB W W.heap.size A xs) A' c' (hr' : RowB W W.heap.size A' hs) => sTilingFrom W A n c W.heap.size xs hx hn hr (Nat.le_refl _) A' n' c' W.heap.size hs hh hn' hr' (Nat.le_refl _))
    have HIm := Lib.hid (fun W (hb : Below w.heap.size w W) A c (hr : RowB W W.heap.size A xs) A' c' (hr' : RowB W W.heap.size A' hs) => iTilingFrom W A n c W.heap.size xs hx hn hr (Nat.le_refl _) A' n' c' W.heap.size hs hh hn' hr' (Nat.le_refl _) iSortD)
    have HUq := Lib.hid (fun M ok M' ok' h1 h2 => tfR_uniq (xs := xs) (hs := hs) (M := M) (ok := ok) (M' := M') (ok' := ok') h1 h2)
    have HLe := Lib.hid (fun M ok h1 => tfR_len (xs := xs) (hs := hs) (M := M) (ok := ok) h1)
    unfold TfP at HSp HIm
    generalize tfR xs hs = TT at HSp HIm HUq HLe
    have HEr := Lib.hid (fun W A A' c c' (h1 : RowB W W.heap.size A xs) (h2 : RowB W W.heap.size A' xs) => eqRegion W A A' n c c' _ _ xs hx hn h1 h2 (Nat.le_refl _) (Nat.le_refl _))
    have HEm := Lib.hid (fun (W : World) (B B' : Option Addr) (c c' : Nat) (h1 : RowB W W.heap.size B hs) (h2 : RowB W W.heap.size B' hs) => show Calls _ _ _ W (Bol true W) from (eqIntS W B B' n' c c' W.heap.size W.heap.size hs hh (by omega) h1 h2).mono fun e w' ⟨q1, q, q2⟩ => ⟨q1, q2 ▸ drewBelow (Below.refl _ _) q⟩)
    obtain ⟨k1, hk1⟩ : ∃ k1 : Int, k1 = ((1 + n : Nat) : Int) := ⟨_, rfl⟩
    have hk0 : ¬ k1 < 0 := by omega
    have HMx := Lib.hid (fun W lo hi A c (hr : RowIn W lo hi 3 1 (.slice A n c) n (ints xs)) => markReg1 W lo hi n c A xs k1 hk1 (by omega) hr)
    obtain ⟨k2, hk2⟩ : ∃ k2 : Int, k2 = ((1 + n + n' : Nat) : Int) := ⟨_, rfl⟩
    have hk20 : ¬ k2 < 0 := by omega
    have HMd := Lib.hid (fun W lo hi A c (hr : RowIn W lo hi 3 1 (.slice A n' c) n' (ints hs)) => show Calls Tryz.prog 24 #[.slice A n' c, .int .i64 k1] W (fun e w' => e = .returned (.int .i64 k2) ∧ True ∧ Apart lo hi W w') from hk1 ▸ hk2 ▸ (markInts W lo (1 + n) n' c A hs (by omega) hr.1 hi hr.2).mono fun e w' ⟨q1, _, q3⟩ => ⟨q1, trivial, q3⟩)
    generalize szR 1048576 n = z at HZ y0
    have z2 : ¬ z < 0 := by omega
    clear hsn hs' hx hn h hh hn' h' y1 hk1 hk2
    go_enter Tryz.func4, Tryz.ntmps4
    go_wp2_with fail
    have T1 := T0.out 43
    clear T0
    refine (HZ.out _).mono ?_
    rintro e w1 ⟨rfl, hb1⟩
    have T2 := T1.on hb1
    clear T1 hb1 HZ
    obtain ⟨_, _, c0⟩ := id T2
    go_wp2_with fail
    refine (HTo.out _ T2.1).mono ?_
    rintro e w2 ⟨A1, cap1, rfl, hown, hb2⟩
    have T3 := T2.on hb2
    have R1 := rowB_own hown
    clear T2 hown hb2 c0
    go_wp2_with fail
    refine (HTm.out _ T3.1).mono ?_
    rintro e w3 ⟨A2, rfl, hown, hb3⟩
    have T4 := T3.on hb3
    have R1 := (R1.below hb3 (Nat.le_refl _)).mono hb3.size
    have R2 := rowB_own hown
    clear T3 hown hb3
    go_wp2_with fail
    refine (HSp.out _ _ _ R1 _ _ R2).mono ?_
    rintro e w4 ⟨U, ok, Aw, m, capw, hnb, hmU, rfl, hown, _, hb4⟩
    have HNb := Lib.hid hnb
    have hUl := HLe.out U ok hnb
    rw [hmU] at hUl
    have HMs := Lib.hid hmU
    have HE := Lib.hid (fun W A A' c c' (h1 : RowM W W.heap.size A U) (h2 : RowM W W.heap.size A' U) => eqDoms W A A' m c c' W.heap.size W.heap.size U hmU (by omega) h1 h2 (Nat.le_refl _) (Nat.le_refl _))
    obtain ⟨g1, hg1⟩ : ∃ g1 : Int, g1 = ((1 + 3 * m : Nat) : Int) := ⟨_, rfl⟩
    have hg0 : ¬ g1 < 0 := by omega
    have hgg : (g1 != g1) = false := by simp
    have hoo : (ok != ok) = false := by simp
    have HMg := Lib.hid (fun W lo hi A c (hr : RowIn W lo hi 67 3 (.slice A m c) m (rowM U)) => markDomsN W lo hi 1 m c A U 1 g1 (by omega) hg1 (by omega) hr)
    have HHg := Lib.hid (fun W A c (hr : RowM W W.heap.size A (marksM 1 m)) => heldDomsN W 1 m c W.heap.size A 1 g1 (by omega) hg1 (by omega) hr)
    clear hnb hmU hg1 HLe hUl
    have T5 := T4.on hb4
    have HW := rowIn_new hown
    have hl3 := T4.2.1
    have hw4 := hb4.size
    clear T4 hb4 HSp R1 R2 hown
    obtain ⟨_, _, c0⟩ := id T5
    go_wp2_with fail
    refine (HTo.out _ T5.1).mono ?_
    rintro e w5 ⟨A3, cap3, rfl, hown, hb5⟩
    have T6 := T5.on hb5
    have hw5 := hb5.size
    have S0 := fun T => ls_start (T := T) T6 (rowIn_new hown) (HW.on hb5)
    clear T5 hb5 c0 T6 hown HW
    go_upto_region 9 with fail
    have S1 := S0 26
    have hp1 : (w5.alloc (.cells #[.slice A3 n cap3] 26)).heap.size = w5.heap.size + 1 := by simp
    clear S0
    generalize w5.alloc (.cells #[.slice A3 n cap3] 26) = W5 at S1 hp1 ⊢
    generalize hpp : w5.heap.size = p at S1 hp1 hw5 ⊢
    go_wp2_with fail
    refine (HTm.out _ S1.1).mono ?_
    rintro e w6 ⟨A4, rfl, hown, hb6⟩
    have S2 := S1.on hb6
    have D2 := rowIn_new hown
    rw [hp1] at D2
    have hw6 := hb6.size
    rw [hp1] at hw6
    clear S1 hown hb6 hp1 hpp
    obtain ⟨_, _, _, c1, _⟩ := id S2
    go_wp2_with fail
    refine (HIm.out _ S2.1 _ _ (rowB_own S2.x.1) _ _ (rowB_own D2.1)).mono ?_
    rintro e w7 ⟨s', ok', Ag, m', capg, hnb, hl', rfl, hown, _, hb7⟩
    obtain ⟨rfl, rfl⟩ := HUq.out _ _ _ _ HNb.out hnb
    obtain rfl : m = m' := HMs.out.symm.trans hl'
    clear hnb hl'
    have S3 := S2.on hb7
    have D3 := D2.on hb7
    have G3 := rowIn_new hown
    have hw7 := hb7.size
    clear S2 D2 hb7 c1 hown
    go_wp2_with fail
    refine (HE.out _ _ _ _ _ (rowM_own G3.1) (rowM_own S3.ans.1)).mono ?_
    rintro e w8 ⟨rfl, hb8⟩
    have S4 := S3.on hb8
    have D4 := D3.on hb8
    have G4 := G3.on hb8
    have hw8 := hb8.size
    clear S3 D3 G3 hb8
    go_upto_region 13 with fail
    refine wp_region_noPanic ?_
    refine wp_region_held_drew (S := (fun w' => w'.cell? ⟨w.heap.size, 0, none⟩ = some (.slice A n cap) ∧ w'.cell? ⟨p, 0, none⟩ = some (.slice A3 n cap3))) (by kernel_rfl) (⟨S4.drew.2.2.1, S4.drew.2.2.2.1⟩) (fun hHeld => ?_)
    refine wpAnyH_take (i := 0) (v := ?_) rfl (by kernel_rfl) (by kernel_rfl) (by kernel_rfl) (fun _ _ _ h => h) (Or.inl ⟨by rfl, ?_⟩) (by assumption) ?_
    rotate_left
    · (intro w' hS; (try dsimp only at hS); go_simp; try with_reducible rfl)
    try simp only [Act.put, List.getElem_toArray, List.getElem_cons_succ, List.getElem_cons_zero, List.setIfInBounds_toArray, List.set_cons_zero, List.set_cons_succ]
    refine wpAnyH_take (i := 1) (v := ?_) rfl (by kernel_rfl) (by kernel_rfl) (by kernel_rfl) (fun _ _ _ h => h) (Or.inl ⟨by rfl, ?_⟩) (by assumption) ?_
    rotate_left
    · (intro w' hS; (try dsimp only at hS); go_simp; try with_reducible rfl)
    try simp only [Act.put, List.getElem_toArray, List.getElem_cons_succ, List.getElem_cons_zero, List.setIfInBounds_toArray, List.set_cons_zero, List.set_cons_succ]
    refine wpAnyH_ready (rs := [2]) (by kernel_rfl) (by simp) ?_
    refine AllReadyH.cons rfl (fun K hK => ?_) AllReadyH.nil
    go_simp
    refine (HTo.out _ S4.drew.1).mono ?_
    rintro e wx ⟨A5, cap5, rfl, hown, hb1⟩
    have S5 := S4.drew.on hb1
    have D5 := D4.drew.on hb1
    have G5 := G4.drew.on hb1
    have hw9 := hb1.size
    have hdr : w8.drew.heap.size = w8.heap.size := rfl
    rw [hdr] at hw9
    have R5 := rowB_own hown
    clear S4 D4 G4 hb1 hown hdr
    go_wp2_with fail
    refine hK.out _ _ (⟨S5.2.2.1, S5.2.2.2.1⟩) (fun hHeld => ?_)
    clear hK K
    try simp only [Act.put, List.getElem_toArray, List.getElem_cons_succ, List.getElem_cons_zero, List.setIfInBounds_toArray, List.set_cons_zero, List.set_cons_succ]
    refine wpAnyH_ready (rs := [3]) (by kernel_rfl) (by simp) ?_
    refine AllReadyH.cons rfl (fun K hK => ?_) AllReadyH.nil
    go_simp
    refine (HEr.out _ _ _ _ _ (rowB_own S5.x.1) R5).mono ?_
    rintro e wx ⟨rfl, hb2⟩
    have S6 := S5.on hb2
    have D6 := D5.on hb2
    have G6 := G5.on hb2
    have hw10 := hb2.size
    clear S5 D5 G5 hb2 R5 HEr
    go_wp2_with fail
    refine hK.out _ _ (⟨S6.2.2.1, S6.2.2.2.1⟩) (fun hHeld => ?_)
    clear hK K
    try simp only [Act.put, List.getElem_toArray, List.getElem_cons_succ, List.getElem_cons_zero, List.setIfInBounds_toArray, List.set_cons_zero, List.set_cons_succ]
    refine wpAnyH_take (i := 4) (v := ?_) rfl (by kernel_rfl) (by kernel_rfl) (by kernel_rfl) (fun _ _ _ h => h) (Or.inl ⟨by rfl, ?_⟩) (by assumption) ?_
    rotate_left
    · (intro w' hS; (try dsimp only at hS); go_simp; try with_reducible rfl)
    try simp only [Act.put, List.getElem_toArray, List.getElem_cons_succ, List.getElem_cons_zero, List.setIfInBounds_toArray, List.set_cons_zero, List.set_cons_succ]
    refine wpAnyH_done (by kernel_rfl) ?_ _
    refine NoPanic.normal ?_
    clear hHeld
    generalize wx = W10 at S6 D6 G6 hw10 ⊢
    go_wp2_with fail
    refine (HTm.out _ S6.1).mono ?_
    rintro e w11 ⟨A6, rfl, hown, hb11⟩
    have S7 := S6.on hb11
    have D7 := D6.on hb11
    have G7 := G6.on hb11
    have hw11 := hb11.size
    have R6 := rowB_own hown
    clear S6 D6 G6 hb11 hown
    go_wp2_with fail
    refine (HEm.out _ _ _ _ _ (rowB_own D7.1) R6).mono ?_
    rintro e w12 ⟨rfl, hb12⟩
    have S8 := S7.on hb12
    have D8 := D7.on hb12
    have G8 := G7.on hb12
    have hw12 := hb12.size
    clear S7 D7 G7 hb12 R6 HEm
    obtain ⟨_, _, _, c1, _⟩ := id S8
    go_wp2_with fail
    refine (HMx.out _ _ _ _ _ S8.x).mono ?_
    rintro e w13 ⟨rfl, hx13, ha13⟩
    have S9 := S8.marked hx13 ha13 (by omega) (Nat.le_refl _) (Nat.le_refl _)
    have D9 := D8.apart ha13 (.inr (by omega))
    have G9 := G8.apart ha13 (.inr (by omega))
    have hw13 := ha13.size
    clear S8 D8 G8 hx13 ha13 HMx c1
    go_wp2_with fail
    refine (HMd.out _ _ _ _ _ D9).mono ?_
    rintro e w14 ⟨rfl, _, ha14⟩
    have S10 := S9.onB (ha14.below (B := p + 1) (Nat.le_refl _) (by omega)) (by omega) (by omega) (by omega) (by omega)
    have G10 := G9.apart ha14 (.inr (by omega))
    have hw14 := ha14.size
    clear S9 D9 G9 ha14 HMd
    go_wp2_with fail
    refine (HE.out _ _ _ _ _ (rowM_own G10.1) (rowM_own S10.ans.1)).mono ?_
    rintro e w15 ⟨rfl, hb15⟩
    have S11 := S10.on hb15
    have G11 := G10.on hb15
    have hw15 := hb15.size
    clear S10 G10 hb15
    go_wp2_with fail
    refine (HMg.out _ _ _ _ _ G11).mono ?_
    rintro e w16 ⟨rfl, hg16, ha16⟩
    have hb16 := ha16.below (B := w6.heap.size) (Nat.le_refl _) (by omega)
    have S12 := S11.onB hb16 (by omega) (by omega) (by omega) (by omega)
    have G12 := hg16
    clear S11 G11 hg16 hb16 ha16 HMg
    go_wp2_with fail
    refine (HHg.out _ _ _ (rowM_own G12.1)).mono ?_
    rintro e w17 ⟨rfl, rfl⟩
    obtain ⟨_, _, c0, _⟩ := id S12
    go_wp2_with fail
    refine (HTo.out _ S12.1).mono ?_
    rintro e w18 ⟨A7, cap7, rfl, hown, hb18⟩
    have S13 := S12.on hb18
    have G13 := G12.on hb18
    have R7 := rowB_own hown
    clear S12 G12 hown hb18 c0
    go_wp2_with fail
    refine (HTm.out _ S13.1).mono ?_
    rintro e w19 ⟨A8, rfl, hown, hb19⟩
    have S14 := S13.on hb19
    have G14 := G13.on hb19
    have R7 := (R7.below hb19 (Nat.le_refl _)).mono hb19.size
    have R8 := rowB_own hown
    clear S13 G13 hown hb19
    go_wp2_with fail
    refine (HIm.out _ S14.1 _ _ R7 _ _ R8).mono ?_
    rintro e w20 ⟨s'', ok'', Ah, m'', caph, hnb, hl'', rfl, hown, _, hb20⟩
    obtain ⟨rfl, rfl⟩ := HUq.out _ _ _ _ HNb.out hnb
    obtain rfl : m = m'' := HMs.out.symm.trans hl''
    clear hnb hl''
    have S15 := S14.on hb20
    have G15 := G14.on hb20
    have HH := rowM_own hown
    clear S14 G14 hown hb20 R7 R8
    go_wp2_with fail
    refine (HE.out _ _ _ _ _ HH (rowM_own S15.ans.1)).mono ?_
    rintro e w21 ⟨rfl, hb21⟩
    have G16 := G15.on hb21
    have hb := (S15.on hb21).1
    clear S15 G15 hb21 HH
    go_wp2_with fail
    refine (HHg.out _ _ _ (rowM_own G16.1)).mono ?_
    rintro e w22 ⟨rfl, rfl⟩
    go_wp2
    go_ret
    exact ⟨rfl, hb⟩
  · rw [szR_no hsn] at HZ
    clear hsn hs' hx hn h hh hn' h'
    go_enter Tryz.func4, Tryz.ntmps4
    go_wp2_with fail
    have T1 := T0.out 43
    clear T0
    refine (HZ.out _).mono ?_
    rintro e w1 ⟨rfl, hb1⟩
    have hb := (T1.on hb1).1
    clear T1 hb1 HZ
    go_wp2
    go_ret
    exact ⟨rfl, hb⟩
end Go.Proofs.YtieophdbhnpncaaGreat.Hgt
