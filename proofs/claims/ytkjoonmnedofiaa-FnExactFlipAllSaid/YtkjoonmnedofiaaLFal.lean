/- The law FnExactFlipAll returns true, given the program's contract: the program's FlipAll and the model's list the same dominoes and say the same; the lists are left as they were, and the answers own their memory. -/
import Derived.Test.YtkjoonmnedofiaaMgFAl
import Derived.Test.YtkjoonmnedofiaaMgTil
import Derived.Test.YtkjoonmnedofiaaDefQ
namespace Go.Proofs.Ytkjoonmnedofiaa.Flp
set_option linter.unusedVariables false
set_option linter.unusedSimpArgs false
open Go.RowKit Go.Proofs.Ytkjoonmnedofiaa.Base Go.Proofs.Ytkjoonmnedofiaa.Pure Go.Proofs.Ytkjoonmnedofiaa.Cell Go.Proofs.Ytkjoonmnedofiaa.Cels Go.Proofs.Ytkjoonmnedofiaa.Dom Go.Proofs.Ytkjoonmnedofiaa.Dms Go.Proofs.Ytkjoonmnedofiaa.Til Go.Joins
open Go.Proofs.Ytkjoonmnedofiaa.Def (markCellsN szCellS toCellS eqCellsK ClPost)
open Go.Proofs.Ytkjoonmnedofiaa.Reg hiding Yes add_none

set_option maxRecDepth 100000 in
set_option maxHeartbeats 4000000 in
theorem lawFlipAll (iFlipAll : ∀ (W : World) (A : Option Addr) (n c B : Nat) (L : List Dm), L.length = n → (n : Int) ≤ 1048576 → Fits L → RowM W B A L → B ≤ W.heap.size → ∀ (A2 : Option Addr) (m c2 B2 : Nat) (C : List (Int × Int)), C.length = m → (m : Int) ≤ 1048576 → Go.Proofs.Ytkjoonmnedofiaa.Def.RowK W B2 A2 C → B2 ≤ W.heap.size → Calls Try.prog 18 #[.slice A n c, .slice A2 m c2] W (FlPost (allL L C) (allB L C) W))
    (w : World) (A : Option Addr) (n cap : Nat) (L : List Dm) (hL : L.length = n) (hn : (n : Int) ≤ 9223372036854775807) (h : RowM w w.heap.size A L) (hf : Fits L)
    (A' : Option Addr) (n' cap' : Nat) (C : List (Int × Int)) (hC : C.length = n') (hn' : (n' : Int) ≤ 9223372036854775807) (h' : Go.Proofs.Ytkjoonmnedofiaa.Def.RowK w w.heap.size A' C) :
    Calls Try.prog 7 #[.slice A n cap, .slice A' n' cap'] w (Dom.Yes w) := by
  have HZ := Lib.hid (fun W => szDominoS A n cap 1048576 (by omega) (by omega) hn W)
  by_cases hs : (n : Int) ≤ 1048576
  · obtain ⟨y0, y1⟩ := szR_yes hs
    have HY := Lib.hid (fun W => szCellS A' n' cap' (szR 1048576 n) y0 y1 hn' W)
    have hzz : (szR (szR 1048576 n) n' = -1) ∨ (0 ≤ szR (szR 1048576 n) n' ∧ (n' : Int) ≤ 1048576) := by
      by_cases h2 : (n' : Int) ≤ szR 1048576 n
      · right; constructor
        · rw [show szR (szR 1048576 n) n' = szR 1048576 n - n' by unfold szR; rw [if_pos (by unfold szR at h2; exact h2)]]; omega
        · omega
      · left; rw [show szR (szR 1048576 n) n' = -1 by generalize szR 1048576 n = q at h2; unfold szR; rw [if_neg h2]]
    have HTo := Lib.hid (fun W (hb : Below w.heap.size w W) => toDominoS W A n cap w.heap.size L hL hs (h.below hb (Nat.le_refl _)) hb.size)
    have HEq := Lib.hid (fun W A A' c c' (h1 : RowM W W.heap.size A L) (h2 : RowM W W.heap.size A' L) => eqDoms W A A' n c c' W.heap.size W.heap.size L hL hn h1 h2 (Nat.le_refl _) (Nat.le_refl _))
    have HTm := Lib.hid (fun (hs' : (n' : Int) ≤ 1048576) W (hb : Below w.heap.size w W) => toCellS W A' n' cap' w.heap.size C hC hs' (h'.below hb (Nat.le_refl _)) hb.size)
    have HEc := Lib.hid (fun (hs' : (n' : Int) ≤ 1048576) W A A' c c' (h1 : Go.Proofs.Ytkjoonmnedofiaa.Def.RowK W W.heap.size A C) (h2 : Go.Proofs.Ytkjoonmnedofiaa.Def.RowK W W.heap.size A' C) => eqCellsK W A A' n' c c' C hC hs' h1 h2)
    have HSp := Lib.hid (fun (hs' : (n' : Int) ≤ 1048576) W A c (hr : RowM W W.heap.size A L) A' c' (hr' : Go.Proofs.Ytkjoonmnedofiaa.Def.RowK W W.heap.size A' C) => sFlipAll W A n c W.heap.size L hL hs hr (Nat.le_refl _) A' n' c' W.heap.size C hC hs' hr' (Nat.le_refl _))
    have HIm := Lib.hid (fun (hs' : (n' : Int) ≤ 1048576) W A c (hr : RowM W W.heap.size A L) A' c' (hr' : Go.Proofs.Ytkjoonmnedofiaa.Def.RowK W W.heap.size A' C) => iFlipAll W A n c W.heap.size L hL hs hf hr (Nat.le_refl _) A' n' c' W.heap.size C hC hs' hr' (Nat.le_refl _))
    have hSl := allL_len L C
    obtain ⟨k1, hk1⟩ : ∃ k1 : Int, k1 = ((1 + 3 * n : Nat) : Int) := ⟨_, rfl⟩
    have HMx := Lib.hid (fun W lo hi A c (hr : RowIn W lo hi 38 3 (.slice A n c) n (rowM L)) => markDomsN W lo hi 1 n c A L 1 k1 (by omega) hk1 (by omega) hr)
    obtain ⟨k2, hk2⟩ : ∃ k2 : Int, k2 = ((1 + 3 * n + 2 * n' : Nat) : Int) := ⟨_, rfl⟩
    have hk0 : ¬ k2 < 0 := by omega
    have HMy := Lib.hid (fun (hs' : (n' : Int) ≤ 1048576) W lo hi A c (hr : RowIn W lo hi 35 2 (.slice A n' c) n' (rowC C)) => markCellsN W lo hi (1 + 3 * n) n' c A C k1 k2 hk1 hk2 (by omega) hr)
    generalize allL L C = S at HSp HIm hSl
    generalize allB L C = ok at HSp HIm
    have hoo : (ok != ok) = false := by simp
    obtain ⟨m, hm⟩ : ∃ m, m = S.length := ⟨_, rfl⟩
    unfold FlPost at HSp HIm
    rw [← hm] at HSp HIm hSl
    have HEs := Lib.hid (fun W A A' c c' (h1 : RowM W W.heap.size A S) (h2 : RowM W W.heap.size A' S) => eqDoms W A A' m c c' W.heap.size W.heap.size S hm.symm (by omega) h1 h2 (Nat.le_refl _) (Nat.le_refl _))
    obtain ⟨g1, hg1⟩ : ∃ g1 : Int, g1 = ((1 + 3 * m : Nat) : Int) := ⟨_, rfl⟩
    have hg0 : ¬ g1 < 0 := by omega
    have hgg : (g1 != g1) = false := by simp
    have HMg := Lib.hid (fun W lo hi A c (hr : RowIn W lo hi 38 3 (.slice A m c) m (rowM S)) => markDomsN W lo hi 1 m c A S 1 g1 (by omega) hg1 (by omega) hr)
    have HHg := Lib.hid (fun W A c (hr : RowM W W.heap.size A (marksM 1 m)) => heldDomsN W 1 m c W.heap.size A 1 g1 (by omega) hg1 (by omega) hr)
    generalize szR (szR 1048576 n) n' = zz at HY hzz
    generalize szR 1048576 n = z at HZ HY y0
    have z2 : ¬ z < 0 := by omega
    clear hs hL hn h hf hm hk1 hk2 hg1 hSl hC hn' h' y1
    go_enter Try.func7, Try.ntmps7
    go_wp2_with fail
    refine (HZ.out _).mono ?_
    rintro e w1 ⟨rfl, hw⟩
    have hw := hw.symm
    subst hw
    clear HZ
    go_wp2_with fail
    refine (HY.out _).mono ?_
    rintro e w1 ⟨rfl, hw⟩
    have hw := hw.symm
    subst hw
    clear HY
    rcases hzz with rfl | ⟨zz0, hs'⟩
    · go_wp2
      go_ret
      exact ⟨rfl, Below.refl _ _⟩
    · have HTm := Lib.hid (fun W hb => HTm.out hs' W hb)
      have HEc := Lib.hid (fun W A A' c c' h1 h2 => HEc.out hs' W A A' c c' h1 h2)
      have HSp := Lib.hid (fun W A c hr A' c' hr' => HSp.out hs' W A c hr A' c' hr')
      have HIm := Lib.hid (fun W A c hr A' c' hr' => HIm.out hs' W A c hr A' c' hr')
      have HMy := Lib.hid (fun W lo hi A c hr => HMy.out hs' W lo hi A c hr)
      have zz2 : ¬ zz < 0 := by omega
      clear hs'
      go_wp2_with fail
      refine (HTo.out _ (Below.refl _ _)).mono ?_
      rintro e w2 ⟨A1, c1, rfl, _, hown, hb2⟩
      have hs2 := hb2.size
      have hB := hb2
      have R1 := rowM_own hown
      clear hown
      clear hb2
      go_wp2_with fail
      refine (HTm.out _ (hB)).mono ?_
      rintro e w3 ⟨A2, c2, rfl, _, hown, hb3⟩
      have R1 := (R1.below hb3 (Nat.le_refl _)).mono hb3.size
      have hs3 := hb3.size
      have hB := hB.trans (hb3.mono hB.size)
      have R2 := Go.Proofs.Ytkjoonmnedofiaa.Def.rowK_own hown
      clear hown
      clear hb3
      go_wp2_with fail
      refine (HSp.out _ _ _ R1 _ _ R2).mono ?_
      rintro e w4 ⟨Aw, cw, rfl, _, hown, hb4⟩
      have hs4 := hb4.size
      have hB := hB.trans (hb4.mono hB.size)
      have V := rowIn_new hown
      clear hown R1 R2 HSp
      clear hb4
      go_wp2_with fail
      refine (HTo.out _ (hB)).mono ?_
      rintro e w5 ⟨A3, c3, rfl, _, hown, hb5⟩
      have V := V.on hb5
      have hs5 := hb5.size
      have hB := hB.trans (hb5.mono hB.size)
      have D := rowIn_new hown
      clear hown
      clear hb5
      go_wp2_with fail
      refine (HTm.out _ (hB)).mono ?_
      rintro e w6 ⟨A4, c4, rfl, _, hown, hb6⟩
      have V := V.on hb6
      have D := D.on hb6
      have hs6 := hb6.size
      have hB := hB.trans (hb6.mono hB.size)
      have E := rowIn_new hown
      clear hown
      clear hb6
      go_wp2_with fail
      refine (HIm.out _ _ _ (rowM_own D.1) _ _ (Go.Proofs.Ytkjoonmnedofiaa.Def.rowK_own E.1)).mono ?_
      rintro e w7 ⟨Ag, cg, rfl, _, hown, hb7⟩
      have V := V.on hb7
      have D := D.on hb7
      have E := E.on hb7
      have hs7 := hb7.size
      have hB := hB.trans (hb7.mono hB.size)
      have G := rowIn_new hown
      clear hown
      clear hb7
      go_wp2_with fail
      refine (HEs.out _ _ _ _ _ (rowM_own G.1) (rowM_own V.1)).mono ?_
      rintro e w8 ⟨rfl, hb8⟩
      have V := V.on hb8
      have D := D.on hb8
      have E := E.on hb8
      have G := G.on hb8
      have hs8 := hb8.size
      have hB := hB.trans (hb8.mono hB.size)
      clear hb8
      go_wp2_with fail
      refine (HTo.out _ (hB)).mono ?_
      rintro e w9 ⟨A5, c5, rfl, _, hown, hb9⟩
      have V := V.on hb9
      have D := D.on hb9
      have E := E.on hb9
      have G := G.on hb9
      have hs9 := hb9.size
      have hB := hB.trans (hb9.mono hB.size)
      have R1 := rowM_own hown
      clear hown
      clear hb9
      go_wp2_with fail
      refine (HEq.out _ _ _ _ _ (rowM_own D.1) R1).mono ?_
      rintro e w10 ⟨rfl, hb10⟩
      have V := V.on hb10
      have D := D.on hb10
      have E := E.on hb10
      have G := G.on hb10
      have hs10 := hb10.size
      have hB := hB.trans (hb10.mono hB.size)
      clear R1
      clear hb10
      go_wp2_with fail
      refine (HTm.out _ (hB)).mono ?_
      rintro e w11 ⟨A6, c6, rfl, _, hown, hb11⟩
      have V := V.on hb11
      have D := D.on hb11
      have E := E.on hb11
      have G := G.on hb11
      have hs11 := hb11.size
      have hB := hB.trans (hb11.mono hB.size)
      have R2 := Go.Proofs.Ytkjoonmnedofiaa.Def.rowK_own hown
      clear hown
      clear hb11
      go_wp2_with fail
      refine (HEc.out _ _ _ _ _ (Go.Proofs.Ytkjoonmnedofiaa.Def.rowK_own E.1) R2).mono ?_
      rintro e w12 ⟨rfl, hb12⟩
      have V := V.on hb12
      have D := D.on hb12
      have E := E.on hb12
      have G := G.on hb12
      have hs12 := hb12.size
      have hB := hB.trans (hb12.mono hB.size)
      clear R2 HEq HEc
      clear hb12
      go_wp2_with fail
      refine (HMx.out _ _ _ _ _ D).mono ?_
      rintro e w13 ⟨rfl, _, ha13⟩
      have V := V.apart ha13 (.inl (by omega))
      have E := E.apart ha13 (.inr (by omega))
      have G := G.apart ha13 (.inr (by omega))
      clear D HMx
      have hs13 := ha13.size
      have hB := hB.trans (ha13.below (B := w.heap.size) (by omega) (by omega))
      clear ha13
      go_wp2_with fail
      refine (HMy.out _ _ _ _ _ E).mono ?_
      rintro e w14 ⟨rfl, _, ha14⟩
      have V := V.apart ha14 (.inl (by omega))
      have G := G.apart ha14 (.inr (by omega))
      clear E HMy
      have hs14 := ha14.size
      have hB := hB.trans (ha14.below (B := w.heap.size) (by omega) (by omega))
      clear ha14
      go_wp2_with fail
      refine (HEs.out _ _ _ _ _ (rowM_own G.1) (rowM_own V.1)).mono ?_
      rintro e w15 ⟨rfl, hb15⟩
      have V := V.on hb15
      have G := G.on hb15
      have hs15 := hb15.size
      have hB := hB.trans (hb15.mono hB.size)
      clear hb15
      go_wp2_with fail
      refine (HMg.out _ _ _ _ _ G).mono ?_
      rintro e w16 ⟨rfl, G, ha16⟩
      have V := V.apart ha16 (.inl (by omega))
      clear HMg
      have hs16 := ha16.size
      have hB := hB.trans (ha16.below (B := w.heap.size) (by omega) (by omega))
      clear ha16
      go_wp2_with fail
      refine (HHg.out _ _ _ (rowM_own G.1)).mono ?_
      rintro e wh ⟨rfl, hw⟩
      have hw := hw.symm
      subst hw
      go_wp2_with fail
      refine (HTo.out _ (hB)).mono ?_
      rintro e w17 ⟨A7, c7, rfl, _, hown, hb17⟩
      have V := V.on hb17
      have G := G.on hb17
      have hs17 := hb17.size
      have hB := hB.trans (hb17.mono hB.size)
      have R1 := rowM_own hown
      clear hown
      clear hb17
      go_wp2_with fail
      refine (HTm.out _ (hB)).mono ?_
      rintro e w18 ⟨A8, c8, rfl, _, hown, hb18⟩
      have V := V.on hb18
      have G := G.on hb18
      have R1 := (R1.below hb18 (Nat.le_refl _)).mono hb18.size
      have hs18 := hb18.size
      have hB := hB.trans (hb18.mono hB.size)
      have R2 := Go.Proofs.Ytkjoonmnedofiaa.Def.rowK_own hown
      clear hown
      clear hb18
      go_wp2_with fail
      refine (HIm.out _ _ _ R1 _ _ R2).mono ?_
      rintro e w19 ⟨Ah, ch, rfl, _, hown, hb19⟩
      have V := V.on hb19
      have G := G.on hb19
      have hs19 := hb19.size
      have hB := hB.trans (hb19.mono hB.size)
      have R3 := rowM_own hown
      clear hown R1 R2
      clear hb19
      go_wp2_with fail
      refine (HEs.out _ _ _ _ _ R3 (rowM_own V.1)).mono ?_
      rintro e w20 ⟨rfl, hb20⟩
      have V := V.on hb20
      have G := G.on hb20
      have hs20 := hb20.size
      have hB := hB.trans (hb20.mono hB.size)
      clear R3 V
      clear hb20
      go_wp2_with fail
      refine (HHg.out _ _ _ (rowM_own G.1)).mono ?_
      rintro e wz ⟨rfl, rfl⟩
      go_wp2
      go_ret
      exact ⟨rfl, hB⟩
  · rw [szR_no hs] at HZ
    clear hs hL hn h
    go_enter Try.func7, Try.ntmps7
    go_wp2_with fail
    refine (HZ.out _).mono ?_
    rintro e w1 ⟨rfl, rfl⟩
    go_wp2
    go_ret
    exact ⟨rfl, Below.refl _ _⟩
end Go.Proofs.Ytkjoonmnedofiaa.Flp
