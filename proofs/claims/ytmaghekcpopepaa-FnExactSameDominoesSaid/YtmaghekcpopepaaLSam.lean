/- The law FnExactSameDominoes returns true: the program's SameDominoes and the model's say the same; both lists are left as they were. -/
import Derived.Test.YtmaghekcpopepaaSam
namespace Go.Proofs.Ytmaghekcpopepaa.Sam
set_option linter.unusedVariables false
set_option linter.unusedSimpArgs false
open Go.RowKit Go.Proofs.Ytmaghekcpopepaa.Base Go.Proofs.Ytmaghekcpopepaa.Pure Go.Proofs.Ytmaghekcpopepaa.Cell Go.Proofs.Ytmaghekcpopepaa.Dom Go.Proofs.Ytmaghekcpopepaa.Dms Go.Proofs.Ytmaghekcpopepaa.Til Go.Joins
open Go.Proofs.Ytmaghekcpopepaa.Reg hiding Yes add_none

set_option maxRecDepth 100000 in
set_option maxHeartbeats 4000000 in
theorem lawSame (w : World) (A : Option Addr) (n cap : Nat) (L : List Dm) (hL : L.length = n) (hn : (n : Int) ≤ 9223372036854775807) (h : RowM w w.heap.size A L) (hf : Fits L)
    (A' : Option Addr) (n' cap' : Nat) (M : List Dm) (hM : M.length = n') (hn' : (n' : Int) ≤ 9223372036854775807) (h' : RowM w w.heap.size A' M) (hf' : Fits M) :
    Calls Try.prog 3 #[.slice A n cap, .slice A' n' cap'] w (Dom.Yes w) := by
  have HZ := Lib.hid (fun W => szDominoS A n cap 1048576 (by omega) (by omega) hn W)
  by_cases hs : (n : Int) ≤ 1048576
  · have hz := szR_yes hs
    generalize szR 1048576 n = z at HZ hz
    obtain ⟨z0, z1⟩ := hz
    have z2 : ¬ z < 0 := by omega
    have HZ2 := Lib.hid (fun W => szDominoS A' n' cap' z z0 z1 hn' W)
    by_cases hs' : (n' : Int) ≤ z
    · have HTo := Lib.hid (fun W (hb : Below w.heap.size w W) => toDominoS W A n cap w.heap.size L hL hs (h.below hb (Nat.le_refl _)) hb.size)
      have HTo' := Lib.hid (fun W (hb : Below w.heap.size w W) => toDominoS W A' n' cap' w.heap.size M hM (by omega) (h'.below hb (Nat.le_refl _)) hb.size)
      have HSp := Lib.hid (fun W A A' c c' (hr : RowM W W.heap.size A L) (hr' : RowM W W.heap.size A' M) => sSame W A A' n n' c c' W.heap.size W.heap.size L M hL hM hn hn' hr hr' (Nat.le_refl _) (Nat.le_refl _))
      have HIm := Lib.hid (fun W A A' c c' (hr : RowM W W.heap.size A L) (hr' : RowM W W.heap.size A' M) => iSame W A A' n n' c c' W.heap.size W.heap.size L M hL hM hn hn' hr hr' (Nat.le_refl _) (Nat.le_refl _))
      have HEq := Lib.hid (fun W A A' c c' (h1 : RowM W W.heap.size A L) (h2 : RowM W W.heap.size A' L) => eqDoms W A A' n c c' W.heap.size W.heap.size L hL hn h1 h2 (Nat.le_refl _) (Nat.le_refl _))
      have HEq' := Lib.hid (fun W A A' c c' (h1 : RowM W W.heap.size A M) (h2 : RowM W W.heap.size A' M) => eqDoms W A A' n' c c' W.heap.size W.heap.size M hM hn' h1 h2 (Nat.le_refl _) (Nat.le_refl _))
      generalize sameD L M = q at HSp HIm
      have hz' : 0 ≤ szR z n' := by unfold szR; rw [if_pos hs']; omega
      generalize szR z n' = y at HZ2 hz'
      have y2 : ¬ y < 0 := by omega
      have hq : (q != q) = false := by simp
      clear hs hs' hL hM hn hn' h h' hf hf' z0 z1 hz'
      go_enter Try.func3, Try.ntmps3
      go_wp2_with fail
      refine (HZ.out _).mono ?_
      rintro e w1 ⟨rfl, hw⟩
      have hw := hw.symm
      subst hw
      clear HZ
      go_wp2_with fail
      refine (HZ2.out _).mono ?_
      rintro e w1 ⟨rfl, hw⟩
      have hw := hw.symm
      subst hw
      clear HZ2
      go_wp2_with fail
      refine (HTo.out _ (Below.refl _ _)).mono ?_
      rintro e w2 ⟨A1, cap1, rfl, _, hown, hb2⟩
      have R1 := rowM_own hown
      clear hown
      go_wp2_with fail
      refine (HTo'.out _ hb2).mono ?_
      rintro e w3 ⟨A2, cap2, rfl, _, hown, hb3⟩
      have R2 := rowM_own hown
      have R1 := (R1.below hb3 (Nat.le_refl _)).mono hb3.size
      have hb3 := hb2.trans (hb3.mono hb2.size)
      clear hown hb2
      go_wp2_with fail
      refine (HSp.out _ _ _ _ _ R1 R2).mono ?_
      rintro e w4 ⟨rfl, hb4⟩
      have hb4 := hb3.trans (hb4.mono hb3.size)
      clear R1 R2 hb3 HSp
      go_wp2_with fail
      refine (HTo.out _ hb4).mono ?_
      rintro e w5 ⟨A5, cap5, rfl, _, hown, hb5⟩
      have R5 := rowM_own hown
      have hb5 := hb4.trans (hb5.mono hb4.size)
      clear hown hb4
      go_wp2_with fail
      refine (HTo'.out _ hb5).mono ?_
      rintro e w6 ⟨A6, cap6, rfl, _, hown, hb6⟩
      have Q6 := rowM_own hown
      have R6 := (R5.below hb6 (Nat.le_refl _)).mono hb6.size
      have hb6 := hb5.trans (hb6.mono hb5.size)
      clear hown hb5 R5
      go_wp2_with fail
      refine (HIm.out _ _ _ _ _ R6 Q6).mono ?_
      rintro e w7 ⟨rfl, hb7⟩
      have R7 := (R6.below hb7 (Nat.le_refl _)).mono hb7.size
      have Q7 := (Q6.below hb7 (Nat.le_refl _)).mono hb7.size
      have hb7 := hb6.trans (hb7.mono hb6.size)
      clear R6 Q6 hb6 HIm
      go_wp2_with fail
      refine (HTo.out _ hb7).mono ?_
      rintro e w8 ⟨A8, cap8, rfl, _, hown, hb8⟩
      have S8 := rowM_own hown
      have R8 := (R7.below hb8 (Nat.le_refl _)).mono hb8.size
      have Q8 := (Q7.below hb8 (Nat.le_refl _)).mono hb8.size
      have hb8 := hb7.trans (hb8.mono hb7.size)
      clear hown hb7 R7 Q7
      go_wp2_with fail
      refine (HEq.out _ _ _ _ _ R8 S8).mono ?_
      rintro e w9 ⟨rfl, hb9⟩
      have Q9 := (Q8.below hb9 (Nat.le_refl _)).mono hb9.size
      have hb9 := hb8.trans (hb9.mono hb8.size)
      clear R8 S8 Q8 hb8 HEq
      go_wp2_with fail
      refine (HTo'.out _ hb9).mono ?_
      rintro e w10 ⟨A10, cap10, rfl, _, hown, hb10⟩
      have S10 := rowM_own hown
      have Q10 := (Q9.below hb10 (Nat.le_refl _)).mono hb10.size
      have hb10 := hb9.trans (hb10.mono hb9.size)
      clear hown hb9 Q9
      go_wp2_with fail
      refine (HEq'.out _ _ _ _ _ Q10 S10).mono ?_
      rintro e w11 ⟨rfl, hb11⟩
      have hb := hb10.trans (hb11.mono hb10.size)
      clear hb10 hb11
      go_wp2
      go_ret
      exact ⟨rfl, hb⟩
    · have hy : szR z n' = -1 := by unfold szR; rw [if_neg hs']
      rw [hy] at HZ2
      clear hs hs' hL hM hn hn' h h' z0 z1 hy
      go_enter Try.func3, Try.ntmps3
      go_wp2_with fail
      refine (HZ.out _).mono ?_
      rintro e w1 ⟨rfl, rfl⟩
      go_wp2_with fail
      refine (HZ2.out _).mono ?_
      rintro e w1 ⟨rfl, rfl⟩
      go_wp2
      go_ret
      exact ⟨rfl, Below.refl _ _⟩
  · rw [szR_no hs] at HZ
    clear hs hL hn h
    go_enter Try.func3, Try.ntmps3
    go_wp2_with fail
    refine (HZ.out _).mono ?_
    rintro e w1 ⟨rfl, rfl⟩
    go_wp2
    go_ret
    exact ⟨rfl, Below.refl _ _⟩
end Go.Proofs.Ytmaghekcpopepaa.Sam
