/- The law FnExactCountDown returns true, given the program's contract: the program's CountDown and the model's give the same number; the list is left as it was. -/
import Derived.Test.YtkjoonmnedofiaaFlmC
import Derived.Test.YtkjoonmnedofiaaTilM
namespace Go.Proofs.Ytkjoonmnedofiaa.Flp
set_option linter.unusedVariables false
set_option linter.unusedSimpArgs false
open Go.RowKit Go.Proofs.Ytkjoonmnedofiaa.Base Go.Proofs.Ytkjoonmnedofiaa.Pure Go.Proofs.Ytkjoonmnedofiaa.Cell Go.Proofs.Ytkjoonmnedofiaa.Dom Go.Proofs.Ytkjoonmnedofiaa.Dms Go.Proofs.Ytkjoonmnedofiaa.Til Go.Joins
open Go.Proofs.Ytkjoonmnedofiaa.Reg hiding Yes add_none

set_option maxRecDepth 100000 in
set_option maxHeartbeats 2000000 in
theorem lawCountDown (iCountDown : ∀ (W : World) (A : Option Addr) (n c B : Nat) (L : List Dm), L.length = n → (n : Int) ≤ 1048576 → Fits L → RowM W B A L → B ≤ W.heap.size → Calls Try.prog 15 #[.slice A n c] W (Num ((downR L : Nat) : Int) W))
    (w : World) (A : Option Addr) (n cap : Nat) (L : List Dm) (hL : L.length = n) (hn : (n : Int) ≤ 9223372036854775807) (h : RowM w w.heap.size A L) (hf : Fits L) :
    Calls Try.prog 8 #[.slice A n cap] w (Dom.Yes w) := by
  have HZ := Lib.hid (fun W => szDominoS A n cap 1048576 (by omega) (by omega) hn W)
  by_cases hs : (n : Int) ≤ 1048576
  · have HTo := Lib.hid (fun W (hb : Below w.heap.size w W) => toDominoS W A n cap w.heap.size L hL hs (h.below hb (Nat.le_refl _)) hb.size)
    have HSp := Lib.hid (fun W A c (hr : RowM W W.heap.size A L) => sCountDown W A n c W.heap.size L hL hs hr (Nat.le_refl _))
    have HIm := Lib.hid (fun W A c (hr : RowM W W.heap.size A L) => iCountDown W A n c W.heap.size L hL hs hf hr (Nat.le_refl _))
    have HEq := Lib.hid (fun W A A' c c' (h1 : RowM W W.heap.size A L) (h2 : RowM W W.heap.size A' L) => eqDoms W A A' n c c' W.heap.size W.heap.size L hL hn h1 h2 (Nat.le_refl _) (Nat.le_refl _))
    have hz := szR_yes hs
    generalize szR 1048576 n = z at HZ hz
    obtain ⟨z0, z1⟩ := hz
    have z2 : ¬ z < 0 := by omega
    generalize ((downR L : Nat) : Int) = q at HSp HIm
    have hq : (q != q) = false := by simp
    clear hs hL hn h hf
    go_enter Try.func8, Try.ntmps8
    go_wp2_with fail
    refine (HZ.out _).mono ?_
    rintro e w1 ⟨rfl, hw⟩
    have hw := hw.symm
    subst hw
    clear HZ
    go_wp2_with fail
    refine (HTo.out _ (Below.refl _ _)).mono ?_
    rintro e w2 ⟨A1, cap1, rfl, _, hown, hb2⟩
    have R1 := rowM_own hown
    clear hown
    go_wp2_with fail
    refine (HSp.out _ _ _ R1).mono ?_
    rintro e w3 ⟨rfl, hb3⟩
    have hb3' := hb2.trans (hb3.mono hb2.size)
    clear hb2 hb3 HSp R1
    go_wp2_with fail
    refine (HTo.out _ hb3').mono ?_
    rintro e w4 ⟨A3, cap3, rfl, _, hown, hb4⟩
    have R4 := rowM_own hown
    have hb4' := hb3'.trans (hb4.mono hb3'.size)
    clear hown hb4 hb3'
    go_wp2_with fail
    refine (HIm.out _ _ _ R4).mono ?_
    rintro e w5 ⟨rfl, hb5⟩
    have R5 := (R4.below hb5 (Nat.le_refl _)).mono hb5.size
    have hb5' := hb4'.trans (hb5.mono hb4'.size)
    clear hb5 hb4' R4 HIm
    go_wp2_with fail
    refine (HTo.out _ hb5').mono ?_
    rintro e w6 ⟨A6, cap6, rfl, _, hown, hb6⟩
    have R6 := (R5.below hb6 (Nat.le_refl _)).mono hb6.size
    have R7 := rowM_own hown
    have hb6' := hb5'.trans (hb6.mono hb5'.size)
    clear hown hb6 hb5' R5
    go_wp2_with fail
    refine (HEq.out _ _ _ _ _ R6 R7).mono ?_
    rintro e w7 ⟨rfl, hb7⟩
    have hb := hb6'.trans (hb7.mono hb6'.size)
    clear hb7 hb6' R6 R7
    go_wp2
    go_ret
    exact ⟨rfl, hb⟩
  · rw [szR_no hs] at HZ
    clear hs hL hn h
    go_enter Try.func8, Try.ntmps8
    go_wp2_with fail
    refine (HZ.out _).mono ?_
    rintro e w1 ⟨rfl, rfl⟩
    go_wp2
    go_ret
    exact ⟨rfl, Below.refl _ _⟩
end Go.Proofs.Ytkjoonmnedofiaa.Flp
