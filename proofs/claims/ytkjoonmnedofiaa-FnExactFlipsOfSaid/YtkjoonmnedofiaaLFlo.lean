/- The law FnExactFlipsOf returns true, given the program's contract: the program's FlipsOf and the model's list the same cells; the list is left as it was, and the answers own their memory. -/
import Derived.Test.YtkjoonmnedofiaaFlmC
import Derived.Test.YtkjoonmnedofiaaTilN
import Derived.Test.YtkjoonmnedofiaaDefQ
namespace Go.Proofs.Ytkjoonmnedofiaa.Flp
set_option linter.unusedVariables false
set_option linter.unusedSimpArgs false
open Go.RowKit Go.Proofs.Ytkjoonmnedofiaa.Base Go.Proofs.Ytkjoonmnedofiaa.Pure Go.Proofs.Ytkjoonmnedofiaa.Cell Go.Proofs.Ytkjoonmnedofiaa.Cels Go.Proofs.Ytkjoonmnedofiaa.Dom Go.Proofs.Ytkjoonmnedofiaa.Dms Go.Proofs.Ytkjoonmnedofiaa.Til Go.Joins
open Go.Proofs.Ytkjoonmnedofiaa.Def (markCellsN)
open Go.Proofs.Ytkjoonmnedofiaa.Reg hiding Yes add_none

set_option maxRecDepth 100000 in
set_option maxHeartbeats 4000000 in
theorem lawFlipsOf (iFlipsOf : ∀ (W : World) (A : Option Addr) (n c B : Nat) (L : List Dm), L.length = n → (n : Int) ≤ 1048576 → Fits L → RowM W B A L → B ≤ W.heap.size → Calls Try.prog 12 #[.slice A n c] W (NbPost (flipsR L) W))
    (w : World) (A : Option Addr) (n cap : Nat) (L : List Dm) (hL : L.length = n) (hn : (n : Int) ≤ 9223372036854775807) (h : RowM w w.heap.size A L) (hf : Fits L) :
    Calls Try.prog 6 #[.slice A n cap] w (Dom.Yes w) := by
  have HZ := Lib.hid (fun W => szDominoS A n cap 1048576 (by omega) (by omega) hn W)
  by_cases hs : (n : Int) ≤ 1048576
  · have HTo := Lib.hid (fun W (hb : Below w.heap.size w W) => toDominoS W A n cap w.heap.size L hL hs (h.below hb (Nat.le_refl _)) hb.size)
    have HSp := Lib.hid (fun W A c (hr : RowM W W.heap.size A L) => sFlipsOf W A n c W.heap.size L hL hn hr (Nat.le_refl _))
    have HIm := Lib.hid (fun W A c (hr : RowM W W.heap.size A L) => iFlipsOf W A n c W.heap.size L hL hs hf hr (Nat.le_refl _))
    have HEq := Lib.hid (fun W A A' c c' (h1 : RowM W W.heap.size A L) (h2 : RowM W W.heap.size A' L) => eqDoms W A A' n c c' W.heap.size W.heap.size L hL hn h1 h2 (Nat.le_refl _) (Nat.le_refl _))
    have hSl := flipsTo_length L 64
    rw [flipsTo_all] at hSl
    obtain ⟨k1, hk1⟩ : ∃ k1 : Int, k1 = ((1 + 3 * n : Nat) : Int) := ⟨_, rfl⟩
    have hk0 : ¬ k1 < 0 := by omega
    have HMx := Lib.hid (fun W lo hi A c (hr : RowIn W lo hi 38 3 (.slice A n c) n (rowM L)) => markDomsN W lo hi 1 n c A L 1 k1 (by omega) hk1 (by omega) hr)
    generalize flipsR L = S at HSp HIm hSl
    obtain ⟨m, hm⟩ : ∃ m, m = S.length := ⟨_, rfl⟩
    unfold NbPost at HSp HIm
    rw [← hm] at HSp HIm hSl
    have HEs := Lib.hid (fun W A A' c c' (h1 : RowC W A S) (h2 : RowC W A' S) => eqRows W A A' m c c' S hm.symm (by omega) h1 h2)
    obtain ⟨g1, hg1⟩ : ∃ g1 : Int, g1 = ((1 + 2 * m : Nat) : Int) := ⟨_, rfl⟩
    have hg0 : ¬ g1 < 0 := by omega
    have hgg : (g1 != g1) = false := by simp
    have HMg := Lib.hid (fun W lo hi A c (hr : RowIn W lo hi 35 2 (.slice A m c) m (rowC S)) => markCellsN W lo hi 1 m c A S 1 g1 (by omega) hg1 (by omega) hr)
    have HHg := Lib.hid (fun W A c (hr : RowC W A (marksC 1 m)) => held1 W m c A g1 hg1 (by omega) hr)
    have hz := szR_yes hs
    generalize szR 1048576 n = z at HZ hz
    obtain ⟨z0, z1⟩ := hz
    have z2 : ¬ z < 0 := by omega
    clear hs hL hn h hf hm hk1 hg1 hSl
    go_enter Try.func6, Try.ntmps6
    go_wp2_with fail
    refine (HZ.out _).mono ?_
    rintro e w1 ⟨rfl, hw⟩
    have hw := hw.symm
    subst hw
    clear HZ
    go_wp2_with fail
    refine (HTo.out _ (Below.refl _ _)).mono ?_
    rintro e w2 ⟨A1, cap1, rfl, _, hown, hb2⟩
    have R1 := rowM_own hown
    clear hown
    go_wp2_with fail
    refine (HSp.out _ _ _ R1).mono ?_
    rintro e w3 ⟨Aw, capw, rfl, hown, hb3⟩
    have hs2 := hb2.size
    have hb3' := hb2.trans (hb3.mono hs2)
    have V3 := rowIn_new hown
    have hs3 := hb3.size
    clear hb3 HSp R1 hown
    go_wp2_with fail
    refine (HTo.out _ hb3').mono ?_
    rintro e w4 ⟨A3, cap3, rfl, _, hown, hb4⟩
    have V4 := V3.on hb4
    have D4 := rowIn_new hown
    have hs4 := hb4.size
    have hb4' := hb3'.trans (hb4.mono hb3'.size)
    clear V3 hb4 hown hb3'
    go_wp2_with fail
    refine (HIm.out _ _ _ (rowM_own D4.1)).mono ?_
    rintro e w5 ⟨Ag, capg, rfl, hown, hb5⟩
    have V5 := V4.on hb5
    have D5 := D4.on hb5
    have G5 := rowIn_new hown
    have hs5 := hb5.size
    have hb5' := hb4'.trans (hb5.mono hb4'.size)
    clear V4 D4 hb5 hown hb4'
    go_wp2_with fail
    refine (HEs.out _ _ _ _ _ (rowC_own G5.1) (rowC_own V5.1)).mono ?_
    rintro e w6 ⟨rfl, hb6⟩
    have V6 := V5.on hb6
    have D6 := D5.on hb6
    have G6 := G5.on hb6
    have hs6 := hb6.size
    have hb6' := hb5'.trans (hb6.mono hb5'.size)
    clear V5 D5 G5 hb6 hb5'
    go_wp2_with fail
    refine (HTo.out _ hb6').mono ?_
    rintro e w7 ⟨A7, cap7, rfl, _, hown, hb7⟩
    have V7 := V6.on hb7
    have D7 := D6.on hb7
    have G7 := G6.on hb7
    have R7 := rowM_own hown
    have hs7 := hb7.size
    have hb7' := hb6'.trans (hb7.mono hb6'.size)
    clear V6 D6 G6 hb7 hb6' hown
    go_wp2_with fail
    refine (HEq.out _ _ _ _ _ (rowM_own D7.1) R7).mono ?_
    rintro e w8 ⟨rfl, hb8⟩
    have V8 := V7.on hb8
    have D8 := D7.on hb8
    have G8 := G7.on hb8
    have hs8 := hb8.size
    have hb8' := hb7'.trans (hb8.mono hb7'.size)
    clear V7 D7 G7 hb8 hb7' R7 HEq
    go_wp2_with fail
    refine (HMx.out _ _ _ _ _ D8).mono ?_
    rintro e w9 ⟨rfl, _, ha9⟩
    have V9 := V8.apart ha9 (.inl (Nat.le_refl _))
    have G9 := G8.apart ha9 (.inr (Nat.le_refl _))
    have hs9 := ha9.size
    have hb9' := hb8'.trans (ha9.below (B := w.heap.size) (by omega) (by omega))
    clear V8 D8 G8 ha9 hb8' HMx
    go_wp2_with fail
    refine (HEs.out _ _ _ _ _ (rowC_own G9.1) (rowC_own V9.1)).mono ?_
    rintro e w10 ⟨rfl, hb10⟩
    have V10 := V9.on hb10
    have G10 := G9.on hb10
    have hs10 := hb10.size
    have hb10' := hb9'.trans (hb10.mono hb9'.size)
    clear V9 G9 hb10 hb9'
    go_wp2_with fail
    refine (HMg.out _ _ _ _ _ G10).mono ?_
    rintro e w11 ⟨rfl, G11, ha11⟩
    have V11 := V10.apart ha11 (.inl (by omega))
    have hs11 := ha11.size
    have hb11' := hb10'.trans (ha11.below (B := w.heap.size) (by omega) (by omega))
    clear V10 G10 ha11 hb10' HMg
    go_wp2_with fail
    refine (HHg.out _ _ _ (rowC_own G11.1)).mono ?_
    rintro e w12 ⟨rfl, hw⟩
    have hw := hw.symm
    subst hw
    go_wp2_with fail
    refine (HTo.out _ hb11').mono ?_
    rintro e w13 ⟨A13, cap13, rfl, _, hown, hb13⟩
    have V13 := V11.on hb13
    have G13 := G11.on hb13
    have R13 := rowM_own hown
    have hb13' := hb11'.trans (hb13.mono hb11'.size)
    clear V11 G11 hb13 hb11' hown
    go_wp2_with fail
    refine (HIm.out _ _ _ R13).mono ?_
    rintro e w14 ⟨Ah, caph, rfl, hown, hb14⟩
    have V14 := V13.on hb14
    have G14 := G13.on hb14
    have R14 := rowC_own hown
    have hb14' := hb13'.trans (hb14.mono hb13'.size)
    clear V13 G13 R13 hb14 hb13' hown
    go_wp2_with fail
    refine (HEs.out _ _ _ _ _ R14 (rowC_own V14.1)).mono ?_
    rintro e w15 ⟨rfl, hb15⟩
    have G15 := G14.on hb15
    have hb15' := hb14'.trans (hb15.mono hb14'.size)
    clear V14 G14 R14 hb15 hb14'
    go_wp2_with fail
    refine (HHg.out _ _ _ (rowC_own G15.1)).mono ?_
    rintro e w16 ⟨rfl, rfl⟩
    go_wp2
    go_ret
    exact ⟨rfl, hb15'⟩
  · rw [szR_no hs] at HZ
    clear hs hL hn h
    go_enter Try.func6, Try.ntmps6
    go_wp2_with fail
    refine (HZ.out _).mono ?_
    rintro e w1 ⟨rfl, rfl⟩
    go_wp2
    go_ret
    exact ⟨rfl, Below.refl _ _⟩
end Go.Proofs.Ytkjoonmnedofiaa.Flp
