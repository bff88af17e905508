/- The law FnExactTilingText returns true: the program's TilingText and the model's write the same text; the list is left as it was. -/
import Derived.Test.YtpeolcgogidipaaDoorTxt
namespace Go.Proofs.YtpeolcgogidipaaDoor.Til
set_option linter.unusedVariables false
set_option linter.unusedSimpArgs false
open Go.RowKit Go.Proofs.YtpeolcgogidipaaDoor.Base Go.Proofs.YtpeolcgogidipaaDoor.Pure Go.Proofs.YtpeolcgogidipaaDoor.Cell Go.Proofs.YtpeolcgogidipaaDoor.Dom Go.Proofs.YtpeolcgogidipaaDoor.Dms Go.Proofs.YtpeolcgogidipaaDoor.Fmt Go.Joins
open Go.Proofs.YtpeolcgogidipaaDoor.Reg hiding Yes add_none

set_option maxRecDepth 100000 in
set_option maxHeartbeats 2000000 in
theorem lawTilingText (w : World) (A : Option Addr) (n cap : Nat) (L : List Dm) (hL : L.length = n) (hn : (n : Int) ≤ 9223372036854775807) (h : RowM w w.heap.size A L) (hf : Fits L) (ht : Pow w) :
    Calls Tryd.prog 4 #[.slice A n cap] w (Dom.Yes w) := by
  have HZ := Lib.hid (fun W => szDominoS A n cap 1048576 (by omega) (by omega) hn W)
  by_cases hs : (n : Int) ≤ 1048576
  · have HTo := Lib.hid (fun W (hb : Below w.heap.size w W) => toDominoS W A n cap w.heap.size L hL hs (h.below hb (Nat.le_refl _)) hb.size)
    have HSp := Lib.hid (fun W A c (hr : RowM W W.heap.size A L) => sTilingText W A n c W.heap.size L hL hs hr (Nat.le_refl _))
    have HIm := Lib.hid (fun W (hb : Below w.heap.size w W) A c (hr : RowM W W.heap.size A L) => iTilingText W (Joins.tab_stays gPow ht hb (Nat.le_refl _)) A n c W.heap.size L hL hs hf hr (Nat.le_refl _))
    have HEq := Lib.hid (fun W A A' c c' (h1 : RowM W W.heap.size A L) (h2 : RowM W W.heap.size A' L) => eqDoms W A A' n c c' W.heap.size W.heap.size L hL hn h1 h2 (Nat.le_refl _) (Nat.le_refl _))
    generalize tilT L = T at HSp HIm
    have hz := szR_yes hs
    generalize szR 1048576 n = z at HZ hz
    obtain ⟨z0, z1⟩ := hz
    have z2 : ¬ z < 0 := by omega
    have hsame := str_same T
    clear hs hL hn h hf ht
    go_enter Tryd.func4, Tryd.ntmps4
    go_wp2_with fail
    refine (HZ.out _).mono ?_
    rintro e w1 ⟨rfl, hw⟩
    have hw := hw.symm
    subst hw
    clear HZ
    go_wp2_with fail
    refine (HTo.out _ (Below.refl _ _)).mono ?_
    rintro e w2 ⟨A1, cap1, rfl, _, hown, hb2⟩
    have R1 := rowM_own hown
    clear hown
    go_wp2_with fail
    refine (HSp.out _ _ _ R1).mono ?_
    rintro e w3 ⟨rfl, hb3⟩
    have hb3' := hb2.trans (hb3.mono hb2.size)
    clear hb2 hb3 R1 HSp
    go_wp2_with fail
    refine (HTo.out _ hb3').mono ?_
    rintro e w4 ⟨A4, cap4, rfl, _, hown, hb4⟩
    have R4 := rowM_own hown
    have hb4' := hb3'.trans (hb4.mono hb3'.size)
    clear hown hb3' hb4
    go_wp2_with fail
    refine (HIm.out _ hb4' _ _ R4).mono ?_
    rintro e w5 ⟨rfl, hb5⟩
    have R5 := (R4.below hb5 (Nat.le_refl _)).mono hb5.size
    have hb5' := hb4'.trans (hb5.mono hb4'.size)
    clear R4 hb5 hb4' HIm
    go_wp2_with fail
    refine (HTo.out _ hb5').mono ?_
    rintro e w6 ⟨A6, cap6, rfl, _, hown, hb6⟩
    have R6 := rowM_own hown
    have R7 := (R5.below hb6 (Nat.le_refl _)).mono hb6.size
    have hb6' := hb5'.trans (hb6.mono hb5'.size)
    clear R5 hown hb5' hb6
    go_wp2_with fail
    refine (HEq.out _ _ _ _ _ R7 R6).mono ?_
    rintro e w7 ⟨rfl, hb7⟩
    have hb7' := hb6'.trans (hb7.mono hb6'.size)
    go_wp2
    go_ret
    exact ⟨rfl, hb7'⟩
  · rw [szR_no hs] at HZ
    clear hs hL hn h
    go_enter Tryd.func4, Tryd.ntmps4
    go_wp2_with fail
    refine (HZ.out _).mono ?_
    rintro e w1 ⟨rfl, rfl⟩
    go_wp2
    go_ret
    exact ⟨rfl, Below.refl _ _⟩
end Go.Proofs.YtpeolcgogidipaaDoor.Til
