/- The law FnExactFlipAt returns true, given the program's contract: the program's FlipAt and the model's list the same dominoes and say the same; the list is left as it was, and the answers own their memory. -/
import Derived.Test.YtkjoonmnedofiaaFlmA
import Derived.Test.YtkjoonmnedofiaaMgFAl
import Derived.Test.YtkjoonmnedofiaaMgTil
import Derived.Test.YtkjoonmnedofiaaLCan
namespace Go.Proofs.Ytkjoonmnedofiaa.Flp
set_option linter.unusedVariables false
set_option linter.unusedSimpArgs false
open Go.RowKit Go.Proofs.Ytkjoonmnedofiaa.Base Go.Proofs.Ytkjoonmnedofiaa.Pure Go.Proofs.Ytkjoonmnedofiaa.Cell Go.Proofs.Ytkjoonmnedofiaa.Dom Go.Proofs.Ytkjoonmnedofiaa.Dms Go.Proofs.Ytkjoonmnedofiaa.Til Go.Joins
open Go.Proofs.Ytkjoonmnedofiaa.Reg hiding Yes add_none

theorem Lc.on1 {w W W' : World} {x y : Int} (h : Lc w x y W) (hb : Below (w.heap.size + 1) W W') : Lc w x y W' := ⟨h.1.trans (hb.mono (by omega)), (hb.block _ (by omega)).trans h.2⟩
set_option maxRecDepth 100000 in
set_option maxHeartbeats 4000000 in
theorem lawFlipAt (iFlipAt : ∀ (W : World) (A : Option Addr) (n c B : Nat) (L : List Dm), L.length = n → (n : Int) ≤ 1048576 → Fits L → RowM W B A L → B ≤ W.heap.size → ∀ x y, Calls Try.prog 17 #[.slice A n c, .agg #[.int .i64 x, .int .i64 y]] W (FlPost (flipL L x y) (canB L x y) W))
    (w : World) (A : Option Addr) (n cap : Nat) (L : List Dm) (hL : L.length = n) (hn : (n : Int) ≤ 9223372036854775807) (h : RowM w w.heap.size A L) (hf : Fits L) (x y : Int) :
    Calls Try.prog 5 #[.slice A n cap, .agg #[.int .i64 x, .int .i64 y]] w (Dom.Yes w) := by
  have HS := Lib.hid (lc_start x y w)
  have HZ := Lib.hid (fun W => szDominoS A n cap 1048576 (by omega) (by omega) hn W)
  by_cases hs : (n : Int) ≤ 1048576
  · have HTo := Lib.hid (fun W (hb : Below w.heap.size w W) => toDominoS W A n cap w.heap.size L hL hs (h.below hb (Nat.le_refl _)) hb.size)
    have HSp := Lib.hid (fun W A c (hr : RowM W W.heap.size A L) => sFlipAt W A n c W.heap.size L hL hs hr (Nat.le_refl _) x y)
    have HIm := Lib.hid (fun W A c (hr : RowM W W.heap.size A L) => iFlipAt W A n c W.heap.size L hL hs hf hr (Nat.le_refl _) x y)
    have HEq := Lib.hid (fun W A A' c c' (h1 : RowM W W.heap.size A L) (h2 : RowM W W.heap.size A' L) => eqDoms W A A' n c c' W.heap.size W.heap.size L hL hn h1 h2 (Nat.le_refl _) (Nat.le_refl _))
    have hSl := flip_len L x y
    obtain ⟨k1, hk1⟩ : ∃ k1 : Int, k1 = ((1 + 3 * n : Nat) : Int) := ⟨_, rfl⟩
    have hk0 : ¬ k1 < 0 := by omega
    have HMx := Lib.hid (fun W lo hi A c (hr : RowIn W lo hi 38 3 (.slice A n c) n (rowM L)) => markDomsN W lo hi 1 n c A L 1 k1 (by omega) hk1 (by omega) hr)
    generalize flipL L x y = S at HSp HIm hSl
    generalize canB L x y = ok at HSp HIm
    have hoo : (ok != ok) = false := by simp
    obtain ⟨m, hm⟩ : ∃ m, m = S.length := ⟨_, rfl⟩
    unfold FlPost at HSp HIm
    rw [← hm] at HSp HIm hSl
    have HEs := Lib.hid (fun W A A' c c' (h1 : RowM W W.heap.size A S) (h2 : RowM W W.heap.size A' S) => eqDoms W A A' m c c' W.heap.size W.heap.size S hm.symm (by omega) h1 h2 (Nat.le_refl _) (Nat.le_refl _))
    obtain ⟨g1, hg1⟩ : ∃ g1 : Int, g1 = ((1 + 3 * m : Nat) : Int) := ⟨_, rfl⟩
    have hg0 : ¬ g1 < 0 := by omega
    have hgg : (g1 != g1) = false := by simp
    have HMg := Lib.hid (fun W lo hi A c (hr : RowIn W lo hi 38 3 (.slice A m c) m (rowM S)) => markDomsN W lo hi 1 m c A S 1 g1 (by omega) hg1 (by omega) hr)
    have HHg := Lib.hid (fun W A c (hr : RowM W W.heap.size A (marksM 1 m)) => heldDomsN W 1 m c W.heap.size A 1 g1 (by omega) hg1 (by omega) hr)
    have hz := szR_yes hs
    generalize szR 1048576 n = z at HZ hz
    obtain ⟨z0, z1⟩ := hz
    have z2 : ¬ z < 0 := by omega
    clear hs hL hn h hf hm hk1 hg1 hSl
    go_enter Try.func5, Try.ntmps5
    go_wp2_with fail
    have T0 := HS.out
    generalize w.alloc (.cells #[.int .i64 x, .int .i64 y] 45) = W0 at T0 ⊢
    refine (HZ.out _).mono ?_
    rintro e w1 ⟨rfl, hw⟩
    have hw := hw.symm
    subst hw
    clear HS HZ
    go_upto_region 5 with fail
    refine wp_region_noPanic ?_
    refine wp_region_held_drew (S := (fun w' => w'.cell? ⟨w.heap.size, 0, none⟩ = some (.int .i64 x) ∧ w'.cell? ⟨w.heap.size, 1, none⟩ = some (.int .i64 y))) (by kernel_rfl) (⟨T0.drew.c0, T0.drew.c1⟩) (fun hHeld => ?_)
    refine wpAnyH_take (i := 0) (v := ?_) rfl (by kernel_rfl) (by kernel_rfl) (by kernel_rfl) (fun _ _ _ h => h) (Or.inl ⟨by rfl, ?_⟩) (by assumption) ?_
    rotate_left
    · (intro w' hS; (try dsimp only at hS); go_simp; try with_reducible rfl)
    try simp only [Act.put, List.getElem_toArray, List.getElem_cons_succ, List.getElem_cons_zero, List.setIfInBounds_toArray, List.set_cons_zero, List.set_cons_succ]
    refine wpAnyH_take (i := 2) (v := ?_) rfl (by kernel_rfl) (by kernel_rfl) (by kernel_rfl) (fun _ _ _ h => h) (Or.inl ⟨by rfl, ?_⟩) (by assumption) ?_
    rotate_left
    · (intro w' hS; (try dsimp only at hS); go_simp; try with_reducible rfl)
    try simp only [Act.put, List.getElem_toArray, List.getElem_cons_succ, List.getElem_cons_zero, List.setIfInBounds_toArray, List.set_cons_zero, List.set_cons_succ]
    refine wpAnyH_ready (rs := [1]) (by kernel_rfl) (by simp) ?_
    refine AllReadyH.cons rfl (fun K hK => ?_) AllReadyH.nil
    go_simp
    refine (HTo.out _ T0.drew.1).mono ?_
    rintro e wa ⟨A1, cap1, rfl, _, hown1, hb1⟩
    have T1 := T0.drew.on hb1
    have R1 := rowM_own hown1
    clear T0 hb1 hown1
    go_wp2_with fail
    refine hK.out _ _ (⟨T1.c0, T1.c1⟩) (fun hHeld => ?_)
    clear hK K
    try simp only [Act.put, List.getElem_toArray, List.getElem_cons_succ, List.getElem_cons_zero, List.setIfInBounds_toArray, List.set_cons_zero, List.set_cons_succ]
    refine wpAnyH_ready (rs := [3]) (by kernel_rfl) (by simp) ?_
    refine AllReadyH.cons rfl (fun K hK => ?_) AllReadyH.nil
    go_simp
    refine (toCell _ _ _).mono ?_
    rintro e wb ⟨rfl, hb2⟩
    have T2 := T1.on hb2
    have R2 := (R1.below hb2 (Nat.le_refl _)).mono hb2.size
    clear T1 hb2 R1
    go_wp2_with fail
    refine hK.out _ _ (⟨T2.c0, T2.c1⟩) (fun hHeld => ?_)
    clear hK K
    try simp only [Act.put, List.getElem_toArray, List.getElem_cons_succ, List.getElem_cons_zero, List.setIfInBounds_toArray, List.set_cons_zero, List.set_cons_succ]
    refine wpAnyH_ready (rs := [4]) (by kernel_rfl) (by simp) ?_
    refine AllReadyH.cons rfl (fun K hK => ?_) AllReadyH.nil
    go_simp
    refine (HSp.out _ _ _ R2).mono ?_
    rintro e wc ⟨Aw, capw, rfl, _, hown3, hb3⟩
    have T3 := T2.on hb3
    have V3 := rowIn_new hown3
    have hl3 := T2.lt
    have hs3 := hb3.size
    clear T2 hb3 R2 HSp hown3
    go_wp2_with fail
    refine hK.out _ _ (⟨T3.c0, T3.c1⟩) (fun hHeld => ?_)
    clear hK K
    try simp only [Act.put, List.getElem_toArray, List.getElem_cons_succ, List.getElem_cons_zero, List.setIfInBounds_toArray, List.set_cons_zero, List.set_cons_succ]
    refine wpAnyH_take (i := 5) (v := ?_) rfl (by kernel_rfl) (by kernel_rfl) (by kernel_rfl) (fun _ _ _ h => h) (Or.inl ⟨by rfl, ?_⟩) (by assumption) ?_
    rotate_left
    · (intro w' hS; (try dsimp only at hS); go_simp; try with_reducible rfl)
    try simp only [Act.put, List.getElem_toArray, List.getElem_cons_succ, List.getElem_cons_zero, List.setIfInBounds_toArray, List.set_cons_zero, List.set_cons_succ]
    refine wpAnyH_take (i := 6) (v := ?_) rfl (by kernel_rfl) (by kernel_rfl) (by kernel_rfl) (fun _ _ _ h => h) (Or.inl ⟨by rfl, ?_⟩) (by assumption) ?_
    rotate_left
    · (intro w' hS; (try dsimp only at hS); go_simp; try with_reducible rfl)
    try simp only [Act.put, List.getElem_toArray, List.getElem_cons_succ, List.getElem_cons_zero, List.setIfInBounds_toArray, List.set_cons_zero, List.set_cons_succ]
    refine wpAnyH_take (i := 7) (v := ?_) rfl (by kernel_rfl) (by kernel_rfl) (by kernel_rfl) (fun _ _ _ h => h) (Or.inl ⟨by rfl, ?_⟩) (by assumption) ?_
    rotate_left
    · (intro w' hS; (try dsimp only at hS); go_simp; try with_reducible rfl)
    try simp only [Act.put, List.getElem_toArray, List.getElem_cons_succ, List.getElem_cons_zero, List.setIfInBounds_toArray, List.set_cons_zero, List.set_cons_succ]
    refine wpAnyH_take (i := 8) (v := ?_) rfl (by kernel_rfl) (by kernel_rfl) (by kernel_rfl) (fun _ _ _ h => h) (Or.inl ⟨by rfl, ?_⟩) (by assumption) ?_
    rotate_left
    · (intro w' hS; (try dsimp only at hS); go_simp; try with_reducible rfl)
    try simp only [Act.put, List.getElem_toArray, List.getElem_cons_succ, List.getElem_cons_zero, List.setIfInBounds_toArray, List.set_cons_zero, List.set_cons_succ]
    refine wpAnyH_take (i := 9) (v := ?_) rfl (by kernel_rfl) (by kernel_rfl) (by kernel_rfl) (fun _ _ _ h => h) (Or.inl ⟨by rfl, ?_⟩) (by assumption) ?_
    rotate_left
    · (intro w' hS; (try dsimp only at hS); go_simp; try with_reducible rfl)
    try simp only [Act.put, List.getElem_toArray, List.getElem_cons_succ, List.getElem_cons_zero, List.setIfInBounds_toArray, List.set_cons_zero, List.set_cons_succ]
    refine wpAnyH_done (by kernel_rfl) ?_ _
    refine NoPanic.normal ?_
    clear hHeld
    go_wp2_with fail
    refine (HTo.out _ T3.1).mono ?_
    rintro e w4 ⟨A3, cap3, rfl, _, hown, hb4⟩
    have V4 := V3.on hb4
    have D4 := rowIn_new hown
    have T4 := T3.on hb4
    have hs4 := hb4.size
    have hl4 := T3.lt
    clear V3 hb4 hown T3
    have c0 := T4.c0
    have c1 := T4.c1
    go_wp2_with fail
    refine (toCell _ _ _).mono ?_
    rintro e w5 ⟨rfl, hb5⟩
    have V5 := V4.on hb5
    have D5 := D4.on hb5
    have T5 := T4.on hb5
    have hs5 := hb5.size
    clear V4 D4 hb5 T4 c0 c1
    go_wp2_with fail
    refine (HIm.out _ _ _ (rowM_own D5.1)).mono ?_
    rintro e w6 ⟨Ag, capg, rfl, _, hown, hb6⟩
    have V6 := V5.on hb6
    have D6 := D5.on hb6
    have G6 := rowIn_new hown
    have T6 := T5.on hb6
    have hs6 := hb6.size
    clear V5 D5 hb6 hown T5
    go_wp2_with fail
    refine (HEs.out _ _ _ _ _ (rowM_own G6.1) (rowM_own V6.1)).mono ?_
    rintro e w7 ⟨rfl, hb7⟩
    have V7 := V6.on hb7
    have D7 := D6.on hb7
    have G7 := G6.on hb7
    have T7 := T6.on hb7
    have hs7 := hb7.size
    clear V6 D6 G6 hb7 T6
    go_wp2_with fail
    refine (HTo.out _ T7.1).mono ?_
    rintro e w8 ⟨A8, cap8, rfl, _, hown, hb8⟩
    have V8 := V7.on hb8
    have D8 := D7.on hb8
    have G8 := G7.on hb8
    have T8 := T7.on hb8
    have R8 := rowM_own hown
    have hs8 := hb8.size
    clear V7 D7 G7 hb8 T7 hown
    go_wp2_with fail
    refine (HEq.out _ _ _ _ _ (rowM_own D8.1) R8).mono ?_
    rintro e w9 ⟨rfl, hb9⟩
    have V9 := V8.on hb9
    have D9 := D8.on hb9
    have G9 := G8.on hb9
    have T9 := T8.on hb9
    have hs9 := hb9.size
    clear V8 D8 G8 hb9 T8 R8 HEq
    go_wp2_with fail
    refine (HMx.out _ _ _ _ _ D9).mono ?_
    rintro e w10 ⟨rfl, _, ha10⟩
    have V10 := V9.apart ha10 (.inl (Nat.le_refl _))
    have G10 := G9.apart ha10 (.inr (by omega))
    have T10 := T9.on1 (ha10.below (B := w.heap.size + 1) (by omega) (by omega))
    have hs10 := ha10.size
    clear V9 D9 G9 ha10 T9 HMx
    go_wp2_with fail
    refine (HEs.out _ _ _ _ _ (rowM_own G10.1) (rowM_own V10.1)).mono ?_
    rintro e w11 ⟨rfl, hb11⟩
    have V11 := V10.on hb11
    have G11 := G10.on hb11
    have T11 := T10.on hb11
    have hs11 := hb11.size
    clear V10 G10 hb11 T10
    go_wp2_with fail
    refine (HMg.out _ _ _ _ _ G11).mono ?_
    rintro e w12 ⟨rfl, G12, ha12⟩
    have V12 := V11.apart ha12 (.inl (by omega))
    have T12 := T11.on1 (ha12.below (B := w.heap.size + 1) (by omega) (by omega))
    have hs12 := ha12.size
    clear V11 G11 ha12 T11 HMg
    go_wp2_with fail
    refine (HHg.out _ _ _ (rowM_own G12.1)).mono ?_
    rintro e w13 ⟨rfl, hw⟩
    have hw := hw.symm
    subst hw
    go_upto_region 24 with fail
    refine wp_region_noPanic ?_
    refine wp_region_held_drew (S := (fun w' => w'.cell? ⟨w.heap.size, 0, none⟩ = some (.int .i64 x) ∧ w'.cell? ⟨w.heap.size, 1, none⟩ = some (.int .i64 y))) (by kernel_rfl) (⟨T12.drew.c0, T12.drew.c1⟩) (fun hHeld => ?_)
    have V12 := V12.drew
    have G12 := G12.drew
    refine wpAnyH_take (i := 0) (v := ?_) rfl (by kernel_rfl) (by kernel_rfl) (by kernel_rfl) (fun _ _ _ h => h) (Or.inl ⟨by rfl, ?_⟩) (by assumption) ?_
    rotate_left
    · (intro w' hS; (try dsimp only at hS); go_simp; try with_reducible rfl)
    try simp only [Act.put, List.getElem_toArray, List.getElem_cons_succ, List.getElem_cons_zero, List.setIfInBounds_toArray, List.set_cons_zero, List.set_cons_succ]
    refine wpAnyH_take (i := 2) (v := ?_) rfl (by kernel_rfl) (by kernel_rfl) (by kernel_rfl) (fun _ _ _ h => h) (Or.inl ⟨by rfl, ?_⟩) (by assumption) ?_
    rotate_left
    · (intro w' hS; (try dsimp only at hS); go_simp; try with_reducible rfl)
    try simp only [Act.put, List.getElem_toArray, List.getElem_cons_succ, List.getElem_cons_zero, List.setIfInBounds_toArray, List.set_cons_zero, List.set_cons_succ]
    refine wpAnyH_ready (rs := [1]) (by kernel_rfl) (by simp) ?_
    refine AllReadyH.cons rfl (fun K hK => ?_) AllReadyH.nil
    go_simp
    refine (HTo.out _ T12.drew.1).mono ?_
    rintro e wd ⟨A13, cap13, rfl, _, hown, hb13⟩
    have T13 := T12.drew.on hb13
    have R13 := rowM_own hown
    have V13 := V12.on hb13
    have G13 := G12.on hb13
    clear T12 V12 G12 hb13 hown
    go_wp2_with fail
    refine hK.out _ _ (⟨T13.c0, T13.c1⟩) (fun hHeld => ?_)
    clear hK K
    try simp only [Act.put, List.getElem_toArray, List.getElem_cons_succ, List.getElem_cons_zero, List.setIfInBounds_toArray, List.set_cons_zero, List.set_cons_succ]
    refine wpAnyH_ready (rs := [3]) (by kernel_rfl) (by simp) ?_
    refine AllReadyH.cons rfl (fun K hK => ?_) AllReadyH.nil
    go_simp
    refine (toCell _ _ _).mono ?_
    rintro e we ⟨rfl, hb14⟩
    have T14 := T13.on hb14
    have R14 := (R13.below hb14 (Nat.le_refl _)).mono hb14.size
    have V14 := V13.on hb14
    have G14 := G13.on hb14
    clear T13 V13 G13 hb14 R13
    go_wp2_with fail
    refine hK.out _ _ (⟨T14.c0, T14.c1⟩) (fun hHeld => ?_)
    clear hK K
    try simp only [Act.put, List.getElem_toArray, List.getElem_cons_succ, List.getElem_cons_zero, List.setIfInBounds_toArray, List.set_cons_zero, List.set_cons_succ]
    refine wpAnyH_ready (rs := [4]) (by kernel_rfl) (by simp) ?_
    refine AllReadyH.cons rfl (fun K hK => ?_) AllReadyH.nil
    go_simp
    refine (HIm.out _ _ _ R14).mono ?_
    rintro e wf ⟨Ah, caph, rfl, _, hown, hb15⟩
    have T15 := T14.on hb15
    have R15 := rowM_own hown
    have V15 := V14.on hb15
    have G15 := G14.on hb15
    clear T14 V14 G14 hb15 hown R14 HIm
    go_wp2_with fail
    refine hK.out _ _ (⟨T15.c0, T15.c1⟩) (fun hHeld => ?_)
    clear hK K
    try simp only [Act.put, List.getElem_toArray, List.getElem_cons_succ, List.getElem_cons_zero, List.setIfInBounds_toArray, List.set_cons_zero, List.set_cons_succ]
    refine wpAnyH_take (i := 5) (v := ?_) rfl (by kernel_rfl) (by kernel_rfl) (by kernel_rfl) (fun _ _ _ h => h) (Or.inl ⟨by rfl, ?_⟩) (by assumption) ?_
    rotate_left
    · (intro w' hS; (try dsimp only at hS); go_simp; try with_reducible rfl)
    try simp only [Act.put, List.getElem_toArray, List.getElem_cons_succ, List.getElem_cons_zero, List.setIfInBounds_toArray, List.set_cons_zero, List.set_cons_succ]
    refine wpAnyH_take (i := 6) (v := ?_) rfl (by kernel_rfl) (by kernel_rfl) (by kernel_rfl) (fun _ _ _ h => h) (Or.inl ⟨by rfl, ?_⟩) (by assumption) ?_
    rotate_left
    · (intro w' hS; (try dsimp only at hS); go_simp; try with_reducible rfl)
    try simp only [Act.put, List.getElem_toArray, List.getElem_cons_succ, List.getElem_cons_zero, List.setIfInBounds_toArray, List.set_cons_zero, List.set_cons_succ]
    refine wpAnyH_take (i := 7) (v := ?_) rfl (by kernel_rfl) (by kernel_rfl) (by kernel_rfl) (fun _ _ _ h => h) (Or.inl ⟨by rfl, ?_⟩) (by assumption) ?_
    rotate_left
    · (intro w' hS; (try dsimp only at hS); go_simp; try with_reducible rfl)
    try simp only [Act.put, List.getElem_toArray, List.getElem_cons_succ, List.getElem_cons_zero, List.setIfInBounds_toArray, List.set_cons_zero, List.set_cons_succ]
    refine wpAnyH_take (i := 8) (v := ?_) rfl (by kernel_rfl) (by kernel_rfl) (by kernel_rfl) (fun _ _ _ h => h) (Or.inl ⟨by rfl, ?_⟩) (by assumption) ?_
    rotate_left
    · (intro w' hS; (try dsimp only at hS); go_simp; try with_reducible rfl)
    try simp only [Act.put, List.getElem_toArray, List.getElem_cons_succ, List.getElem_cons_zero, List.setIfInBounds_toArray, List.set_cons_zero, List.set_cons_succ]
    refine wpAnyH_take (i := 9) (v := ?_) rfl (by kernel_rfl) (by kernel_rfl) (by kernel_rfl) (fun _ _ _ h => h) (Or.inl ⟨by rfl, ?_⟩) (by assumption) ?_
    rotate_left
    · (intro w' hS; (try dsimp only at hS); go_simp; try with_reducible rfl)
    try simp only [Act.put, List.getElem_toArray, List.getElem_cons_succ, List.getElem_cons_zero, List.setIfInBounds_toArray, List.set_cons_zero, List.set_cons_succ]
    refine wpAnyH_done (by kernel_rfl) ?_ _
    refine NoPanic.normal ?_
    clear hHeld
    go_wp2_with fail
    refine (HEs.out _ _ _ _ _ R15 (rowM_own V15.1)).mono ?_
    rintro e w16 ⟨rfl, hb16⟩
    have G16 := G15.on hb16
    have T16 := T15.on hb16
    clear V15 G15 hb16 T15 R15
    go_wp2_with fail
    refine (HHg.out _ _ _ (rowM_own G16.1)).mono ?_
    rintro e w17 ⟨rfl, rfl⟩
    have hb := T16.1
    go_wp2
    go_ret
    exact ⟨rfl, hb⟩
  · rw [szR_no hs] at HZ
    clear hs hL hn h
    go_enter Try.func5, Try.ntmps5
    go_wp2_with fail
    have T0 := HS.out
    refine (HZ.out _).mono ?_
    rintro e w1 ⟨rfl, rfl⟩
    go_wp2
    go_ret
    exact ⟨rfl, T0.1⟩
end Go.Proofs.Ytkjoonmnedofiaa.Flp
