/- The law FnExactCanFlip returns true, given the program's contract: the program's CanFlip and the model's say the same; the list is left as it was. -/
import Derived.Test.YtkjoonmnedofiaaFlmS
import Derived.Test.YtkjoonmnedofiaaTilM
namespace Go.Proofs.Ytkjoonmnedofiaa.Flp
set_option linter.unusedVariables false
set_option linter.unusedSimpArgs false
open Go.RowKit Go.Proofs.Ytkjoonmnedofiaa.Base Go.Proofs.Ytkjoonmnedofiaa.Pure Go.Proofs.Ytkjoonmnedofiaa.Cell Go.Proofs.Ytkjoonmnedofiaa.Dom Go.Proofs.Ytkjoonmnedofiaa.Dms Go.Proofs.Ytkjoonmnedofiaa.Til Go.Joins
open Go.Proofs.Ytkjoonmnedofiaa.Reg hiding Yes add_none

/-- a cell of the law's in its box. -/
def Lc (w : World) (x y : Int) (W : World) : Prop := Below w.heap.size w W ∧ W.heap[w.heap.size]? = some (.cells #[.int .i64 x, .int .i64 y] 45)
theorem lc_start (x y : Int) (w : World) : Lc w x y (w.alloc (.cells #[.int .i64 x, .int .i64 y] 45)) := ⟨below_alloc1 w _, heap_alloc_new w _⟩
section
variable {w W W' : World} {x y : Int}
theorem Lc.lt (h : Lc w x y W) : w.heap.size < W.heap.size := (Array.getElem?_eq_some_iff.1 h.2).1
theorem Lc.on (h : Lc w x y W) (hb : Below W.heap.size W W') : Lc w x y W' := ⟨h.1.trans (hb.mono h.1.size), (hb.block _ h.lt).trans h.2⟩
theorem Lc.drew (h : Lc w x y W) : Lc w x y W.drew := ⟨h.1.drew, h.2⟩
theorem Lc.c0 (h : Lc w x y W) : W.cell? ⟨w.heap.size, 0, none⟩ = some (.int .i64 x) := (cell_of_row _ _ 0 _ _ _ h.2).trans rfl
theorem Lc.c1 (h : Lc w x y W) : W.cell? ⟨w.heap.size, 1, none⟩ = some (.int .i64 y) := (cell_of_row _ _ 1 _ _ _ h.2).trans rfl
end

set_option maxRecDepth 100000 in
set_option maxHeartbeats 2000000 in
theorem lawCanFlip (iCanFlip : ∀ (W : World) (A : Option Addr) (n c B : Nat) (L : List Dm), L.length = n → (n : Int) ≤ 1048576 → Fits L → RowM W B A L → B ≤ W.heap.size → ∀ x y, Calls Try.prog 13 #[.slice A n c, .agg #[.int .i64 x, .int .i64 y]] W (Bol (canB L x y) W)) (w : World) (A : Option Addr) (n cap : Nat) (L : List Dm) (hL : L.length = n) (hn : (n : Int) ≤ 9223372036854775807) (h : RowM w w.heap.size A L) (hf : Fits L) (x y : Int) :
    Calls Try.prog 4 #[.slice A n cap, .agg #[.int .i64 x, .int .i64 y]] w (Dom.Yes w) := by
  have HS := Lib.hid (lc_start x y w)
  have HZ := Lib.hid (fun W => szDominoS A n cap 1048576 (by omega) (by omega) hn W)
  by_cases hs : (n : Int) ≤ 1048576
  · have HTo := Lib.hid (fun W (hb : Below w.heap.size w W) => toDominoS W A n cap w.heap.size L hL hs (h.below hb (Nat.le_refl _)) hb.size)
    have HSp := Lib.hid (fun W A c (hr : RowM W W.heap.size A L) => sCanFlip W A n c W.heap.size L hL hn hr (Nat.le_refl _) x y)
    have HIm := Lib.hid (fun W A c (hr : RowM W W.heap.size A L) => iCanFlip W A n c W.heap.size L hL hs hf hr (Nat.le_refl _) x y)
    have HEq := Lib.hid (fun W A A' c c' (h1 : RowM W W.heap.size A L) (h2 : RowM W W.heap.size A' L) => eqDoms W A A' n c c' W.heap.size W.heap.size L hL hn h1 h2 (Nat.le_refl _) (Nat.le_refl _))
    have hz := szR_yes hs
    generalize szR 1048576 n = z at HZ hz
    obtain ⟨z0, z1⟩ := hz
    have z2 : ¬ z < 0 := by omega
    generalize canB L x y = q at HSp HIm
    have hq : (q != q) = false := by simp
    clear hs hL hn h hf
    go_enter Try.func4, Try.ntmps4
    go_wp2_with fail
    have T0 := HS.out
    generalize w.alloc (.cells #[.int .i64 x, .int .i64 y] 45) = W0 at T0 ⊢
    refine (HZ.out _).mono ?_
    rintro e w1 ⟨rfl, rfl⟩
    clear HS HZ
    go_upto_region 5 with fail
    refine wp_region_noPanic ?_
    refine wp_region_held_drew (S := (fun w' => w'.cell? ⟨w.heap.size, 0, none⟩ = some (.int .i64 x) ∧ w'.cell? ⟨w.heap.size, 1, none⟩ = some (.int .i64 y))) (by kernel_rfl) (⟨T0.drew.c0, T0.drew.c1⟩) (fun hHeld => ?_)
    refine wpAnyH_take (i := 0) (v := ?_) rfl (by kernel_rfl) (by kernel_rfl) (by kernel_rfl) (fun _ _ _ h => h) (Or.inl ⟨by rfl, ?_⟩) (by assumption) ?_
    rotate_left
    · (intro w' hS; (try dsimp only at hS); go_simp; try with_reducible rfl)
    try simp only [Act.put, List.getElem_toArray, List.getElem_cons_succ, List.getElem_cons_zero, List.setIfInBounds_toArray, List.set_cons_zero, List.set_cons_succ]
    refine wpAnyH_take (i := 2) (v := ?_) rfl (by kernel_rfl) (by kernel_rfl) (by kernel_rfl) (fun _ _ _ h => h) (Or.inl ⟨by rfl, ?_⟩) (by assumption) ?_
    rotate_left
    · (intro w' hS; (try dsimp only at hS); go_simp; try with_reducible rfl)
    try simp only [Act.put, List.getElem_toArray, List.getElem_cons_succ, List.getElem_cons_zero, List.setIfInBounds_toArray, List.set_cons_zero, List.set_cons_succ]
    refine wpAnyH_ready (rs := [1]) (by kernel_rfl) (by simp) ?_
    refine AllReadyH.cons rfl (fun K hK => ?_) AllReadyH.nil
    go_simp
    refine (HTo.out _ T0.drew.1).mono ?_
    rintro e wx ⟨A1, cap1, rfl, _, hown1, hb1⟩
    have T1 := T0.drew.on hb1
    have R1 := rowM_own hown1
    clear T0 hb1 hown1
    go_wp2_with fail
    refine hK.out _ _ (⟨T1.c0, T1.c1⟩) (fun hHeld => ?_)
    clear hK K
    try simp only [Act.put, List.getElem_toArray, List.getElem_cons_succ, List.getElem_cons_zero, List.setIfInBounds_toArray, List.set_cons_zero, List.set_cons_succ]
    refine wpAnyH_ready (rs := [3]) (by kernel_rfl) (by simp) ?_
    refine AllReadyH.cons rfl (fun K hK => ?_) AllReadyH.nil
    go_simp
    refine (toCell _ _ _).mono ?_
    rintro e wx ⟨rfl, hb2⟩
    have T2 := T1.on hb2
    have R2 := (R1.below hb2 (Nat.le_refl _)).mono hb2.size
    clear T1 hb2 R1
    go_wp2_with fail
    refine hK.out _ _ (⟨T2.c0, T2.c1⟩) (fun hHeld => ?_)
    clear hK K
    try simp only [Act.put, List.getElem_toArray, List.getElem_cons_succ, List.getElem_cons_zero, List.setIfInBounds_toArray, List.set_cons_zero, List.set_cons_succ]
    refine wpAnyH_ready (rs := [4]) (by kernel_rfl) (by simp) ?_
    refine AllReadyH.cons rfl (fun K hK => ?_) AllReadyH.nil
    go_simp
    refine (HSp.out _ _ _ R2).mono ?_
    rintro e wx ⟨rfl, hb3⟩
    have T3 := T2.on hb3
    clear T2 hb3 R2 HSp
    go_wp2_with fail
    refine hK.out _ _ (⟨T3.c0, T3.c1⟩) (fun hHeld => ?_)
    clear hK K
    try simp only [Act.put, List.getElem_toArray, List.getElem_cons_succ, List.getElem_cons_zero, List.setIfInBounds_toArray, List.set_cons_zero, List.set_cons_succ]
    refine wpAnyH_take (i := 5) (v := ?_) rfl (by kernel_rfl) (by kernel_rfl) (by kernel_rfl) (fun _ _ _ h => h) (Or.inl ⟨by rfl, ?_⟩) (by assumption) ?_
    rotate_left
    · (intro w' hS; (try dsimp only at hS); go_simp; try with_reducible rfl)
    try simp only [Act.put, List.getElem_toArray, List.getElem_cons_succ, List.getElem_cons_zero, List.setIfInBounds_toArray, List.set_cons_zero, List.set_cons_succ]
    refine wpAnyH_done (by kernel_rfl) ?_ _
    refine NoPanic.normal ?_
    clear hHeld
    generalize wx = W3 at T3 ⊢
    have c0 := T3.c0
    have c1 := T3.c1
    go_wp2_with fail
    refine (HTo.out _ T3.1).mono ?_
    rintro e w4 ⟨A4, cap4, rfl, _, hown4, hb4⟩
    have T4 := T3.on hb4
    have R4 := rowM_own hown4
    clear T3 hb4 hown4 c0 c1
    have c0 := T4.c0
    have c1 := T4.c1
    go_wp2_with fail
    refine (toCell _ _ _).mono ?_
    rintro e w5 ⟨rfl, hb5⟩
    have T5 := T4.on hb5
    have R5 := (R4.below hb5 (Nat.le_refl _)).mono hb5.size
    clear T4 hb5 R4 c0 c1
    go_wp2_with fail
    refine (HIm.out _ _ _ R5).mono ?_
    rintro e w6 ⟨rfl, hb6⟩
    have T6 := T5.on hb6
    have R6 := (R5.below hb6 (Nat.le_refl _)).mono hb6.size
    clear T5 hb6 R5 HIm
    go_wp2_with fail
    refine (HTo.out _ T6.1).mono ?_
    rintro e w7 ⟨A7, cap7, rfl, _, hown7, hb7⟩
    have T7 := T6.on hb7
    have R7 := (R6.below hb7 (Nat.le_refl _)).mono hb7.size
    have R8 := rowM_own hown7
    clear T6 hb7 R6 hown7
    go_wp2_with fail
    refine (HEq.out _ _ _ _ _ R7 R8).mono ?_
    rintro e w8 ⟨rfl, hb8⟩
    have hb := (T7.on hb8).1
    clear T7 hb8 R7 R8
    go_wp2
    go_ret
    exact ⟨rfl, hb⟩
  · rw [szR_no hs] at HZ
    clear hs hL hn h
    go_enter Try.func4, Try.ntmps4
    go_wp2_with fail
    have T0 := HS.out
    refine (HZ.out _).mono ?_
    rintro e w1 ⟨rfl, rfl⟩
    go_wp2
    go_ret
    exact ⟨rfl, T0.1⟩
end Go.Proofs.Ytkjoonmnedofiaa.Flp
