/- The program's DominoOk at whatever two numbers, small or not: the cells under a domino as the program reckons them. -/
import Derived.Test.YtkjoonmnedofiaaDomF
namespace Go.Proofs.Ytkjoonmnedofiaa.Dom
set_option linter.unusedVariables false
set_option linter.unusedSimpArgs false
open Go.RowKit Go.Proofs.Ytkjoonmnedofiaa.Base Go.Proofs.Ytkjoonmnedofiaa.Cell Go.Proofs.Ytkjoonmnedofiaa.CellF Go.Proofs.Ytkjoonmnedofiaa.CellN Go.Joins

def sxW (x : Int) (b : Bool) : Int := if b then wrap64 (x + 0) else wrap64 (x + 1)
def syW (y : Int) (b : Bool) : Int := if b then wrap64 (y + 1) else wrap64 (y + 0)
theorem domW (x y : Int) (b : Bool) : domB x y b = (okB x y && okB (sxW x b) (syW y b)) := by
  unfold domB
  by_cases h : Ok x y
  · have h' := h
    unfold Ok at h'
    have e0 : wrap64 (x + 0) = x := by unfold wrap64; omega
    have e1 : wrap64 (y + 0) = y := by unfold wrap64; omega
    cases b with
    | true => unfold sx sy sxW syW; rw [if_pos rfl, if_pos rfl, if_pos rfl, if_pos rfl, e0]
    | false => unfold sx sy sxW syW; rw [if_neg (by simp), if_neg (by simp), if_neg (by simp), if_neg (by simp), e1]
  · rw [okB_not h]; rfl
set_option maxHeartbeats 400000 in
theorem iCellsW (x y : Int) (b : Bool) (w : World) :
    Calls Try.prog 63 #[.agg #[.int .i64 x, .int .i64 y, .bool b]] w (Cel2 x y (sxW x b) (syW y b) w) := by
  have F0 := Lib.hid (fun T => four_start (T := T) x y b w)
  cases b with
  | true =>
    have HM := Lib.hid (fun W => moved x y 0 1 W)
    have hE : sxW x true = wrap64 (x + 0) ∧ syW y true = wrap64 (y + 1) := ⟨rfl, rfl⟩
    generalize wrap64 (x + 0) = u at HM hE
    generalize wrap64 (y + 1) = v at HM hE
    rw [hE.1, hE.2]
    clear hE
    go_enter Try.func63, Try.ntmps63
    go_wp2_with fail
    have F1 := F0.out 38
    generalize World.alloc _ (.cells #[.int .i64 x, .int .i64 y] 35) = W at F1 ⊢
    clear F0
    refine wp_region_noPanic ?_
    refine wp_region_held_drew (S := (fun w' => w'.cell? ⟨w.heap.size + 1 + 1 + 1, 0, none⟩ = some (.int .i64 x) ∧ w'.cell? ⟨w.heap.size + 1 + 1 + 1, 1, none⟩ = some (.int .i64 y))) (by kernel_rfl) (⟨F1.drew.2.2.2.c0, F1.drew.2.2.2.c1⟩) (fun hHeld => ?_)
    refine wpAnyH_take (i := 0) (v := ?_) rfl (by kernel_rfl) (by kernel_rfl) (by kernel_rfl) (fun _ _ _ h => h) (Or.inl ⟨by rfl, ?_⟩) (by assumption) ?_
    rotate_left
    · (intro w' hS; (try dsimp only at hS); go_simp; try with_reducible rfl)
    try simp only [Act.put, List.getElem_toArray, List.getElem_cons_succ, List.getElem_cons_zero, List.setIfInBounds_toArray, List.set_cons_zero, List.set_cons_succ]
    refine wpAnyH_take (i := 1) (v := ?_) rfl (by kernel_rfl) (by kernel_rfl) (by kernel_rfl) (fun _ _ _ h => h) (Or.inl ⟨by rfl, ?_⟩) (by assumption) ?_
    rotate_left
    · (intro w' hS; (try dsimp only at hS); go_simp; try with_reducible rfl)
    try simp only [Act.put, List.getElem_toArray, List.getElem_cons_succ, List.getElem_cons_zero, List.setIfInBounds_toArray, List.set_cons_zero, List.set_cons_succ]
    refine wpAnyH_ready (rs := [2]) (by kernel_rfl) (by simp) ?_
    refine AllReadyH.cons rfl (fun K hK => ?_) AllReadyH.nil
    go_simp
    refine (HM.out _).mono ?_
    rintro e wx ⟨rfl, hbx⟩
    have F2 := F1.drew.on hbx
    clear F1 hbx hHeld
    go_wp2_with fail
    refine hK.out _ _ (⟨F2.2.2.2.c0, F2.2.2.2.c1⟩) (fun hHeld => ?_)
    clear hK K
    try simp only [Act.put, List.getElem_toArray, List.getElem_cons_succ, List.getElem_cons_zero, List.setIfInBounds_toArray, List.set_cons_zero, List.set_cons_succ]
    refine wpAnyH_ready (rs := [3]) (by kernel_rfl) (by simp) ?_
    refine AllReadyH.cons rfl (fun K hK => ?_) AllReadyH.nil
    have d0 := F2.2.1.c0
    have d1 := F2.2.1.c1
    have d2 := F2.2.1.f0
    have d3 := F2.2.1.f1
    have F3 := F2.put1 x y
    clear F2
    go_simp
    refine hK.out _ _ (⟨F3.2.2.2.c0, F3.2.2.2.c1⟩) (fun hHeld => ?_)
    clear hK K
    try simp only [Act.put, List.getElem_toArray, List.getElem_cons_succ, List.getElem_cons_zero, List.setIfInBounds_toArray, List.set_cons_zero, List.set_cons_succ]
    refine wpAnyH_ready (rs := [4]) (by kernel_rfl) (by simp) ?_
    refine AllReadyH.cons rfl (fun K hK => ?_) AllReadyH.nil
    have d0 := F3.2.2.1.c0
    have d1 := F3.2.2.1.c1
    have d2 := F3.2.2.1.f0
    have d3 := F3.2.2.1.f1
    have F4 := F3.put2 u v
    clear F3
    go_simp
    refine hK.out _ _ (⟨F4.2.2.2.c0, F4.2.2.2.c1⟩) (fun hHeld => ?_)
    clear hK K
    try simp only [Act.put, List.getElem_toArray, List.getElem_cons_succ, List.getElem_cons_zero, List.setIfInBounds_toArray, List.set_cons_zero, List.set_cons_succ]
    refine wpAnyH_done (by kernel_rfl) ?_ _
    refine NoPanic.normal ?_
    generalize World.setCell _ _ _ = W4 at F4 ⊢
    have c0 := F4.2.1.c0
    have c1 := F4.2.1.c1
    have c2 := F4.2.2.1.c0
    have c3 := F4.2.2.1.c1
    go_wp2
    refine bodyPost_ret (v := .tuple #[.agg #[.int .i64 x, .int .i64 y], .agg #[.int .i64 u, .int .i64 v]]) ?_ rfl (mkCel2 rfl rfl rfl rfl F4.1)
    simp [results, Try.results63, go_sem, c0, c1, c2, c3]
  | false =>
    have HM := Lib.hid (fun W => moved x y 1 0 W)
    have hE : sxW x false = wrap64 (x + 1) ∧ syW y false = wrap64 (y + 0) := ⟨rfl, rfl⟩
    generalize wrap64 (x + 1) = u at HM hE
    generalize wrap64 (y + 0) = v at HM hE
    rw [hE.1, hE.2]
    clear hE
    go_enter Try.func63, Try.ntmps63
    go_wp2_with fail
    have F1 := F0.out 38
    generalize World.alloc _ (.cells #[.int .i64 x, .int .i64 y] 35) = W at F1 ⊢
    clear F0
    refine wp_region_noPanic ?_
    refine wp_region_held_drew (S := (fun w' => w'.cell? ⟨w.heap.size + 1 + 1 + 1, 0, none⟩ = some (.int .i64 x) ∧ w'.cell? ⟨w.heap.size + 1 + 1 + 1, 1, none⟩ = some (.int .i64 y))) (by kernel_rfl) (⟨F1.drew.2.2.2.c0, F1.drew.2.2.2.c1⟩) (fun hHeld => ?_)
    refine wpAnyH_take (i := 0) (v := ?_) rfl (by kernel_rfl) (by kernel_rfl) (by kernel_rfl) (fun _ _ _ h => h) (Or.inl ⟨by rfl, ?_⟩) (by assumption) ?_
    rotate_left
    · (intro w' hS; (try dsimp only at hS); go_simp; try with_reducible rfl)
    try simp only [Act.put, List.getElem_toArray, List.getElem_cons_succ, List.getElem_cons_zero, List.setIfInBounds_toArray, List.set_cons_zero, List.set_cons_succ]
    refine wpAnyH_take (i := 1) (v := ?_) rfl (by kernel_rfl) (by kernel_rfl) (by kernel_rfl) (fun _ _ _ h => h) (Or.inl ⟨by rfl, ?_⟩) (by assumption) ?_
    rotate_left
    · (intro w' hS; (try dsimp only at hS); go_simp; try with_reducible rfl)
    try simp only [Act.put, List.getElem_toArray, List.getElem_cons_succ, List.getElem_cons_zero, List.setIfInBounds_toArray, List.set_cons_zero, List.set_cons_succ]
    refine wpAnyH_ready (rs := [2]) (by kernel_rfl) (by simp) ?_
    refine AllReadyH.cons rfl (fun K hK => ?_) AllReadyH.nil
    go_simp
    refine (HM.out _).mono ?_
    rintro e wx ⟨rfl, hbx⟩
    have F2 := F1.drew.on hbx
    clear F1 hbx hHeld
    go_wp2_with fail
    refine hK.out _ _ (⟨F2.2.2.2.c0, F2.2.2.2.c1⟩) (fun hHeld => ?_)
    clear hK K
    try simp only [Act.put, List.getElem_toArray, List.getElem_cons_succ, List.getElem_cons_zero, List.setIfInBounds_toArray, List.set_cons_zero, List.set_cons_succ]
    refine wpAnyH_ready (rs := [3]) (by kernel_rfl) (by simp) ?_
    refine AllReadyH.cons rfl (fun K hK => ?_) AllReadyH.nil
    have d0 := F2.2.1.c0
    have d1 := F2.2.1.c1
    have d2 := F2.2.1.f0
    have d3 := F2.2.1.f1
    have F3 := F2.put1 x y
    clear F2
    go_simp
    refine hK.out _ _ (⟨F3.2.2.2.c0, F3.2.2.2.c1⟩) (fun hHeld => ?_)
    clear hK K
    try simp only [Act.put, List.getElem_toArray, List.getElem_cons_succ, List.getElem_cons_zero, List.setIfInBounds_toArray, List.set_cons_zero, List.set_cons_succ]
    refine wpAnyH_ready (rs := [4]) (by kernel_rfl) (by simp) ?_
    refine AllReadyH.cons rfl (fun K hK => ?_) AllReadyH.nil
    have d0 := F3.2.2.1.c0
    have d1 := F3.2.2.1.c1
    have d2 := F3.2.2.1.f0
    have d3 := F3.2.2.1.f1
    have F4 := F3.put2 u v
    clear F3
    go_simp
    refine hK.out _ _ (⟨F4.2.2.2.c0, F4.2.2.2.c1⟩) (fun hHeld => ?_)
    clear hK K
    try simp only [Act.put, List.getElem_toArray, List.getElem_cons_succ, List.getElem_cons_zero, List.setIfInBounds_toArray, List.set_cons_zero, List.set_cons_succ]
    refine wpAnyH_done (by kernel_rfl) ?_ _
    refine NoPanic.normal ?_
    generalize World.setCell _ _ _ = W4 at F4 ⊢
    have c0 := F4.2.1.c0
    have c1 := F4.2.1.c1
    have c2 := F4.2.2.1.c0
    have c3 := F4.2.2.1.c1
    go_wp2
    refine bodyPost_ret (v := .tuple #[.agg #[.int .i64 x, .int .i64 y], .agg #[.int .i64 u, .int .i64 v]]) ?_ rfl (mkCel2 rfl rfl rfl rfl F4.1)
    simp [results, Try.results63, go_sem, c0, c1, c2, c3]
set_option maxHeartbeats 400000 in
theorem iDominoOkW (x y : Int) (b : Bool) (w : World) :
    Calls Try.prog 41 #[.agg #[.int .i64 x, .int .i64 y, .bool b]] w (Bol (domB x y b) w) := by
  have HC := Lib.hid (fun W => iCellsW x y b W)
  have HV1 := Lib.hid (fun W => isValid x y W)
  have HD := Lib.hid (show domB x y b = (okB x y && okB (sxW x b) (syW y b)) from domW x y b)
  generalize sxW x b = u at HC HD
  generalize syW y b = v at HC HD
  have HV2 := Lib.hid (fun W => isValid u v W)
  generalize okB x y = p at HV1 HD
  generalize okB u v = q at HV2 HD
  generalize domB x y b = d at HD ⊢
  go_enter Try.func41, Try.ntmps41
  go_wp2_with fail
  refine (HC.out _).mono ?_
  rintro e w1 ⟨rfl, hb1⟩
  have hb := (below_alloc1 w (.cells #[.int .i64 x, .int .i64 y, .bool b] 38)).trans (hb1.mono (by simp))
  clear hb1 HC
  go_wp2_with fail
  refine (HV1.out _).mono ?_
  rintro e w2 ⟨rfl, hb2⟩
  obtain ⟨k1, k2, k3⟩ := at2_two w1 x y u v
  have hB := hb.trans ((k3.trans (hb2.mono k3.size)).mono hb.size)
  have K2 := k2.on hb2
  have c0 := K2.c0
  have c1 := K2.c1
  clear k1 k2 k3 hb hb2 K2 HV1
  cases p with
  | false =>
    go_wp2
    go_ret
    exact mkBol (by rw [HD.out]; rfl) hB
  | true =>
    go_wp2_with fail
    refine (HV2.out _).mono ?_
    rintro e w3 ⟨rfl, hb3⟩
    go_wp2
    go_ret
    exact mkBol (by rw [HD.out]; rfl) (hB.trans (hb3.mono hB.size))
end Go.Proofs.Ytkjoonmnedofiaa.Dom
