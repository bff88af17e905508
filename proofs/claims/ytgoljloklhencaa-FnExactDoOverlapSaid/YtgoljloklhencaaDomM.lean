/- The laws of two arguments: FnExactDoOverlap, FnExactIsDominoBefore and FnExactDominoOver return true of every argument. -/
import Derived.Test.YtgoljloklhencaaDomL
namespace Go.Proofs.Ytgoljloklhencaa.Dom
set_option linter.unusedVariables false
set_option linter.unusedSimpArgs false
open Go.RowKit Go.Proofs.Ytgoljloklhencaa.Base Go.Proofs.Ytgoljloklhencaa.Cell Go.Proofs.Ytgoljloklhencaa.CellF Go.Proofs.Ytgoljloklhencaa.CellN Go.Joins

/-- two dominoes' boxes, in a world behind their making. -/
def Two (w : World) (x y : Int) (b : Bool) (u v : Int) (c : Bool) (W : World) : Prop := Below w.heap.size w W ∧ At3 23 W w.heap.size x y b ∧ At3 23 W (w.heap.size + 1) u v c
theorem two_start (x y : Int) (b : Bool) (u v : Int) (c : Bool) (w : World) : Two w x y b u v c ((w.alloc (.cells #[.int .i64 x, .int .i64 y, .bool b] 23)).alloc (.cells #[.int .i64 u, .int .i64 v, .bool c] 23)) := bx33 x y b u v c w _ (Below.refl _ _)
section
variable {w W W' : World} {x y u v : Int} {b c : Bool}
theorem Two.drew (h : Two w x y b u v c W) : Two w x y b u v c W.drew := ⟨h.1.drew, h.2⟩
theorem Two.on (h : Two w x y b u v c W) (hb : Below W.heap.size W W') : Two w x y b u v c W' := ⟨h.1.trans (hb.mono h.1.size), h.2.1.on hb, h.2.2.on hb⟩
end

set_option maxHeartbeats 1000000 in
theorem lawDoOverlap (x y : Int) (b : Bool) (u v : Int) (c : Bool) (hx : Sm x) (hy : Sm y) (hu : Sm u) (hv : Sm v) (w : World) :
    Calls Try.prog 6 #[.agg #[.int .i64 x, .int .i64 y, .bool b], .agg #[.int .i64 u, .int .i64 v, .bool c]] w (Yes w) := by
  have HI := Lib.hid (fun W => iDoOverlap x y b u v c hx hy hu hv W)
  have HS := Lib.hid (fun W => sDoOverlap x y b u v c W)
  have T0 := Lib.hid (two_start x y b u v c w)
  generalize ovB x y b u v c = d at HI HS
  have hq : (d != d) = false := by simp
  clear hx hy hu hv
  go_enter Try.func6, Try.ntmps6
  go_upto_region 1 with fail
  have T1 := T0.out
  clear T0
  generalize (w.alloc (.cells #[.int .i64 x, .int .i64 y, .bool b] 23)).alloc (.cells #[.int .i64 u, .int .i64 v, .bool c] 23) = W at T1 ⊢
  refine wp_region_noPanic ?_
  refine wp_region_held_drew (S := (fun w' => w'.cell? ⟨w.heap.size, 0, none⟩ = some (.int .i64 x) ∧ w'.cell? ⟨w.heap.size, 1, none⟩ = some (.int .i64 y) ∧ w'.cell? ⟨w.heap.size, 2, none⟩ = some (.bool b) ∧ w'.cell? ⟨w.heap.size + 1, 0, none⟩ = some (.int .i64 u) ∧ w'.cell? ⟨w.heap.size + 1, 1, none⟩ = some (.int .i64 v) ∧ w'.cell? ⟨w.heap.size + 1, 2, none⟩ = some (.bool c))) (by kernel_rfl) (⟨T1.drew.2.1.c0, T1.drew.2.1.c1, T1.drew.2.1.c2, T1.drew.2.2.c0, T1.drew.2.2.c1, T1.drew.2.2.c2⟩) (fun hHeld => ?_)
  refine wpAnyH_take (i := 0) (v := ?_) rfl (by kernel_rfl) (by kernel_rfl) (by kernel_rfl) (fun _ _ _ h => h) (Or.inl ⟨by rfl, ?_⟩) (by assumption) ?_
  rotate_left
  · (intro w' hS; (try dsimp only at hS); go_simp; try with_reducible rfl)
  try simp only [Act.put, List.getElem_toArray, List.getElem_cons_succ, List.getElem_cons_zero, List.setIfInBounds_toArray, List.set_cons_zero, List.set_cons_succ]
  refine wpAnyH_take (i := 2) (v := ?_) rfl (by kernel_rfl) (by kernel_rfl) (by kernel_rfl) (fun _ _ _ h => h) (Or.inl ⟨by rfl, ?_⟩) (by assumption) ?_
  rotate_left
  · (intro w' hS; (try dsimp only at hS); go_simp; try with_reducible rfl)
  try simp only [Act.put, List.getElem_toArray, List.getElem_cons_succ, List.getElem_cons_zero, List.setIfInBounds_toArray, List.set_cons_zero, List.set_cons_succ]
  refine wpAnyH_ready (rs := [1]) (by kernel_rfl) (by simp) ?_
  refine AllReadyH.cons rfl (fun K hK => ?_) AllReadyH.nil
  go_simp
  refine (toDomino _ _ _ _).mono ?_
  rintro e wx ⟨rfl, hb1⟩
  have T2 := T1.drew.on hb1
  clear T1 hb1
  go_wp2_with fail
  refine hK.out _ _ (⟨T2.2.1.c0, T2.2.1.c1, T2.2.1.c2, T2.2.2.c0, T2.2.2.c1, T2.2.2.c2⟩) (fun hHeld => ?_)
  clear hK K
  try simp only [Act.put, List.getElem_toArray, List.getElem_cons_succ, List.getElem_cons_zero, List.setIfInBounds_toArray, List.set_cons_zero, List.set_cons_succ]
  refine wpAnyH_ready (rs := [3]) (by kernel_rfl) (by simp) ?_
  refine AllReadyH.cons rfl (fun K hK => ?_) AllReadyH.nil
  go_simp
  refine (toDomino _ _ _ _).mono ?_
  rintro e wx ⟨rfl, hb1⟩
  have T3 := T2.on hb1
  clear T2 hb1
  go_wp2_with fail
  refine hK.out _ _ (⟨T3.2.1.c0, T3.2.1.c1, T3.2.1.c2, T3.2.2.c0, T3.2.2.c1, T3.2.2.c2⟩) (fun hHeld => ?_)
  clear hK K
  try simp only [Act.put, List.getElem_toArray, List.getElem_cons_succ, List.getElem_cons_zero, List.setIfInBounds_toArray, List.set_cons_zero, List.set_cons_succ]
  refine wpAnyH_ready (rs := [4]) (by kernel_rfl) (by simp) ?_
  refine AllReadyH.cons rfl (fun K hK => ?_) AllReadyH.nil
  go_simp
  refine (HS.out _).mono ?_
  rintro e wx ⟨rfl, hb1⟩
  have T1 := T3.on hb1
  clear T3 hb1 HS
  go_wp2_with fail
  refine hK.out _ _ (⟨T1.2.1.c0, T1.2.1.c1, T1.2.1.c2, T1.2.2.c0, T1.2.2.c1, T1.2.2.c2⟩) (fun hHeld => ?_)
  clear hK K
  try simp only [Act.put, List.getElem_toArray, List.getElem_cons_succ, List.getElem_cons_zero, List.setIfInBounds_toArray, List.set_cons_zero, List.set_cons_succ]
  refine wpAnyH_take (i := 5) (v := ?_) rfl (by kernel_rfl) (by kernel_rfl) (by kernel_rfl) (fun _ _ _ h => h) (Or.inl ⟨by rfl, ?_⟩) (by assumption) ?_
  rotate_left
  · (intro w' hS; (try dsimp only at hS); go_simp; try with_reducible rfl)
  try simp only [Act.put, List.getElem_toArray, List.getElem_cons_succ, List.getElem_cons_zero, List.setIfInBounds_toArray, List.set_cons_zero, List.set_cons_succ]
  refine wpAnyH_done (by kernel_rfl) ?_ _
  refine NoPanic.normal ?_
  go_upto_region 2 with fail
  refine wp_region_noPanic ?_
  refine wp_region_held_drew (S := (fun w' => w'.cell? ⟨w.heap.size, 0, none⟩ = some (.int .i64 x) ∧ w'.cell? ⟨w.heap.size, 1, none⟩ = some (.int .i64 y) ∧ w'.cell? ⟨w.heap.size, 2, none⟩ = some (.bool b) ∧ w'.cell? ⟨w.heap.size + 1, 0, none⟩ = some (.int .i64 u) ∧ w'.cell? ⟨w.heap.size + 1, 1, none⟩ = some (.int .i64 v) ∧ w'.cell? ⟨w.heap.size + 1, 2, none⟩ = some (.bool c))) (by kernel_rfl) (⟨T1.drew.2.1.c0, T1.drew.2.1.c1, T1.drew.2.1.c2, T1.drew.2.2.c0, T1.drew.2.2.c1, T1.drew.2.2.c2⟩) (fun hHeld => ?_)
  refine wpAnyH_take (i := 0) (v := ?_) rfl (by kernel_rfl) (by kernel_rfl) (by kernel_rfl) (fun _ _ _ h => h) (Or.inl ⟨by rfl, ?_⟩) (by assumption) ?_
  rotate_left
  · (intro w' hS; (try dsimp only at hS); go_simp; try with_reducible rfl)
  try simp only [Act.put, List.getElem_toArray, List.getElem_cons_succ, List.getElem_cons_zero, List.setIfInBounds_toArray, List.set_cons_zero, List.set_cons_succ]
  refine wpAnyH_take (i := 2) (v := ?_) rfl (by kernel_rfl) (by kernel_rfl) (by kernel_rfl) (fun _ _ _ h => h) (Or.inl ⟨by rfl, ?_⟩) (by assumption) ?_
  rotate_left
  · (intro w' hS; (try dsimp only at hS); go_simp; try with_reducible rfl)
  try simp only [Act.put, List.getElem_toArray, List.getElem_cons_succ, List.getElem_cons_zero, List.setIfInBounds_toArray, List.set_cons_zero, List.set_cons_succ]
  refine wpAnyH_ready (rs := [1]) (by kernel_rfl) (by simp) ?_
  refine AllReadyH.cons rfl (fun K hK => ?_) AllReadyH.nil
  go_simp
  refine (toDomino _ _ _ _).mono ?_
  rintro e wx ⟨rfl, hb1⟩
  have T2 := T1.drew.on hb1
  clear T1 hb1
  go_wp2_with fail
  refine hK.out _ _ (⟨T2.2.1.c0, T2.2.1.c1, T2.2.1.c2, T2.2.2.c0, T2.2.2.c1, T2.2.2.c2⟩) (fun hHeld => ?_)
  clear hK K
  try simp only [Act.put, List.getElem_toArray, List.getElem_cons_succ, List.getElem_cons_zero, List.setIfInBounds_toArray, List.set_cons_zero, List.set_cons_succ]
  refine wpAnyH_ready (rs := [3]) (by kernel_rfl) (by simp) ?_
  refine AllReadyH.cons rfl (fun K hK => ?_) AllReadyH.nil
  go_simp
  refine (toDomino _ _ _ _).mono ?_
  rintro e wx ⟨rfl, hb1⟩
  have T3 := T2.on hb1
  clear T2 hb1
  go_wp2_with fail
  refine hK.out _ _ (⟨T3.2.1.c0, T3.2.1.c1, T3.2.1.c2, T3.2.2.c0, T3.2.2.c1, T3.2.2.c2⟩) (fun hHeld => ?_)
  clear hK K
  try simp only [Act.put, List.getElem_toArray, List.getElem_cons_succ, List.getElem_cons_zero, List.setIfInBounds_toArray, List.set_cons_zero, List.set_cons_succ]
  refine wpAnyH_ready (rs := [4]) (by kernel_rfl) (by simp) ?_
  refine AllReadyH.cons rfl (fun K hK => ?_) AllReadyH.nil
  go_simp
  refine (HI.out _).mono ?_
  rintro e wx ⟨rfl, hb1⟩
  have T1 := T3.on hb1
  clear T3 hb1 HI
  go_wp2_with fail
  refine hK.out _ _ (⟨T1.2.1.c0, T1.2.1.c1, T1.2.1.c2, T1.2.2.c0, T1.2.2.c1, T1.2.2.c2⟩) (fun hHeld => ?_)
  clear hK K
  try simp only [Act.put, List.getElem_toArray, List.getElem_cons_succ, List.getElem_cons_zero, List.setIfInBounds_toArray, List.set_cons_zero, List.set_cons_succ]
  refine wpAnyH_take (i := 5) (v := ?_) rfl (by kernel_rfl) (by kernel_rfl) (by kernel_rfl) (fun _ _ _ h => h) (Or.inl ⟨by rfl, ?_⟩) (by assumption) ?_
  rotate_left
  · (intro w' hS; (try dsimp only at hS); go_simp; try with_reducible rfl)
  try simp only [Act.put, List.getElem_toArray, List.getElem_cons_succ, List.getElem_cons_zero, List.setIfInBounds_toArray, List.set_cons_zero, List.set_cons_succ]
  refine wpAnyH_done (by kernel_rfl) ?_ _
  refine NoPanic.normal ?_
  have hb := T1.1
  clear T1
  go_wp2
  go_ret
  exact ⟨rfl, hb⟩

set_option maxHeartbeats 1000000 in
theorem lawIsBefore (x y : Int) (b : Bool) (u v : Int) (c : Bool) (hx : Sm x) (hy : Sm y) (hu : Sm u) (hv : Sm v) (w : World) :
    Calls Try.prog 7 #[.agg #[.int .i64 x, .int .i64 y, .bool b], .agg #[.int .i64 u, .int .i64 v, .bool c]] w (Yes w) := by
  have HI := Lib.hid (fun W => iIsBefore x y b u v c hx hy hu hv W)
  have HS := Lib.hid (fun W => sIsBefore x y b u v c W)
  have T0 := Lib.hid (two_start x y b u v c w)
  generalize befB x y b u v c = d at HI HS
  have hq : (d != d) = false := by simp
  clear hx hy hu hv
  go_enter Try.func7, Try.ntmps7
  go_upto_region 1 with fail
  have T1 := T0.out
  clear T0
  generalize (w.alloc (.cells #[.int .i64 x, .int .i64 y, .bool b] 23)).alloc (.cells #[.int .i64 u, .int .i64 v, .bool c] 23) = W at T1 ⊢
  refine wp_region_noPanic ?_
  refine wp_region_held_drew (S := (fun w' => w'.cell? ⟨w.heap.size, 0, none⟩ = some (.int .i64 x) ∧ w'.cell? ⟨w.heap.size, 1, none⟩ = some (.int .i64 y) ∧ w'.cell? ⟨w.heap.size, 2, none⟩ = some (.bool b) ∧ w'.cell? ⟨w.heap.size + 1, 0, none⟩ = some (.int .i64 u) ∧ w'.cell? ⟨w.heap.size + 1, 1, none⟩ = some (.int .i64 v) ∧ w'.cell? ⟨w.heap.size + 1, 2, none⟩ = some (.bool c))) (by kernel_rfl) (⟨T1.drew.2.1.c0, T1.drew.2.1.c1, T1.drew.2.1.c2, T1.drew.2.2.c0, T1.drew.2.2.c1, T1.drew.2.2.c2⟩) (fun hHeld => ?_)
  refine wpAnyH_take (i := 0) (v := ?_) rfl (by kernel_rfl) (by kernel_rfl) (by kernel_rfl) (fun _ _ _ h => h) (Or.inl ⟨by rfl, ?_⟩) (by assumption) ?_
  rotate_left
  · (intro w' hS; (try dsimp only at hS); go_simp; try with_reducible rfl)
  try simp only [Act.put, List.getElem_toArray, List.getElem_cons_succ, List.getElem_cons_zero, List.setIfInBounds_toArray, List.set_cons_zero, List.set_cons_succ]
  refine wpAnyH_take (i := 2) (v := ?_) rfl (by kernel_rfl) (by kernel_rfl) (by kernel_rfl) (fun _ _ _ h => h) (Or.inl ⟨by rfl, ?_⟩) (by assumption) ?_
  rotate_left
  · (intro w' hS; (try dsimp only at hS); go_simp; try with_reducible rfl)
  try simp only [Act.put, List.getElem_toArray, List.getElem_cons_succ, List.getElem_cons_zero, List.setIfInBounds_toArray, List.set_cons_zero, List.set_cons_succ]
  refine wpAnyH_ready (rs := [1]) (by kernel_rfl) (by simp) ?_
  refine AllReadyH.cons rfl (fun K hK => ?_) AllReadyH.nil
  go_simp
  refine (toDomino _ _ _ _).mono ?_
  rintro e wx ⟨rfl, hb1⟩
  have T2 := T1.drew.on hb1
  clear T1 hb1
  go_wp2_with fail
  refine hK.out _ _ (⟨T2.2.1.c0, T2.2.1.c1, T2.2.1.c2, T2.2.2.c0, T2.2.2.c1, T2.2.2.c2⟩) (fun hHeld => ?_)
  clear hK K
  try simp only [Act.put, List.getElem_toArray, List.getElem_cons_succ, List.getElem_cons_zero, List.setIfInBounds_toArray, List.set_cons_zero, List.set_cons_succ]
  refine wpAnyH_ready (rs := [3]) (by kernel_rfl) (by simp) ?_
  refine AllReadyH.cons rfl (fun K hK => ?_) AllReadyH.nil
  go_simp
  refine (toDomino _ _ _ _).mono ?_
  rintro e wx ⟨rfl, hb1⟩
  have T3 := T2.on hb1
  clear T2 hb1
  go_wp2_with fail
  refine hK.out _ _ (⟨T3.2.1.c0, T3.2.1.c1, T3.2.1.c2, T3.2.2.c0, T3.2.2.c1, T3.2.2.c2⟩) (fun hHeld => ?_)
  clear hK K
  try simp only [Act.put, List.getElem_toArray, List.getElem_cons_succ, List.getElem_cons_zero, List.setIfInBounds_toArray, List.set_cons_zero, List.set_cons_succ]
  refine wpAnyH_ready (rs := [4]) (by kernel_rfl) (by simp) ?_
  refine AllReadyH.cons rfl (fun K hK => ?_) AllReadyH.nil
  go_simp
  refine (HS.out _).mono ?_
  rintro e wx ⟨rfl, hb1⟩
  have T1 := T3.on hb1
  clear T3 hb1 HS
  go_wp2_with fail
  refine hK.out _ _ (⟨T1.2.1.c0, T1.2.1.c1, T1.2.1.c2, T1.2.2.c0, T1.2.2.c1, T1.2.2.c2⟩) (fun hHeld => ?_)
  clear hK K
  try simp only [Act.put, List.getElem_toArray, List.getElem_cons_succ, List.getElem_cons_zero, List.setIfInBounds_toArray, List.set_cons_zero, List.set_cons_succ]
  refine wpAnyH_take (i := 5) (v := ?_) rfl (by kernel_rfl) (by kernel_rfl) (by kernel_rfl) (fun _ _ _ h => h) (Or.inl ⟨by rfl, ?_⟩) (by assumption) ?_
  rotate_left
  · (intro w' hS; (try dsimp only at hS); go_simp; try with_reducible rfl)
  try simp only [Act.put, List.getElem_toArray, List.getElem_cons_succ, List.getElem_cons_zero, List.setIfInBounds_toArray, List.set_cons_zero, List.set_cons_succ]
  refine wpAnyH_done (by kernel_rfl) ?_ _
  refine NoPanic.normal ?_
  go_upto_region 2 with fail
  refine wp_region_noPanic ?_
  refine wp_region_held_drew (S := (fun w' => w'.cell? ⟨w.heap.size, 0, none⟩ = some (.int .i64 x) ∧ w'.cell? ⟨w.heap.size, 1, none⟩ = some (.int .i64 y) ∧ w'.cell? ⟨w.heap.size, 2, none⟩ = some (.bool b) ∧ w'.cell? ⟨w.heap.size + 1, 0, none⟩ = some (.int .i64 u) ∧ w'.cell? ⟨w.heap.size + 1, 1, none⟩ = some (.int .i64 v) ∧ w'.cell? ⟨w.heap.size + 1, 2, none⟩ = some (.bool c))) (by kernel_rfl) (⟨T1.drew.2.1.c0, T1.drew.2.1.c1, T1.drew.2.1.c2, T1.drew.2.2.c0, T1.drew.2.2.c1, T1.drew.2.2.c2⟩) (fun hHeld => ?_)
  refine wpAnyH_take (i := 0) (v := ?_) rfl (by kernel_rfl) (by kernel_rfl) (by kernel_rfl) (fun _ _ _ h => h) (Or.inl ⟨by rfl, ?_⟩) (by assumption) ?_
  rotate_left
  · (intro w' hS; (try dsimp only at hS); go_simp; try with_reducible rfl)
  try simp only [Act.put, List.getElem_toArray, List.getElem_cons_succ, List.getElem_cons_zero, List.setIfInBounds_toArray, List.set_cons_zero, List.set_cons_succ]
  refine wpAnyH_take (i := 2) (v := ?_) rfl (by kernel_rfl) (by kernel_rfl) (by kernel_rfl) (fun _ _ _ h => h) (Or.inl ⟨by rfl, ?_⟩) (by assumption) ?_
  rotate_left
  · (intro w' hS; (try dsimp only at hS); go_simp; try with_reducible rfl)
  try simp only [Act.put, List.getElem_toArray, List.getElem_cons_succ, List.getElem_cons_zero, List.setIfInBounds_toArray, List.set_cons_zero, List.set_cons_succ]
  refine wpAnyH_ready (rs := [1]) (by kernel_rfl) (by simp) ?_
  refine AllReadyH.cons rfl (fun K hK => ?_) AllReadyH.nil
  go_simp
  refine (toDomino _ _ _ _).mono ?_
  rintro e wx ⟨rfl, hb1⟩
  have T2 := T1.drew.on hb1
  clear T1 hb1
  go_wp2_with fail
  refine hK.out _ _ (⟨T2.2.1.c0, T2.2.1.c1, T2.2.1.c2, T2.2.2.c0, T2.2.2.c1, T2.2.2.c2⟩) (fun hHeld => ?_)
  clear hK K
  try simp only [Act.put, List.getElem_toArray, List.getElem_cons_succ, List.getElem_cons_zero, List.setIfInBounds_toArray, List.set_cons_zero, List.set_cons_succ]
  refine wpAnyH_ready (rs := [3]) (by kernel_rfl) (by simp) ?_
  refine AllReadyH.cons rfl (fun K hK => ?_) AllReadyH.nil
  go_simp
  refine (toDomino _ _ _ _).mono ?_
  rintro e wx ⟨rfl, hb1⟩
  have T3 := T2.on hb1
  clear T2 hb1
  go_wp2_with fail
  refine hK.out _ _ (⟨T3.2.1.c0, T3.2.1.c1, T3.2.1.c2, T3.2.2.c0, T3.2.2.c1, T3.2.2.c2⟩) (fun hHeld => ?_)
  clear hK K
  try simp only [Act.put, List.getElem_toArray, List.getElem_cons_succ, List.getElem_cons_zero, List.setIfInBounds_toArray, List.set_cons_zero, List.set_cons_succ]
  refine wpAnyH_ready (rs := [4]) (by kernel_rfl) (by simp) ?_
  refine AllReadyH.cons rfl (fun K hK => ?_) AllReadyH.nil
  go_simp
  refine (HI.out _).mono ?_
  rintro e wx ⟨rfl, hb1⟩
  have T1 := T3.on hb1
  clear T3 hb1 HI
  go_wp2_with fail
  refine hK.out _ _ (⟨T1.2.1.c0, T1.2.1.c1, T1.2.1.c2, T1.2.2.c0, T1.2.2.c1, T1.2.2.c2⟩) (fun hHeld => ?_)
  clear hK K
  try simp only [Act.put, List.getElem_toArray, List.getElem_cons_succ, List.getElem_cons_zero, List.setIfInBounds_toArray, List.set_cons_zero, List.set_cons_succ]
  refine wpAnyH_take (i := 5) (v := ?_) rfl (by kernel_rfl) (by kernel_rfl) (by kernel_rfl) (fun _ _ _ h => h) (Or.inl ⟨by rfl, ?_⟩) (by assumption) ?_
  rotate_left
  · (intro w' hS; (try dsimp only at hS); go_simp; try with_reducible rfl)
  try simp only [Act.put, List.getElem_toArray, List.getElem_cons_succ, List.getElem_cons_zero, List.setIfInBounds_toArray, List.set_cons_zero, List.set_cons_succ]
  refine wpAnyH_done (by kernel_rfl) ?_ _
  refine NoPanic.normal ?_
  have hb := T1.1
  clear T1
  go_wp2
  go_ret
  exact ⟨rfl, hb⟩
end Go.Proofs.Ytgoljloklhencaa.Dom
