/- Dominoes: the domino over two cells, the program's function and the model's; the laws' own copies and comparisons of dominoes. -/
import Derived.Test.YtgkgdgchkhdgjaaDomH
namespace Go.Proofs.Ytgkgdgchkhdgjaa.Dom
set_option linter.unusedVariables false
set_option linter.unusedSimpArgs false
open Go.RowKit Go.Proofs.Ytgkgdgchkhdgjaa.Base Go.Proofs.Ytgkgdgchkhdgjaa.Cell Go.Proofs.Ytgkgdgchkhdgjaa.CellF Go.Proofs.Ytgkgdgchkhdgjaa.CellN Go.Joins

/-- the smaller of two numbers. -/
def mn (a b : Int) : Int := if b < a then b else a
theorem nb_dom {x y u v : Int} (h : nbB x y u v = true) : Ok x y ∧ Ok u v ∧ ((indexN u v < indexN x y ∧ mn x u = u ∧ mn y v = v) ∨ (¬ indexN u v < indexN x y ∧ mn x u = x ∧ mn y v = y)) := by
  obtain ⟨h1, h2, h3⟩ := nbB_iff.1 h
  refine ⟨h1, h2, ?_⟩
  rw [index_of h1, index_of h2]
  obtain ⟨x0, x7, y0, y7⟩ := h1
  obtain ⟨u0, u7, v0, v7⟩ := h2
  unfold mn
  rcases h3 with ⟨rfl, rfl | rfl⟩ | ⟨rfl, rfl | rfl⟩
  · left; refine ⟨by omega, by simp, by rw [if_pos (by omega)]⟩
  · right; refine ⟨by omega, by simp, by rw [if_neg (by omega)]⟩
  · left; refine ⟨by omega, by rw [if_pos (by omega)], by simp⟩
  · right; refine ⟨by omega, by rw [if_neg (by omega)], by simp⟩

/-- two cells' boxes and the domino that a function returns. -/
def Ov (w : World) (x y u v : Int) (p q : Int) (b : Bool) (W : World) : Prop :=
  Below w.heap.size w W ∧ At2 W w.heap.size x y ∧ At2 W (w.heap.size + 1) u v ∧ At3 82 W (w.heap.size + 1 + 1) p q b
theorem ov_start (x y u v : Int) (w : World) : Ov w x y u v 0 0 false (((w.alloc (.cells #[.int .i64 x, .int .i64 y] 58)).alloc (.cells #[.int .i64 u, .int .i64 v] 58)).alloc (.cells #[.int .i64 0, .int .i64 0, .bool false] 82)) := by
  obtain ⟨k1, k2, k3⟩ := at2_two w x y u v
  have e2 : ((w.alloc (.cells #[.int .i64 x, .int .i64 y] 58)).alloc (.cells #[.int .i64 u, .int .i64 v] 58)).heap.size = w.heap.size + 1 + 1 := by simp
  generalize (w.alloc (.cells #[.int .i64 x, .int .i64 y] 58)).alloc (.cells #[.int .i64 u, .int .i64 v] 58) = W at k1 k2 k3 e2 ⊢
  have k4 := At3.new 82 W 0 0 false
  rw [e2] at k4
  exact ⟨k3.trans ((below_alloc1 W _).mono k3.size), k1.on (below_alloc1 _ _), k2.on (below_alloc1 _ _), k4⟩
theorem At3.f0 {T : TypeId} {W : World} {q : Nat} {x y : Int} {b : Bool} (h : At3 T W q x y b) : W.frozen? ⟨q, 0, none⟩ = false := by have h' := h; unfold At3 at h'; simp [World.frozen?, h']
theorem At3.f1 {T : TypeId} {W : World} {q : Nat} {x y : Int} {b : Bool} (h : At3 T W q x y b) : W.frozen? ⟨q, 1, none⟩ = false := by have h' := h; unfold At3 at h'; simp [World.frozen?, h']
theorem At3.f2 {T : TypeId} {W : World} {q : Nat} {x y : Int} {b : Bool} (h : At3 T W q x y b) : W.frozen? ⟨q, 2, none⟩ = false := by have h' := h; unfold At3 at h'; simp [World.frozen?, h']
theorem At3.put {T : TypeId} {W : World} {q : Nat} {x y a c : Int} {b d : Bool} (h : At3 T W q x y b) : At3 T (((W.setCell ⟨q, 0, none⟩ (.int .i64 a)).setCell ⟨q, 1, none⟩ (.int .i64 c)).setCell ⟨q, 2, none⟩ (.bool d)) q a c d := by
  have h' := h
  unfold At3 at h' ⊢
  simp [World.setCell, Array.getElem?_modify, h']
section
variable {w W W' : World} {x y u v p q : Int} {b : Bool}
theorem Ov.drew (h : Ov w x y u v p q b W) : Ov w x y u v p q b W.drew := ⟨h.1.drew, h.2⟩
theorem Ov.on (h : Ov w x y u v p q b W) (hb : Below W.heap.size W W') : Ov w x y u v p q b W' := ⟨h.1.trans (hb.mono h.1.size), h.2.1.on hb, h.2.2.1.on hb, h.2.2.2.on hb⟩
theorem Ov.put (h : Ov w x y u v p q b W) (a c : Int) (d : Bool) : Ov w x y u v a c d (((W.setCell ⟨w.heap.size + 1 + 1, 0, none⟩ (.int .i64 a)).setCell ⟨w.heap.size + 1 + 1, 1, none⟩ (.int .i64 c)).setCell ⟨w.heap.size + 1 + 1, 2, none⟩ (.bool d)) :=
  ⟨((h.1.setCell (p := ⟨w.heap.size + 1 + 1, 0, none⟩) (by show w.heap.size ≤ w.heap.size + 1 + 1; omega) _).setCell (p := ⟨w.heap.size + 1 + 1, 1, none⟩) (by show w.heap.size ≤ w.heap.size + 1 + 1; omega) _).setCell (p := ⟨w.heap.size + 1 + 1, 2, none⟩) (by show w.heap.size ≤ w.heap.size + 1 + 1; omega) _, (h.2.1.far2 (by omega)).far (by omega), (h.2.2.1.far2 (by omega)).far (by omega), h.2.2.2.put⟩
/-- a box beyond them is written. -/
theorem Ov.putFar (h : Ov w x y u v p q b W) {k : Nat} (hk : w.heap.size + 3 ≤ k) (a c : Int) : Ov w x y u v p q b ((W.setCell ⟨k, 0, none⟩ (.int .i64 a)).setCell ⟨k, 1, none⟩ (.int .i64 c)) :=
  ⟨(h.1.setCell (p := ⟨k, 0, none⟩) (by show w.heap.size ≤ k; omega) _).setCell (p := ⟨k, 1, none⟩) (by show w.heap.size ≤ k; omega) _, h.2.1.far2 (by omega), h.2.2.1.far2 (by omega), (h.2.2.2.far (by omega)).far (by omega)⟩
end

set_option maxHeartbeats 400000 in
theorem sDominoOver_no (x y u v : Int) (hn : nbB x y u v = false) (w : World) :
    Calls Try.prog 68 #[.agg #[.int .i64 x, .int .i64 y], .agg #[.int .i64 u, .int .i64 v]] w (DoB 0 0 false false w) := by
  have HO := Lib.hid (fun W => hn ▸ sAreNeighbors x y u v W)
  have T0 := Lib.hid (ov_start x y u v w)
  clear hn
  go_enter Try.func68, Try.ntmps68
  go_wp2_with fail
  refine (HO.out _).mono ?_
  rintro e w1 ⟨rfl, hb1⟩
  have T1 := T0.out.on hb1
  have T2 := T1.put 0 0 false
  have c0 := T1.2.2.2.c0
  have c1 := T1.2.2.2.c1
  have c2 := T1.2.2.2.c2
  have c3 := T1.2.2.2.f0
  have c4 := T1.2.2.2.f1
  have c5 := T1.2.2.2.f2
  clear T0 T1 hb1 HO
  go_wp2
  have r0 := T2.2.2.2.c0
  have r1 := T2.2.2.2.c1
  have r2 := T2.2.2.2.c2
  refine bodyPost_ret (v := .tuple #[.agg #[.int .i64 0, .int .i64 0, .bool false], .bool false]) ?_ rfl (mkDoB rfl rfl rfl rfl T2.1)
  simp [results, Try.results68, go_sem, r0, r1, r2]

set_option maxHeartbeats 400000 in
theorem sDominoOver_ok (x y u v : Int) (hn : nbB x y u v = true) (w : World) :
    Calls Try.prog 68 #[.agg #[.int .i64 x, .int .i64 y], .agg #[.int .i64 u, .int .i64 v]] w (DoB (mn x u) (mn y v) (decide (x = u)) true w) := by
  have HO := Lib.hid (fun W => hn ▸ sAreNeighbors x y u v W)
  have T0 := Lib.hid (ov_start x y u v w)
  clear hn
  go_enter Try.func68, Try.ntmps68
  go_wp2_with fail
  refine (HO.out _).mono ?_
  rintro e w1 ⟨rfl, hb1⟩
  have T1 := T0.out.on hb1
  have a0 := T1.2.1.c0
  have a1 := T1.2.1.c1
  have a2 := T1.2.2.1.c0
  have a3 := T1.2.2.1.c1
  have c0 := T1.2.2.2.c0
  have c1 := T1.2.2.2.c1
  have c2 := T1.2.2.2.c2
  have c3 := T1.2.2.2.f0
  have c4 := T1.2.2.2.f1
  have c5 := T1.2.2.2.f2
  have HT := Lib.hid T1
  clear T0 T1 hb1 HO
  by_cases h1 : u < x
  · by_cases h2 : v < y
    · go_wp2
      have T2 := HT.out.put u v (x == u)
      have r0 := T2.2.2.2.c0
      have r1 := T2.2.2.2.c1
      have r2 := T2.2.2.2.c2
      refine bodyPost_ret (v := .tuple #[.agg #[.int .i64 u, .int .i64 v, .bool (x == u)], .bool true]) ?_ rfl (mkDoB (by unfold mn; split <;> omega) (by unfold mn; split <;> omega) (by rw [Bool.eq_iff_iff]; simp) rfl T2.1)
      simp [results, Try.results68, go_sem, r0, r1, r2]
    · go_wp2
      have T2 := HT.out.put u y (x == u)
      have r0 := T2.2.2.2.c0
      have r1 := T2.2.2.2.c1
      have r2 := T2.2.2.2.c2
      refine bodyPost_ret (v := .tuple #[.agg #[.int .i64 u, .int .i64 y, .bool (x == u)], .bool true]) ?_ rfl (mkDoB (by unfold mn; split <;> omega) (by unfold mn; split <;> omega) (by rw [Bool.eq_iff_iff]; simp) rfl T2.1)
      simp [results, Try.results68, go_sem, r0, r1, r2]
  · by_cases h2 : v < y
    · go_wp2
      have T2 := HT.out.put x v (x == u)
      have r0 := T2.2.2.2.c0
      have r1 := T2.2.2.2.c1
      have r2 := T2.2.2.2.c2
      refine bodyPost_ret (v := .tuple #[.agg #[.int .i64 x, .int .i64 v, .bool (x == u)], .bool true]) ?_ rfl (mkDoB (by unfold mn; split <;> omega) (by unfold mn; split <;> omega) (by rw [Bool.eq_iff_iff]; simp) rfl T2.1)
      simp [results, Try.results68, go_sem, r0, r1, r2]
    · go_wp2
      have T2 := HT.out.put x y (x == u)
      have r0 := T2.2.2.2.c0
      have r1 := T2.2.2.2.c1
      have r2 := T2.2.2.2.c2
      refine bodyPost_ret (v := .tuple #[.agg #[.int .i64 x, .int .i64 y, .bool (x == u)], .bool true]) ?_ rfl (mkDoB (by unfold mn; split <;> omega) (by unfold mn; split <;> omega) (by rw [Bool.eq_iff_iff]; simp) rfl T2.1)
      simp [results, Try.results68, go_sem, r0, r1, r2]

set_option maxHeartbeats 400000 in
theorem iDominoOver_no (x y u v : Int) (hn : nbB x y u v = false) (w : World) :
    Calls Try.prog 93 #[.agg #[.int .i64 x, .int .i64 y], .agg #[.int .i64 u, .int .i64 v]] w (DoB 0 0 false false w) := by
  have HO := Lib.hid (fun W => hn ▸ iAreNeighbors x y u v W)
  have T0 := Lib.hid (ov_start x y u v w)
  clear hn
  go_enter Try.func93, Try.ntmps93
  go_wp2_with fail
  refine (HO.out _).mono ?_
  rintro e w1 ⟨rfl, hb1⟩
  have T1 := T0.out.on hb1
  have T2 := T1.put 0 0 false
  have c0 := T1.2.2.2.c0
  have c1 := T1.2.2.2.c1
  have c2 := T1.2.2.2.c2
  have c3 := T1.2.2.2.f0
  have c4 := T1.2.2.2.f1
  have c5 := T1.2.2.2.f2
  clear T0 T1 hb1 HO
  go_wp2
  have r0 := T2.2.2.2.c0
  have r1 := T2.2.2.2.c1
  have r2 := T2.2.2.2.c2
  refine bodyPost_ret (v := .tuple #[.agg #[.int .i64 0, .int .i64 0, .bool false], .bool false]) ?_ rfl (mkDoB rfl rfl rfl rfl T2.1)
  simp [results, Try.results93, go_sem, r0, r1, r2]

set_option maxHeartbeats 1000000 in
theorem iDominoOver_ok (x y u v : Int) (hn : nbB x y u v = true) (w : World) :
    Calls Try.prog 93 #[.agg #[.int .i64 x, .int .i64 y], .agg #[.int .i64 u, .int .i64 v]] w (DoB (mn x u) (mn y v) (decide (x = u)) true w) := by
  have HO := Lib.hid (fun W => hn ▸ iAreNeighbors x y u v W)
  have T0 := Lib.hid (ov_start x y u v w)
  have HD := Lib.hid (nb_dom hn).2.2
  have HI1 := Lib.hid (fun W => iCellIndex x y W)
  have HI2 := Lib.hid (fun W => iCellIndex u v W)
  generalize indexN x y = i1 at HI1 HD
  generalize indexN u v = i2 at HI2 HD
  generalize mn x u = mx at HD ⊢
  generalize mn y v = my at HD ⊢
  clear hn
  go_enter Try.func93, Try.ntmps93
  go_wp2_with fail
  refine (HO.out _).mono ?_
  rintro e w1 ⟨rfl, hb1⟩
  have T1 := T0.out.on hb1
  have a0 := T1.2.1.c0
  have a1 := T1.2.1.c1
  clear T0 hb1 HO
  go_upto_region 4 with fail
  have k1 := At2.new w1 x y
  have hlt := T1.2.2.2.lt
  have T2 := T1.on (below_alloc1 w1 (.cells #[.int .i64 x, .int .i64 y] 58))
  clear T1 a0 a1
  generalize w1.alloc (.cells #[.int .i64 x, .int .i64 y] 58) = W at k1 T2 ⊢
  refine wp_region_noPanic ?_
  refine wp_region_held_drew (S := (fun w' => w'.cell? ⟨w.heap.size, 0, none⟩ = some (.int .i64 x) ∧ w'.cell? ⟨w.heap.size, 1, none⟩ = some (.int .i64 y) ∧ w'.cell? ⟨w.heap.size + 1, 0, none⟩ = some (.int .i64 u) ∧ w'.cell? ⟨w.heap.size + 1, 1, none⟩ = some (.int .i64 v))) (by kernel_rfl) (⟨T2.2.1.c0, T2.2.1.c1, T2.2.2.1.c0, T2.2.2.1.c1⟩) (fun hHeld => ?_)
  refine wpAnyH_take (i := 0) (v := ?_) rfl (by kernel_rfl) (by kernel_rfl) (by kernel_rfl) (fun _ _ _ h => h) (Or.inl ⟨by rfl, ?_⟩) (by assumption) ?_
  rotate_left
  · (intro w' hS; (try dsimp only at hS); go_simp; try with_reducible rfl)
  try simp only [Act.put, List.getElem_toArray, List.getElem_cons_succ, List.getElem_cons_zero, List.setIfInBounds_toArray, List.set_cons_zero, List.set_cons_succ]
  refine wpAnyH_take (i := 2) (v := ?_) rfl (by kernel_rfl) (by kernel_rfl) (by kernel_rfl) (fun _ _ _ h => h) (Or.inl ⟨by rfl, ?_⟩) (by assumption) ?_
  rotate_left
  · (intro w' hS; (try dsimp only at hS); go_simp; try with_reducible rfl)
  try simp only [Act.put, List.getElem_toArray, List.getElem_cons_succ, List.getElem_cons_zero, List.setIfInBounds_toArray, List.set_cons_zero, List.set_cons_succ]
  refine wpAnyH_ready (rs := [1]) (by kernel_rfl) (by simp) ?_
  refine AllReadyH.cons rfl (fun K hK => ?_) AllReadyH.nil
  go_simp
  refine (HI2.out _).mono ?_
  rintro e wx ⟨rfl, hb6⟩
  have T3 := T2.drew.on hb6
  have k3 := (show At2 W.drew _ _ _ from k1).on hb6
  go_wp2_with fail
  refine hK.out _ _ (⟨T3.2.1.c0, T3.2.1.c1, T3.2.2.1.c0, T3.2.2.1.c1⟩) (fun hHeld => ?_)
  clear hK K
  try simp only [Act.put, List.getElem_toArray, List.getElem_cons_succ, List.getElem_cons_zero, List.setIfInBounds_toArray, List.set_cons_zero, List.set_cons_succ]
  refine wpAnyH_ready (rs := [3]) (by kernel_rfl) (by simp) ?_
  refine AllReadyH.cons rfl (fun K hK => ?_) AllReadyH.nil
  go_simp
  refine (HI1.out _).mono ?_
  rintro e wx ⟨rfl, hb7⟩
  have T4 := T3.on hb7
  have k4 := k3.on hb7
  clear T2 T3 k3 k1 hb6 hb7 HI1 HI2
  go_wp2_with fail
  refine hK.out _ _ (⟨T4.2.1.c0, T4.2.1.c1, T4.2.2.1.c0, T4.2.2.1.c1⟩) (fun hHeld => ?_)
  clear hK K
  try simp only [Act.put, List.getElem_toArray, List.getElem_cons_succ, List.getElem_cons_zero, List.setIfInBounds_toArray, List.set_cons_zero, List.set_cons_succ]
  refine wpAnyH_take (i := 4) (v := ?_) rfl (by kernel_rfl) (by kernel_rfl) (by kernel_rfl) (fun _ _ _ h => h) (Or.inl ⟨by rfl, ?_⟩) (by assumption) ?_
  rotate_left
  · (intro w' hS; (try dsimp only at hS); go_simp; try with_reducible rfl)
  try simp only [Act.put, List.getElem_toArray, List.getElem_cons_succ, List.getElem_cons_zero, List.setIfInBounds_toArray, List.set_cons_zero, List.set_cons_succ]
  refine wpAnyH_done (by kernel_rfl) ?_ _
  refine NoPanic.normal ?_
  have a0 := T4.2.1.c0
  have a1 := T4.2.1.c1
  have a2 := T4.2.2.1.c0
  have a3 := T4.2.2.1.c1
  by_cases hlt2 : i2 < i1
  · obtain ⟨rfl, rfl⟩ : mx = u ∧ my = v := by
      have := HD.out
      exact ⟨by omega, by omega⟩
    have f0 := k4.c0
    have f1 := k4.c1
    have f2 := k4.f0
    have f3 := k4.f1
    clear HD
    go_upto_region 6 with fail
    have T5 := T4.putFar (k := w1.heap.size) (by omega) mx my
    have k5 := k4.put (a := mx) (b := my)
    clear T4 k4 a0 a1 a2 a3 f0 f1 f2 f3
    generalize (World.setCell wx ⟨w1.heap.size, 0, none⟩ _).setCell ⟨w1.heap.size, 1, none⟩ _ = W5 at T5 k5 ⊢
    have T6 := T5.put mx my (x == mx)
    have a0 := T5.2.1.c0
    have a1 := T5.2.1.c1
    have a2 := T5.2.2.1.c0
    have a3 := T5.2.2.1.c1
    have f0 := k5.c0
    have f1 := k5.c1
    have c0 := T5.2.2.2.c0
    have c1 := T5.2.2.2.c1
    have c2 := T5.2.2.2.c2
    have c3 := T5.2.2.2.f0
    have c4 := T5.2.2.2.f1
    have c5 := T5.2.2.2.f2
    have r0 := T6.2.2.2.c0
    have r1 := T6.2.2.2.c1
    have r2 := T6.2.2.2.c2
    have hb := T6.1
    clear T5 T6 k5
    go_wp2
    refine bodyPost_ret (v := .tuple #[.agg #[.int .i64 mx, .int .i64 my, .bool (x == mx)], .bool true]) ?_ rfl (mkDoB rfl rfl (by rw [Bool.eq_iff_iff]; simp) rfl hb)
    simp [results, Try.results93, go_sem, r0, r1, r2]
  · obtain ⟨rfl, rfl⟩ : mx = x ∧ my = y := by
      have := HD.out
      exact ⟨by omega, by omega⟩
    clear HD
    go_upto_region 6 with fail
    have T5 := T4
    have k5 := k4
    clear T4 k4 a0 a1 a2 a3
    have T6 := T5.put mx my (mx == u)
    have a0 := T5.2.1.c0
    have a1 := T5.2.1.c1
    have a2 := T5.2.2.1.c0
    have a3 := T5.2.2.1.c1
    have f0 := k5.c0
    have f1 := k5.c1
    have c0 := T5.2.2.2.c0
    have c1 := T5.2.2.2.c1
    have c2 := T5.2.2.2.c2
    have c3 := T5.2.2.2.f0
    have c4 := T5.2.2.2.f1
    have c5 := T5.2.2.2.f2
    have r0 := T6.2.2.2.c0
    have r1 := T6.2.2.2.c1
    have r2 := T6.2.2.2.c2
    have hb := T6.1
    clear T5 T6 k5
    go_wp2
    refine bodyPost_ret (v := .tuple #[.agg #[.int .i64 mx, .int .i64 my, .bool (mx == u)], .bool true]) ?_ rfl (mkDoB rfl rfl (by rw [Bool.eq_iff_iff]; simp) rfl hb)
    simp [results, Try.results93, go_sem, r0, r1, r2]
end Go.Proofs.Ytgkgdgchkhdgjaa.Dom
