/- DomF, DomG, DomH in one text. -/
import Derived.Test.YtjfagpmklifjlaaMg00
import Derived.Deep.CutRange

namespace Go.Proofs.Ytjfagpmklifjlaa.Dom
set_option linter.unusedVariables false
set_option linter.unusedSimpArgs false
open Go.RowKit Go.Proofs.Ytjfagpmklifjlaa.Cell Go.Joins

def At3 (T : TypeId) (W : World) (q : Nat) (x y : Int) (b : Bool) : Prop := W.heap[q]? = some (.cells #[.int .i64 x, .int .i64 y, .bool b] T)
section
variable {T : TypeId} {W W' : World} {q : Nat} {x y : Int} {b : Bool}
theorem At3.on (h : At3 T W q x y b) (hb : Below W.heap.size W W') : At3 T W' q x y b := (hb.block q (Array.getElem?_eq_some_iff.1 h).1).trans h
theorem At3.c0 (h : At3 T W q x y b) : W.cell? ⟨q, 0, none⟩ = some (.int .i64 x) := (cell_of_row _ _ 0 _ _ _ h).trans rfl
theorem At3.c1 (h : At3 T W q x y b) : W.cell? ⟨q, 1, none⟩ = some (.int .i64 y) := (cell_of_row _ _ 1 _ _ _ h).trans rfl
theorem At3.c2 (h : At3 T W q x y b) : W.cell? ⟨q, 2, none⟩ = some (.bool b) := (cell_of_row _ _ 2 _ _ _ h).trans rfl
theorem At3.lt (h : At3 T W q x y b) : q < W.heap.size := (Array.getElem?_eq_some_iff.1 h).1
theorem At3.new (T : TypeId) (W : World) (x y : Int) (b : Bool) : At3 T (W.alloc (.cells #[.int .i64 x, .int .i64 y, .bool b] T)) W.heap.size x y b := heap_alloc_new W _
end

set_option maxHeartbeats 400000 in
theorem sSecond (x y : Int) (b : Bool) (w : World) :
  Calls Try.prog 79 #[.agg #[.int .i64 x, .int .i64 y, .bool b]] w (Cel (sx x b) (sy y b) w) := by
 cases b with
 | true =>
  go_enter Try.func79, Try.ntmps79
  go_wp2
  exact bodyPost_ret (v := .agg #[.int .i64 x, .int .i64 (wrap64 (y + 1))]) (by simp [results, Try.results79, go_sem]) rfl (mkCel rfl rfl (below_alloc2 _ _ _))
 | false =>
  go_enter Try.func79, Try.ntmps79
  go_wp2
  exact bodyPost_ret (v := .agg #[.int .i64 (wrap64 (x + 1)), .int .i64 y]) (by simp [results, Try.results79, go_sem]) rfl (mkCel rfl rfl (below_alloc2 _ _ _))

theorem bx3 {T : TypeId} (x y : Int) (b : Bool) (w w1 : World) (h : Below (w.alloc (.cells #[.int .i64 x, .int .i64 y, .bool b] T)).heap.size (w.alloc (.cells #[.int .i64 x, .int .i64 y, .bool b] T)) w1) : Below w.heap.size w w1 ∧ At3 T w1 w.heap.size x y b :=
 ⟨(below_alloc1 w _).trans (h.mono (by simp)), (At3.new T w x y b).on h⟩
theorem at2_two (W : World) (x y u v : Int) :
  At2 ((W.alloc (.cells #[.int .i64 x, .int .i64 y] 38)).alloc (.cells #[.int .i64 u, .int .i64 v] 38)) W.heap.size x y ∧
  At2 ((W.alloc (.cells #[.int .i64 x, .int .i64 y] 38)).alloc (.cells #[.int .i64 u, .int .i64 v] 38)) (W.heap.size + 1) u v ∧
  Below W.heap.size W ((W.alloc (.cells #[.int .i64 x, .int .i64 y] 38)).alloc (.cells #[.int .i64 u, .int .i64 v] 38)) := by
 have e0 : (W.alloc (.cells #[.int .i64 x, .int .i64 y] 38)).heap.size = W.heap.size + 1 := by simp
 have k1 := At2.new (W.alloc (.cells #[.int .i64 x, .int .i64 y] 38)) u v
 rw [e0] at k1
 exact ⟨(At2.new W x y).on (below_alloc1 _ _), k1, below_alloc2 W _ _⟩

set_option maxHeartbeats 400000 in
theorem iDominoOk (x y : Int) (b : Bool) (hx : Sm x) (hy : Sm y) (w : World) :
  Calls Try.prog 95 #[.agg #[.int .i64 x, .int .i64 y, .bool b]] w (Bol (domB x y b) w) := by
 have HC := Lib.hid (fun W => iCells x y b hx hy W)
 have HV1 := Lib.hid (fun W => isValid x y W)
 have HD := Lib.hid (show domB x y b = (okB x y && okB (sx x b) (sy y b)) from rfl)
 generalize sx x b = u at HC HD
 generalize sy y b = v at HC HD
 have HV2 := Lib.hid (fun W => isValid u v W)
 generalize okB x y = p at HV1 HD
 generalize okB u v = q at HV2 HD
 generalize domB x y b = d at HD ⊢
 clear hx hy
 go_enter Try.func95, Try.ntmps95
 go_wp2_with fail
 refine (HC.out _).mono ?_
 rintro e w1 ⟨rfl, hb1⟩
 have hb := (below_alloc1 w (.cells #[.int .i64 x, .int .i64 y, .bool b] 41)).trans (hb1.mono (by simp))
 clear hb1 HC
 go_wp2_with fail
 refine (HV1.out _).mono ?_
 rintro e w2 ⟨rfl, hb2⟩
 obtain ⟨k1, k2, k3⟩ := at2_two w1 x y u v
 have hB := hb.trans ((k3.trans (hb2.mono k3.size)).mono hb.size)
 have K2 := k2.on hb2
 have c0 := K2.c0
 have c1 := K2.c1
 clear k1 k2 k3 hb hb2 K2 HV1
 cases p with
 | false =>
  go_wp2
  go_ret
  exact mkBol (by rw [HD.out]; rfl) hB
 | true =>
  go_wp2_with fail
  refine (HV2.out _).mono ?_
  rintro e w3 ⟨rfl, hb3⟩
  go_wp2
  go_ret
  exact mkBol (by rw [HD.out]; rfl) (hB.trans (hb3.mono hB.size))

set_option maxHeartbeats 400000 in
theorem sDominoOk (x y : Int) (b : Bool) (w : World) :
  Calls Try.prog 55 #[.agg #[.int .i64 x, .int .i64 y, .bool b]] w (Bol (domB x y b) w) := by
 have HC := Lib.hid (fun W => sSecond x y b W)
 have HV1 := Lib.hid (fun W => sCellOk x y W)
 have HD := Lib.hid (show domB x y b = (okB x y && okB (sx x b) (sy y b)) from rfl)
 generalize sx x b = u at HC HD
 generalize sy y b = v at HC HD
 have HV2 := Lib.hid (fun W => sCellOk u v W)
 generalize okB x y = p at HV1 HD
 generalize okB u v = q at HV2 HD
 generalize domB x y b = d at HD ⊢
 go_enter Try.func55, Try.ntmps55
 go_wp2_with fail
 refine (HV1.out _).mono ?_
 rintro e w1 ⟨rfl, hb1⟩
 obtain ⟨hb, K⟩ := bx3 x y b w w1 hb1
 have c0 := K.c0
 have c1 := K.c1
 have c2 := K.c2
 clear hb1 HV1 K
 cases p with
 | false =>
  go_wp2
  go_ret
  exact mkBol (by rw [HD.out]; rfl) hb
 | true =>
  go_wp2_with fail
  refine (HC.out _).mono ?_
  rintro e w2 ⟨rfl, hb2⟩
  have hb' := hb.trans (hb2.mono hb.size)
  clear hb hb2 c0 c1 c2
  go_wp2_with fail
  refine (HV2.out _).mono ?_
  rintro e w3 ⟨rfl, hb3⟩
  go_wp2
  go_ret
  exact mkBol (by rw [HD.out]; rfl) (hb'.trans (hb3.mono hb'.size))

def Thr (w : World) (x y : Int) (b : Bool) (m n u v : Int) (W : World) : Prop := Below w.heap.size w W ∧ At3 41 W w.heap.size x y b ∧ At2 W (w.heap.size + 1) m n ∧ At2 W (w.heap.size + 1 + 1) u v
theorem thr_start (x y : Int) (b : Bool) (w : World) : Thr w x y b 0 0 0 0 (((w.alloc (.cells #[.int .i64 x, .int .i64 y, .bool b] 41)).alloc (.cells #[.int .i64 0, .int .i64 0] 38)).alloc (.cells #[.int .i64 0, .int .i64 0] 38)) := by
 have e0 : (w.alloc (.cells #[.int .i64 x, .int .i64 y, .bool b] 41)).heap.size = w.heap.size + 1 := by simp
 obtain ⟨k1, k2, k3⟩ := at2_two (w.alloc (.cells #[.int .i64 x, .int .i64 y, .bool b] 41)) 0 0 0 0
 rw [e0] at k1 k2
 obtain ⟨hb, K⟩ := bx3 x y b w _ k3
 exact ⟨hb, K, k1, k2⟩
theorem At3.far {T : TypeId} {W : World} {p q i : Nat} {x y : Int} {b : Bool} {v : Value} (h : At3 T W q x y b) (hp : q ≠ p) : At3 T (W.setCell ⟨p, i, none⟩ v) q x y b := (Below.heap_setCell W ⟨p, i, none⟩ v q hp).trans h
section
variable {w W W' : World} {x y m n u v : Int} {b : Bool}
theorem Thr.drew (h : Thr w x y b m n u v W) : Thr w x y b m n u v W.drew := ⟨h.1.drew, h.2⟩
theorem Thr.on (h : Thr w x y b m n u v W) (hb : Below W.heap.size W W') : Thr w x y b m n u v W' := ⟨h.1.trans (hb.mono h.1.size), h.2.1.on hb, h.2.2.1.on hb, h.2.2.2.on hb⟩
theorem Thr.put1 (h : Thr w x y b m n u v W) (a' b' : Int) : Thr w x y b a' b' u v ((W.setCell ⟨w.heap.size + 1, 0, none⟩ (.int .i64 a')).setCell ⟨w.heap.size + 1, 1, none⟩ (.int .i64 b')) :=
 ⟨(h.1.setCell (p := ⟨w.heap.size + 1, 0, none⟩) (by show w.heap.size ≤ w.heap.size + 1; omega) _).setCell (p := ⟨w.heap.size + 1, 1, none⟩) (by show w.heap.size ≤ w.heap.size + 1; omega) _, (h.2.1.far (by omega)).far (by omega), h.2.2.1.put, h.2.2.2.far2 (by omega)⟩
theorem Thr.put2 (h : Thr w x y b m n u v W) (c' d' : Int) : Thr w x y b m n c' d' ((W.setCell ⟨w.heap.size + 1 + 1, 0, none⟩ (.int .i64 c')).setCell ⟨w.heap.size + 1 + 1, 1, none⟩ (.int .i64 d')) :=
 ⟨(h.1.setCell (p := ⟨w.heap.size + 1 + 1, 0, none⟩) (by show w.heap.size ≤ w.heap.size + 1 + 1; omega) _).setCell (p := ⟨w.heap.size + 1 + 1, 1, none⟩) (by show w.heap.size ≤ w.heap.size + 1 + 1; omega) _, (h.2.1.far (by omega)).far (by omega), h.2.2.1.far2 (by omega), h.2.2.2.put⟩
end

set_option maxHeartbeats 400000 in
theorem sCellsUnder_no (x y : Int) (b : Bool) (hd : domB x y b = false) (w : World) :
  Calls Try.prog 56 #[.agg #[.int .i64 x, .int .i64 y, .bool b]] w (Cel2 0 0 0 0 w) := by
 have HO := Lib.hid (fun W => hd ▸ sDominoOk x y b W)
 have T0 := Lib.hid (thr_start x y b w)
 clear hd
 go_enter Try.func56, Try.ntmps56
 go_wp2_with fail
 refine (HO.out _).mono ?_
 rintro e w1 ⟨rfl, hb1⟩
 have T1 := T0.out.on hb1
 have T2 := (T1.put1 0 0).put2 0 0
 have c0 := T1.2.2.1.c0
 have c1 := T1.2.2.1.c1
 have c2 := T1.2.2.1.f0
 have c3 := T1.2.2.1.f1
 have c4 := T1.2.2.2.c0
 have c5 := T1.2.2.2.c1
 have c6 := T1.2.2.2.f0
 have c7 := T1.2.2.2.f1
 clear T0 T1 hb1 HO
 go_wp2
 have r0 := T2.2.2.1.c0
 have r1 := T2.2.2.1.c1
 have r2 := T2.2.2.2.c0
 have r3 := T2.2.2.2.c1
 refine bodyPost_ret (v := .tuple #[.agg #[.int .i64 0, .int .i64 0], .agg #[.int .i64 0, .int .i64 0]]) ?_ rfl (mkCel2 rfl rfl rfl rfl T2.1)
 simp [results, Try.results56, go_sem, r0, r1, r2, r3]

set_option maxHeartbeats 400000 in
theorem sCellsUnder_ok (x y : Int) (b : Bool) (hd : domB x y b = true) (w : World) :
  Calls Try.prog 56 #[.agg #[.int .i64 x, .int .i64 y, .bool b]] w (Cel2 x y (sx x b) (sy y b) w) := by
 have HO := Lib.hid (fun W => hd ▸ sDominoOk x y b W)
 have HC := Lib.hid (fun W => sSecond x y b W)
 generalize sx x b = u at HC ⊢
 generalize sy y b = v at HC ⊢
 have T0 := Lib.hid (thr_start x y b w)
 clear hd
 go_enter Try.func56, Try.ntmps56
 go_wp2_with fail
 refine (HO.out _).mono ?_
 rintro e w1 ⟨rfl, hb1⟩
 have T1 := T0.out.on hb1
 clear T0 hb1 HO
 go_wp2_with fail
 refine wp_region_noPanic ?_
 refine wp_region_held_drew (S := (fun w' => w'.cell? ⟨w.heap.size, 0, none⟩ = some (.int .i64 x) ∧ w'.cell? ⟨w.heap.size, 1, none⟩ = some (.int .i64 y) ∧ w'.cell? ⟨w.heap.size, 2, none⟩ = some (.bool b))) (by kernel_rfl) (⟨T1.drew.2.1.c0, T1.drew.2.1.c1, T1.drew.2.1.c2⟩) (fun hHeld => ?_)
 refine wpAnyH_take (i := 0) (v := ?_) rfl (by kernel_rfl) (by kernel_rfl) (by kernel_rfl) (fun _ _ _ h => h) (Or.inl ⟨by rfl, ?_⟩) (by assumption) ?_
 rotate_left
 ·(intro w' hS; (try dsimp only at hS); go_simp; try with_reducible rfl)
 try simp only [Act.put, List.getElem_toArray, List.getElem_cons_succ, List.getElem_cons_zero, List.setIfInBounds_toArray, List.set_cons_zero, List.set_cons_succ]
 refine wpAnyH_take (i := 1) (v := ?_) rfl (by kernel_rfl) (by kernel_rfl) (by kernel_rfl) (fun _ _ _ h => h) (Or.inl ⟨by rfl, ?_⟩) (by assumption) ?_
 rotate_left
 ·(intro w' hS; (try dsimp only at hS); go_simp; try with_reducible rfl)
 try simp only [Act.put, List.getElem_toArray, List.getElem_cons_succ, List.getElem_cons_zero, List.setIfInBounds_toArray, List.set_cons_zero, List.set_cons_succ]
 refine wpAnyH_take (i := 2) (v := ?_) rfl (by kernel_rfl) (by kernel_rfl) (by kernel_rfl) (fun _ _ _ h => h) (Or.inl ⟨by rfl, ?_⟩) (by assumption) ?_
 rotate_left
 ·(intro w' hS; (try dsimp only at hS); go_simp; try with_reducible rfl)
 try simp only [Act.put, List.getElem_toArray, List.getElem_cons_succ, List.getElem_cons_zero, List.setIfInBounds_toArray, List.set_cons_zero, List.set_cons_succ]
 refine wpAnyH_take (i := 3) (v := ?_) rfl (by kernel_rfl) (by kernel_rfl) (by kernel_rfl) (fun _ _ _ h => h) (Or.inl ⟨by rfl, ?_⟩) (by assumption) ?_
 rotate_left
 ·(intro w' hS; (try dsimp only at hS); go_simp; try with_reducible rfl)
 try simp only [Act.put, List.getElem_toArray, List.getElem_cons_succ, List.getElem_cons_zero, List.setIfInBounds_toArray, List.set_cons_zero, List.set_cons_succ]
 refine wpAnyH_take (i := 4) (v := ?_) rfl (by kernel_rfl) (by kernel_rfl) (by kernel_rfl) (fun _ _ _ h => h) (Or.inl ⟨by rfl, ?_⟩) (by assumption) ?_
 rotate_left
 ·(intro w' hS; (try dsimp only at hS); go_simp; try with_reducible rfl)
 try simp only [Act.put, List.getElem_toArray, List.getElem_cons_succ, List.getElem_cons_zero, List.setIfInBounds_toArray, List.set_cons_zero, List.set_cons_succ]
 refine wpAnyH_take (i := 5) (v := ?_) rfl (by kernel_rfl) (by kernel_rfl) (by kernel_rfl) (fun _ _ _ h => h) (Or.inl ⟨by rfl, ?_⟩) (by assumption) ?_
 rotate_left
 ·(intro w' hS; (try dsimp only at hS); go_simp; try with_reducible rfl)
 try simp only [Act.put, List.getElem_toArray, List.getElem_cons_succ, List.getElem_cons_zero, List.setIfInBounds_toArray, List.set_cons_zero, List.set_cons_succ]
 refine wpAnyH_ready (rs := [6]) (by kernel_rfl) (by simp) ?_
 refine AllReadyH.cons rfl (fun K hK => ?_) AllReadyH.nil
 go_simp
 refine (HC.out _).mono ?_
 rintro e wx ⟨rfl, hbx⟩
 have F2 := T1.drew.on hbx
 clear T1 hbx hHeld
 go_wp2_with fail
 refine hK.out _ _ (⟨F2.2.1.c0, F2.2.1.c1, F2.2.1.c2⟩) (fun hHeld => ?_)
 clear hK K
 try simp only [Act.put, List.getElem_toArray, List.getElem_cons_succ, List.getElem_cons_zero, List.setIfInBounds_toArray, List.set_cons_zero, List.set_cons_succ]
 refine wpAnyH_ready (rs := [7]) (by kernel_rfl) (by simp) ?_
 refine AllReadyH.cons rfl (fun K hK => ?_) AllReadyH.nil
 have d0 := F2.2.2.1.c0
 have d1 := F2.2.2.1.c1
 have d2 := F2.2.2.1.f0
 have d3 := F2.2.2.1.f1
 have F3 := F2.put1 x y
 clear F2
 go_simp
 refine hK.out _ _ (⟨F3.2.1.c0, F3.2.1.c1, F3.2.1.c2⟩) (fun hHeld => ?_)
 clear hK K
 try simp only [Act.put, List.getElem_toArray, List.getElem_cons_succ, List.getElem_cons_zero, List.setIfInBounds_toArray, List.set_cons_zero, List.set_cons_succ]
 refine wpAnyH_ready (rs := [8]) (by kernel_rfl) (by simp) ?_
 refine AllReadyH.cons rfl (fun K hK => ?_) AllReadyH.nil
 have d0 := F3.2.2.2.c0
 have d1 := F3.2.2.2.c1
 have d2 := F3.2.2.2.f0
 have d3 := F3.2.2.2.f1
 have F4 := F3.put2 u v
 clear F3
 go_simp
 refine hK.out _ _ (⟨F4.2.1.c0, F4.2.1.c1, F4.2.1.c2⟩) (fun hHeld => ?_)
 clear hK K
 try simp only [Act.put, List.getElem_toArray, List.getElem_cons_succ, List.getElem_cons_zero, List.setIfInBounds_toArray, List.set_cons_zero, List.set_cons_succ]
 refine wpAnyH_done (by kernel_rfl) ?_ _
 refine NoPanic.normal ?_
 generalize World.setCell _ _ _ = W4 at F4 ⊢
 have T2 := F4
 have r0 := T2.2.2.1.c0
 have r1 := T2.2.2.1.c1
 have r2 := T2.2.2.2.c0
 have r3 := T2.2.2.2.c1
 go_wp2
 refine bodyPost_ret (v := .tuple #[.agg #[.int .i64 x, .int .i64 y], .agg #[.int .i64 u, .int .i64 v]]) ?_ rfl (mkCel2 rfl rfl rfl rfl T2.1)
 simp [results, Try.results56, go_sem, r0, r1, r2, r3]

end Go.Proofs.Ytjfagpmklifjlaa.Dom

namespace Go.Proofs.Ytjfagpmklifjlaa.Dom
set_option linter.unusedVariables false
set_option linter.unusedSimpArgs false
open Go.RowKit Go.Proofs.Ytjfagpmklifjlaa.Cell Go.Joins

def DoB (x y : Int) (b r : Bool) (w : World) (e : Ending) (w' : World) : Prop := e = .returned (.tuple #[.agg #[.int .i64 x, .int .i64 y, .bool b], .bool r]) ∧ Below w.heap.size w w'
theorem mkDoB {a c x y : Int} {b d r q : Bool} {w W : World} (h1 : a = x) (h2 : c = y) (h3 : d = b) (h4 : q = r) (hb : Below w.heap.size w W) : DoB x y b r w (.returned (.tuple #[.agg #[.int .i64 a, .int .i64 c, .bool d], .bool q])) W := ⟨by rw [h1, h2, h3, h4], hb⟩

theorem bx32 {T : TypeId} (u v : Int) (c : Bool) (p q : Int) (w w1 : World) (h : Below ((w.alloc (.cells #[.int .i64 u, .int .i64 v, .bool c] T)).alloc (.cells #[.int .i64 p, .int .i64 q] 38)).heap.size ((w.alloc (.cells #[.int .i64 u, .int .i64 v, .bool c] T)).alloc (.cells #[.int .i64 p, .int .i64 q] 38)) w1) :
  Below w.heap.size w w1 ∧ At3 T w1 w.heap.size u v c ∧ At2 w1 (w.heap.size + 1) p q := by
 have e0 : (w.alloc (.cells #[.int .i64 u, .int .i64 v, .bool c] T)).heap.size = w.heap.size + 1 := by simp
 have k1 := At2.new (w.alloc (.cells #[.int .i64 u, .int .i64 v, .bool c] T)) p q
 rw [e0] at k1
 exact ⟨(below_alloc2 w _ _).trans (h.mono (by simp; omega)), ((At3.new T w u v c).on (below_alloc1 _ _)).on h, k1.on h⟩
theorem bx33 {T T' : TypeId} (x y : Int) (b : Bool) (u v : Int) (c : Bool) (w w1 : World) (h : Below ((w.alloc (.cells #[.int .i64 x, .int .i64 y, .bool b] T)).alloc (.cells #[.int .i64 u, .int .i64 v, .bool c] T')).heap.size ((w.alloc (.cells #[.int .i64 x, .int .i64 y, .bool b] T)).alloc (.cells #[.int .i64 u, .int .i64 v, .bool c] T')) w1) :
  Below w.heap.size w w1 ∧ At3 T w1 w.heap.size x y b ∧ At3 T' w1 (w.heap.size + 1) u v c := by
 have e0 : (w.alloc (.cells #[.int .i64 x, .int .i64 y, .bool b] T)).heap.size = w.heap.size + 1 := by simp
 have k1 := At3.new T' (w.alloc (.cells #[.int .i64 x, .int .i64 y, .bool b] T)) u v c
 rw [e0] at k1
 exact ⟨(below_alloc2 w _ _).trans (h.mono (by simp; omega)), ((At3.new T w x y b).on (below_alloc1 _ _)).on h, k1.on h⟩

set_option maxHeartbeats 400000 in
theorem iCovers (u v : Int) (c : Bool) (hu : Sm u) (hv : Sm v) (p q : Int) (w : World) :
  Calls Try.prog 96 #[.agg #[.int .i64 u, .int .i64 v, .bool c], .agg #[.int .i64 p, .int .i64 q]] w (Bol (eqB p q u v || eqB p q (sx u c) (sy v c)) w) := by
 have HC := Lib.hid (fun W => iCells u v c hu hv W)
 generalize sx u c = m at HC ⊢
 generalize sy v c = n at HC ⊢
 clear hu hv
 go_enter Try.func96, Try.ntmps96
 go_wp2_with fail
 refine (HC.out _).mono ?_
 rintro e w1 ⟨rfl, hb1⟩
 obtain ⟨hb, K1, K2⟩ := bx32 u v c p q w w1 hb1
 go_upto_region 2 with fail
 obtain ⟨k1, k2, k3⟩ := at2_two w1 u v m n
 have hB := hb.trans (k3.mono hb.size)
 have K3 := K2.on k3
 have hz := K2.lt
 generalize (w1.alloc (.cells #[.int .i64 u, .int .i64 v] 38)).alloc (.cells #[.int .i64 m, .int .i64 n] 38) = W at k1 k2 K3 hB ⊢
 have c0 := k1.c0
 have c1 := k1.c1
 have c2 := k2.c0
 have c3 := k2.c1
 have c4 := K3.c0
 have c5 := K3.c1
 have HH := Lib.hid (fun r (h : r = true ↔ (p = u ∧ q = v) ∨ (p = m ∧ q = n)) => mkBol (v := r) (b := eqB p q u v || eqB p q m n) (by rw [Bool.eq_iff_iff, h]; simp [eqB]) hB)
 clear hb1 K1 K2 hb k1 k2 k3 K3
 go_wp2
 all_goals
  go_ret
  refine HH.out _ ?_
  simp
  try omega

end Go.Proofs.Ytjfagpmklifjlaa.Dom

namespace Go.Proofs.Ytjfagpmklifjlaa.Dom
set_option linter.unusedVariables false
set_option linter.unusedSimpArgs false
open Go.RowKit Go.Proofs.Ytjfagpmklifjlaa.Cell Go.Proofs.Ytjfagpmklifjlaa.CellF Go.Joins

def befP (x y : Int) (b : Bool) (u v : Int) (c : Bool) : Bool := decide (y * 8 + x < v * 8 + u ∨ (y * 8 + x = v * 8 + u ∧ b = false ∧ c = true))
theorem befP_iff {x y : Int} {b : Bool} {u v : Int} {c : Bool} : befP x y b u v c = true ↔ (y * 8 + x < v * 8 + u ∨ (y * 8 + x = v * 8 + u ∧ b = false ∧ c = true)) := by unfold befP; simp
def befB (x y : Int) (b : Bool) (u v : Int) (c : Bool) : Bool := domB x y b && domB u v c && befP x y b u v c
theorem dom_ok {x y : Int} {b : Bool} (h : domB x y b = true) : Ok x y := by
 unfold domB at h
 simp only [Bool.and_eq_true] at h
 exact okB_iff.1 h.1
theorem index_of {x y : Int} (h : Ok x y) : indexN x y = y * 8 + x := by unfold indexN; simp [h]

set_option maxHeartbeats 1000000 in
theorem iIsBefore (x y : Int) (b : Bool) (u v : Int) (c : Bool) (hx : Sm x) (hy : Sm y) (hu : Sm u) (hv : Sm v) (w : World) :
  Calls Try.prog 107 #[.agg #[.int .i64 x, .int .i64 y, .bool b], .agg #[.int .i64 u, .int .i64 v, .bool c]] w (Bol (befB x y b u v c) w) := by
 have HO1 := Lib.hid (fun W => iDominoOk x y b hx hy W)
 have HO2 := Lib.hid (fun W => iDominoOk u v c hu hv W)
 have HC1 := Lib.hid (fun W => iCells x y b hx hy W)
 have HC2 := Lib.hid (fun W => iCells u v c hu hv W)
 have HB := Lib.hid (show befB x y b u v c = (domB x y b && domB u v c && befP x y b u v c) from rfl)
 have HK1 := Lib.hid (fun (h : domB x y b = true) => dom_ok h)
 have HK2 := Lib.hid (fun (h : domB u v c = true) => dom_ok h)
 generalize befB x y b u v c = r at HB ⊢
 generalize sx x b = m at HC1
 generalize sy y b = n at HC1
 generalize sx u c = s at HC2
 generalize sy v c = t at HC2
 generalize domB x y b = p at HO1 HB HK1
 generalize domB u v c = q at HO2 HB HK2
 clear hx hy hu hv
 go_enter Try.func107, Try.ntmps107
 go_wp2_with fail
 refine (HO1.out _).mono ?_
 rintro e w1 ⟨rfl, hb1⟩
 obtain ⟨hb, K1, K2⟩ := bx33 x y b u v c w w1 hb1
 have c0 := K1.c0
 have c1 := K1.c1
 have c2 := K1.c2
 have d0 := K2.c0
 have d1 := K2.c1
 have d2 := K2.c2
 clear hb1 HO1
 cases p with
 | false =>
  go_wp2
  go_ret
  exact mkBol (by rw [HB.out]; rfl) hb
 | true =>
  go_wp2_with fail
  refine (HO2.out _).mono ?_
  rintro e w2 ⟨rfl, hb2⟩
  have hb' := hb.trans (hb2.mono hb.size)
  have K1 := K1.on hb2
  have K2 := K2.on hb2
  clear hb hb2 c0 c1 c2 d0 d1 d2 HO2
  have c0 := K1.c0
  have c1 := K1.c1
  have c2 := K1.c2
  cases q with
  | false =>
   go_wp2
   go_ret
   exact mkBol (by rw [HB.out]; rfl) hb'
  | true =>
   have HN1 := Lib.hid (index_of (HK1.out (by trivial)))
   have HN2 := Lib.hid (index_of (HK2.out (by trivial)))
   go_wp2_with fail
   refine (HC1.out _).mono ?_
   rintro e w3 ⟨rfl, hb3⟩
   have hB := hb'.trans (hb3.mono hb'.size)
   have K1 := K1.on hb3
   have K2 := K2.on hb3
   clear hb' hb3 c0 c1 c2 HC1
   go_upto_region 4 with fail
   obtain ⟨k1, k2, k3⟩ := at2_two w3 x y m n
   have hB := hB.trans (k3.mono hB.size)
   have K1 := K1.on k3
   have K2 := K2.on k3
   generalize (w3.alloc (.cells #[.int .i64 x, .int .i64 y] 38)).alloc (.cells #[.int .i64 m, .int .i64 n] 38) = W at k1 k2 K1 K2 hB ⊢
   have d0 := K2.c0
   have d1 := K2.c1
   have d2 := K2.c2
   clear k2 k3
   go_wp2_with fail
   refine (HC2.out _).mono ?_
   rintro e w4 ⟨rfl, hb4⟩
   have hB := hB.trans (hb4.mono hB.size)
   have k1 := k1.on hb4
   have K1 := K1.on hb4
   have K2 := K2.on hb4
   clear d0 d1 d2 hb4 HC2
   go_upto_region 5 with fail
   obtain ⟨j1, j2, j3⟩ := at2_two w4 u v s t
   have hB := hB.trans (j3.mono hB.size)
   have k1 := k1.on j3
   have K1 := K1.on j3
   have K2 := K2.on j3
   generalize (w4.alloc (.cells #[.int .i64 u, .int .i64 v] 38)).alloc (.cells #[.int .i64 s, .int .i64 t] 38) = W5 at k1 K1 K2 j1 j2 hB ⊢
   clear j2 j3
   have c0 := k1.c0
   have c1 := k1.c1
   have d0 := j1.c0
   have d1 := j1.c1
   by_cases he : x = u ∧ y = v
   ·obtain ⟨rfl, rfl⟩ := he
    have e0 := K1.c0
    have e1 := K1.c1
    have e2 := K1.c2
    have f0 := K2.c0
    have f1 := K2.c1
    have f2 := K2.c2
    have HH := Lib.hid (fun z (h : z = (!b && c)) => mkBol (v := z) (b := r) (by rw [Bool.eq_iff_iff, h, HB.out, Bool.true_and, Bool.true_and, befP_iff]; simp) hB)
    clear HB hB K1 K2 k1 j1 HN1 HN2 HK1 HK2
    cases b <;> cases c
    all_goals
     go_wp2
     go_ret
     exact HH.out _ rfl
   ·have HH := Lib.hid (fun W' z (h : z = decide (indexN x y < indexN u v)) (hb : Below w.heap.size w W') => mkBol (v := z) (b := r) (W := W') (by
     obtain ⟨x0, x7, y0, y7⟩ := HK1.out (by trivial)
     obtain ⟨u0, u7, v0, v7⟩ := HK2.out (by trivial)
     rw [Bool.eq_iff_iff, h, HB.out, Bool.true_and, Bool.true_and, befP_iff, HN1.out, HN2.out]; simp; omega) hb)
    have HI1 := Lib.hid (fun W => iCellIndex x y W)
    have HI2 := Lib.hid (fun W => iCellIndex u v W)
    generalize indexN x y = i1 at HI1 HH
    generalize indexN u v = i2 at HI2 HH
    clear HB K1 K2 HN1 HN2 HK1 HK2
    by_cases hxu : x = u
    ·subst hxu
     have hyv : ¬ y = v := fun h => he ⟨rfl, h⟩
     clear he
     go_upto_region 6 with fail
     have hlt1 := k1.lt
     have hlt2 := j1.lt
     refine wp_region_noPanic ?_
     refine wp_region_held_drew (S := (fun w' => w'.cell? ⟨w3.heap.size, 0, none⟩ = some (.int .i64 x) ∧ w'.cell? ⟨w3.heap.size, 1, none⟩ = some (.int .i64 y) ∧ w'.cell? ⟨w4.heap.size, 0, none⟩ = some (.int .i64 x) ∧ w'.cell? ⟨w4.heap.size, 1, none⟩ = some (.int .i64 v))) (by kernel_rfl) (⟨c0, c1, d0, d1⟩) (fun hHeld => ?_)
     refine wpAnyH_take (i := 0) (v := ?_) rfl (by kernel_rfl) (by kernel_rfl) (by kernel_rfl) (fun _ _ _ h => h) (Or.inl ⟨by rfl, ?_⟩) (by assumption) ?_
     rotate_left
     ·(intro w' hS; (try dsimp only at hS); go_simp; try with_reducible rfl)
     try simp only [Act.put, List.getElem_toArray, List.getElem_cons_succ, List.getElem_cons_zero, List.setIfInBounds_toArray, List.set_cons_zero, List.set_cons_succ]
     refine wpAnyH_take (i := 2) (v := ?_) rfl (by kernel_rfl) (by kernel_rfl) (by kernel_rfl) (fun _ _ _ h => h) (Or.inl ⟨by rfl, ?_⟩) (by assumption) ?_
     rotate_left
     ·(intro w' hS; (try dsimp only at hS); go_simp; try with_reducible rfl)
     try simp only [Act.put, List.getElem_toArray, List.getElem_cons_succ, List.getElem_cons_zero, List.setIfInBounds_toArray, List.set_cons_zero, List.set_cons_succ]
     refine wpAnyH_ready (rs := [1]) (by kernel_rfl) (by simp) ?_
     refine AllReadyH.cons rfl (fun K hK => ?_) AllReadyH.nil
     go_simp
     refine (HI1.out _).mono ?_
     rintro e wx ⟨rfl, hb6⟩
     have hB6 := hB.drew.trans (hb6.mono hB.size)
     have k6 := (show At2 W5.drew _ _ _ from k1).on hb6
     have j6 := (show At2 W5.drew _ _ _ from j1).on hb6
     go_wp2_with fail
     refine hK.out _ _ (⟨k6.c0, k6.c1, j6.c0, j6.c1⟩) (fun hHeld => ?_)
     clear hK K
     try simp only [Act.put, List.getElem_toArray, List.getElem_cons_succ, List.getElem_cons_zero, List.setIfInBounds_toArray, List.set_cons_zero, List.set_cons_succ]
     refine wpAnyH_ready (rs := [3]) (by kernel_rfl) (by simp) ?_
     refine AllReadyH.cons rfl (fun K hK => ?_) AllReadyH.nil
     go_simp
     refine (HI2.out _).mono ?_
     rintro e wx ⟨rfl, hb7⟩
     have hB7 := hB6.trans (hb7.mono hB6.size)
     go_wp2_with fail
     refine hK.out _ _ (⟨(k6.on hb7).c0, (k6.on hb7).c1, (j6.on hb7).c0, (j6.on hb7).c1⟩) (fun hHeld => ?_)
     clear hK K
     try simp only [Act.put, List.getElem_toArray, List.getElem_cons_succ, List.getElem_cons_zero, List.setIfInBounds_toArray, List.set_cons_zero, List.set_cons_succ]
     refine wpAnyH_take (i := 4) (v := ?_) rfl (by kernel_rfl) (by kernel_rfl) (by kernel_rfl) (fun _ _ _ h => h) (Or.inl ⟨by rfl, ?_⟩) (by assumption) ?_
     rotate_left
     ·(intro w' hS; (try dsimp only at hS); go_simp; try with_reducible rfl)
     try simp only [Act.put, List.getElem_toArray, List.getElem_cons_succ, List.getElem_cons_zero, List.setIfInBounds_toArray, List.set_cons_zero, List.set_cons_succ]
     refine wpAnyH_take (i := 5) (v := ?_) rfl (by kernel_rfl) (by kernel_rfl) (by kernel_rfl) (fun _ _ _ h => h) (Or.inl ⟨by rfl, ?_⟩) (by assumption) ?_
     rotate_left
     ·(intro w' hS; (try dsimp only at hS); go_simp; try with_reducible rfl)
     try simp only [Act.put, List.getElem_toArray, List.getElem_cons_succ, List.getElem_cons_zero, List.setIfInBounds_toArray, List.set_cons_zero, List.set_cons_succ]
     refine wpAnyH_done (by kernel_rfl) ?_ _
     refine NoPanic.normal ?_
     go_wp2
     go_ret
     exact HH.out _ _ rfl hB7
    ·clear he
     go_upto_region 6 with fail
     have hlt1 := k1.lt
     have hlt2 := j1.lt
     refine wp_region_noPanic ?_
     refine wp_region_held_drew (S := (fun w' => w'.cell? ⟨w3.heap.size, 0, none⟩ = some (.int .i64 x) ∧ w'.cell? ⟨w3.heap.size, 1, none⟩ = some (.int .i64 y) ∧ w'.cell? ⟨w4.heap.size, 0, none⟩ = some (.int .i64 u) ∧ w'.cell? ⟨w4.heap.size, 1, none⟩ = some (.int .i64 v))) (by kernel_rfl) (⟨c0, c1, d0, d1⟩) (fun hHeld => ?_)
     refine wpAnyH_take (i := 0) (v := ?_) rfl (by kernel_rfl) (by kernel_rfl) (by kernel_rfl) (fun _ _ _ h => h) (Or.inl ⟨by rfl, ?_⟩) (by assumption) ?_
     rotate_left
     ·(intro w' hS; (try dsimp only at hS); go_simp; try with_reducible rfl)
     try simp only [Act.put, List.getElem_toArray, List.getElem_cons_succ, List.getElem_cons_zero, List.setIfInBounds_toArray, List.set_cons_zero, List.set_cons_succ]
     refine wpAnyH_take (i := 2) (v := ?_) rfl (by kernel_rfl) (by kernel_rfl) (by kernel_rfl) (fun _ _ _ h => h) (Or.inl ⟨by rfl, ?_⟩) (by assumption) ?_
     rotate_left
     ·(intro w' hS; (try dsimp only at hS); go_simp; try with_reducible rfl)
     try simp only [Act.put, List.getElem_toArray, List.getElem_cons_succ, List.getElem_cons_zero, List.setIfInBounds_toArray, List.set_cons_zero, List.set_cons_succ]
     refine wpAnyH_ready (rs := [1]) (by kernel_rfl) (by simp) ?_
     refine AllReadyH.cons rfl (fun K hK => ?_) AllReadyH.nil
     go_simp
     refine (HI1.out _).mono ?_
     rintro e wx ⟨rfl, hb6⟩
     have hB6 := hB.drew.trans (hb6.mono hB.size)
     have k6 := (show At2 W5.drew _ _ _ from k1).on hb6
     have j6 := (show At2 W5.drew _ _ _ from j1).on hb6
     go_wp2_with fail
     refine hK.out _ _ (⟨k6.c0, k6.c1, j6.c0, j6.c1⟩) (fun hHeld => ?_)
     clear hK K
     try simp only [Act.put, List.getElem_toArray, List.getElem_cons_succ, List.getElem_cons_zero, List.setIfInBounds_toArray, List.set_cons_zero, List.set_cons_succ]
     refine wpAnyH_ready (rs := [3]) (by kernel_rfl) (by simp) ?_
     refine AllReadyH.cons rfl (fun K hK => ?_) AllReadyH.nil
     go_simp
     refine (HI2.out _).mono ?_
     rintro e wx ⟨rfl, hb7⟩
     have hB7 := hB6.trans (hb7.mono hB6.size)
     go_wp2_with fail
     refine hK.out _ _ (⟨(k6.on hb7).c0, (k6.on hb7).c1, (j6.on hb7).c0, (j6.on hb7).c1⟩) (fun hHeld => ?_)
     clear hK K
     try simp only [Act.put, List.getElem_toArray, List.getElem_cons_succ, List.getElem_cons_zero, List.setIfInBounds_toArray, List.set_cons_zero, List.set_cons_succ]
     refine wpAnyH_take (i := 4) (v := ?_) rfl (by kernel_rfl) (by kernel_rfl) (by kernel_rfl) (fun _ _ _ h => h) (Or.inl ⟨by rfl, ?_⟩) (by assumption) ?_
     rotate_left
     ·(intro w' hS; (try dsimp only at hS); go_simp; try with_reducible rfl)
     try simp only [Act.put, List.getElem_toArray, List.getElem_cons_succ, List.getElem_cons_zero, List.setIfInBounds_toArray, List.set_cons_zero, List.set_cons_succ]
     refine wpAnyH_take (i := 5) (v := ?_) rfl (by kernel_rfl) (by kernel_rfl) (by kernel_rfl) (fun _ _ _ h => h) (Or.inl ⟨by rfl, ?_⟩) (by assumption) ?_
     rotate_left
     ·(intro w' hS; (try dsimp only at hS); go_simp; try with_reducible rfl)
     try simp only [Act.put, List.getElem_toArray, List.getElem_cons_succ, List.getElem_cons_zero, List.setIfInBounds_toArray, List.set_cons_zero, List.set_cons_succ]
     refine wpAnyH_done (by kernel_rfl) ?_ _
     refine NoPanic.normal ?_
     go_wp2
     go_ret
     exact HH.out _ _ rfl hB7
end Go.Proofs.Ytjfagpmklifjlaa.Dom
