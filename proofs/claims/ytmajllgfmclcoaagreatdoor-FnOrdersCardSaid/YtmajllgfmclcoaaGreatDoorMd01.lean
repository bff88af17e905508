/- DomF, DomG, DomH, DomO in one text. -/
import Derived.Test.YtmajllgfmclcoaaGreatDoorMd00
import Derived.Deep.CutRange
set_option linter.unusedVariables false
set_option linter.unusedSimpArgs false
namespace Go.Proofs.YtmajllgfmclcoaaGreatDoor.Dom
open Go.RowKit Go.Proofs.YtmajllgfmclcoaaGreatDoor.Cell Go.Joins
def At3 (T : TypeId) (W : World) (q : Nat) (x y : Int) (b : Bool) : Prop := W.heap[q]? = some (.cells #[.int .i64 x, .int .i64 y, .bool b] T)
section
variable {T : TypeId} {W W' : World} {q : Nat} {x y : Int} {b : Bool}
theorem At3.on (h : At3 T W q x y b) (hb : Below W.heap.size W W') : At3 T W' q x y b := (hb.block q (Array.getElem?_eq_some_iff.1 h).1).trans h
theorem At3.c0 (h : At3 T W q x y b) : W.cell? ⟨q, 0, none⟩ = some (.int .i64 x) := (cell_of_row _ _ 0 _ _ _ h).trans rfl
theorem At3.c1 (h : At3 T W q x y b) : W.cell? ⟨q, 1, none⟩ = some (.int .i64 y) := (cell_of_row _ _ 1 _ _ _ h).trans rfl
theorem At3.c2 (h : At3 T W q x y b) : W.cell? ⟨q, 2, none⟩ = some (.bool b) := (cell_of_row _ _ 2 _ _ _ h).trans rfl
theorem At3.lt (h : At3 T W q x y b) : q < W.heap.size := (Array.getElem?_eq_some_iff.1 h).1
theorem At3.new (T : TypeId) (W : World) (x y : Int) (b : Bool) : At3 T (W.alloc (.cells #[.int .i64 x, .int .i64 y, .bool b] T)) W.heap.size x y b := heap_alloc_new W _
end
set_option maxHeartbeats 400000 in
theorem sSecond (x y : Int) (b : Bool) (w : World) :
  Calls Tryz.prog 90 #[.agg #[.int .i64 x, .int .i64 y, .bool b]] w (Cel (sx x b) (sy y b) w) := by
 cases b with
 | true =>
  go_enter Tryz.func90, Tryz.ntmps90
  go_wp2
  exact bodyPost_ret (v := .agg #[.int .i64 x, .int .i64 (wrap64 (y + 1))]) (by simp [results, Tryz.results90, go_sem]) rfl (mkCel rfl rfl (below_alloc2 _ _ _))
 | false =>
  go_enter Tryz.func90, Tryz.ntmps90
  go_wp2
  exact bodyPost_ret (v := .agg #[.int .i64 (wrap64 (x + 1)), .int .i64 y]) (by simp [results, Tryz.results90, go_sem]) rfl (mkCel rfl rfl (below_alloc2 _ _ _))
theorem bx3 {T : TypeId} (x y : Int) (b : Bool) (w w1 : World) (h : Below (w.alloc (.cells #[.int .i64 x, .int .i64 y, .bool b] T)).heap.size (w.alloc (.cells #[.int .i64 x, .int .i64 y, .bool b] T)) w1) : Below w.heap.size w w1 ∧ At3 T w1 w.heap.size x y b :=
 ⟨(below_alloc1 w _).trans (h.mono (by simp)), (At3.new T w x y b).on h⟩
theorem at2_two (W : World) (x y u v : Int) :
  At2 ((W.alloc (.cells #[.int .i64 x, .int .i64 y] 79)).alloc (.cells #[.int .i64 u, .int .i64 v] 79)) W.heap.size x y ∧
  At2 ((W.alloc (.cells #[.int .i64 x, .int .i64 y] 79)).alloc (.cells #[.int .i64 u, .int .i64 v] 79)) (W.heap.size + 1) u v ∧
  Below W.heap.size W ((W.alloc (.cells #[.int .i64 x, .int .i64 y] 79)).alloc (.cells #[.int .i64 u, .int .i64 v] 79)) := by
 have e0 : (W.alloc (.cells #[.int .i64 x, .int .i64 y] 79)).heap.size = W.heap.size + 1 := by simp
 have k1 := At2.new (W.alloc (.cells #[.int .i64 x, .int .i64 y] 79)) u v
 rw [e0] at k1
 exact ⟨(At2.new W x y).on (below_alloc1 _ _), k1, below_alloc2 W _ _⟩
set_option maxHeartbeats 400000 in
theorem iDominoOk (x y : Int) (b : Bool) (hx : Sm x) (hy : Sm y) (w : World) :
  Calls Tryz.prog 142 #[.agg #[.int .i64 x, .int .i64 y, .bool b]] w (Bol (domB x y b) w) := by
 have HC := Lh (fun W => iCells x y b hx hy W)
 have HV1 := Lh (fun W => isValid x y W)
 have HD := Lh (show domB x y b = (okB x y && okB (sx x b) (sy y b)) from rfl)
 generalize sx x b = u at HC HD
 generalize sy y b = v at HC HD
 have HV2 := Lh (fun W => isValid u v W)
 generalize okB x y = p at HV1 HD
 generalize okB u v = q at HV2 HD
 generalize domB x y b = d at HD ⊢
 clear hx hy
 go_enter Tryz.func142, Tryz.ntmps142
 go_wp2_with fail
 refine (HC.out _).mono ?_
 rintro e w1 ⟨rfl, hb1⟩
 have hb := (below_alloc1 w (.cells #[.int .i64 x, .int .i64 y, .bool b] 63)).trans (hb1.mono (by simp))
 clear hb1 HC
 go_wp2_with fail
 refine (HV1.out _).mono ?_
 rintro e w2 ⟨rfl, hb2⟩
 obtain ⟨k1, k2, k3⟩ := at2_two w1 x y u v
 have hB := hb.trans ((k3.trans (hb2.mono k3.size)).mono hb.size)
 have K2 := k2.on hb2
 have c0 := K2.c0
 have c1 := K2.c1
 clear k1 k2 k3 hb hb2 K2 HV1
 cases p with
 | false =>
  go_wp2
  go_ret
  exact mkBol (by rw [HD.out]; rfl) hB
 | true =>
  go_wp2_with fail
  refine (HV2.out _).mono ?_
  rintro e w3 ⟨rfl, hb3⟩
  go_wp2
  go_ret
  exact mkBol (by rw [HD.out]; rfl) (hB.trans (hb3.mono hB.size))
set_option maxHeartbeats 400000 in
theorem sDominoOk (x y : Int) (b : Bool) (w : World) :
  Calls Tryz.prog 60 #[.agg #[.int .i64 x, .int .i64 y, .bool b]] w (Bol (domB x y b) w) := by
 have HC := Lh (fun W => sSecond x y b W)
 have HV1 := Lh (fun W => sCellOk x y W)
 have HD := Lh (show domB x y b = (okB x y && okB (sx x b) (sy y b)) from rfl)
 generalize sx x b = u at HC HD
 generalize sy y b = v at HC HD
 have HV2 := Lh (fun W => sCellOk u v W)
 generalize okB x y = p at HV1 HD
 generalize okB u v = q at HV2 HD
 generalize domB x y b = d at HD ⊢
 go_enter Tryz.func60, Tryz.ntmps60
 go_wp2_with fail
 refine (HV1.out _).mono ?_
 rintro e w1 ⟨rfl, hb1⟩
 obtain ⟨hb, K⟩ := bx3 x y b w w1 hb1
 have c0 := K.c0
 have c1 := K.c1
 have c2 := K.c2
 clear hb1 HV1 K
 cases p with
 | false =>
  go_wp2
  go_ret
  exact mkBol (by rw [HD.out]; rfl) hb
 | true =>
  go_wp2_with fail
  refine (HC.out _).mono ?_
  rintro e w2 ⟨rfl, hb2⟩
  have hb' := hb.trans (hb2.mono hb.size)
  clear hb hb2 c0 c1 c2
  go_wp2_with fail
  refine (HV2.out _).mono ?_
  rintro e w3 ⟨rfl, hb3⟩
  go_wp2
  go_ret
  exact mkBol (by rw [HD.out]; rfl) (hb'.trans (hb3.mono hb'.size))
def Thr (w : World) (x y : Int) (b : Bool) (m n u v : Int) (W : World) : Prop := Below w.heap.size w W ∧ At3 63 W w.heap.size x y b ∧ At2 W (w.heap.size + 1) m n ∧ At2 W (w.heap.size + 1 + 1) u v
theorem thr_start (x y : Int) (b : Bool) (w : World) : Thr w x y b 0 0 0 0 (((w.alloc (.cells #[.int .i64 x, .int .i64 y, .bool b] 63)).alloc (.cells #[.int .i64 0, .int .i64 0] 79)).alloc (.cells #[.int .i64 0, .int .i64 0] 79)) := by
 have e0 : (w.alloc (.cells #[.int .i64 x, .int .i64 y, .bool b] 63)).heap.size = w.heap.size + 1 := by simp
 obtain ⟨k1, k2, k3⟩ := at2_two (w.alloc (.cells #[.int .i64 x, .int .i64 y, .bool b] 63)) 0 0 0 0
 rw [e0] at k1 k2
 obtain ⟨hb, K⟩ := bx3 x y b w _ k3
 exact ⟨hb, K, k1, k2⟩
theorem At3.far {T : TypeId} {W : World} {p q i : Nat} {x y : Int} {b : Bool} {v : Value} (h : At3 T W q x y b) (hp : q ≠ p) : At3 T (W.setCell ⟨p, i, none⟩ v) q x y b := (Below.heap_setCell W ⟨p, i, none⟩ v q hp).trans h
section
variable {w W W' : World} {x y m n u v : Int} {b : Bool}
theorem Thr.drew (h : Thr w x y b m n u v W) : Thr w x y b m n u v W.drew := ⟨h.1.drew, h.2⟩
theorem Thr.on (h : Thr w x y b m n u v W) (hb : Below W.heap.size W W') : Thr w x y b m n u v W' := ⟨h.1.trans (hb.mono h.1.size), h.2.1.on hb, h.2.2.1.on hb, h.2.2.2.on hb⟩
theorem Thr.put1 (h : Thr w x y b m n u v W) (a' b' : Int) : Thr w x y b a' b' u v ((W.setCell ⟨w.heap.size + 1, 0, none⟩ (.int .i64 a')).setCell ⟨w.heap.size + 1, 1, none⟩ (.int .i64 b')) :=
 ⟨(h.1.setCell (p := ⟨w.heap.size + 1, 0, none⟩) (by show w.heap.size ≤ w.heap.size + 1; omega) _).setCell (p := ⟨w.heap.size + 1, 1, none⟩) (by show w.heap.size ≤ w.heap.size + 1; omega) _, (h.2.1.far (by omega)).far (by omega), h.2.2.1.put, h.2.2.2.far2 (by omega)⟩
theorem Thr.put2 (h : Thr w x y b m n u v W) (c' d' : Int) : Thr w x y b m n c' d' ((W.setCell ⟨w.heap.size + 1 + 1, 0, none⟩ (.int .i64 c')).setCell ⟨w.heap.size + 1 + 1, 1, none⟩ (.int .i64 d')) :=
 ⟨(h.1.setCell (p := ⟨w.heap.size + 1 + 1, 0, none⟩) (by show w.heap.size ≤ w.heap.size + 1 + 1; omega) _).setCell (p := ⟨w.heap.size + 1 + 1, 1, none⟩) (by show w.heap.size ≤ w.heap.size + 1 + 1; omega) _, (h.2.1.far (by omega)).far (by omega), h.2.2.1.far2 (by omega), h.2.2.2.put⟩
end
set_option maxHeartbeats 400000 in
theorem sCellsUnder_no (x y : Int) (b : Bool) (hd : domB x y b = false) (w : World) :
  Calls Tryz.prog 62 #[.agg #[.int .i64 x, .int .i64 y, .bool b]] w (Cel2 0 0 0 0 w) := by
 have HO := Lh (fun W => hd ▸ sDominoOk x y b W)
 have T0 := Lh (thr_start x y b w)
 clear hd
 go_enter Tryz.func62, Tryz.ntmps62
 go_wp2_with fail
 refine (HO.out _).mono ?_
 rintro e w1 ⟨rfl, hb1⟩
 have T1 := T0.out.on hb1
 have T2 := (T1.put1 0 0).put2 0 0
 have c0 := T1.2.2.1.c0
 have c1 := T1.2.2.1.c1
 have c2 := T1.2.2.1.f0
 have c3 := T1.2.2.1.f1
 have c4 := T1.2.2.2.c0
 have c5 := T1.2.2.2.c1
 have c6 := T1.2.2.2.f0
 have c7 := T1.2.2.2.f1
 clear T0 T1 hb1 HO
 go_wp2
 have r0 := T2.2.2.1.c0
 have r1 := T2.2.2.1.c1
 have r2 := T2.2.2.2.c0
 have r3 := T2.2.2.2.c1
 refine bodyPost_ret (v := .tuple #[.agg #[.int .i64 0, .int .i64 0], .agg #[.int .i64 0, .int .i64 0]]) ?_ rfl (mkCel2 rfl rfl rfl rfl T2.1)
 simp [results, Tryz.results62, go_sem, r0, r1, r2, r3]
set_option maxHeartbeats 400000 in
theorem sCellsUnder_ok (x y : Int) (b : Bool) (hd : domB x y b = true) (w : World) :
  Calls Tryz.prog 62 #[.agg #[.int .i64 x, .int .i64 y, .bool b]] w (Cel2 x y (sx x b) (sy y b) w) := by
 have HO := Lh (fun W => hd ▸ sDominoOk x y b W)
 have HC := Lh (fun W => sSecond x y b W)
 generalize sx x b = u at HC ⊢
 generalize sy y b = v at HC ⊢
 have T0 := Lh (thr_start x y b w)
 clear hd
 go_enter Tryz.func62, Tryz.ntmps62
 go_wp2_with fail
 refine (HO.out _).mono ?_
 rintro e w1 ⟨rfl, hb1⟩
 have T1 := T0.out.on hb1
 clear T0 hb1 HO
 go_wp2_with fail
 refine wp_region_noPanic ?_
 refine wp_region_held_drew (S := (fun w' => w'.cell? ⟨w.heap.size, 0, none⟩ = some (.int .i64 x) ∧ w'.cell? ⟨w.heap.size, 1, none⟩ = some (.int .i64 y) ∧ w'.cell? ⟨w.heap.size, 2, none⟩ = some (.bool b))) (by kernel_rfl) (⟨T1.drew.2.1.c0, T1.drew.2.1.c1, T1.drew.2.1.c2⟩) (fun hHeld => ?_)
 refine tk 0 ?_; try simp only [Act.put, zk]
 refine tk 1 ?_; try simp only [Act.put, zk]
 refine tk 2 ?_; try simp only [Act.put, zk]
 refine tk 3 ?_; try simp only [Act.put, zk]
 refine tk 4 ?_; try simp only [Act.put, zk]
 refine tk 5 ?_; try simp only [Act.put, zk]
 refine tr 6 fun K hK => ?_
 go_simp
 refine (HC.out _).mono ?_
 rintro e wx ⟨rfl, hbx⟩
 have F2 := T1.drew.on hbx
 clear T1 hbx hHeld
 go_wp2_with fail
 refine hK.out _ _ (⟨F2.2.1.c0, F2.2.1.c1, F2.2.1.c2⟩) (fun hHeld => ?_)
 clear hK K
 try simp only [Act.put, zk]
 refine tr 7 fun K hK => ?_
 have d0 := F2.2.2.1.c0
 have d1 := F2.2.2.1.c1
 have d2 := F2.2.2.1.f0
 have d3 := F2.2.2.1.f1
 have F3 := F2.put1 x y
 clear F2
 go_simp
 refine hK.out _ _ (⟨F3.2.1.c0, F3.2.1.c1, F3.2.1.c2⟩) (fun hHeld => ?_)
 clear hK K
 try simp only [Act.put, zk]
 refine tr 8 fun K hK => ?_
 have d0 := F3.2.2.2.c0
 have d1 := F3.2.2.2.c1
 have d2 := F3.2.2.2.f0
 have d3 := F3.2.2.2.f1
 have F4 := F3.put2 u v
 clear F3
 go_simp
 refine hK.out _ _ (⟨F4.2.1.c0, F4.2.1.c1, F4.2.1.c2⟩) (fun hHeld => ?_)
 clear hK K
 try simp only [Act.put, zk]
 refine wpAnyH_done (by kernel_rfl) (NoPanic.normal ?_) _
 generalize World.setCell _ _ _ = W4 at F4 ⊢
 have T2 := F4
 have r0 := T2.2.2.1.c0
 have r1 := T2.2.2.1.c1
 have r2 := T2.2.2.2.c0
 have r3 := T2.2.2.2.c1
 go_wp2
 refine bodyPost_ret (v := .tuple #[.agg #[.int .i64 x, .int .i64 y], .agg #[.int .i64 u, .int .i64 v]]) ?_ rfl (mkCel2 rfl rfl rfl rfl T2.1)
 simp [results, Tryz.results62, go_sem, r0, r1, r2, r3]
end Go.Proofs.YtmajllgfmclcoaaGreatDoor.Dom
namespace Go.Proofs.YtmajllgfmclcoaaGreatDoor.Dom
open Go.RowKit Go.Proofs.YtmajllgfmclcoaaGreatDoor.Cell Go.Joins
def DoB (x y : Int) (b r : Bool) (w : World) (e : Ending) (w' : World) : Prop := e = .returned (.tuple #[.agg #[.int .i64 x, .int .i64 y, .bool b], .bool r]) ∧ Below w.heap.size w w'
theorem mkDoB {a c x y : Int} {b d r q : Bool} {w W : World} (h1 : a = x) (h2 : c = y) (h3 : d = b) (h4 : q = r) (hb : Below w.heap.size w W) : DoB x y b r w (.returned (.tuple #[.agg #[.int .i64 a, .int .i64 c, .bool d], .bool q])) W := ⟨by rw [h1, h2, h3, h4], hb⟩
theorem bx32 {T : TypeId} (u v : Int) (c : Bool) (p q : Int) (w w1 : World) (h : Below ((w.alloc (.cells #[.int .i64 u, .int .i64 v, .bool c] T)).alloc (.cells #[.int .i64 p, .int .i64 q] 79)).heap.size ((w.alloc (.cells #[.int .i64 u, .int .i64 v, .bool c] T)).alloc (.cells #[.int .i64 p, .int .i64 q] 79)) w1) :
  Below w.heap.size w w1 ∧ At3 T w1 w.heap.size u v c ∧ At2 w1 (w.heap.size + 1) p q := by
 have e0 : (w.alloc (.cells #[.int .i64 u, .int .i64 v, .bool c] T)).heap.size = w.heap.size + 1 := by simp
 have k1 := At2.new (w.alloc (.cells #[.int .i64 u, .int .i64 v, .bool c] T)) p q
 rw [e0] at k1
 exact ⟨(below_alloc2 w _ _).trans (h.mono (by simp; omega)), ((At3.new T w u v c).on (below_alloc1 _ _)).on h, k1.on h⟩
theorem bx33 {T T' : TypeId} (x y : Int) (b : Bool) (u v : Int) (c : Bool) (w w1 : World) (h : Below ((w.alloc (.cells #[.int .i64 x, .int .i64 y, .bool b] T)).alloc (.cells #[.int .i64 u, .int .i64 v, .bool c] T')).heap.size ((w.alloc (.cells #[.int .i64 x, .int .i64 y, .bool b] T)).alloc (.cells #[.int .i64 u, .int .i64 v, .bool c] T')) w1) :
  Below w.heap.size w w1 ∧ At3 T w1 w.heap.size x y b ∧ At3 T' w1 (w.heap.size + 1) u v c := by
 have e0 : (w.alloc (.cells #[.int .i64 x, .int .i64 y, .bool b] T)).heap.size = w.heap.size + 1 := by simp
 have k1 := At3.new T' (w.alloc (.cells #[.int .i64 x, .int .i64 y, .bool b] T)) u v c
 rw [e0] at k1
 exact ⟨(below_alloc2 w _ _).trans (h.mono (by simp; omega)), ((At3.new T w x y b).on (below_alloc1 _ _)).on h, k1.on h⟩
set_option maxHeartbeats 400000 in
theorem iCovers (u v : Int) (c : Bool) (hu : Sm u) (hv : Sm v) (p q : Int) (w : World) :
  Calls Tryz.prog 149 #[.agg #[.int .i64 u, .int .i64 v, .bool c], .agg #[.int .i64 p, .int .i64 q]] w (Bol (eqB p q u v || eqB p q (sx u c) (sy v c)) w) := by
 have HC := Lh (fun W => iCells u v c hu hv W)
 generalize sx u c = m at HC ⊢
 generalize sy v c = n at HC ⊢
 clear hu hv
 go_enter Tryz.func149, Tryz.ntmps149
 go_wp2_with fail
 refine (HC.out _).mono ?_
 rintro e w1 ⟨rfl, hb1⟩
 obtain ⟨hb, K1, K2⟩ := bx32 u v c p q w w1 hb1
 go_upto_region 2 with fail
 obtain ⟨k1, k2, k3⟩ := at2_two w1 u v m n
 have hB := hb.trans (k3.mono hb.size)
 have K3 := K2.on k3
 have hz := K2.lt
 generalize (w1.alloc (.cells #[.int .i64 u, .int .i64 v] 79)).alloc (.cells #[.int .i64 m, .int .i64 n] 79) = W at k1 k2 K3 hB ⊢
 have c0 := k1.c0
 have c1 := k1.c1
 have c2 := k2.c0
 have c3 := k2.c1
 have c4 := K3.c0
 have c5 := K3.c1
 have HH := Lh (fun r (h : r = true ↔ (p = u ∧ q = v) ∨ (p = m ∧ q = n)) => mkBol (v := r) (b := eqB p q u v || eqB p q m n) (by rw [Bool.eq_iff_iff, h]; simp [eqB]) hB)
 clear hb1 K1 K2 hb k1 k2 k3 K3
 go_wp2
 all_goals
  go_ret
  refine HH.out _ ?_
  simp
  try omega
end Go.Proofs.YtmajllgfmclcoaaGreatDoor.Dom
namespace Go.Proofs.YtmajllgfmclcoaaGreatDoor.Dom
open Go.RowKit Go.Proofs.YtmajllgfmclcoaaGreatDoor.Cell CellF Go.Joins
def befP (x y : Int) (b : Bool) (u v : Int) (c : Bool) : Bool := decide (y * 8 + x < v * 8 + u ∨ (y * 8 + x = v * 8 + u ∧ b = false ∧ c = true))
theorem befP_iff {x y : Int} {b : Bool} {u v : Int} {c : Bool} : befP x y b u v c = true ↔ (y * 8 + x < v * 8 + u ∨ (y * 8 + x = v * 8 + u ∧ b = false ∧ c = true)) := by unfold befP; simp
def befB (x y : Int) (b : Bool) (u v : Int) (c : Bool) : Bool := domB x y b && domB u v c && befP x y b u v c
theorem dom_ok {x y : Int} {b : Bool} (h : domB x y b = true) : Ok x y := by
 unfold domB at h
 simp only [Bool.and_eq_true] at h
 exact okB_iff.1 h.1
theorem index_of {x y : Int} (h : Ok x y) : indexN x y = y * 8 + x := by unfold indexN; simp [h]
set_option maxHeartbeats 1000000 in
theorem sIsBefore (x y : Int) (b : Bool) (u v : Int) (c : Bool) (w : World) :
  Calls Tryz.prog 61 #[.agg #[.int .i64 x, .int .i64 y, .bool b], .agg #[.int .i64 u, .int .i64 v, .bool c]] w (Bol (befB x y b u v c) w) := by
 have HO1 := Lh (fun W => sDominoOk x y b W)
 have HO2 := Lh (fun W => sDominoOk u v c W)
 have HB := Lh (show befB x y b u v c = (domB x y b && domB u v c && befP x y b u v c) from rfl)
 have HK1 := Lh (fun (h : domB x y b = true) => dom_ok h)
 have HK2 := Lh (fun (h : domB u v c = true) => dom_ok h)
 generalize befB x y b u v c = r at HB ⊢
 generalize domB x y b = p at HO1 HB HK1
 generalize domB u v c = q at HO2 HB HK2
 go_enter Tryz.func61, Tryz.ntmps61
 go_wp2_with fail
 refine (HO1.out _).mono ?_
 rintro e w1 ⟨rfl, hb1⟩
 obtain ⟨hb, K1, K2⟩ := bx33 x y b u v c w w1 hb1
 have c0 := K1.c0
 have c1 := K1.c1
 have c2 := K1.c2
 have d0 := K2.c0
 have d1 := K2.c1
 have d2 := K2.c2
 clear hb1 HO1
 cases p with
 | false =>
  go_wp2
  go_ret
  exact mkBol (by rw [HB.out]; rfl) hb
 | true =>
  go_wp2_with fail
  refine (HO2.out _).mono ?_
  rintro e w2 ⟨rfl, hb2⟩
  have hb' := hb.trans (hb2.mono hb.size)
  have K1 := K1.on hb2
  have K2 := K2.on hb2
  clear hb hb2 c0 c1 c2 d0 d1 d2 HO2
  have c0 := K1.c0
  have c1 := K1.c1
  have c2 := K1.c2
  have d0 := K2.c0
  have d1 := K2.c1
  have d2 := K2.c2
  clear K1 K2
  cases q with
  | false =>
   go_wp2
   go_ret
   exact mkBol (by rw [HB.out]; rfl) hb'
  | true =>
   obtain ⟨x0, x7, y0, y7⟩ := HK1.out (by trivial)
   obtain ⟨u0, u7, v0, v7⟩ := HK2.out (by trivial)
   have HH := Lh (fun z (h : z = true ↔ (y * 8 + x < v * 8 + u ∨ (y * 8 + x = v * 8 + u ∧ b = false ∧ c = true))) => mkBol (v := z) (b := r) (by rw [Bool.eq_iff_iff, h, HB.out, Bool.true_and, Bool.true_and, befP_iff]) hb')
   clear HB HK1 HK2 hb'
   go_wp2
   all_goals
    go_ret
    refine HH.out _ ?_
    cases b <;> cases c <;> first | contradiction | (simp; done) | (simp; omega) | omega
set_option maxHeartbeats 1000000 in
theorem iIsBefore (x y : Int) (b : Bool) (u v : Int) (c : Bool) (hx : Sm x) (hy : Sm y) (hu : Sm u) (hv : Sm v) (w : World) :
  Calls Tryz.prog 147 #[.agg #[.int .i64 x, .int .i64 y, .bool b], .agg #[.int .i64 u, .int .i64 v, .bool c]] w (Bol (befB x y b u v c) w) := by
 have HO1 := Lh (fun W => iDominoOk x y b hx hy W)
 have HO2 := Lh (fun W => iDominoOk u v c hu hv W)
 have HC1 := Lh (fun W => iCells x y b hx hy W)
 have HC2 := Lh (fun W => iCells u v c hu hv W)
 have HB := Lh (show befB x y b u v c = (domB x y b && domB u v c && befP x y b u v c) from rfl)
 have HK1 := Lh (fun (h : domB x y b = true) => dom_ok h)
 have HK2 := Lh (fun (h : domB u v c = true) => dom_ok h)
 generalize befB x y b u v c = r at HB ⊢
 generalize sx x b = m at HC1
 generalize sy y b = n at HC1
 generalize sx u c = s at HC2
 generalize sy v c = t at HC2
 generalize domB x y b = p at HO1 HB HK1
 generalize domB u v c = q at HO2 HB HK2
 clear hx hy hu hv
 go_enter Tryz.func147, Tryz.ntmps147
 go_wp2_with fail
 refine (HO1.out _).mono ?_
 rintro e w1 ⟨rfl, hb1⟩
 obtain ⟨hb, K1, K2⟩ := bx33 x y b u v c w w1 hb1
 have c0 := K1.c0
 have c1 := K1.c1
 have c2 := K1.c2
 have d0 := K2.c0
 have d1 := K2.c1
 have d2 := K2.c2
 clear hb1 HO1
 cases p with
 | false =>
  go_wp2
  go_ret
  exact mkBol (by rw [HB.out]; rfl) hb
 | true =>
  go_wp2_with fail
  refine (HO2.out _).mono ?_
  rintro e w2 ⟨rfl, hb2⟩
  have hb' := hb.trans (hb2.mono hb.size)
  have K1 := K1.on hb2
  have K2 := K2.on hb2
  clear hb hb2 c0 c1 c2 d0 d1 d2 HO2
  have c0 := K1.c0
  have c1 := K1.c1
  have c2 := K1.c2
  cases q with
  | false =>
   go_wp2
   go_ret
   exact mkBol (by rw [HB.out]; rfl) hb'
  | true =>
   have HN1 := Lh (index_of (HK1.out (by trivial)))
   have HN2 := Lh (index_of (HK2.out (by trivial)))
   go_wp2_with fail
   refine (HC1.out _).mono ?_
   rintro e w3 ⟨rfl, hb3⟩
   have hB := hb'.trans (hb3.mono hb'.size)
   have K1 := K1.on hb3
   have K2 := K2.on hb3
   clear hb' hb3 c0 c1 c2 HC1
   go_upto_region 4 with fail
   obtain ⟨k1, k2, k3⟩ := at2_two w3 x y m n
   have hB := hB.trans (k3.mono hB.size)
   have K1 := K1.on k3
   have K2 := K2.on k3
   generalize (w3.alloc (.cells #[.int .i64 x, .int .i64 y] 79)).alloc (.cells #[.int .i64 m, .int .i64 n] 79) = W at k1 k2 K1 K2 hB ⊢
   have d0 := K2.c0
   have d1 := K2.c1
   have d2 := K2.c2
   clear k2 k3
   go_wp2_with fail
   refine (HC2.out _).mono ?_
   rintro e w4 ⟨rfl, hb4⟩
   have hB := hB.trans (hb4.mono hB.size)
   have k1 := k1.on hb4
   have K1 := K1.on hb4
   have K2 := K2.on hb4
   clear d0 d1 d2 hb4 HC2
   go_upto_region 5 with fail
   obtain ⟨j1, j2, j3⟩ := at2_two w4 u v s t
   have hB := hB.trans (j3.mono hB.size)
   have k1 := k1.on j3
   have K1 := K1.on j3
   have K2 := K2.on j3
   generalize (w4.alloc (.cells #[.int .i64 u, .int .i64 v] 79)).alloc (.cells #[.int .i64 s, .int .i64 t] 79) = W5 at k1 K1 K2 j1 j2 hB ⊢
   clear j2 j3
   have c0 := k1.c0
   have c1 := k1.c1
   have d0 := j1.c0
   have d1 := j1.c1
   by_cases he : x = u ∧ y = v
   ·obtain ⟨rfl, rfl⟩ := he
    have e0 := K1.c0
    have e1 := K1.c1
    have e2 := K1.c2
    have f0 := K2.c0
    have f1 := K2.c1
    have f2 := K2.c2
    have HH := Lh (fun z (h : z = (!b && c)) => mkBol (v := z) (b := r) (by rw [Bool.eq_iff_iff, h, HB.out, Bool.true_and, Bool.true_and, befP_iff]; simp) hB)
    clear HB hB K1 K2 k1 j1 HN1 HN2 HK1 HK2
    cases b <;> cases c
    all_goals
     go_wp2
     go_ret
     exact HH.out _ rfl
   ·have HH := Lh (fun W' z (h : z = decide (indexN x y < indexN u v)) (hb : Below w.heap.size w W') => mkBol (v := z) (b := r) (W := W') (by
     obtain ⟨x0, x7, y0, y7⟩ := HK1.out (by trivial)
     obtain ⟨u0, u7, v0, v7⟩ := HK2.out (by trivial)
     rw [Bool.eq_iff_iff, h, HB.out, Bool.true_and, Bool.true_and, befP_iff, HN1.out, HN2.out]; simp; omega) hb)
    have HI1 := Lh (fun W => iCellIndex x y W)
    have HI2 := Lh (fun W => iCellIndex u v W)
    generalize indexN x y = i1 at HI1 HH
    generalize indexN u v = i2 at HI2 HH
    clear HB K1 K2 HN1 HN2 HK1 HK2
    by_cases hxu : x = u
    ·subst hxu
     have hyv : ¬ y = v := fun h => he ⟨rfl, h⟩
     clear he
     go_upto_region 6 with fail
     have hlt1 := k1.lt
     have hlt2 := j1.lt
     refine wp_region_noPanic ?_
     refine wp_region_held_drew (S := (fun w' => w'.cell? ⟨w3.heap.size, 0, none⟩ = some (.int .i64 x) ∧ w'.cell? ⟨w3.heap.size, 1, none⟩ = some (.int .i64 y) ∧ w'.cell? ⟨w4.heap.size, 0, none⟩ = some (.int .i64 x) ∧ w'.cell? ⟨w4.heap.size, 1, none⟩ = some (.int .i64 v))) (by kernel_rfl) (⟨c0, c1, d0, d1⟩) (fun hHeld => ?_)
     refine tk 0 ?_; try simp only [Act.put, zk]
     refine tk 2 ?_; try simp only [Act.put, zk]
     refine tr 1 fun K hK => ?_
     go_simp
     refine (HI1.out _).mono ?_
     rintro e wx ⟨rfl, hb6⟩
     have hB6 := hB.drew.trans (hb6.mono hB.size)
     have k6 := (show At2 W5.drew _ _ _ from k1).on hb6
     have j6 := (show At2 W5.drew _ _ _ from j1).on hb6
     go_wp2_with fail
     refine hK.out _ _ (⟨k6.c0, k6.c1, j6.c0, j6.c1⟩) (fun hHeld => ?_)
     clear hK K
     try simp only [Act.put, zk]
     refine tr 3 fun K hK => ?_
     go_simp
     refine (HI2.out _).mono ?_
     rintro e wx ⟨rfl, hb7⟩
     have hB7 := hB6.trans (hb7.mono hB6.size)
     go_wp2_with fail
     refine hK.out _ _ (⟨(k6.on hb7).c0, (k6.on hb7).c1, (j6.on hb7).c0, (j6.on hb7).c1⟩) (fun hHeld => ?_)
     clear hK K
     try simp only [Act.put, zk]
     refine tk 4 ?_; try simp only [Act.put, zk]
     refine tk 5 ?_; try simp only [Act.put, zk]
     refine wpAnyH_done (by kernel_rfl) (NoPanic.normal ?_) _
     go_wp2
     go_ret
     exact HH.out _ _ rfl hB7
    ·clear he
     go_upto_region 6 with fail
     have hlt1 := k1.lt
     have hlt2 := j1.lt
     refine wp_region_noPanic ?_
     refine wp_region_held_drew (S := (fun w' => w'.cell? ⟨w3.heap.size, 0, none⟩ = some (.int .i64 x) ∧ w'.cell? ⟨w3.heap.size, 1, none⟩ = some (.int .i64 y) ∧ w'.cell? ⟨w4.heap.size, 0, none⟩ = some (.int .i64 u) ∧ w'.cell? ⟨w4.heap.size, 1, none⟩ = some (.int .i64 v))) (by kernel_rfl) (⟨c0, c1, d0, d1⟩) (fun hHeld => ?_)
     refine tk 0 ?_; try simp only [Act.put, zk]
     refine tk 2 ?_; try simp only [Act.put, zk]
     refine tr 1 fun K hK => ?_
     go_simp
     refine (HI1.out _).mono ?_
     rintro e wx ⟨rfl, hb6⟩
     have hB6 := hB.drew.trans (hb6.mono hB.size)
     have k6 := (show At2 W5.drew _ _ _ from k1).on hb6
     have j6 := (show At2 W5.drew _ _ _ from j1).on hb6
     go_wp2_with fail
     refine hK.out _ _ (⟨k6.c0, k6.c1, j6.c0, j6.c1⟩) (fun hHeld => ?_)
     clear hK K
     try simp only [Act.put, zk]
     refine tr 3 fun K hK => ?_
     go_simp
     refine (HI2.out _).mono ?_
     rintro e wx ⟨rfl, hb7⟩
     have hB7 := hB6.trans (hb7.mono hB6.size)
     go_wp2_with fail
     refine hK.out _ _ (⟨(k6.on hb7).c0, (k6.on hb7).c1, (j6.on hb7).c0, (j6.on hb7).c1⟩) (fun hHeld => ?_)
     clear hK K
     try simp only [Act.put, zk]
     refine tk 4 ?_; try simp only [Act.put, zk]
     refine tk 5 ?_; try simp only [Act.put, zk]
     refine wpAnyH_done (by kernel_rfl) (NoPanic.normal ?_) _
     go_wp2
     go_ret
     exact HH.out _ _ rfl hB7
end Go.Proofs.YtmajllgfmclcoaaGreatDoor.Dom
namespace Go.Proofs.YtmajllgfmclcoaaGreatDoor.Dom
open Go.RowKit Go.Proofs.YtmajllgfmclcoaaGreatDoor.Cell CellF CellN Go.Joins
def mn (a b : Int) : Int := if b < a then b else a
theorem nb_dom {x y u v : Int} (h : nbB x y u v = true) : Ok x y ∧ Ok u v ∧ ((indexN u v < indexN x y ∧ mn x u = u ∧ mn y v = v) ∨ (¬ indexN u v < indexN x y ∧ mn x u = x ∧ mn y v = y)) := by
 obtain ⟨h1, h2, h3⟩ := nbB_iff.1 h
 refine ⟨h1, h2, ?_⟩
 rw [index_of h1, index_of h2]
 obtain ⟨x0, x7, y0, y7⟩ := h1
 obtain ⟨u0, u7, v0, v7⟩ := h2
 unfold mn
 rcases h3 with ⟨rfl, rfl | rfl⟩ | ⟨rfl, rfl | rfl⟩
 ·left; refine ⟨by omega, by simp, by rw [if_pos (by omega)]⟩
 ·right; refine ⟨by omega, by simp, by rw [if_neg (by omega)]⟩
 ·left; refine ⟨by omega, by rw [if_pos (by omega)], by simp⟩
 ·right; refine ⟨by omega, by rw [if_neg (by omega)], by simp⟩
def Ov (w : World) (x y u v : Int) (p q : Int) (b : Bool) (W : World) : Prop :=
 Below w.heap.size w W ∧ At2 W w.heap.size x y ∧ At2 W (w.heap.size + 1) u v ∧ At3 63 W (w.heap.size + 1 + 1) p q b
theorem ov_start (x y u v : Int) (w : World) : Ov w x y u v 0 0 false (((w.alloc (.cells #[.int .i64 x, .int .i64 y] 79)).alloc (.cells #[.int .i64 u, .int .i64 v] 79)).alloc (.cells #[.int .i64 0, .int .i64 0, .bool false] 63)) := by
 obtain ⟨k1, k2, k3⟩ := at2_two w x y u v
 have e2 : ((w.alloc (.cells #[.int .i64 x, .int .i64 y] 79)).alloc (.cells #[.int .i64 u, .int .i64 v] 79)).heap.size = w.heap.size + 1 + 1 := by simp
 generalize (w.alloc (.cells #[.int .i64 x, .int .i64 y] 79)).alloc (.cells #[.int .i64 u, .int .i64 v] 79) = W at k1 k2 k3 e2 ⊢
 have k4 := At3.new 63 W 0 0 false
 rw [e2] at k4
 exact ⟨k3.trans ((below_alloc1 W _).mono k3.size), k1.on (below_alloc1 _ _), k2.on (below_alloc1 _ _), k4⟩
theorem At3.f0 {T : TypeId} {W : World} {q : Nat} {x y : Int} {b : Bool} (h : At3 T W q x y b) : W.frozen? ⟨q, 0, none⟩ = false := by have h' := h; unfold At3 at h'; simp [World.frozen?, h']
theorem At3.f1 {T : TypeId} {W : World} {q : Nat} {x y : Int} {b : Bool} (h : At3 T W q x y b) : W.frozen? ⟨q, 1, none⟩ = false := by have h' := h; unfold At3 at h'; simp [World.frozen?, h']
theorem At3.f2 {T : TypeId} {W : World} {q : Nat} {x y : Int} {b : Bool} (h : At3 T W q x y b) : W.frozen? ⟨q, 2, none⟩ = false := by have h' := h; unfold At3 at h'; simp [World.frozen?, h']
theorem At3.put {T : TypeId} {W : World} {q : Nat} {x y a c : Int} {b d : Bool} (h : At3 T W q x y b) : At3 T (((W.setCell ⟨q, 0, none⟩ (.int .i64 a)).setCell ⟨q, 1, none⟩ (.int .i64 c)).setCell ⟨q, 2, none⟩ (.bool d)) q a c d := by
 have h' := h
 unfold At3 at h' ⊢
 simp [World.setCell, Array.getElem?_modify, h']
section
variable {w W W' : World} {x y u v p q : Int} {b : Bool}
theorem Ov.drew (h : Ov w x y u v p q b W) : Ov w x y u v p q b W.drew := ⟨h.1.drew, h.2⟩
theorem Ov.on (h : Ov w x y u v p q b W) (hb : Below W.heap.size W W') : Ov w x y u v p q b W' := ⟨h.1.trans (hb.mono h.1.size), h.2.1.on hb, h.2.2.1.on hb, h.2.2.2.on hb⟩
theorem Ov.put (h : Ov w x y u v p q b W) (a c : Int) (d : Bool) : Ov w x y u v a c d (((W.setCell ⟨w.heap.size + 1 + 1, 0, none⟩ (.int .i64 a)).setCell ⟨w.heap.size + 1 + 1, 1, none⟩ (.int .i64 c)).setCell ⟨w.heap.size + 1 + 1, 2, none⟩ (.bool d)) :=
 ⟨((h.1.setCell (p := ⟨w.heap.size + 1 + 1, 0, none⟩) (by show w.heap.size ≤ w.heap.size + 1 + 1; omega) _).setCell (p := ⟨w.heap.size + 1 + 1, 1, none⟩) (by show w.heap.size ≤ w.heap.size + 1 + 1; omega) _).setCell (p := ⟨w.heap.size + 1 + 1, 2, none⟩) (by show w.heap.size ≤ w.heap.size + 1 + 1; omega) _, (h.2.1.far2 (by omega)).far (by omega), (h.2.2.1.far2 (by omega)).far (by omega), h.2.2.2.put⟩
theorem Ov.putFar (h : Ov w x y u v p q b W) {k : Nat} (hk : w.heap.size + 3 ≤ k) (a c : Int) : Ov w x y u v p q b ((W.setCell ⟨k, 0, none⟩ (.int .i64 a)).setCell ⟨k, 1, none⟩ (.int .i64 c)) :=
 ⟨(h.1.setCell (p := ⟨k, 0, none⟩) (by show w.heap.size ≤ k; omega) _).setCell (p := ⟨k, 1, none⟩) (by show w.heap.size ≤ k; omega) _, h.2.1.far2 (by omega), h.2.2.1.far2 (by omega), (h.2.2.2.far (by omega)).far (by omega)⟩
end
set_option maxHeartbeats 400000 in
theorem sDominoOver_no (x y u v : Int) (hn : nbB x y u v = false) (w : World) :
  Calls Tryz.prog 99 #[.agg #[.int .i64 x, .int .i64 y], .agg #[.int .i64 u, .int .i64 v]] w (DoB 0 0 false false w) := by
 have HO := Lh (fun W => hn ▸ sAreNeighbors x y u v W)
 have T0 := Lh (ov_start x y u v w)
 clear hn
 go_enter Tryz.func99, Tryz.ntmps99
 go_wp2_with fail
 refine (HO.out _).mono ?_
 rintro e w1 ⟨rfl, hb1⟩
 have T1 := T0.out.on hb1
 have T2 := T1.put 0 0 false
 have c0 := T1.2.2.2.c0
 have c1 := T1.2.2.2.c1
 have c2 := T1.2.2.2.c2
 have c3 := T1.2.2.2.f0
 have c4 := T1.2.2.2.f1
 have c5 := T1.2.2.2.f2
 clear T0 T1 hb1 HO
 go_wp2
 have r0 := T2.2.2.2.c0
 have r1 := T2.2.2.2.c1
 have r2 := T2.2.2.2.c2
 refine bodyPost_ret (v := .tuple #[.agg #[.int .i64 0, .int .i64 0, .bool false], .bool false]) ?_ rfl (mkDoB rfl rfl rfl rfl T2.1)
 simp [results, Tryz.results99, go_sem, r0, r1, r2]
set_option maxHeartbeats 1000000 in
theorem iDominoOver_ok (x y u v : Int) (hn : nbB x y u v = true) (w : World) :
  Calls Tryz.prog 105 #[.agg #[.int .i64 x, .int .i64 y], .agg #[.int .i64 u, .int .i64 v]] w (DoB (mn x u) (mn y v) (decide (x = u)) true w) := by
 have HO := Lh (fun W => hn ▸ iAreNeighbors x y u v W)
 have T0 := Lh (ov_start x y u v w)
 have HD := Lh (nb_dom hn).2.2
 have HI1 := Lh (fun W => iCellIndex x y W)
 have HI2 := Lh (fun W => iCellIndex u v W)
 generalize indexN x y = i1 at HI1 HD
 generalize indexN u v = i2 at HI2 HD
 generalize mn x u = mx at HD ⊢
 generalize mn y v = my at HD ⊢
 clear hn
 go_enter Tryz.func105, Tryz.ntmps105
 go_wp2_with fail
 refine (HO.out _).mono ?_
 rintro e w1 ⟨rfl, hb1⟩
 have T1 := T0.out.on hb1
 have a0 := T1.2.1.c0
 have a1 := T1.2.1.c1
 clear T0 hb1 HO
 go_upto_region 4 with fail
 have k1 := At2.new w1 x y
 have hlt := T1.2.2.2.lt
 have T2 := T1.on (below_alloc1 w1 (.cells #[.int .i64 x, .int .i64 y] 79))
 clear T1 a0 a1
 generalize w1.alloc (.cells #[.int .i64 x, .int .i64 y] 79) = W at k1 T2 ⊢
 refine wp_region_noPanic ?_
 refine wp_region_held_drew (S := (fun w' => w'.cell? ⟨w.heap.size, 0, none⟩ = some (.int .i64 x) ∧ w'.cell? ⟨w.heap.size, 1, none⟩ = some (.int .i64 y) ∧ w'.cell? ⟨w.heap.size + 1, 0, none⟩ = some (.int .i64 u) ∧ w'.cell? ⟨w.heap.size + 1, 1, none⟩ = some (.int .i64 v))) (by kernel_rfl) (⟨T2.2.1.c0, T2.2.1.c1, T2.2.2.1.c0, T2.2.2.1.c1⟩) (fun hHeld => ?_)
 refine tk 0 ?_; try simp only [Act.put, zk]
 refine tk 2 ?_; try simp only [Act.put, zk]
 refine tr 1 fun K hK => ?_
 go_simp
 refine (HI2.out _).mono ?_
 rintro e wx ⟨rfl, hb6⟩
 have T3 := T2.drew.on hb6
 have k3 := (show At2 W.drew _ _ _ from k1).on hb6
 go_wp2_with fail
 refine hK.out _ _ (⟨T3.2.1.c0, T3.2.1.c1, T3.2.2.1.c0, T3.2.2.1.c1⟩) (fun hHeld => ?_)
 clear hK K
 try simp only [Act.put, zk]
 refine tr 3 fun K hK => ?_
 go_simp
 refine (HI1.out _).mono ?_
 rintro e wx ⟨rfl, hb7⟩
 have T4 := T3.on hb7
 have k4 := k3.on hb7
 clear T2 T3 k3 k1 hb6 hb7 HI1 HI2
 go_wp2_with fail
 refine hK.out _ _ (⟨T4.2.1.c0, T4.2.1.c1, T4.2.2.1.c0, T4.2.2.1.c1⟩) (fun hHeld => ?_)
 clear hK K
 try simp only [Act.put, zk]
 refine tk 4 ?_; try simp only [Act.put, zk]
 refine wpAnyH_done (by kernel_rfl) (NoPanic.normal ?_) _
 have a0 := T4.2.1.c0
 have a1 := T4.2.1.c1
 have a2 := T4.2.2.1.c0
 have a3 := T4.2.2.1.c1
 by_cases hlt2 : i2 < i1
 ·obtain ⟨rfl, rfl⟩ : mx = u ∧ my = v := by
   have := HD.out
   exact ⟨by omega, by omega⟩
  have f0 := k4.c0
  have f1 := k4.c1
  have f2 := k4.f0
  have f3 := k4.f1
  clear HD
  go_upto_region 6 with fail
  have T5 := T4.putFar (k := w1.heap.size) (by omega) mx my
  have k5 := k4.put (a := mx) (b := my)
  clear T4 k4 a0 a1 a2 a3 f0 f1 f2 f3
  generalize (World.setCell wx ⟨w1.heap.size, 0, none⟩ _).setCell ⟨w1.heap.size, 1, none⟩ _ = W5 at T5 k5 ⊢
  have T6 := T5.put mx my (x == mx)
  have a0 := T5.2.1.c0
  have a1 := T5.2.1.c1
  have a2 := T5.2.2.1.c0
  have a3 := T5.2.2.1.c1
  have f0 := k5.c0
  have f1 := k5.c1
  have c0 := T5.2.2.2.c0
  have c1 := T5.2.2.2.c1
  have c2 := T5.2.2.2.c2
  have c3 := T5.2.2.2.f0
  have c4 := T5.2.2.2.f1
  have c5 := T5.2.2.2.f2
  have r0 := T6.2.2.2.c0
  have r1 := T6.2.2.2.c1
  have r2 := T6.2.2.2.c2
  have hb := T6.1
  clear T5 T6 k5
  go_wp2
  refine bodyPost_ret (v := .tuple #[.agg #[.int .i64 mx, .int .i64 my, .bool (x == mx)], .bool true]) ?_ rfl (mkDoB rfl rfl (by rw [Bool.eq_iff_iff]; simp) rfl hb)
  simp [results, Tryz.results105, go_sem, r0, r1, r2]
 ·obtain ⟨rfl, rfl⟩ : mx = x ∧ my = y := by
   have := HD.out
   exact ⟨by omega, by omega⟩
  clear HD
  go_upto_region 6 with fail
  have T5 := T4
  have k5 := k4
  clear T4 k4 a0 a1 a2 a3
  have T6 := T5.put mx my (mx == u)
  have a0 := T5.2.1.c0
  have a1 := T5.2.1.c1
  have a2 := T5.2.2.1.c0
  have a3 := T5.2.2.1.c1
  have f0 := k5.c0
  have f1 := k5.c1
  have c0 := T5.2.2.2.c0
  have c1 := T5.2.2.2.c1
  have c2 := T5.2.2.2.c2
  have c3 := T5.2.2.2.f0
  have c4 := T5.2.2.2.f1
  have c5 := T5.2.2.2.f2
  have r0 := T6.2.2.2.c0
  have r1 := T6.2.2.2.c1
  have r2 := T6.2.2.2.c2
  have hb := T6.1
  clear T5 T6 k5
  go_wp2
  refine bodyPost_ret (v := .tuple #[.agg #[.int .i64 mx, .int .i64 my, .bool (mx == u)], .bool true]) ?_ rfl (mkDoB rfl rfl (by rw [Bool.eq_iff_iff]; simp) rfl hb)
  simp [results, Tryz.results105, go_sem, r0, r1, r2]
end Go.Proofs.YtmajllgfmclcoaaGreatDoor.Dom
