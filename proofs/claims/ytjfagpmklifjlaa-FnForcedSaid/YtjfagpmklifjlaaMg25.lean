/- Drw in one text. -/
import Derived.Test.YtjfagpmklifjlaaMg01
import Derived.Test.YtjfagpmklifjlaaMg03

namespace Go.Proofs.Ytjfagpmklifjlaa.Drw
set_option linter.unusedVariables false
set_option linter.unusedSimpArgs false
open Go.RowKit Go.Proofs.Ytjfagpmklifjlaa.Cell Go.Proofs.Ytjfagpmklifjlaa.CellF Go.Proofs.Ytjfagpmklifjlaa.Dom Go.Joins

def Blw (B : Nat) (w w' : World) : Prop := Below B w w' ∧ w.drawn ≤ w'.drawn
section
variable {B : Nat} {a b c w w' : World}
theorem Blw.trans (h : Blw B a b) (k : Blw B b c) : Blw B a c := ⟨h.1.trans k.1, Nat.le_trans h.2 k.2⟩
theorem Blw.mono {B' : Nat} (h : Blw B a b) (hB : B' ≤ B) : Blw B' a b := ⟨h.1.mono hB, h.2⟩
theorem Blw.size (h : Blw B a b) : a.heap.size ≤ b.heap.size := h.1.size
theorem Blw.block (h : Blw B a b) (k : Nat) (hk : k < B) : b.heap[k]? = a.heap[k]? := h.1.block k hk
theorem Blw.cell (h : Blw B a b) {p : Addr} (hp : p.block < B) : b.cell? p = a.cell? p := h.1.cell hp
theorem Blw.drew (h : Blw B a b) : Blw B a b.drew := ⟨h.1.drew, Nat.le_trans h.2 (Nat.le_succ _)⟩
theorem Blw.alloc (h : Blw B a b) (hB : B ≤ b.heap.size) (o : Obj) : Blw B a (b.alloc o) := ⟨h.1.alloc hB o, h.2⟩
theorem Blw.setCell (h : Blw B a b) {p : Addr} (hp : B ≤ p.block) (v : Value) : Blw B a (b.setCell p v) := ⟨h.1.setCell hp v, h.2⟩
end
theorem blw_alloc1 (w : World) (o1 : Obj) : Blw w.heap.size w (w.alloc o1) := ⟨below_alloc1 w o1, Nat.le_refl _⟩
theorem blw_alloc2 (w : World) (o1 o2 : Obj) : Blw w.heap.size w ((w.alloc o1).alloc o2) := ⟨below_alloc2 w o1 o2, Nat.le_refl _⟩
def Bol (b : Bool) (w : World) (e : Ending) (w' : World) : Prop := e = .returned (.bool b) ∧ Blw w.heap.size w w'
def Num (n : Int) (w : World) (e : Ending) (w' : World) : Prop := e = .returned (.int .i64 n) ∧ Blw w.heap.size w w'
def Cel (x y : Int) (w : World) (e : Ending) (w' : World) : Prop := e = .returned (.agg #[.int .i64 x, .int .i64 y]) ∧ Blw w.heap.size w w'
theorem mkBol {v b : Bool} {w W : World} (h : v = b) (hb : Blw w.heap.size w W) : Bol b w (.returned (.bool v)) W := ⟨by rw [h], hb⟩
theorem mkNum {v b : Int} {w W : World} (h : v = b) (hb : Blw w.heap.size w W) : Num b w (.returned (.int .i64 v)) W := ⟨by rw [h], hb⟩
theorem mkCel {u v x y : Int} {w W : World} (h : u = x) (h' : v = y) (hb : Blw w.heap.size w W) : Cel x y w (.returned (.agg #[.int .i64 u, .int .i64 v])) W := ⟨by rw [h, h'], hb⟩
set_option maxHeartbeats 400000 in
theorem isValid (x y : Int) (w : World) :
  Calls Try.prog 82 #[.agg #[.int .i64 x, .int .i64 y]] w (Bol (okB x y) w) := by
 have H : ∀ (b : Bool) (W : World), (b = true ↔ Ok x y) → Blw w.heap.size w W → Bol (okB x y) w (.returned (.bool b)) W := fun b W h hb => mkBol (by rw [Bool.eq_iff_iff, okB_iff]; exact h) hb
 have HH := Lib.hid H
 clear H
 go_enter Try.func82, Try.ntmps82
 go_wp2
 all_goals
  go_ret
  refine HH.out _ _ ?_ (blw_alloc1 _ _)
  unfold Ok
  simp
  try omega
theorem box (x y : Int) (w w1 : World) (h : Blw (w.alloc (.cells #[.int .i64 x, .int .i64 y] 38)).heap.size (w.alloc (.cells #[.int .i64 x, .int .i64 y] 38)) w1) : Blw w.heap.size w w1 :=
 (blw_alloc1 w (.cells #[.int .i64 x, .int .i64 y] 38)).trans (h.mono (by simp))
theorem boxed (x y : Int) (w w1 : World) (h : Blw (w.alloc (.cells #[.int .i64 x, .int .i64 y] 38)).heap.size (w.alloc (.cells #[.int .i64 x, .int .i64 y] 38)) w1) (k : Nat) (hk : k < 2) :
  w1.cell? ⟨w.heap.size, k, none⟩ = some (#[Value.int .i64 x, Value.int .i64 y].getD k undef) := by
 rw [h.cell (by simp)]
 have hbl : (w.alloc (.cells #[.int .i64 x, .int .i64 y] 38)).heap[w.heap.size]? = some (.cells #[.int .i64 x, .int .i64 y] 38) := by
  show (w.heap.push _)[w.heap.size]? = _
  exact Array.getElem?_push_size
 have : k = 0 ∨ k = 1 := by omega
 rcases this with rfl | rfl
 ·exact (cell_of_row _ _ 0 _ _ _ hbl).trans rfl
 ·exact (cell_of_row _ _ 1 _ _ _ hbl).trans rfl
set_option maxHeartbeats 400000 in
theorem moved (x y a b : Int) (w : World) :
  Calls Try.prog 83 #[.agg #[.int .i64 x, .int .i64 y], .int .i64 a, .int .i64 b] w (Cel (wrap64 (x + a)) (wrap64 (y + b)) w) := by
 go_enter Try.func83, Try.ntmps83
 go_wp2
 exact bodyPost_ret (v := .agg #[.int .i64 (wrap64 (x + a)), .int .i64 (wrap64 (y + b))]) (by simp [results, Try.results83, go_sem]) rfl (mkCel rfl rfl (blw_alloc2 _ _ _))
set_option maxHeartbeats 400000 in
theorem iCellIndex (x y : Int) (w : World) :
  Calls Try.prog 85 #[.agg #[.int .i64 x, .int .i64 y]] w (Num (indexN x y) w) := by
 have H : ∀ (b : Int) (W : World), b = indexN x y → Blw w.heap.size w W → Num (indexN x y) w (.returned (.int .i64 b)) W := fun b W h hb => mkNum h hb
 have HH := Lib.hid H
 clear H
 go_enter Try.func85, Try.ntmps85
 go_wp2_with fail
 refine (isValid x y _).mono ?_
 rintro e w1 ⟨rfl, hb1⟩
 have hb := box x y w w1 hb1
 by_cases hok : Ok x y
 ·have h0 := boxed x y w w1 hb1 0 (by omega)
  have h1 := boxed x y w w1 hb1 1 (by omega)
  have hix : indexN x y = y * 8 + x := by unfold indexN; simp [hok]
  have HI := Lib.hid hix
  clear hix
  rw [okB_of hok]
  obtain ⟨x0, x7, y0, y7⟩ := hok
  go_wp2
  go_ret
  refine HH.out _ _ ?_ hb
  rw [HI.out]
 ·have hix : indexN x y = -1 := by unfold indexN; simp [hok]
  have HI := Lib.hid hix
  clear hix
  rw [okB_not hok]
  go_wp2
  go_ret
  refine HH.out _ _ ?_ hb
  rw [HI.out]
def Cel2 (x y u v : Int) (w : World) (e : Ending) (w' : World) : Prop := e = .returned (.tuple #[.agg #[.int .i64 x, .int .i64 y], .agg #[.int .i64 u, .int .i64 v]]) ∧ Blw w.heap.size w w'
theorem mkCel2 {a b c d x y u v : Int} {w W : World} (h1 : a = x) (h2 : b = y) (h3 : c = u) (h4 : d = v) (hb : Blw w.heap.size w W) : Cel2 x y u v w (.returned (.tuple #[.agg #[.int .i64 a, .int .i64 b], .agg #[.int .i64 c, .int .i64 d]])) W := ⟨by rw [h1, h2, h3, h4], hb⟩
def At2 (W : World) (q : Nat) (x y : Int) : Prop := W.heap[q]? = some (.cells #[.int .i64 x, .int .i64 y] 38)
theorem At2.on {W W' : World} {q : Nat} {x y : Int} (h : At2 W q x y) (hb : Blw W.heap.size W W') : At2 W' q x y := (hb.block q (Array.getElem?_eq_some_iff.1 h).1).trans h
theorem At2.c0 {W : World} {q : Nat} {x y : Int} (h : At2 W q x y) : W.cell? ⟨q, 0, none⟩ = some (.int .i64 x) := (cell_of_row _ _ 0 _ _ _ h).trans rfl
theorem At2.c1 {W : World} {q : Nat} {x y : Int} (h : At2 W q x y) : W.cell? ⟨q, 1, none⟩ = some (.int .i64 y) := (cell_of_row _ _ 1 _ _ _ h).trans rfl
theorem At2.f0 {W : World} {q : Nat} {x y : Int} (h : At2 W q x y) : W.frozen? ⟨q, 0, none⟩ = false := by have h' := h; unfold At2 at h'; simp [World.frozen?, h']
theorem At2.f1 {W : World} {q : Nat} {x y : Int} (h : At2 W q x y) : W.frozen? ⟨q, 1, none⟩ = false := by have h' := h; unfold At2 at h'; simp [World.frozen?, h']
theorem At2.lt {W : World} {q : Nat} {x y : Int} (h : At2 W q x y) : q < W.heap.size := (Array.getElem?_eq_some_iff.1 h).1
theorem At2.new (W : World) (x y : Int) : At2 (W.alloc (.cells #[.int .i64 x, .int .i64 y] 38)) W.heap.size x y := heap_alloc_new W _
theorem At2.far {W : World} {p q i : Nat} {x y : Int} {v : Value} (h : At2 W q x y) (hp : q ≠ p) : At2 (W.setCell ⟨p, i, none⟩ v) q x y := (Below.heap_setCell W ⟨p, i, none⟩ v q hp).trans h
theorem At2.put {W : World} {q : Nat} {x y a b : Int} (h : At2 W q x y) : At2 ((W.setCell ⟨q, 0, none⟩ (.int .i64 a)).setCell ⟨q, 1, none⟩ (.int .i64 b)) q a b := by
 have h' := h
 unfold At2 at h' ⊢
 simp [World.setCell, Array.getElem?_modify, h']
theorem At2.far2 {W : World} {p q : Nat} {x y : Int} {u v : Value} (h : At2 W q x y) (hp : q ≠ p) : At2 ((W.setCell ⟨p, 0, none⟩ u).setCell ⟨p, 1, none⟩ v) q x y := (h.far hp).far hp
def Four (w : World) (a b c d x y : Int) (W : World) : Prop := Blw w.heap.size w W ∧ At2 W (w.heap.size + 1) a b ∧ At2 W (w.heap.size + 1 + 1) c d ∧ At2 W (w.heap.size + 1 + 1 + 1) x y
theorem four_start {T : TypeId} (x y : Int) (b : Bool) (w : World) : Four w 0 0 0 0 x y ((((w.alloc (.cells #[.int .i64 x, .int .i64 y, .bool b] T)).alloc (.cells #[.int .i64 0, .int .i64 0] 38)).alloc (.cells #[.int .i64 0, .int .i64 0] 38)).alloc (.cells #[.int .i64 x, .int .i64 y] 38)) := by
 have e0 : (w.alloc (.cells #[.int .i64 x, .int .i64 y, .bool b] T)).heap.size = w.heap.size + 1 := by simp
 have k1 := At2.new (w.alloc (.cells #[.int .i64 x, .int .i64 y, .bool b] T)) 0 0
 rw [e0] at k1
 have b1 := blw_alloc1 w (.cells #[.int .i64 x, .int .i64 y, .bool b] T)
 generalize w.alloc (.cells #[.int .i64 x, .int .i64 y, .bool b] T) = W0 at e0 k1 b1 ⊢
 have e1 : (W0.alloc (.cells #[.int .i64 0, .int .i64 0] 38)).heap.size = w.heap.size + 1 + 1 := by simp [e0]
 have k2 := At2.new (W0.alloc (.cells #[.int .i64 0, .int .i64 0] 38)) 0 0
 rw [e1] at k2
 have b2 := b1.trans ((blw_alloc1 W0 (.cells #[.int .i64 0, .int .i64 0] 38)).mono b1.size)
 generalize W0.alloc (.cells #[.int .i64 0, .int .i64 0] 38) = W1 at e1 k1 k2 b2 ⊢
 have e2 : (W1.alloc (.cells #[.int .i64 0, .int .i64 0] 38)).heap.size = w.heap.size + 1 + 1 + 1 := by simp [e1]
 have k3 := At2.new (W1.alloc (.cells #[.int .i64 0, .int .i64 0] 38)) x y
 rw [e2] at k3
 have b3 := b2.trans ((blw_alloc1 W1 (.cells #[.int .i64 0, .int .i64 0] 38)).mono b2.size)
 have b4 := b3.trans ((blw_alloc1 _ (.cells #[.int .i64 x, .int .i64 y] 38)).mono b3.size)
 exact ⟨b4, (k1.on (blw_alloc1 _ _)).on (blw_alloc1 _ _), k2.on (blw_alloc1 _ _), k3⟩
section
variable {w W W' : World} {a b c d x y : Int}
theorem Four.drew (h : Four w a b c d x y W) : Four w a b c d x y W.drew := ⟨h.1.drew, h.2⟩
theorem Four.on (h : Four w a b c d x y W) (hb : Blw W.heap.size W W') : Four w a b c d x y W' := ⟨h.1.trans (hb.mono h.1.size), h.2.1.on hb, h.2.2.1.on hb, h.2.2.2.on hb⟩
theorem Four.put1 (h : Four w a b c d x y W) (a' b' : Int) : Four w a' b' c d x y ((W.setCell ⟨w.heap.size + 1, 0, none⟩ (.int .i64 a')).setCell ⟨w.heap.size + 1, 1, none⟩ (.int .i64 b')) :=
 ⟨(h.1.setCell (p := ⟨w.heap.size + 1, 0, none⟩) (by show w.heap.size ≤ w.heap.size + 1; omega) _).setCell (p := ⟨w.heap.size + 1, 1, none⟩) (by show w.heap.size ≤ w.heap.size + 1; omega) _, h.2.1.put, h.2.2.1.far2 (by omega), h.2.2.2.far2 (by omega)⟩
theorem Four.put2 (h : Four w a b c d x y W) (c' d' : Int) : Four w a b c' d' x y ((W.setCell ⟨w.heap.size + 1 + 1, 0, none⟩ (.int .i64 c')).setCell ⟨w.heap.size + 1 + 1, 1, none⟩ (.int .i64 d')) :=
 ⟨(h.1.setCell (p := ⟨w.heap.size + 1 + 1, 0, none⟩) (by show w.heap.size ≤ w.heap.size + 1 + 1; omega) _).setCell (p := ⟨w.heap.size + 1 + 1, 1, none⟩) (by show w.heap.size ≤ w.heap.size + 1 + 1; omega) _, h.2.1.far2 (by omega), h.2.2.1.put, h.2.2.2.far2 (by omega)⟩
end
theorem movedDown (x y : Int) (hx : Sm x) (w : World) :
  Calls Try.prog 83 #[.agg #[.int .i64 x, .int .i64 y], .int .i64 0, .int .i64 1] w (Cel x (wrap64 (y + 1)) w) := by
 have := moved x y 0 1 w
 rwa [wrap0 hx] at this
theorem movedRight (x y : Int) (hy : Sm y) (w : World) :
  Calls Try.prog 83 #[.agg #[.int .i64 x, .int .i64 y], .int .i64 1, .int .i64 0] w (Cel (wrap64 (x + 1)) y w) := by
 have := moved x y 1 0 w
 rwa [wrap0 hy] at this
set_option maxHeartbeats 400000 in
theorem iCells (x y : Int) (b : Bool) (hx : Sm x) (hy : Sm y) (w : World) :
  Calls Try.prog 86 #[.agg #[.int .i64 x, .int .i64 y, .bool b]] w (Cel2 x y (sx x b) (sy y b) w) := by
 have F0 := Lib.hid (fun T => four_start (T := T) x y b w)
 cases b with
 | true =>
  go_enter Try.func86, Try.ntmps86
  go_wp2_with fail
  have F1 := F0.out 41
  generalize World.alloc _ (.cells #[.int .i64 x, .int .i64 y] 38) = W at F1 ⊢
  clear F0
  refine wp_region_noPanic ?_
  refine wp_region_held_drew (S := (fun w' => w'.cell? ⟨w.heap.size + 1 + 1 + 1, 0, none⟩ = some (.int .i64 x) ∧ w'.cell? ⟨w.heap.size + 1 + 1 + 1, 1, none⟩ = some (.int .i64 y))) (by kernel_rfl) (⟨F1.drew.2.2.2.c0, F1.drew.2.2.2.c1⟩) (fun hHeld => ?_)
  refine wpAnyH_take (i := 0) (v := ?_) rfl (by kernel_rfl) (by kernel_rfl) (by kernel_rfl) (fun _ _ _ h => h) (Or.inl ⟨by rfl, ?_⟩) (by assumption) ?_
  rotate_left
  ·(intro w' hS; (try dsimp only at hS); go_simp; try with_reducible rfl)
  try simp only [Act.put, List.getElem_toArray, List.getElem_cons_succ, List.getElem_cons_zero, List.setIfInBounds_toArray, List.set_cons_zero, List.set_cons_succ]
  refine wpAnyH_take (i := 1) (v := ?_) rfl (by kernel_rfl) (by kernel_rfl) (by kernel_rfl) (fun _ _ _ h => h) (Or.inl ⟨by rfl, ?_⟩) (by assumption) ?_
  rotate_left
  ·(intro w' hS; (try dsimp only at hS); go_simp; try with_reducible rfl)
  try simp only [Act.put, List.getElem_toArray, List.getElem_cons_succ, List.getElem_cons_zero, List.setIfInBounds_toArray, List.set_cons_zero, List.set_cons_succ]
  refine wpAnyH_ready (rs := [2]) (by kernel_rfl) (by simp) ?_
  refine AllReadyH.cons rfl (fun K hK => ?_) AllReadyH.nil
  go_simp
  refine (movedDown _ _ (by assumption) _).mono ?_
  rintro e wx ⟨rfl, hbx⟩
  have F2 := F1.drew.on hbx
  clear F1 hbx hHeld
  go_wp2_with fail
  refine hK.out _ _ (⟨F2.2.2.2.c0, F2.2.2.2.c1⟩) (fun hHeld => ?_)
  clear hK K
  try simp only [Act.put, List.getElem_toArray, List.getElem_cons_succ, List.getElem_cons_zero, List.setIfInBounds_toArray, List.set_cons_zero, List.set_cons_succ]
  refine wpAnyH_ready (rs := [3]) (by kernel_rfl) (by simp) ?_
  refine AllReadyH.cons rfl (fun K hK => ?_) AllReadyH.nil
  have d0 := F2.2.1.c0
  have d1 := F2.2.1.c1
  have d2 := F2.2.1.f0
  have d3 := F2.2.1.f1
  have F3 := F2.put1 x y
  clear F2
  go_simp
  refine hK.out _ _ (⟨F3.2.2.2.c0, F3.2.2.2.c1⟩) (fun hHeld => ?_)
  clear hK K
  try simp only [Act.put, List.getElem_toArray, List.getElem_cons_succ, List.getElem_cons_zero, List.setIfInBounds_toArray, List.set_cons_zero, List.set_cons_succ]
  refine wpAnyH_ready (rs := [4]) (by kernel_rfl) (by simp) ?_
  refine AllReadyH.cons rfl (fun K hK => ?_) AllReadyH.nil
  have d0 := F3.2.2.1.c0
  have d1 := F3.2.2.1.c1
  have d2 := F3.2.2.1.f0
  have d3 := F3.2.2.1.f1
  have F4 := F3.put2 x (wrap64 (y + 1))
  clear F3
  go_simp
  refine hK.out _ _ (⟨F4.2.2.2.c0, F4.2.2.2.c1⟩) (fun hHeld => ?_)
  clear hK K
  try simp only [Act.put, List.getElem_toArray, List.getElem_cons_succ, List.getElem_cons_zero, List.setIfInBounds_toArray, List.set_cons_zero, List.set_cons_succ]
  refine wpAnyH_done (by kernel_rfl) ?_ _
  refine NoPanic.normal ?_
  generalize World.setCell _ _ _ = W4 at F4 ⊢
  have c0 := F4.2.1.c0
  have c1 := F4.2.1.c1
  have c2 := F4.2.2.1.c0
  have c3 := F4.2.2.1.c1
  go_wp2
  refine bodyPost_ret (v := .tuple #[.agg #[.int .i64 x, .int .i64 y], .agg #[.int .i64 x, .int .i64 (wrap64 (y + 1))]]) ?_ rfl (mkCel2 rfl rfl rfl rfl F4.1)
  simp [results, Try.results86, go_sem, c0, c1, c2, c3]
 | false =>
  go_enter Try.func86, Try.ntmps86
  go_wp2_with fail
  have F1 := F0.out 41
  generalize World.alloc _ (.cells #[.int .i64 x, .int .i64 y] 38) = W at F1 ⊢
  clear F0
  refine wp_region_noPanic ?_
  refine wp_region_held_drew (S := (fun w' => w'.cell? ⟨w.heap.size + 1 + 1 + 1, 0, none⟩ = some (.int .i64 x) ∧ w'.cell? ⟨w.heap.size + 1 + 1 + 1, 1, none⟩ = some (.int .i64 y))) (by kernel_rfl) (⟨F1.drew.2.2.2.c0, F1.drew.2.2.2.c1⟩) (fun hHeld => ?_)
  refine wpAnyH_take (i := 0) (v := ?_) rfl (by kernel_rfl) (by kernel_rfl) (by kernel_rfl) (fun _ _ _ h => h) (Or.inl ⟨by rfl, ?_⟩) (by assumption) ?_
  rotate_left
  ·(intro w' hS; (try dsimp only at hS); go_simp; try with_reducible rfl)
  try simp only [Act.put, List.getElem_toArray, List.getElem_cons_succ, List.getElem_cons_zero, List.setIfInBounds_toArray, List.set_cons_zero, List.set_cons_succ]
  refine wpAnyH_take (i := 1) (v := ?_) rfl (by kernel_rfl) (by kernel_rfl) (by kernel_rfl) (fun _ _ _ h => h) (Or.inl ⟨by rfl, ?_⟩) (by assumption) ?_
  rotate_left
  ·(intro w' hS; (try dsimp only at hS); go_simp; try with_reducible rfl)
  try simp only [Act.put, List.getElem_toArray, List.getElem_cons_succ, List.getElem_cons_zero, List.setIfInBounds_toArray, List.set_cons_zero, List.set_cons_succ]
  refine wpAnyH_ready (rs := [2]) (by kernel_rfl) (by simp) ?_
  refine AllReadyH.cons rfl (fun K hK => ?_) AllReadyH.nil
  go_simp
  refine (movedRight _ _ (by assumption) _).mono ?_
  rintro e wx ⟨rfl, hbx⟩
  have F2 := F1.drew.on hbx
  clear F1 hbx hHeld
  go_wp2_with fail
  refine hK.out _ _ (⟨F2.2.2.2.c0, F2.2.2.2.c1⟩) (fun hHeld => ?_)
  clear hK K
  try simp only [Act.put, List.getElem_toArray, List.getElem_cons_succ, List.getElem_cons_zero, List.setIfInBounds_toArray, List.set_cons_zero, List.set_cons_succ]
  refine wpAnyH_ready (rs := [3]) (by kernel_rfl) (by simp) ?_
  refine AllReadyH.cons rfl (fun K hK => ?_) AllReadyH.nil
  have d0 := F2.2.1.c0
  have d1 := F2.2.1.c1
  have d2 := F2.2.1.f0
  have d3 := F2.2.1.f1
  have F3 := F2.put1 x y
  clear F2
  go_simp
  refine hK.out _ _ (⟨F3.2.2.2.c0, F3.2.2.2.c1⟩) (fun hHeld => ?_)
  clear hK K
  try simp only [Act.put, List.getElem_toArray, List.getElem_cons_succ, List.getElem_cons_zero, List.setIfInBounds_toArray, List.set_cons_zero, List.set_cons_succ]
  refine wpAnyH_ready (rs := [4]) (by kernel_rfl) (by simp) ?_
  refine AllReadyH.cons rfl (fun K hK => ?_) AllReadyH.nil
  have d0 := F3.2.2.1.c0
  have d1 := F3.2.2.1.c1
  have d2 := F3.2.2.1.f0
  have d3 := F3.2.2.1.f1
  have F4 := F3.put2 (wrap64 (x + 1)) y
  clear F3
  go_simp
  refine hK.out _ _ (⟨F4.2.2.2.c0, F4.2.2.2.c1⟩) (fun hHeld => ?_)
  clear hK K
  try simp only [Act.put, List.getElem_toArray, List.getElem_cons_succ, List.getElem_cons_zero, List.setIfInBounds_toArray, List.set_cons_zero, List.set_cons_succ]
  refine wpAnyH_done (by kernel_rfl) ?_ _
  refine NoPanic.normal ?_
  generalize World.setCell _ _ _ = W4 at F4 ⊢
  have c0 := F4.2.1.c0
  have c1 := F4.2.1.c1
  have c2 := F4.2.2.1.c0
  have c3 := F4.2.2.1.c1
  go_wp2
  refine bodyPost_ret (v := .tuple #[.agg #[.int .i64 x, .int .i64 y], .agg #[.int .i64 (wrap64 (x + 1)), .int .i64 y]]) ?_ rfl (mkCel2 rfl rfl rfl rfl F4.1)
  simp [results, Try.results86, go_sem, c0, c1, c2, c3]
def At3 (T : TypeId) (W : World) (q : Nat) (x y : Int) (b : Bool) : Prop := W.heap[q]? = some (.cells #[.int .i64 x, .int .i64 y, .bool b] T)
section
variable {T : TypeId} {W W' : World} {q : Nat} {x y : Int} {b : Bool}
theorem At3.on (h : At3 T W q x y b) (hb : Blw W.heap.size W W') : At3 T W' q x y b := (hb.block q (Array.getElem?_eq_some_iff.1 h).1).trans h
theorem At3.c0 (h : At3 T W q x y b) : W.cell? ⟨q, 0, none⟩ = some (.int .i64 x) := (cell_of_row _ _ 0 _ _ _ h).trans rfl
theorem At3.c1 (h : At3 T W q x y b) : W.cell? ⟨q, 1, none⟩ = some (.int .i64 y) := (cell_of_row _ _ 1 _ _ _ h).trans rfl
theorem At3.c2 (h : At3 T W q x y b) : W.cell? ⟨q, 2, none⟩ = some (.bool b) := (cell_of_row _ _ 2 _ _ _ h).trans rfl
theorem At3.lt (h : At3 T W q x y b) : q < W.heap.size := (Array.getElem?_eq_some_iff.1 h).1
theorem At3.new (T : TypeId) (W : World) (x y : Int) (b : Bool) : At3 T (W.alloc (.cells #[.int .i64 x, .int .i64 y, .bool b] T)) W.heap.size x y b := heap_alloc_new W _
end
theorem bx3 {T : TypeId} (x y : Int) (b : Bool) (w w1 : World) (h : Blw (w.alloc (.cells #[.int .i64 x, .int .i64 y, .bool b] T)).heap.size (w.alloc (.cells #[.int .i64 x, .int .i64 y, .bool b] T)) w1) : Blw w.heap.size w w1 ∧ At3 T w1 w.heap.size x y b :=
 ⟨(blw_alloc1 w _).trans (h.mono (by simp)), (At3.new T w x y b).on h⟩
theorem at2_two (W : World) (x y u v : Int) :
  At2 ((W.alloc (.cells #[.int .i64 x, .int .i64 y] 38)).alloc (.cells #[.int .i64 u, .int .i64 v] 38)) W.heap.size x y ∧
  At2 ((W.alloc (.cells #[.int .i64 x, .int .i64 y] 38)).alloc (.cells #[.int .i64 u, .int .i64 v] 38)) (W.heap.size + 1) u v ∧
  Blw W.heap.size W ((W.alloc (.cells #[.int .i64 x, .int .i64 y] 38)).alloc (.cells #[.int .i64 u, .int .i64 v] 38)) := by
 have e0 : (W.alloc (.cells #[.int .i64 x, .int .i64 y] 38)).heap.size = W.heap.size + 1 := by simp
 have k1 := At2.new (W.alloc (.cells #[.int .i64 x, .int .i64 y] 38)) u v
 rw [e0] at k1
 exact ⟨(At2.new W x y).on (blw_alloc1 _ _), k1, blw_alloc2 W _ _⟩
set_option maxHeartbeats 400000 in
theorem iDominoOk (x y : Int) (b : Bool) (hx : Sm x) (hy : Sm y) (w : World) :
  Calls Try.prog 95 #[.agg #[.int .i64 x, .int .i64 y, .bool b]] w (Bol (domB x y b) w) := by
 have HC := Lib.hid (fun W => iCells x y b hx hy W)
 have HV1 := Lib.hid (fun W => isValid x y W)
 have HD := Lib.hid (show domB x y b = (okB x y && okB (sx x b) (sy y b)) from rfl)
 generalize sx x b = u at HC HD
 generalize sy y b = v at HC HD
 have HV2 := Lib.hid (fun W => isValid u v W)
 generalize okB x y = p at HV1 HD
 generalize okB u v = q at HV2 HD
 generalize domB x y b = d at HD ⊢
 clear hx hy
 go_enter Try.func95, Try.ntmps95
 go_wp2_with fail
 refine (HC.out _).mono ?_
 rintro e w1 ⟨rfl, hb1⟩
 have hb := (blw_alloc1 w (.cells #[.int .i64 x, .int .i64 y, .bool b] 41)).trans (hb1.mono (by simp))
 clear hb1 HC
 go_wp2_with fail
 refine (HV1.out _).mono ?_
 rintro e w2 ⟨rfl, hb2⟩
 obtain ⟨k1, k2, k3⟩ := at2_two w1 x y u v
 have hB := hb.trans ((k3.trans (hb2.mono k3.size)).mono hb.size)
 have K2 := k2.on hb2
 have c0 := K2.c0
 have c1 := K2.c1
 clear k1 k2 k3 hb hb2 K2 HV1
 cases p with
 | false =>
  go_wp2
  go_ret
  exact mkBol (by rw [HD.out]; rfl) hB
 | true =>
  go_wp2_with fail
  refine (HV2.out _).mono ?_
  rintro e w3 ⟨rfl, hb3⟩
  go_wp2
  go_ret
  exact mkBol (by rw [HD.out]; rfl) (hB.trans (hb3.mono hB.size))
theorem bx33 {T T' : TypeId} (x y : Int) (b : Bool) (u v : Int) (c : Bool) (w w1 : World) (h : Blw ((w.alloc (.cells #[.int .i64 x, .int .i64 y, .bool b] T)).alloc (.cells #[.int .i64 u, .int .i64 v, .bool c] T')).heap.size ((w.alloc (.cells #[.int .i64 x, .int .i64 y, .bool b] T)).alloc (.cells #[.int .i64 u, .int .i64 v, .bool c] T')) w1) :
  Blw w.heap.size w w1 ∧ At3 T w1 w.heap.size x y b ∧ At3 T' w1 (w.heap.size + 1) u v c := by
 have e0 : (w.alloc (.cells #[.int .i64 x, .int .i64 y, .bool b] T)).heap.size = w.heap.size + 1 := by simp
 have k1 := At3.new T' (w.alloc (.cells #[.int .i64 x, .int .i64 y, .bool b] T)) u v c
 rw [e0] at k1
 exact ⟨(blw_alloc2 w _ _).trans (h.mono (by simp; omega)), ((At3.new T w x y b).on (blw_alloc1 _ _)).on h, k1.on h⟩
set_option maxHeartbeats 1000000 in
theorem iIsBefore (x y : Int) (b : Bool) (u v : Int) (c : Bool) (hx : Sm x) (hy : Sm y) (hu : Sm u) (hv : Sm v) (w : World) :
  Calls Try.prog 107 #[.agg #[.int .i64 x, .int .i64 y, .bool b], .agg #[.int .i64 u, .int .i64 v, .bool c]] w (Bol (befB x y b u v c) w) := by
 have HO1 := Lib.hid (fun W => iDominoOk x y b hx hy W)
 have HO2 := Lib.hid (fun W => iDominoOk u v c hu hv W)
 have HC1 := Lib.hid (fun W => iCells x y b hx hy W)
 have HC2 := Lib.hid (fun W => iCells u v c hu hv W)
 have HB := Lib.hid (show befB x y b u v c = (domB x y b && domB u v c && befP x y b u v c) from rfl)
 have HK1 := Lib.hid (fun (h : domB x y b = true) => dom_ok h)
 have HK2 := Lib.hid (fun (h : domB u v c = true) => dom_ok h)
 generalize befB x y b u v c = r at HB ⊢
 generalize sx x b = m at HC1
 generalize sy y b = n at HC1
 generalize sx u c = s at HC2
 generalize sy v c = t at HC2
 generalize domB x y b = p at HO1 HB HK1
 generalize domB u v c = q at HO2 HB HK2
 clear hx hy hu hv
 go_enter Try.func107, Try.ntmps107
 go_wp2_with fail
 refine (HO1.out _).mono ?_
 rintro e w1 ⟨rfl, hb1⟩
 obtain ⟨hb, K1, K2⟩ := bx33 x y b u v c w w1 hb1
 have c0 := K1.c0
 have c1 := K1.c1
 have c2 := K1.c2
 have d0 := K2.c0
 have d1 := K2.c1
 have d2 := K2.c2
 clear hb1 HO1
 cases p with
 | false =>
  go_wp2
  go_ret
  exact mkBol (by rw [HB.out]; rfl) hb
 | true =>
  go_wp2_with fail
  refine (HO2.out _).mono ?_
  rintro e w2 ⟨rfl, hb2⟩
  have hb' := hb.trans (hb2.mono hb.size)
  have K1 := K1.on hb2
  have K2 := K2.on hb2
  clear hb hb2 c0 c1 c2 d0 d1 d2 HO2
  have c0 := K1.c0
  have c1 := K1.c1
  have c2 := K1.c2
  cases q with
  | false =>
   go_wp2
   go_ret
   exact mkBol (by rw [HB.out]; rfl) hb'
  | true =>
   have HN1 := Lib.hid (index_of (HK1.out (by trivial)))
   have HN2 := Lib.hid (index_of (HK2.out (by trivial)))
   go_wp2_with fail
   refine (HC1.out _).mono ?_
   rintro e w3 ⟨rfl, hb3⟩
   have hB := hb'.trans (hb3.mono hb'.size)
   have K1 := K1.on hb3
   have K2 := K2.on hb3
   clear hb' hb3 c0 c1 c2 HC1
   go_upto_region 4 with fail
   obtain ⟨k1, k2, k3⟩ := at2_two w3 x y m n
   have hB := hB.trans (k3.mono hB.size)
   have K1 := K1.on k3
   have K2 := K2.on k3
   generalize (w3.alloc (.cells #[.int .i64 x, .int .i64 y] 38)).alloc (.cells #[.int .i64 m, .int .i64 n] 38) = W at k1 k2 K1 K2 hB ⊢
   have d0 := K2.c0
   have d1 := K2.c1
   have d2 := K2.c2
   clear k2 k3
   go_wp2_with fail
   refine (HC2.out _).mono ?_
   rintro e w4 ⟨rfl, hb4⟩
   have hB := hB.trans (hb4.mono hB.size)
   have k1 := k1.on hb4
   have K1 := K1.on hb4
   have K2 := K2.on hb4
   clear d0 d1 d2 hb4 HC2
   go_upto_region 5 with fail
   obtain ⟨j1, j2, j3⟩ := at2_two w4 u v s t
   have hB := hB.trans (j3.mono hB.size)
   have k1 := k1.on j3
   have K1 := K1.on j3
   have K2 := K2.on j3
   generalize (w4.alloc (.cells #[.int .i64 u, .int .i64 v] 38)).alloc (.cells #[.int .i64 s, .int .i64 t] 38) = W5 at k1 K1 K2 j1 j2 hB ⊢
   clear j2 j3
   have c0 := k1.c0
   have c1 := k1.c1
   have d0 := j1.c0
   have d1 := j1.c1
   by_cases he : x = u ∧ y = v
   ·obtain ⟨rfl, rfl⟩ := he
    have e0 := K1.c0
    have e1 := K1.c1
    have e2 := K1.c2
    have f0 := K2.c0
    have f1 := K2.c1
    have f2 := K2.c2
    have HH := Lib.hid (fun z (h : z = (!b && c)) => mkBol (v := z) (b := r) (by rw [Bool.eq_iff_iff, h, HB.out, Bool.true_and, Bool.true_and, befP_iff]; simp) hB)
    clear HB hB K1 K2 k1 j1 HN1 HN2 HK1 HK2
    cases b <;> cases c
    all_goals
     go_wp2
     go_ret
     exact HH.out _ rfl
   ·have HH := Lib.hid (fun W' z (h : z = decide (indexN x y < indexN u v)) (hb : Blw w.heap.size w W') => mkBol (v := z) (b := r) (W := W') (by
     obtain ⟨x0, x7, y0, y7⟩ := HK1.out (by trivial)
     obtain ⟨u0, u7, v0, v7⟩ := HK2.out (by trivial)
     rw [Bool.eq_iff_iff, h, HB.out, Bool.true_and, Bool.true_and, befP_iff, HN1.out, HN2.out]; simp; omega) hb)
    have HI1 := Lib.hid (fun W => iCellIndex x y W)
    have HI2 := Lib.hid (fun W => iCellIndex u v W)
    generalize indexN x y = i1 at HI1 HH
    generalize indexN u v = i2 at HI2 HH
    clear HB K1 K2 HN1 HN2 HK1 HK2
    by_cases hxu : x = u
    ·subst hxu
     have hyv : ¬ y = v := fun h => he ⟨rfl, h⟩
     clear he
     go_upto_region 6 with fail
     have hlt1 := k1.lt
     have hlt2 := j1.lt
     refine wp_region_noPanic ?_
     refine wp_region_held_drew (S := (fun w' => w'.cell? ⟨w3.heap.size, 0, none⟩ = some (.int .i64 x) ∧ w'.cell? ⟨w3.heap.size, 1, none⟩ = some (.int .i64 y) ∧ w'.cell? ⟨w4.heap.size, 0, none⟩ = some (.int .i64 x) ∧ w'.cell? ⟨w4.heap.size, 1, none⟩ = some (.int .i64 v))) (by kernel_rfl) (⟨c0, c1, d0, d1⟩) (fun hHeld => ?_)
     refine wpAnyH_take (i := 0) (v := ?_) rfl (by kernel_rfl) (by kernel_rfl) (by kernel_rfl) (fun _ _ _ h => h) (Or.inl ⟨by rfl, ?_⟩) (by assumption) ?_
     rotate_left
     ·(intro w' hS; (try dsimp only at hS); go_simp; try with_reducible rfl)
     try simp only [Act.put, List.getElem_toArray, List.getElem_cons_succ, List.getElem_cons_zero, List.setIfInBounds_toArray, List.set_cons_zero, List.set_cons_succ]
     refine wpAnyH_take (i := 2) (v := ?_) rfl (by kernel_rfl) (by kernel_rfl) (by kernel_rfl) (fun _ _ _ h => h) (Or.inl ⟨by rfl, ?_⟩) (by assumption) ?_
     rotate_left
     ·(intro w' hS; (try dsimp only at hS); go_simp; try with_reducible rfl)
     try simp only [Act.put, List.getElem_toArray, List.getElem_cons_succ, List.getElem_cons_zero, List.setIfInBounds_toArray, List.set_cons_zero, List.set_cons_succ]
     refine wpAnyH_ready (rs := [1]) (by kernel_rfl) (by simp) ?_
     refine AllReadyH.cons rfl (fun K hK => ?_) AllReadyH.nil
     go_simp
     refine (HI1.out _).mono ?_
     rintro e wx ⟨rfl, hb6⟩
     have hB6 := hB.drew.trans (hb6.mono hB.size)
     have k6 := (show At2 W5.drew _ _ _ from k1).on hb6
     have j6 := (show At2 W5.drew _ _ _ from j1).on hb6
     go_wp2_with fail
     refine hK.out _ _ (⟨k6.c0, k6.c1, j6.c0, j6.c1⟩) (fun hHeld => ?_)
     clear hK K
     try simp only [Act.put, List.getElem_toArray, List.getElem_cons_succ, List.getElem_cons_zero, List.setIfInBounds_toArray, List.set_cons_zero, List.set_cons_succ]
     refine wpAnyH_ready (rs := [3]) (by kernel_rfl) (by simp) ?_
     refine AllReadyH.cons rfl (fun K hK => ?_) AllReadyH.nil
     go_simp
     refine (HI2.out _).mono ?_
     rintro e wx ⟨rfl, hb7⟩
     have hB7 := hB6.trans (hb7.mono hB6.size)
     go_wp2_with fail
     refine hK.out _ _ (⟨(k6.on hb7).c0, (k6.on hb7).c1, (j6.on hb7).c0, (j6.on hb7).c1⟩) (fun hHeld => ?_)
     clear hK K
     try simp only [Act.put, List.getElem_toArray, List.getElem_cons_succ, List.getElem_cons_zero, List.setIfInBounds_toArray, List.set_cons_zero, List.set_cons_succ]
     refine wpAnyH_take (i := 4) (v := ?_) rfl (by kernel_rfl) (by kernel_rfl) (by kernel_rfl) (fun _ _ _ h => h) (Or.inl ⟨by rfl, ?_⟩) (by assumption) ?_
     rotate_left
     ·(intro w' hS; (try dsimp only at hS); go_simp; try with_reducible rfl)
     try simp only [Act.put, List.getElem_toArray, List.getElem_cons_succ, List.getElem_cons_zero, List.setIfInBounds_toArray, List.set_cons_zero, List.set_cons_succ]
     refine wpAnyH_take (i := 5) (v := ?_) rfl (by kernel_rfl) (by kernel_rfl) (by kernel_rfl) (fun _ _ _ h => h) (Or.inl ⟨by rfl, ?_⟩) (by assumption) ?_
     rotate_left
     ·(intro w' hS; (try dsimp only at hS); go_simp; try with_reducible rfl)
     try simp only [Act.put, List.getElem_toArray, List.getElem_cons_succ, List.getElem_cons_zero, List.setIfInBounds_toArray, List.set_cons_zero, List.set_cons_succ]
     refine wpAnyH_done (by kernel_rfl) ?_ _
     refine NoPanic.normal ?_
     go_wp2
     go_ret
     exact HH.out _ _ rfl hB7
    ·clear he
     go_upto_region 6 with fail
     have hlt1 := k1.lt
     have hlt2 := j1.lt
     refine wp_region_noPanic ?_
     refine wp_region_held_drew (S := (fun w' => w'.cell? ⟨w3.heap.size, 0, none⟩ = some (.int .i64 x) ∧ w'.cell? ⟨w3.heap.size, 1, none⟩ = some (.int .i64 y) ∧ w'.cell? ⟨w4.heap.size, 0, none⟩ = some (.int .i64 u) ∧ w'.cell? ⟨w4.heap.size, 1, none⟩ = some (.int .i64 v))) (by kernel_rfl) (⟨c0, c1, d0, d1⟩) (fun hHeld => ?_)
     refine wpAnyH_take (i := 0) (v := ?_) rfl (by kernel_rfl) (by kernel_rfl) (by kernel_rfl) (fun _ _ _ h => h) (Or.inl ⟨by rfl, ?_⟩) (by assumption) ?_
     rotate_left
     ·(intro w' hS; (try dsimp only at hS); go_simp; try with_reducible rfl)
     try simp only [Act.put, List.getElem_toArray, List.getElem_cons_succ, List.getElem_cons_zero, List.setIfInBounds_toArray, List.set_cons_zero, List.set_cons_succ]
     refine wpAnyH_take (i := 2) (v := ?_) rfl (by kernel_rfl) (by kernel_rfl) (by kernel_rfl) (fun _ _ _ h => h) (Or.inl ⟨by rfl, ?_⟩) (by assumption) ?_
     rotate_left
     ·(intro w' hS; (try dsimp only at hS); go_simp; try with_reducible rfl)
     try simp only [Act.put, List.getElem_toArray, List.getElem_cons_succ, List.getElem_cons_zero, List.setIfInBounds_toArray, List.set_cons_zero, List.set_cons_succ]
     refine wpAnyH_ready (rs := [1]) (by kernel_rfl) (by simp) ?_
     refine AllReadyH.cons rfl (fun K hK => ?_) AllReadyH.nil
     go_simp
     refine (HI1.out _).mono ?_
     rintro e wx ⟨rfl, hb6⟩
     have hB6 := hB.drew.trans (hb6.mono hB.size)
     have k6 := (show At2 W5.drew _ _ _ from k1).on hb6
     have j6 := (show At2 W5.drew _ _ _ from j1).on hb6
     go_wp2_with fail
     refine hK.out _ _ (⟨k6.c0, k6.c1, j6.c0, j6.c1⟩) (fun hHeld => ?_)
     clear hK K
     try simp only [Act.put, List.getElem_toArray, List.getElem_cons_succ, List.getElem_cons_zero, List.setIfInBounds_toArray, List.set_cons_zero, List.set_cons_succ]
     refine wpAnyH_ready (rs := [3]) (by kernel_rfl) (by simp) ?_
     refine AllReadyH.cons rfl (fun K hK => ?_) AllReadyH.nil
     go_simp
     refine (HI2.out _).mono ?_
     rintro e wx ⟨rfl, hb7⟩
     have hB7 := hB6.trans (hb7.mono hB6.size)
     go_wp2_with fail
     refine hK.out _ _ (⟨(k6.on hb7).c0, (k6.on hb7).c1, (j6.on hb7).c0, (j6.on hb7).c1⟩) (fun hHeld => ?_)
     clear hK K
     try simp only [Act.put, List.getElem_toArray, List.getElem_cons_succ, List.getElem_cons_zero, List.setIfInBounds_toArray, List.set_cons_zero, List.set_cons_succ]
     refine wpAnyH_take (i := 4) (v := ?_) rfl (by kernel_rfl) (by kernel_rfl) (by kernel_rfl) (fun _ _ _ h => h) (Or.inl ⟨by rfl, ?_⟩) (by assumption) ?_
     rotate_left
     ·(intro w' hS; (try dsimp only at hS); go_simp; try with_reducible rfl)
     try simp only [Act.put, List.getElem_toArray, List.getElem_cons_succ, List.getElem_cons_zero, List.setIfInBounds_toArray, List.set_cons_zero, List.set_cons_succ]
     refine wpAnyH_take (i := 5) (v := ?_) rfl (by kernel_rfl) (by kernel_rfl) (by kernel_rfl) (fun _ _ _ h => h) (Or.inl ⟨by rfl, ?_⟩) (by assumption) ?_
     rotate_left
     ·(intro w' hS; (try dsimp only at hS); go_simp; try with_reducible rfl)
     try simp only [Act.put, List.getElem_toArray, List.getElem_cons_succ, List.getElem_cons_zero, List.setIfInBounds_toArray, List.set_cons_zero, List.set_cons_succ]
     refine wpAnyH_done (by kernel_rfl) ?_ _
     refine NoPanic.normal ?_
     go_wp2
     go_ret
     exact HH.out _ _ rfl hB7

def cmpB (p q : Bool) : Int := if p then -1 else if q then 1 else 0

set_option maxHeartbeats 1000000 in
theorem iCompare (x y : Int) (b : Bool) (u v : Int) (c : Bool) (hx : Sm x) (hy : Sm y) (hu : Sm u) (hv : Sm v) (w : World) :
  Calls Try.prog 100 #[.agg #[.int .i64 x, .int .i64 y, .bool b], .agg #[.int .i64 u, .int .i64 v, .bool c]] w (Num (cmpB (befB x y b u v c) (befB u v c x y b)) w) := by
 have HI1 := Lib.hid (fun W => iIsBefore x y b u v c hx hy hu hv W)
 have HI2 := Lib.hid (fun W => iIsBefore u v c x y b hu hv hx hy W)
 have HB := Lib.hid (fun W h => bx33 (T := 41) (T' := 41) x y b u v c w W h)
 generalize befB x y b u v c = p at HI1 ⊢
 generalize befB u v c x y b = q at HI2 ⊢
 clear hx hy hu hv
 go_enter Try.func100, Try.ntmps100
 go_wp2_with fail
 refine (HI1.out _).mono ?_
 rintro e w1 ⟨rfl, hb1⟩
 obtain ⟨hb, K1, K2⟩ := HB.out w1 hb1
 clear hb1 HI1 HB
 cases p with
 | true =>
  go_wp2
  go_ret
  exact ⟨rfl, hb⟩
 | false =>
  have c0 := K1.c0
  have c1 := K1.c1
  have c2 := K1.c2
  have d0 := K2.c0
  have d1 := K2.c1
  have d2 := K2.c2
  go_wp2_with fail
  refine (HI2.out _).mono ?_
  rintro e w2 ⟨rfl, hb2⟩
  have hb := hb.trans (hb2.mono hb.size)
  clear hb2 HI2 K1 K2 c0 c1 c2 d0 d1 d2
  cases q with
  | true =>
   go_wp2
   go_ret
   exact ⟨rfl, hb⟩
  | false =>
   go_wp2
   go_ret
   exact ⟨rfl, hb⟩
end Go.Proofs.Ytjfagpmklifjlaa.Drw
