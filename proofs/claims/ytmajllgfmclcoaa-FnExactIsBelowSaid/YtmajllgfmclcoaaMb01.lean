/- Dom in one text. -/
import Derived.Test.YtmajllgfmclcoaaMb00
import Derived.Deep.RegionHeld3

namespace Go.Proofs.Ytmajllgfmclcoaa.Dom
set_option linter.unusedVariables false
set_option linter.unusedSimpArgs false
open Go.RowKit Go.Proofs.Ytmajllgfmclcoaa.Cell Go.Joins

def sx (x : Int) (b : Bool) : Int := if b then x else wrap64 (x + 1)
def sy (y : Int) (b : Bool) : Int := if b then wrap64 (y + 1) else y
def domB (x y : Int) (b : Bool) : Bool := okB x y && okB (sx x b) (sy y b)
def Sm (x : Int) : Prop := -9223372036854775808 ≤ x ∧ x ≤ 9223372036854775807
theorem wrap0 {x : Int} (h : Sm x) : wrap64 (x + 0) = x := by
 unfold Sm at h
 unfold wrap64; omega
def Cel2 (x y u v : Int) (w : World) (e : Ending) (w' : World) : Prop := e = .returned (.tuple #[.agg #[.int .i64 x, .int .i64 y], .agg #[.int .i64 u, .int .i64 v]]) ∧ Below w.heap.size w w'
theorem mkCel2 {a b c d x y u v : Int} {w W : World} (h1 : a = x) (h2 : b = y) (h3 : c = u) (h4 : d = v) (hb : Below w.heap.size w W) : Cel2 x y u v w (.returned (.tuple #[.agg #[.int .i64 a, .int .i64 b], .agg #[.int .i64 c, .int .i64 d]])) W := ⟨by rw [h1, h2, h3, h4], hb⟩

def At2 (W : World) (q : Nat) (x y : Int) : Prop := W.heap[q]? = some (.cells #[.int .i64 x, .int .i64 y] 56)
theorem At2.on {W W' : World} {q : Nat} {x y : Int} (h : At2 W q x y) (hb : Below W.heap.size W W') : At2 W' q x y := (hb.block q (Array.getElem?_eq_some_iff.1 h).1).trans h
theorem At2.c0 {W : World} {q : Nat} {x y : Int} (h : At2 W q x y) : W.cell? ⟨q, 0, none⟩ = some (.int .i64 x) := (cell_of_row _ _ 0 _ _ _ h).trans rfl
theorem At2.c1 {W : World} {q : Nat} {x y : Int} (h : At2 W q x y) : W.cell? ⟨q, 1, none⟩ = some (.int .i64 y) := (cell_of_row _ _ 1 _ _ _ h).trans rfl
theorem At2.f0 {W : World} {q : Nat} {x y : Int} (h : At2 W q x y) : W.frozen? ⟨q, 0, none⟩ = false := by have h' := h; unfold At2 at h'; simp [World.frozen?, h']
theorem At2.f1 {W : World} {q : Nat} {x y : Int} (h : At2 W q x y) : W.frozen? ⟨q, 1, none⟩ = false := by have h' := h; unfold At2 at h'; simp [World.frozen?, h']
theorem At2.lt {W : World} {q : Nat} {x y : Int} (h : At2 W q x y) : q < W.heap.size := (Array.getElem?_eq_some_iff.1 h).1
theorem At2.new (W : World) (x y : Int) : At2 (W.alloc (.cells #[.int .i64 x, .int .i64 y] 56)) W.heap.size x y := heap_alloc_new W _

theorem At2.far {W : World} {p q i : Nat} {x y : Int} {v : Value} (h : At2 W q x y) (hp : q ≠ p) : At2 (W.setCell ⟨p, i, none⟩ v) q x y := (Below.heap_setCell W ⟨p, i, none⟩ v q hp).trans h
theorem At2.put {W : World} {q : Nat} {x y a b : Int} (h : At2 W q x y) : At2 ((W.setCell ⟨q, 0, none⟩ (.int .i64 a)).setCell ⟨q, 1, none⟩ (.int .i64 b)) q a b := by
 have h' := h
 unfold At2 at h' ⊢
 simp [World.setCell, Array.getElem?_modify, h']
theorem At2.far2 {W : World} {p q : Nat} {x y : Int} {u v : Value} (h : At2 W q x y) (hp : q ≠ p) : At2 ((W.setCell ⟨p, 0, none⟩ u).setCell ⟨p, 1, none⟩ v) q x y := (h.far hp).far hp

def Four (w : World) (a b c d x y : Int) (W : World) : Prop := Below w.heap.size w W ∧ At2 W (w.heap.size + 1) a b ∧ At2 W (w.heap.size + 1 + 1) c d ∧ At2 W (w.heap.size + 1 + 1 + 1) x y
theorem four_start {T : TypeId} (x y : Int) (b : Bool) (w : World) : Four w 0 0 0 0 x y ((((w.alloc (.cells #[.int .i64 x, .int .i64 y, .bool b] T)).alloc (.cells #[.int .i64 0, .int .i64 0] 56)).alloc (.cells #[.int .i64 0, .int .i64 0] 56)).alloc (.cells #[.int .i64 x, .int .i64 y] 56)) := by
 have e0 : (w.alloc (.cells #[.int .i64 x, .int .i64 y, .bool b] T)).heap.size = w.heap.size + 1 := by simp
 have k1 := At2.new (w.alloc (.cells #[.int .i64 x, .int .i64 y, .bool b] T)) 0 0
 rw [e0] at k1
 have b1 := below_alloc1 w (.cells #[.int .i64 x, .int .i64 y, .bool b] T)
 generalize w.alloc (.cells #[.int .i64 x, .int .i64 y, .bool b] T) = W0 at e0 k1 b1 ⊢
 have e1 : (W0.alloc (.cells #[.int .i64 0, .int .i64 0] 56)).heap.size = w.heap.size + 1 + 1 := by simp [e0]
 have k2 := At2.new (W0.alloc (.cells #[.int .i64 0, .int .i64 0] 56)) 0 0
 rw [e1] at k2
 have b2 := b1.trans ((below_alloc1 W0 (.cells #[.int .i64 0, .int .i64 0] 56)).mono b1.size)
 generalize W0.alloc (.cells #[.int .i64 0, .int .i64 0] 56) = W1 at e1 k1 k2 b2 ⊢
 have e2 : (W1.alloc (.cells #[.int .i64 0, .int .i64 0] 56)).heap.size = w.heap.size + 1 + 1 + 1 := by simp [e1]
 have k3 := At2.new (W1.alloc (.cells #[.int .i64 0, .int .i64 0] 56)) x y
 rw [e2] at k3
 have b3 := b2.trans ((below_alloc1 W1 (.cells #[.int .i64 0, .int .i64 0] 56)).mono b2.size)
 have b4 := b3.trans ((below_alloc1 _ (.cells #[.int .i64 x, .int .i64 y] 56)).mono b3.size)
 exact ⟨b4, (k1.on (below_alloc1 _ _)).on (below_alloc1 _ _), k2.on (below_alloc1 _ _), k3⟩
section
variable {w W W' : World} {a b c d x y : Int}
theorem Four.drew (h : Four w a b c d x y W) : Four w a b c d x y W.drew := ⟨h.1.drew, h.2⟩
theorem Four.on (h : Four w a b c d x y W) (hb : Below W.heap.size W W') : Four w a b c d x y W' := ⟨h.1.trans (hb.mono h.1.size), h.2.1.on hb, h.2.2.1.on hb, h.2.2.2.on hb⟩
theorem Four.put1 (h : Four w a b c d x y W) (a' b' : Int) : Four w a' b' c d x y ((W.setCell ⟨w.heap.size + 1, 0, none⟩ (.int .i64 a')).setCell ⟨w.heap.size + 1, 1, none⟩ (.int .i64 b')) :=
 ⟨(h.1.setCell (p := ⟨w.heap.size + 1, 0, none⟩) (by show w.heap.size ≤ w.heap.size + 1; omega) _).setCell (p := ⟨w.heap.size + 1, 1, none⟩) (by show w.heap.size ≤ w.heap.size + 1; omega) _, h.2.1.put, h.2.2.1.far2 (by omega), h.2.2.2.far2 (by omega)⟩
theorem Four.put2 (h : Four w a b c d x y W) (c' d' : Int) : Four w a b c' d' x y ((W.setCell ⟨w.heap.size + 1 + 1, 0, none⟩ (.int .i64 c')).setCell ⟨w.heap.size + 1 + 1, 1, none⟩ (.int .i64 d')) :=
 ⟨(h.1.setCell (p := ⟨w.heap.size + 1 + 1, 0, none⟩) (by show w.heap.size ≤ w.heap.size + 1 + 1; omega) _).setCell (p := ⟨w.heap.size + 1 + 1, 1, none⟩) (by show w.heap.size ≤ w.heap.size + 1 + 1; omega) _, h.2.1.far2 (by omega), h.2.2.1.put, h.2.2.2.far2 (by omega)⟩
end
theorem movedDown (x y : Int) (hx : Sm x) (w : World) :
  Calls Try.prog 74 #[.agg #[.int .i64 x, .int .i64 y], .int .i64 0, .int .i64 1] w (Cel x (wrap64 (y + 1)) w) := by
 have := moved x y 0 1 w
 rwa [wrap0 hx] at this
theorem movedRight (x y : Int) (hy : Sm y) (w : World) :
  Calls Try.prog 74 #[.agg #[.int .i64 x, .int .i64 y], .int .i64 1, .int .i64 0] w (Cel (wrap64 (x + 1)) y w) := by
 have := moved x y 1 0 w
 rwa [wrap0 hy] at this

set_option maxHeartbeats 400000 in
theorem iCells (x y : Int) (b : Bool) (hx : Sm x) (hy : Sm y) (w : World) :
  Calls Try.prog 88 #[.agg #[.int .i64 x, .int .i64 y, .bool b]] w (Cel2 x y (sx x b) (sy y b) w) := by
 have F0 := Lib.hid (fun T => four_start (T := T) x y b w)
 cases b with
 | true =>
  go_enter Try.func88, Try.ntmps88
  go_wp2_with fail
  have F1 := F0.out 41
  generalize World.alloc _ (.cells #[.int .i64 x, .int .i64 y] 56) = W at F1 ⊢
  clear F0
  refine wp_region_noPanic ?_
  refine wp_region_held_drew (S := (fun w' => w'.cell? ⟨w.heap.size + 1 + 1 + 1, 0, none⟩ = some (.int .i64 x) ∧ w'.cell? ⟨w.heap.size + 1 + 1 + 1, 1, none⟩ = some (.int .i64 y))) (by kernel_rfl) (⟨F1.drew.2.2.2.c0, F1.drew.2.2.2.c1⟩) (fun hHeld => ?_)
  refine wpAnyH_take (i := 0) (v := ?_) rfl (by kernel_rfl) (by kernel_rfl) (by kernel_rfl) (fun _ _ _ h => h) (Or.inl ⟨by rfl, ?_⟩) (by assumption) ?_
  rotate_left
  ·(intro w' hS; (try dsimp only at hS); go_simp; try with_reducible rfl)
  try simp only [Act.put, List.getElem_toArray, List.getElem_cons_succ, List.getElem_cons_zero, List.setIfInBounds_toArray, List.set_cons_zero, List.set_cons_succ]
  refine wpAnyH_take (i := 1) (v := ?_) rfl (by kernel_rfl) (by kernel_rfl) (by kernel_rfl) (fun _ _ _ h => h) (Or.inl ⟨by rfl, ?_⟩) (by assumption) ?_
  rotate_left
  ·(intro w' hS; (try dsimp only at hS); go_simp; try with_reducible rfl)
  try simp only [Act.put, List.getElem_toArray, List.getElem_cons_succ, List.getElem_cons_zero, List.setIfInBounds_toArray, List.set_cons_zero, List.set_cons_succ]
  refine wpAnyH_ready (rs := [2]) (by kernel_rfl) (by simp) ?_
  refine AllReadyH.cons rfl (fun K hK => ?_) AllReadyH.nil
  go_simp
  refine (movedDown _ _ (by assumption) _).mono ?_
  rintro e wx ⟨rfl, hbx⟩
  have F2 := F1.drew.on hbx
  clear F1 hbx hHeld
  go_wp2_with fail
  refine hK.out _ _ (⟨F2.2.2.2.c0, F2.2.2.2.c1⟩) (fun hHeld => ?_)
  clear hK K
  try simp only [Act.put, List.getElem_toArray, List.getElem_cons_succ, List.getElem_cons_zero, List.setIfInBounds_toArray, List.set_cons_zero, List.set_cons_succ]
  refine wpAnyH_ready (rs := [3]) (by kernel_rfl) (by simp) ?_
  refine AllReadyH.cons rfl (fun K hK => ?_) AllReadyH.nil
  have d0 := F2.2.1.c0
  have d1 := F2.2.1.c1
  have d2 := F2.2.1.f0
  have d3 := F2.2.1.f1
  have F3 := F2.put1 x y
  clear F2
  go_simp
  refine hK.out _ _ (⟨F3.2.2.2.c0, F3.2.2.2.c1⟩) (fun hHeld => ?_)
  clear hK K
  try simp only [Act.put, List.getElem_toArray, List.getElem_cons_succ, List.getElem_cons_zero, List.setIfInBounds_toArray, List.set_cons_zero, List.set_cons_succ]
  refine wpAnyH_ready (rs := [4]) (by kernel_rfl) (by simp) ?_
  refine AllReadyH.cons rfl (fun K hK => ?_) AllReadyH.nil
  have d0 := F3.2.2.1.c0
  have d1 := F3.2.2.1.c1
  have d2 := F3.2.2.1.f0
  have d3 := F3.2.2.1.f1
  have F4 := F3.put2 x (wrap64 (y + 1))
  clear F3
  go_simp
  refine hK.out _ _ (⟨F4.2.2.2.c0, F4.2.2.2.c1⟩) (fun hHeld => ?_)
  clear hK K
  try simp only [Act.put, List.getElem_toArray, List.getElem_cons_succ, List.getElem_cons_zero, List.setIfInBounds_toArray, List.set_cons_zero, List.set_cons_succ]
  refine wpAnyH_done (by kernel_rfl) ?_ _
  refine NoPanic.normal ?_
  generalize World.setCell _ _ _ = W4 at F4 ⊢
  have c0 := F4.2.1.c0
  have c1 := F4.2.1.c1
  have c2 := F4.2.2.1.c0
  have c3 := F4.2.2.1.c1
  go_wp2
  refine bodyPost_ret (v := .tuple #[.agg #[.int .i64 x, .int .i64 y], .agg #[.int .i64 x, .int .i64 (wrap64 (y + 1))]]) ?_ rfl (mkCel2 rfl rfl rfl rfl F4.1)
  simp [results, Try.results88, go_sem, c0, c1, c2, c3]
 | false =>
  go_enter Try.func88, Try.ntmps88
  go_wp2_with fail
  have F1 := F0.out 41
  generalize World.alloc _ (.cells #[.int .i64 x, .int .i64 y] 56) = W at F1 ⊢
  clear F0
  refine wp_region_noPanic ?_
  refine wp_region_held_drew (S := (fun w' => w'.cell? ⟨w.heap.size + 1 + 1 + 1, 0, none⟩ = some (.int .i64 x) ∧ w'.cell? ⟨w.heap.size + 1 + 1 + 1, 1, none⟩ = some (.int .i64 y))) (by kernel_rfl) (⟨F1.drew.2.2.2.c0, F1.drew.2.2.2.c1⟩) (fun hHeld => ?_)
  refine wpAnyH_take (i := 0) (v := ?_) rfl (by kernel_rfl) (by kernel_rfl) (by kernel_rfl) (fun _ _ _ h => h) (Or.inl ⟨by rfl, ?_⟩) (by assumption) ?_
  rotate_left
  ·(intro w' hS; (try dsimp only at hS); go_simp; try with_reducible rfl)
  try simp only [Act.put, List.getElem_toArray, List.getElem_cons_succ, List.getElem_cons_zero, List.setIfInBounds_toArray, List.set_cons_zero, List.set_cons_succ]
  refine wpAnyH_take (i := 1) (v := ?_) rfl (by kernel_rfl) (by kernel_rfl) (by kernel_rfl) (fun _ _ _ h => h) (Or.inl ⟨by rfl, ?_⟩) (by assumption) ?_
  rotate_left
  ·(intro w' hS; (try dsimp only at hS); go_simp; try with_reducible rfl)
  try simp only [Act.put, List.getElem_toArray, List.getElem_cons_succ, List.getElem_cons_zero, List.setIfInBounds_toArray, List.set_cons_zero, List.set_cons_succ]
  refine wpAnyH_ready (rs := [2]) (by kernel_rfl) (by simp) ?_
  refine AllReadyH.cons rfl (fun K hK => ?_) AllReadyH.nil
  go_simp
  refine (movedRight _ _ (by assumption) _).mono ?_
  rintro e wx ⟨rfl, hbx⟩
  have F2 := F1.drew.on hbx
  clear F1 hbx hHeld
  go_wp2_with fail
  refine hK.out _ _ (⟨F2.2.2.2.c0, F2.2.2.2.c1⟩) (fun hHeld => ?_)
  clear hK K
  try simp only [Act.put, List.getElem_toArray, List.getElem_cons_succ, List.getElem_cons_zero, List.setIfInBounds_toArray, List.set_cons_zero, List.set_cons_succ]
  refine wpAnyH_ready (rs := [3]) (by kernel_rfl) (by simp) ?_
  refine AllReadyH.cons rfl (fun K hK => ?_) AllReadyH.nil
  have d0 := F2.2.1.c0
  have d1 := F2.2.1.c1
  have d2 := F2.2.1.f0
  have d3 := F2.2.1.f1
  have F3 := F2.put1 x y
  clear F2
  go_simp
  refine hK.out _ _ (⟨F3.2.2.2.c0, F3.2.2.2.c1⟩) (fun hHeld => ?_)
  clear hK K
  try simp only [Act.put, List.getElem_toArray, List.getElem_cons_succ, List.getElem_cons_zero, List.setIfInBounds_toArray, List.set_cons_zero, List.set_cons_succ]
  refine wpAnyH_ready (rs := [4]) (by kernel_rfl) (by simp) ?_
  refine AllReadyH.cons rfl (fun K hK => ?_) AllReadyH.nil
  have d0 := F3.2.2.1.c0
  have d1 := F3.2.2.1.c1
  have d2 := F3.2.2.1.f0
  have d3 := F3.2.2.1.f1
  have F4 := F3.put2 (wrap64 (x + 1)) y
  clear F3
  go_simp
  refine hK.out _ _ (⟨F4.2.2.2.c0, F4.2.2.2.c1⟩) (fun hHeld => ?_)
  clear hK K
  try simp only [Act.put, List.getElem_toArray, List.getElem_cons_succ, List.getElem_cons_zero, List.setIfInBounds_toArray, List.set_cons_zero, List.set_cons_succ]
  refine wpAnyH_done (by kernel_rfl) ?_ _
  refine NoPanic.normal ?_
  generalize World.setCell _ _ _ = W4 at F4 ⊢
  have c0 := F4.2.1.c0
  have c1 := F4.2.1.c1
  have c2 := F4.2.2.1.c0
  have c3 := F4.2.2.1.c1
  go_wp2
  refine bodyPost_ret (v := .tuple #[.agg #[.int .i64 x, .int .i64 y], .agg #[.int .i64 (wrap64 (x + 1)), .int .i64 y]]) ?_ rfl (mkCel2 rfl rfl rfl rfl F4.1)
  simp [results, Try.results88, go_sem, c0, c1, c2, c3]
end Go.Proofs.Ytmajllgfmclcoaa.Dom
