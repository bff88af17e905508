/- Dominoes compared, once more, by the program: that no world draws less behind a call than ahead of it (slices.SortFunc asks it of its cmp). -/
import Derived.Test.YtgkgdgchkhdgjaaDoorDomH
import Derived.Test.YtgkgdgchkhdgjaaDoorTilP
namespace Go.Proofs.YtgkgdgchkhdgjaaDoor.Drw
set_option linter.unusedVariables false
set_option linter.unusedSimpArgs false
open Go.RowKit Go.Proofs.YtgkgdgchkhdgjaaDoor.Base Go.Proofs.YtgkgdgchkhdgjaaDoor.Cell Go.Proofs.YtgkgdgchkhdgjaaDoor.CellF Go.Proofs.YtgkgdgchkhdgjaaDoor.CellN Go.Proofs.YtgkgdgchkhdgjaaDoor.Dom Go.Joins

/-- below B as it was, and no less drawn. -/
def Blw (B : Nat) (w w' : World) : Prop := Below B w w' ∧ w.drawn ≤ w'.drawn
theorem Blw.refl (B : Nat) (w : World) : Blw B w w := ⟨Below.refl _ _, Nat.le_refl _⟩
section
variable {B : Nat} {a b c w w' : World}
theorem Blw.trans (h : Blw B a b) (k : Blw B b c) : Blw B a c := ⟨h.1.trans k.1, Nat.le_trans h.2 k.2⟩
theorem Blw.mono {B' : Nat} (h : Blw B a b) (hB : B' ≤ B) : Blw B' a b := ⟨h.1.mono hB, h.2⟩
theorem Blw.size (h : Blw B a b) : a.heap.size ≤ b.heap.size := h.1.size
theorem Blw.block (h : Blw B a b) (k : Nat) (hk : k < B) : b.heap[k]? = a.heap[k]? := h.1.block k hk
theorem Blw.cell (h : Blw B a b) {p : Addr} (hp : p.block < B) : b.cell? p = a.cell? p := h.1.cell hp
theorem Blw.drew (h : Blw B a b) : Blw B a b.drew := ⟨h.1.drew, Nat.le_trans h.2 (Nat.le_succ _)⟩
theorem Blw.alloc (h : Blw B a b) (hB : B ≤ b.heap.size) (o : Obj) : Blw B a (b.alloc o) := ⟨h.1.alloc hB o, h.2⟩
theorem Blw.setCell (h : Blw B a b) {p : Addr} (hp : B ≤ p.block) (v : Value) : Blw B a (b.setCell p v) := ⟨h.1.setCell hp v, h.2⟩
end
theorem blw_alloc1 (w : World) (o1 : Obj) : Blw w.heap.size w (w.alloc o1) := ⟨below_alloc1 w o1, Nat.le_refl _⟩
theorem blw_alloc2 (w : World) (o1 o2 : Obj) : Blw w.heap.size w ((w.alloc o1).alloc o2) := ⟨below_alloc2 w o1 o2, Nat.le_refl _⟩
theorem blw_alloc3 (w : World) (o1 o2 o3 : Obj) : Blw w.heap.size w (((w.alloc o1).alloc o2).alloc o3) := ⟨below_alloc3 w o1 o2 o3, Nat.le_refl _⟩

def Bol (b : Bool) (w : World) (e : Ending) (w' : World) : Prop := e = .returned (.bool b) ∧ Blw w.heap.size w w'
def Num (n : Int) (w : World) (e : Ending) (w' : World) : Prop := e = .returned (.int .i64 n) ∧ Blw w.heap.size w w'
def Cel (x y : Int) (w : World) (e : Ending) (w' : World) : Prop := e = .returned (.agg #[.int .i64 x, .int .i64 y]) ∧ Blw w.heap.size w w'
theorem mkBol {v b : Bool} {w W : World} (h : v = b) (hb : Blw w.heap.size w W) : Bol b w (.returned (.bool v)) W := ⟨by rw [h], hb⟩
theorem mkNum {v b : Int} {w W : World} (h : v = b) (hb : Blw w.heap.size w W) : Num b w (.returned (.int .i64 v)) W := ⟨by rw [h], hb⟩
theorem mkCel {u v x y : Int} {w W : World} (h : u = x) (h' : v = y) (hb : Blw w.heap.size w W) : Cel x y w (.returned (.agg #[.int .i64 u, .int .i64 v])) W := ⟨by rw [h, h'], hb⟩
set_option maxHeartbeats 400000 in
theorem isValid (x y : Int) (w : World) :
    Calls Tryd.prog 59 #[.agg #[.int .i64 x, .int .i64 y]] w (Bol (okB x y) w) := by
  have H : ∀ (b : Bool) (W : World), (b = true ↔ Ok x y) → Blw w.heap.size w W → Bol (okB x y) w (.returned (.bool b)) W := fun b W h hb => mkBol (by rw [Bool.eq_iff_iff, okB_iff]; exact h) hb
  have HH := Lib.hid H
  clear H
  go_enter Tryd.func59, Tryd.ntmps59
  go_wp2
  all_goals
    go_ret
    refine HH.out _ _ ?_ (blw_alloc1 _ _)
    unfold Ok
    simp
    try omega
theorem box (x y : Int) (w w1 : World) (h : Blw (w.alloc (.cells #[.int .i64 x, .int .i64 y] 33)).heap.size (w.alloc (.cells #[.int .i64 x, .int .i64 y] 33)) w1) : Blw w.heap.size w w1 :=
  (blw_alloc1 w (.cells #[.int .i64 x, .int .i64 y] 33)).trans (h.mono (by simp))
theorem boxed (x y : Int) (w w1 : World) (h : Blw (w.alloc (.cells #[.int .i64 x, .int .i64 y] 33)).heap.size (w.alloc (.cells #[.int .i64 x, .int .i64 y] 33)) w1) (k : Nat) (hk : k < 2) :
    w1.cell? ⟨w.heap.size, k, none⟩ = some (#[Value.int .i64 x, Value.int .i64 y].getD k undef) := by
  rw [h.cell (by simp)]
  have hbl : (w.alloc (.cells #[.int .i64 x, .int .i64 y] 33)).heap[w.heap.size]? = some (.cells #[.int .i64 x, .int .i64 y] 33) := by
    show (w.heap.push _)[w.heap.size]? = _
    exact Array.getElem?_push_size
  have : k = 0 ∨ k = 1 := by omega
  rcases this with rfl | rfl
  · exact (cell_of_row _ _ 0 _ _ _ hbl).trans rfl
  · exact (cell_of_row _ _ 1 _ _ _ hbl).trans rfl
set_option maxHeartbeats 400000 in
theorem moved (x y a b : Int) (w : World) :
    Calls Tryd.prog 60 #[.agg #[.int .i64 x, .int .i64 y], .int .i64 a, .int .i64 b] w (Cel (wrap64 (x + a)) (wrap64 (y + b)) w) := by
  go_enter Tryd.func60, Tryd.ntmps60
  go_wp2
  exact bodyPost_ret (v := .agg #[.int .i64 (wrap64 (x + a)), .int .i64 (wrap64 (y + b))]) (by simp [results, Tryd.results60, go_sem]) rfl (mkCel rfl rfl (blw_alloc2 _ _ _))
set_option maxHeartbeats 400000 in
theorem iCellIndex (x y : Int) (w : World) :
    Calls Tryd.prog 61 #[.agg #[.int .i64 x, .int .i64 y]] w (Num (indexN x y) w) := by
  have H : ∀ (b : Int) (W : World), b = indexN x y → Blw w.heap.size w W → Num (indexN x y) w (.returned (.int .i64 b)) W := fun b W h hb => mkNum h hb
  have HH := Lib.hid H
  clear H
  go_enter Tryd.func61, Tryd.ntmps61
  go_wp2_with fail
  refine (isValid x y _).mono ?_
  rintro e w1 ⟨rfl, hb1⟩
  have hb := box x y w w1 hb1
  by_cases hok : Ok x y
  · have h0 := boxed x y w w1 hb1 0 (by omega)
    have h1 := boxed x y w w1 hb1 1 (by omega)
    have hix : indexN x y = y * 8 + x := by unfold indexN; simp [hok]
    have HI := Lib.hid hix
    clear hix
    rw [okB_of hok]
    obtain ⟨x0, x7, y0, y7⟩ := hok
    go_wp2
    go_ret
    refine HH.out _ _ ?_ hb
    rw [HI.out]
  · have hix : indexN x y = -1 := by unfold indexN; simp [hok]
    have HI := Lib.hid hix
    clear hix
    rw [okB_not hok]
    go_wp2
    go_ret
    refine HH.out _ _ ?_ hb
    rw [HI.out]
def Cel2 (x y u v : Int) (w : World) (e : Ending) (w' : World) : Prop := e = .returned (.tuple #[.agg #[.int .i64 x, .int .i64 y], .agg #[.int .i64 u, .int .i64 v]]) ∧ Blw w.heap.size w w'
theorem mkCel2 {a b c d x y u v : Int} {w W : World} (h1 : a = x) (h2 : b = y) (h3 : c = u) (h4 : d = v) (hb : Blw w.heap.size w W) : Cel2 x y u v w (.returned (.tuple #[.agg #[.int .i64 a, .int .i64 b], .agg #[.int .i64 c, .int .i64 d]])) W := ⟨by rw [h1, h2, h3, h4], hb⟩
def At2 (W : World) (q : Nat) (x y : Int) : Prop := W.heap[q]? = some (.cells #[.int .i64 x, .int .i64 y] 33)
theorem At2.on {W W' : World} {q : Nat} {x y : Int} (h : At2 W q x y) (hb : Blw W.heap.size W W') : At2 W' q x y := (hb.block q (Array.getElem?_eq_some_iff.1 h).1).trans h
theorem At2.c0 {W : World} {q : Nat} {x y : Int} (h : At2 W q x y) : W.cell? ⟨q, 0, none⟩ = some (.int .i64 x) := (cell_of_row _ _ 0 _ _ _ h).trans rfl
theorem At2.c1 {W : World} {q : Nat} {x y : Int} (h : At2 W q x y) : W.cell? ⟨q, 1, none⟩ = some (.int .i64 y) := (cell_of_row _ _ 1 _ _ _ h).trans rfl
theorem At2.f0 {W : World} {q : Nat} {x y : Int} (h : At2 W q x y) : W.frozen? ⟨q, 0, none⟩ = false := by have h' := h; unfold At2 at h'; simp [World.frozen?, h']
theorem At2.f1 {W : World} {q : Nat} {x y : Int} (h : At2 W q x y) : W.frozen? ⟨q, 1, none⟩ = false := by have h' := h; unfold At2 at h'; simp [World.frozen?, h']
theorem At2.lt {W : World} {q : Nat} {x y : Int} (h : At2 W q x y) : q < W.heap.size := (Array.getElem?_eq_some_iff.1 h).1
theorem At2.new (W : World) (x y : Int) : At2 (W.alloc (.cells #[.int .i64 x, .int .i64 y] 33)) W.heap.size x y := heap_alloc_new W _
theorem At2.far {W : World} {p q i : Nat} {x y : Int} {v : Value} (h : At2 W q x y) (hp : q ≠ p) : At2 (W.setCell ⟨p, i, none⟩ v) q x y := (Below.heap_setCell W ⟨p, i, none⟩ v q hp).trans h
theorem At2.put {W : World} {q : Nat} {x y a b : Int} (h : At2 W q x y) : At2 ((W.setCell ⟨q, 0, none⟩ (.int .i64 a)).setCell ⟨q, 1, none⟩ (.int .i64 b)) q a b := by
  have h' := h
  unfold At2 at h' ⊢
  simp [World.setCell, Array.getElem?_modify, h']
theorem At2.far2 {W : World} {p q : Nat} {x y : Int} {u v : Value} (h : At2 W q x y) (hp : q ≠ p) : At2 ((W.setCell ⟨p, 0, none⟩ u).setCell ⟨p, 1, none⟩ v) q x y := (h.far hp).far hp
def Four (w : World) (a b c d x y : Int) (W : World) : Prop := Blw w.heap.size w W ∧ At2 W (w.heap.size + 1) a b ∧ At2 W (w.heap.size + 1 + 1) c d ∧ At2 W (w.heap.size + 1 + 1 + 1) x y
theorem four_start {T : TypeId} (x y : Int) (b : Bool) (w : World) : Four w 0 0 0 0 x y ((((w.alloc (.cells #[.int .i64 x, .int .i64 y, .bool b] T)).alloc (.cells #[.int .i64 0, .int .i64 0] 33)).alloc (.cells #[.int .i64 0, .int .i64 0] 33)).alloc (.cells #[.int .i64 x, .int .i64 y] 33)) := by
  have e0 : (w.alloc (.cells #[.int .i64 x, .int .i64 y, .bool b] T)).heap.size = w.heap.size + 1 := by simp
  have k1 := At2.new (w.alloc (.cells #[.int .i64 x, .int .i64 y, .bool b] T)) 0 0
  rw [e0] at k1
  have b1 := blw_alloc1 w (.cells #[.int .i64 x, .int .i64 y, .bool b] T)
  generalize w.alloc (.cells #[.int .i64 x, .int .i64 y, .bool b] T) = W0 at e0 k1 b1 ⊢
  have e1 : (W0.alloc (.cells #[.int .i64 0, .int .i64 0] 33)).heap.size = w.heap.size + 1 + 1 := by simp [e0]
  have k2 := At2.new (W0.alloc (.cells #[.int .i64 0, .int .i64 0] 33)) 0 0
  rw [e1] at k2
  have b2 := b1.trans ((blw_alloc1 W0 (.cells #[.int .i64 0, .int .i64 0] 33)).mono b1.size)
  generalize W0.alloc (.cells #[.int .i64 0, .int .i64 0] 33) = W1 at e1 k1 k2 b2 ⊢
  have e2 : (W1.alloc (.cells #[.int .i64 0, .int .i64 0] 33)).heap.size = w.heap.size + 1 + 1 + 1 := by simp [e1]
  have k3 := At2.new (W1.alloc (.cells #[.int .i64 0, .int .i64 0] 33)) x y
  rw [e2] at k3
  have b3 := b2.trans ((blw_alloc1 W1 (.cells #[.int .i64 0, .int .i64 0] 33)).mono b2.size)
  have b4 := b3.trans ((blw_alloc1 _ (.cells #[.int .i64 x, .int .i64 y] 33)).mono b3.size)
  exact ⟨b4, (k1.on (blw_alloc1 _ _)).on (blw_alloc1 _ _), k2.on (blw_alloc1 _ _), k3⟩
section
variable {w W W' : World} {a b c d x y : Int}
theorem Four.drew (h : Four w a b c d x y W) : Four w a b c d x y W.drew := ⟨h.1.drew, h.2⟩
theorem Four.on (h : Four w a b c d x y W) (hb : Blw W.heap.size W W') : Four w a b c d x y W' := ⟨h.1.trans (hb.mono h.1.size), h.2.1.on hb, h.2.2.1.on hb, h.2.2.2.on hb⟩
theorem Four.put1 (h : Four w a b c d x y W) (a' b' : Int) : Four w a' b' c d x y ((W.setCell ⟨w.heap.size + 1, 0, none⟩ (.int .i64 a')).setCell ⟨w.heap.size + 1, 1, none⟩ (.int .i64 b')) :=
  ⟨(h.1.setCell (p := ⟨w.heap.size + 1, 0, none⟩) (by show w.heap.size ≤ w.heap.size + 1; omega) _).setCell (p := ⟨w.heap.size + 1, 1, none⟩) (by show w.heap.size ≤ w.heap.size + 1; omega) _, h.2.1.put, h.2.2.1.far2 (by omega), h.2.2.2.far2 (by omega)⟩
theorem Four.put2 (h : Four w a b c d x y W) (c' d' : Int) : Four w a b c' d' x y ((W.setCell ⟨w.heap.size + 1 + 1, 0, none⟩ (.int .i64 c')).setCell ⟨w.heap.size + 1 + 1, 1, none⟩ (.int .i64 d')) :=
  ⟨(h.1.setCell (p := ⟨w.heap.size + 1 + 1, 0, none⟩) (by show w.heap.size ≤ w.heap.size + 1 + 1; omega) _).setCell (p := ⟨w.heap.size + 1 + 1, 1, none⟩) (by show w.heap.size ≤ w.heap.size + 1 + 1; omega) _, h.2.1.far2 (by omega), h.2.2.1.put, h.2.2.2.far2 (by omega)⟩
end
theorem movedDown (x y : Int) (hx : Sm x) (w : World) :
    Calls Tryd.prog 60 #[.agg #[.int .i64 x, .int .i64 y], .int .i64 0, .int .i64 1] w (Cel x (wrap64 (y + 1)) w) := by
  have := moved x y 0 1 w
  rwa [wrap0 hx] at this
theorem movedRight (x y : Int) (hy : Sm y) (w : World) :
    Calls Tryd.prog 60 #[.agg #[.int .i64 x, .int .i64 y], .int .i64 1, .int .i64 0] w (Cel (wrap64 (x + 1)) y w) := by
  have := moved x y 1 0 w
  rwa [wrap0 hy] at this
def At3 (T : TypeId) (W : World) (q : Nat) (x y : Int) (b : Bool) : Prop := W.heap[q]? = some (.cells #[.int .i64 x, .int .i64 y, .bool b] T)
section
variable {T : TypeId} {W W' : World} {q : Nat} {x y : Int} {b : Bool}
theorem At3.on (h : At3 T W q x y b) (hb : Blw W.heap.size W W') : At3 T W' q x y b := (hb.block q (Array.getElem?_eq_some_iff.1 h).1).trans h
theorem At3.c0 (h : At3 T W q x y b) : W.cell? ⟨q, 0, none⟩ = some (.int .i64 x) := (cell_of_row _ _ 0 _ _ _ h).trans rfl
theorem At3.c1 (h : At3 T W q x y b) : W.cell? ⟨q, 1, none⟩ = some (.int .i64 y) := (cell_of_row _ _ 1 _ _ _ h).trans rfl
theorem At3.c2 (h : At3 T W q x y b) : W.cell? ⟨q, 2, none⟩ = some (.bool b) := (cell_of_row _ _ 2 _ _ _ h).trans rfl
theorem At3.lt (h : At3 T W q x y b) : q < W.heap.size := (Array.getElem?_eq_some_iff.1 h).1
theorem At3.new (T : TypeId) (W : World) (x y : Int) (b : Bool) : At3 T (W.alloc (.cells #[.int .i64 x, .int .i64 y, .bool b] T)) W.heap.size x y b := heap_alloc_new W _
end
theorem bx3 {T : TypeId} (x y : Int) (b : Bool) (w w1 : World) (h : Blw (w.alloc (.cells #[.int .i64 x, .int .i64 y, .bool b] T)).heap.size (w.alloc (.cells #[.int .i64 x, .int .i64 y, .bool b] T)) w1) : Blw w.heap.size w w1 ∧ At3 T w1 w.heap.size x y b :=
  ⟨(blw_alloc1 w _).trans (h.mono (by simp)), (At3.new T w x y b).on h⟩
theorem at2_two (W : World) (x y u v : Int) :
    At2 ((W.alloc (.cells #[.int .i64 x, .int .i64 y] 33)).alloc (.cells #[.int .i64 u, .int .i64 v] 33)) W.heap.size x y ∧
    At2 ((W.alloc (.cells #[.int .i64 x, .int .i64 y] 33)).alloc (.cells #[.int .i64 u, .int .i64 v] 33)) (W.heap.size + 1) u v ∧
    Blw W.heap.size W ((W.alloc (.cells #[.int .i64 x, .int .i64 y] 33)).alloc (.cells #[.int .i64 u, .int .i64 v] 33)) := by
  have e0 : (W.alloc (.cells #[.int .i64 x, .int .i64 y] 33)).heap.size = W.heap.size + 1 := by simp
  have k1 := At2.new (W.alloc (.cells #[.int .i64 x, .int .i64 y] 33)) u v
  rw [e0] at k1
  exact ⟨(At2.new W x y).on (blw_alloc1 _ _), k1, blw_alloc2 W _ _⟩
theorem bx33 {T T' : TypeId} (x y : Int) (b : Bool) (u v : Int) (c : Bool) (w w1 : World) (h : Blw ((w.alloc (.cells #[.int .i64 x, .int .i64 y, .bool b] T)).alloc (.cells #[.int .i64 u, .int .i64 v, .bool c] T')).heap.size ((w.alloc (.cells #[.int .i64 x, .int .i64 y, .bool b] T)).alloc (.cells #[.int .i64 u, .int .i64 v, .bool c] T')) w1) :
    Blw w.heap.size w w1 ∧ At3 T w1 w.heap.size x y b ∧ At3 T' w1 (w.heap.size + 1) u v c := by
  have e0 : (w.alloc (.cells #[.int .i64 x, .int .i64 y, .bool b] T)).heap.size = w.heap.size + 1 := by simp
  have k1 := At3.new T' (w.alloc (.cells #[.int .i64 x, .int .i64 y, .bool b] T)) u v c
  rw [e0] at k1
  exact ⟨(blw_alloc2 w _ _).trans (h.mono (by simp; omega)), ((At3.new T w x y b).on (blw_alloc1 _ _)).on h, k1.on h⟩
/-- one domino against another one. -/
def cmpB (p q : Bool) : Int := if p then -1 else if q then 1 else 0

end Go.Proofs.YtgkgdgchkhdgjaaDoor.Drw
