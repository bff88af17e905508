/- Dominoes: the domino over two cells, the program's function and the model's; the laws' own copies and comparisons of dominoes. -/
import Derived.Test.YtkjoonmnedofiaaDomH
namespace Go.Proofs.Ytkjoonmnedofiaa.Dom
set_option linter.unusedVariables false
set_option linter.unusedSimpArgs false
open Go.RowKit Go.Proofs.Ytkjoonmnedofiaa.Base Go.Proofs.Ytkjoonmnedofiaa.Cell Go.Proofs.Ytkjoonmnedofiaa.CellF Go.Proofs.Ytkjoonmnedofiaa.CellN Go.Joins

/-- the smaller of two numbers. -/
def mn (a b : Int) : Int := if b < a then b else a
theorem nb_dom {x y u v : Int} (h : nbB x y u v = true) : Ok x y ∧ Ok u v ∧ ((indexN u v < indexN x y ∧ mn x u = u ∧ mn y v = v) ∨ (¬ indexN u v < indexN x y ∧ mn x u = x ∧ mn y v = y)) := by
  obtain ⟨h1, h2, h3⟩ := nbB_iff.1 h
  refine ⟨h1, h2, ?_⟩
  rw [index_of h1, index_of h2]
  obtain ⟨x0, x7, y0, y7⟩ := h1
  obtain ⟨u0, u7, v0, v7⟩ := h2
  unfold mn
  rcases h3 with ⟨rfl, rfl | rfl⟩ | ⟨rfl, rfl | rfl⟩
  · left; refine ⟨by omega, by simp, by rw [if_pos (by omega)]⟩
  · right; refine ⟨by omega, by simp, by rw [if_neg (by omega)]⟩
  · left; refine ⟨by omega, by rw [if_pos (by omega)], by simp⟩
  · right; refine ⟨by omega, by rw [if_neg (by omega)], by simp⟩

/-- two cells' boxes and the domino that a function returns. -/
def Ov (w : World) (x y u v : Int) (p q : Int) (b : Bool) (W : World) : Prop :=
  Below w.heap.size w W ∧ At2 W w.heap.size x y ∧ At2 W (w.heap.size + 1) u v ∧ At3 38 W (w.heap.size + 1 + 1) p q b
theorem ov_start (x y u v : Int) (w : World) : Ov w x y u v 0 0 false (((w.alloc (.cells #[.int .i64 x, .int .i64 y] 35)).alloc (.cells #[.int .i64 u, .int .i64 v] 35)).alloc (.cells #[.int .i64 0, .int .i64 0, .bool false] 38)) := by
  obtain ⟨k1, k2, k3⟩ := at2_two w x y u v
  have e2 : ((w.alloc (.cells #[.int .i64 x, .int .i64 y] 35)).alloc (.cells #[.int .i64 u, .int .i64 v] 35)).heap.size = w.heap.size + 1 + 1 := by simp
  generalize (w.alloc (.cells #[.int .i64 x, .int .i64 y] 35)).alloc (.cells #[.int .i64 u, .int .i64 v] 35) = W at k1 k2 k3 e2 ⊢
  have k4 := At3.new 38 W 0 0 false
  rw [e2] at k4
  exact ⟨k3.trans ((below_alloc1 W _).mono k3.size), k1.on (below_alloc1 _ _), k2.on (below_alloc1 _ _), k4⟩
theorem At3.f0 {T : TypeId} {W : World} {q : Nat} {x y : Int} {b : Bool} (h : At3 T W q x y b) : W.frozen? ⟨q, 0, none⟩ = false := by have h' := h; unfold At3 at h'; simp [World.frozen?, h']
theorem At3.f1 {T : TypeId} {W : World} {q : Nat} {x y : Int} {b : Bool} (h : At3 T W q x y b) : W.frozen? ⟨q, 1, none⟩ = false := by have h' := h; unfold At3 at h'; simp [World.frozen?, h']
theorem At3.f2 {T : TypeId} {W : World} {q : Nat} {x y : Int} {b : Bool} (h : At3 T W q x y b) : W.frozen? ⟨q, 2, none⟩ = false := by have h' := h; unfold At3 at h'; simp [World.frozen?, h']
theorem At3.put {T : TypeId} {W : World} {q : Nat} {x y a c : Int} {b d : Bool} (h : At3 T W q x y b) : At3 T (((W.setCell ⟨q, 0, none⟩ (.int .i64 a)).setCell ⟨q, 1, none⟩ (.int .i64 c)).setCell ⟨q, 2, none⟩ (.bool d)) q a c d := by
  have h' := h
  unfold At3 at h' ⊢
  simp [World.setCell, Array.getElem?_modify, h']
section
variable {w W W' : World} {x y u v p q : Int} {b : Bool}
theorem Ov.drew (h : Ov w x y u v p q b W) : Ov w x y u v p q b W.drew := ⟨h.1.drew, h.2⟩
theorem Ov.on (h : Ov w x y u v p q b W) (hb : Below W.heap.size W W') : Ov w x y u v p q b W' := ⟨h.1.trans (hb.mono h.1.size), h.2.1.on hb, h.2.2.1.on hb, h.2.2.2.on hb⟩
theorem Ov.put (h : Ov w x y u v p q b W) (a c : Int) (d : Bool) : Ov w x y u v a c d (((W.setCell ⟨w.heap.size + 1 + 1, 0, none⟩ (.int .i64 a)).setCell ⟨w.heap.size + 1 + 1, 1, none⟩ (.int .i64 c)).setCell ⟨w.heap.size + 1 + 1, 2, none⟩ (.bool d)) :=
  ⟨((h.1.setCell (p := ⟨w.heap.size + 1 + 1, 0, none⟩) (by show w.heap.size ≤ w.heap.size + 1 + 1; omega) _).setCell (p := ⟨w.heap.size + 1 + 1, 1, none⟩) (by show w.heap.size ≤ w.heap.size + 1 + 1; omega) _).setCell (p := ⟨w.heap.size + 1 + 1, 2, none⟩) (by show w.heap.size ≤ w.heap.size + 1 + 1; omega) _, (h.2.1.far2 (by omega)).far (by omega), (h.2.2.1.far2 (by omega)).far (by omega), h.2.2.2.put⟩
/-- a box beyond them is written. -/
theorem Ov.putFar (h : Ov w x y u v p q b W) {k : Nat} (hk : w.heap.size + 3 ≤ k) (a c : Int) : Ov w x y u v p q b ((W.setCell ⟨k, 0, none⟩ (.int .i64 a)).setCell ⟨k, 1, none⟩ (.int .i64 c)) :=
  ⟨(h.1.setCell (p := ⟨k, 0, none⟩) (by show w.heap.size ≤ k; omega) _).setCell (p := ⟨k, 1, none⟩) (by show w.heap.size ≤ k; omega) _, h.2.1.far2 (by omega), h.2.2.1.far2 (by omega), (h.2.2.2.far (by omega)).far (by omega)⟩
end

end Go.Proofs.Ytkjoonmnedofiaa.Dom
