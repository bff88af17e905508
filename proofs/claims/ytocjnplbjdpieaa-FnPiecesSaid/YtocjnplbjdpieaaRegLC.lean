/- Laws about a region and a cell: what a law holds in memory while it asks. -/
import Derived.Test.YtocjnplbjdpieaaRegL
import Derived.Test.YtocjnplbjdpieaaRegCel
namespace Go.Proofs.Ytocjnplbjdpieaa.Reg
set_option linter.unusedVariables false
open Go.RowKit Go.Proofs.Ytocjnplbjdpieaa.Base Go.Proofs.Ytocjnplbjdpieaa.Pure Go.Proofs.Ytocjnplbjdpieaa.Cell Go.Joins

/-- a copy of the region in memory of the law's own, in a box p, beside the two parameters' boxes. -/
def RY (w : World) (v : Value) (x y : Int) (p : Nat) (A : Option Addr) (n cap : Nat) (xs : List Int) (W : World) : Prop :=
  Below w.heap.size w W ∧ w.heap.size + 2 ≤ W.heap.size ∧ W.cell? ⟨w.heap.size, 0, none⟩ = some v ∧ W.cell? ⟨w.heap.size + 1, 0, none⟩ = some (.int .i64 x) ∧ W.cell? ⟨w.heap.size + 1, 1, none⟩ = some (.int .i64 y) ∧
    W.cell? ⟨p, 0, none⟩ = some (.slice A n cap) ∧ (w.heap.size ≤ p ∧ p < W.heap.size ∧ W.ownsRow (w.heap.size + 2) 3 1 (.slice A n cap) n (ints xs))
theorem ry_start {w W W1 : World} {v : Value} {x y : Int} {A : Option Addr} {n cap : Nat} {xs : List Int} {B : Nat} (h : RC w v x y W) (hB : w.heap.size + 2 ≤ B) (ho : W.ownsRow B 3 1 (.slice A n cap) n (ints xs)) {T : TypeId}
    (h1 : Below (W.alloc (.cells #[.slice A n cap] T)).heap.size (W.alloc (.cells #[.slice A n cap] T)) W1) : RY w v x y W.heap.size A n cap xs W1 := by
  have hb : Below W.heap.size W W1 := (below_alloc1 W _).trans (h1.mono (by simp))
  obtain ⟨a, b, c, d, e⟩ := h.on hb
  refine ⟨a, b, c, d, e, ?_, by have := h.1.size; omega, by have := h1.size; simp at this; omega, own_base (own_below ho hb (Nat.le_refl _)) hB⟩
  rw [h1.cell (by simp)]
  exact (cell_of_row _ _ 0 _ _ _ (heap_alloc_new W _)).trans rfl
theorem RY.onB {w W W' : World} {v : Value} {x y : Int} {p : Nat} {A : Option Addr} {n cap : Nat} {xs : List Int} {B : Nat} (h : RY w v x y p A n cap xs W) (hb : Below B W W') (hB : W.heap.size ≤ B) : RY w v x y p A n cap xs W' := by
  obtain ⟨h0, h1, h2, h3, h4, h5, h6, h7, h8⟩ := h
  have hz := hb.size
  refine ⟨h0.trans (hb.mono (by omega)), by omega, ?_, ?_, ?_, ?_, h6, by omega, own_below h8 hb hB⟩
  · rw [hb.cell (by show w.heap.size < _; omega)]; exact h2
  · rw [hb.cell (by show w.heap.size + 1 < _; omega)]; exact h3
  · rw [hb.cell (by show w.heap.size + 1 < _; omega)]; exact h4
  · rw [hb.cell (by show p < _; omega)]; exact h5
theorem RY.on {w W W' : World} {v : Value} {x y : Int} {p : Nat} {A : Option Addr} {n cap : Nat} {xs : List Int} (h : RY w v x y p A n cap xs W) (hb : Below W.heap.size W W') : RY w v x y p A n cap xs W' := h.onB hb (Nat.le_refl _)
theorem RY.drew {w W : World} {v : Value} {x y : Int} {p : Nat} {A : Option Addr} {n cap : Nat} {xs : List Int} (h : RY w v x y p A n cap xs W) : RY w v x y p A n cap xs W.drew := ⟨h.1.drew, h.2⟩
theorem RY.row {w W : World} {v : Value} {x y : Int} {p : Nat} {A : Option Addr} {n cap : Nat} {xs : List Int} (h : RY w v x y p A n cap xs W) : RowB W W.heap.size A xs := rowB_own h.2.2.2.2.2.2.2.2
theorem RY.rc {w W : World} {v : Value} {x y : Int} {p : Nat} {A : Option Addr} {n cap : Nat} {xs : List Int} (h : RY w v x y p A n cap xs W) : RC w v x y W := ⟨h.1, h.2.1, h.2.2.1, h.2.2.2.1, h.2.2.2.2.1⟩
theorem RC.onB {w W W' : World} {v : Value} {x y : Int} {B : Nat} (h : RC w v x y W) (hb : Below B W W') (hB : w.heap.size + 2 ≤ B) : RC w v x y W' := by
  obtain ⟨h0, h1, h2, h3, h4⟩ := h
  have hz := hb.size
  refine ⟨h0.trans (hb.mono (by omega)), by omega, ?_, ?_, ?_⟩
  · rw [hb.cell (by show w.heap.size < _; omega)]; exact h2
  · rw [hb.cell (by show w.heap.size + 1 < _; omega)]; exact h3
  · rw [hb.cell (by show w.heap.size + 1 < _; omega)]; exact h4
theorem row_on {W W' : World} {A : Option Addr} {xs : List Int} (h : RowB W W.heap.size A xs) (hb : Below W.heap.size W W') : RowB W' W'.heap.size A xs := (h.below hb (Nat.le_refl _)).mono hb.size
end Go.Proofs.Ytocjnplbjdpieaa.Reg
