/- Laws about regions: what a law holds in memory while it asks: its parameter's box, a copy of the region in a box of its own. -/
import Derived.Test.YtkjoonmnedofiaaRegM
import Derived.Test.YtkjoonmnedofiaaCellB
import Derived.Deep.RegionHeld3
namespace Go.Proofs.Ytkjoonmnedofiaa.Reg
set_option linter.unusedVariables false
open Go.RowKit Go.Proofs.Ytkjoonmnedofiaa.Base Go.Proofs.Ytkjoonmnedofiaa.Pure Go.Proofs.Ytkjoonmnedofiaa.Cell Go.Joins

def Yes (w : World) (e : Ending) (w' : World) : Prop := e = .returned (.bool true) ∧ Below w.heap.size w w'
/-- a parameter's box. -/
def RB (w : World) (v : Value) (W : World) : Prop :=
  Below w.heap.size w W ∧ w.heap.size + 1 ≤ W.heap.size ∧ W.cell? ⟨w.heap.size, 0, none⟩ = some v
theorem rb_start {T : TypeId} (v : Value) (w : World) : RB w v (w.alloc (.cells #[v] T)) :=
  ⟨below_alloc1 w _, by simp, (cell_of_row _ _ 0 _ _ _ (heap_alloc_new w _)).trans rfl⟩
theorem RB.onB {w W W' : World} {v : Value} {B : Nat} (h : RB w v W) (hb : Below B W W') (hB : w.heap.size + 1 ≤ B) : RB w v W' := by
  obtain ⟨h0, h1, h2⟩ := h
  have hz := hb.size
  refine ⟨h0.trans (hb.mono (by omega)), by omega, ?_⟩
  rw [hb.cell (by show w.heap.size < _; omega)]; exact h2
theorem RB.on {w W W' : World} {v : Value} (h : RB w v W) (hb : Below W.heap.size W W') : RB w v W' := h.onB hb h.2.1
theorem RB.drew {w W : World} {v : Value} (h : RB w v W) : RB w v W.drew := ⟨h.1.drew, h.2⟩
/-- a copy of the region in memory of the law's own, in a box p. -/
def RX (w : World) (v : Value) (p : Nat) (A : Option Addr) (n cap : Nat) (xs : List Int) (W : World) : Prop :=
  Below w.heap.size w W ∧ w.heap.size + 1 ≤ W.heap.size ∧ W.cell? ⟨w.heap.size, 0, none⟩ = some v ∧ W.cell? ⟨p, 0, none⟩ = some (.slice A n cap) ∧ (w.heap.size ≤ p ∧ p < W.heap.size ∧ W.ownsRow (w.heap.size + 1) 3 1 (.slice A n cap) n (ints xs))
theorem rx_start {w W W1 : World} {v : Value} {A : Option Addr} {n cap : Nat} {xs : List Int} {B : Nat} (h : RB w v W) (hB : w.heap.size + 1 ≤ B) (ho : W.ownsRow B 3 1 (.slice A n cap) n (ints xs)) {T : TypeId}
    (h1 : Below (W.alloc (.cells #[.slice A n cap] T)).heap.size (W.alloc (.cells #[.slice A n cap] T)) W1) : RX w v W.heap.size A n cap xs W1 := by
  have hb : Below W.heap.size W W1 := (below_alloc1 W _).trans (h1.mono (by simp))
  obtain ⟨a, b, c⟩ := h.on hb
  refine ⟨a, b, c, ?_, by have := h.1.size; omega, by have := h1.size; simp at this; omega, own_base (own_below ho hb (Nat.le_refl _)) hB⟩
  rw [h1.cell (by simp)]
  exact (cell_of_row _ _ 0 _ _ _ (heap_alloc_new W _)).trans rfl
theorem RX.on {w W W' : World} {v : Value} {p : Nat} {A : Option Addr} {n cap : Nat} {xs : List Int} (h : RX w v p A n cap xs W) (hb : Below W.heap.size W W') : RX w v p A n cap xs W' := by
  obtain ⟨h0, h1, h2, h3, h4, h5, h6⟩ := h
  have hz := hb.size
  refine ⟨h0.trans (hb.mono (by omega)), by omega, ?_, ?_, h4, by omega, own_below h6 hb (Nat.le_refl _)⟩
  · rw [hb.cell (by show w.heap.size < _; omega)]; exact h2
  · rw [hb.cell (by show p < _; omega)]; exact h3
theorem RX.drew {w W : World} {v : Value} {p : Nat} {A : Option Addr} {n cap : Nat} {xs : List Int} (h : RX w v p A n cap xs W) : RX w v p A n cap xs W.drew := ⟨h.1.drew, h.2⟩
theorem RX.row {w W : World} {v : Value} {p : Nat} {A : Option Addr} {n cap : Nat} {xs : List Int} (h : RX w v p A n cap xs W) : RowB W W.heap.size A xs := rowB_own h.2.2.2.2.2.2
theorem RX.rb {w W : World} {v : Value} {p : Nat} {A : Option Addr} {n cap : Nat} {xs : List Int} (h : RX w v p A n cap xs W) : RB w v W := ⟨h.1, h.2.1, h.2.2.1⟩
theorem szR_no {n : Nat} (h : ¬ (n : Int) ≤ 1048576) : szR 1048576 n = -1 := by unfold szR; rw [if_neg h]
theorem szR_yes {n : Nat} (h : (n : Int) ≤ 1048576) : 0 ≤ szR 1048576 n ∧ szR 1048576 n ≤ 1048576 := by unfold szR; rw [if_pos h]; omega
end Go.Proofs.Ytkjoonmnedofiaa.Reg
