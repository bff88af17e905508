/- What a law about a region holds in memory while it asks for an answer that lies in memory: its parameter's box, a copy of the region in a box, the model's answer. -/
import Derived.Test.YtgkgdgchkhdgjaaDoorRegL
namespace Go.Proofs.YtgkgdgchkhdgjaaDoor.Reg
set_option linter.unusedVariables false
open Go.RowKit Go.Proofs.YtgkgdgchkhdgjaaDoor.Base Go.Proofs.YtgkgdgchkhdgjaaDoor.Pure Go.Proofs.YtgkgdgchkhdgjaaDoor.Cell Go.Joins

theorem RowIn.belowB {W W' : World} {lo hi B e size n : Nat} {v : Value} {xs : List Value} (h : RowIn W lo hi e size v n xs) (hb : Below B W W') (hB : hi ≤ B) : RowIn W' lo hi e size v n xs := by
  refine ⟨⟨h.1.1, ?_⟩, h.2⟩
  rcases h.1.2 with hn | ⟨g, cap, cur, rfl, hg, hgg, rest⟩
  · exact .inl hn
  · refine .inr ⟨g, cap, cur, rfl, hg, ?_, rest⟩
    have h2 := h.2 g rfl
    rw [hb.block g (by omega)]
    exact hgg
/-- the law's state: v in the parameter's box; va, the copy, in the box p, its row from lx on, below hx; the model's answer vw, its row from lw on, below hw. -/
def LS (w : World) (v : Value) (p : Nat) (va : Value) (lx hx n : Nat) (xs : List Value) (lw hw e size : Nat) (vw : Value) (m : Nat) (cs : List Value) (W : World) : Prop :=
  Below w.heap.size w W ∧ w.heap.size + 1 ≤ W.heap.size ∧ W.cell? ⟨w.heap.size, 0, none⟩ = some v ∧ W.cell? ⟨p, 0, none⟩ = some va ∧ (p < W.heap.size ∧ RowIn W lx hx 3 1 va n xs ∧ RowIn W lw hw e size vw m cs)
section
variable {w : World} {v : Value} {p : Nat} {va : Value} {lx hx n : Nat} {xs : List Value} {lw hw e size : Nat} {vw : Value} {m : Nat} {cs : List Value} {W W' : World}
theorem LS.rb (h : LS w v p va lx hx n xs lw hw e size vw m cs W) : RB w v W := ⟨h.1, h.2.1, h.2.2.1⟩
theorem LS.x (h : LS w v p va lx hx n xs lw hw e size vw m cs W) : RowIn W lx hx 3 1 va n xs := h.2.2.2.2.2.1
theorem LS.ans (h : LS w v p va lx hx n xs lw hw e size vw m cs W) : RowIn W lw hw e size vw m cs := h.2.2.2.2.2.2
theorem LS.on (h : LS w v p va lx hx n xs lw hw e size vw m cs W) (hb : Below W.heap.size W W') : LS w v p va lx hx n xs lw hw e size vw m cs W' := by
  obtain ⟨a, b, c⟩ := h.rb.on hb
  obtain ⟨_, _, _, d, f, g1, g2⟩ := h
  exact ⟨a, b, c, (hb.cell (by show p < _; omega)).trans d, by have := hb.size; omega, g1.on hb, g2.on hb⟩
theorem LS.drew (h : LS w v p va lx hx n xs lw hw e size vw m cs W) : LS w v p va lx hx n xs lw hw e size vw m cs W.drew := ⟨h.1.drew, h.2⟩
theorem LS.onB {B : Nat} (h : LS w v p va lx hx n xs lw hw e size vw m cs W) (hb : Below B W W') (h1 : w.heap.size + 1 ≤ B) (h2 : p < B) (h3 : hx ≤ B) (h4 : hw ≤ B) : LS w v p va lx hx n xs lw hw e size vw m cs W' := by
  obtain ⟨a, b, c⟩ := h.rb.onB hb h1
  obtain ⟨_, _, _, d, f, g1, g2⟩ := h
  exact ⟨a, b, c, (hb.cell (by show p < _; omega)).trans d, by have := hb.size; omega, g1.belowB hb h3, g2.belowB hb h4⟩
/-- numbers are written into the copy. -/
theorem LS.marked {ys : List Value} (h : LS w v p va lx hx n xs lw hw e size vw m cs W) (hr : RowIn W' lx hx 3 1 va n ys) (ha : Apart lx hx W W') (h1 : w.heap.size + 1 ≤ lx) (h2 : hx ≤ p) (h3 : hw ≤ lx) : LS w v p va lx hx n ys lw hw e size vw m cs W' := by
  obtain ⟨a, b, c, d, f, _, g2⟩ := h
  have hz := ha.size
  exact ⟨a.trans (ha.below (by omega) (by omega)), by omega, (ha.cell (by show w.heap.size < _; omega) (by show w.heap.size < _ ∨ _; omega)).trans c, (ha.cell (by show p < _; omega) (by show p < _ ∨ _ ≤ p; omega)).trans d, by omega, hr, g2.apart ha (by omega)⟩
theorem ls_start {T : TypeId} (h : RB w v W) (hx1 : RowIn W lx hx 3 1 va n xs) (hw1 : RowIn W lw hw e size vw m cs) : LS w v W.heap.size va lx hx n xs lw hw e size vw m cs (W.alloc (.cells #[va] T)) := by
  have hb := below_alloc1 W (.cells #[va] T)
  obtain ⟨a, b, c⟩ := h.on hb
  exact ⟨a, b, c, (cell_of_row _ _ 0 _ _ _ (heap_alloc_new W _)).trans rfl, by simp, hx1.on hb, hw1.on hb⟩
end
end Go.Proofs.YtgkgdgchkhdgjaaDoor.Reg
