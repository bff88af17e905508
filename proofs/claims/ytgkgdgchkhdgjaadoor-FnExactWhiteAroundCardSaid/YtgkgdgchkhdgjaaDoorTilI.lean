/- IsPartial, the program's: may a domino come behind others; all of a list, one behind the other. -/
import Derived.Test.YtgkgdgchkhdgjaaDoorTilU
import Derived.Deep.RegionHeld3
namespace Go.Proofs.YtgkgdgchkhdgjaaDoor.Til
set_option linter.unusedVariables false
set_option linter.unusedSimpArgs false
open Go.RowKit Go.Proofs.YtgkgdgchkhdgjaaDoor.Base Go.Proofs.YtgkgdgchkhdgjaaDoor.Pure Go.Proofs.YtgkgdgchkhdgjaaDoor.Cell Go.Proofs.YtgkgdgchkhdgjaaDoor.Cels Go.Proofs.YtgkgdgchkhdgjaaDoor.Dom Go.Proofs.YtgkgdgchkhdgjaaDoor.Dms Go.Joins
open Go.Proofs.YtgkgdgchkhdgjaaDoor.Reg hiding Yes add_none

/-- a region's box in block q. -/
def Rg (W : World) (q : Nat) (v : Value) : Prop := W.heap[q]? = some (.cells #[v] 26)
theorem Rg.on {W W' : World} {q : Nat} {v : Value} (h : Rg W q v) (hb : Below W.heap.size W W') : Rg W' q v := (hb.block q (Array.getElem?_eq_some_iff.1 h).1).trans h
theorem Rg.c0 {W : World} {q : Nat} {v : Value} (h : Rg W q v) : W.cell? ⟨q, 0, none⟩ = some v := (cell_of_row _ _ 0 _ _ _ h).trans rfl
theorem Rg.lt {W : World} {q : Nat} {v : Value} (h : Rg W q v) : q < W.heap.size := (Array.getElem?_eq_some_iff.1 h).1
theorem Rg.new (W : World) (v : Value) : Rg (W.alloc (.cells #[v] 26)) W.heap.size v := heap_alloc_new W _
/-- the boxes of a region and a cell, of a region and a domino. -/
def RC (w : World) (v : Value) (x y : Int) (W : World) : Prop := Below w.heap.size w W ∧ Rg W w.heap.size v ∧ At2 W (w.heap.size + 1) x y
def RD (w : World) (v : Value) (x y : Int) (b : Bool) (W : World) : Prop := Below w.heap.size w W ∧ Rg W w.heap.size v ∧ At3 121 W (w.heap.size + 1) x y b
theorem rc_start (w : World) (v : Value) (x y : Int) : RC w v x y ((w.alloc (.cells #[v] 26)).alloc (.cells #[.int .i64 x, .int .i64 y] 33)) := by
  have h1 := Rg.new w v
  have hb := below_alloc1 w (.cells #[v] 26)
  have hz : (w.alloc (.cells #[v] 26)).heap.size = w.heap.size + 1 := by simp
  generalize w.alloc (.cells #[v] 26) = W at h1 hb hz ⊢
  have h2 := At2.new W x y
  rw [hz] at h2
  exact ⟨hb.alloc hb.size _, h1.on (below_alloc1 W _), h2⟩
theorem rd_start (w : World) (v : Value) (x y : Int) (b : Bool) : RD w v x y b ((w.alloc (.cells #[v] 26)).alloc (.cells #[.int .i64 x, .int .i64 y, .bool b] 121)) := by
  have h1 := Rg.new w v
  have hb := below_alloc1 w (.cells #[v] 26)
  have hz : (w.alloc (.cells #[v] 26)).heap.size = w.heap.size + 1 := by simp
  generalize w.alloc (.cells #[v] 26) = W at h1 hb hz ⊢
  have h2 := At3.new 121 W x y b
  rw [hz] at h2
  exact ⟨hb.alloc hb.size _, h1.on (below_alloc1 W _), h2⟩
section
variable {w W W' : World} {v : Value} {x y : Int} {b : Bool}
theorem RC.on (h : RC w v x y W) (hb : Below W.heap.size W W') : RC w v x y W' := ⟨h.1.trans (hb.mono h.1.size), h.2.1.on hb, h.2.2.on hb⟩
theorem RD.on (h : RD w v x y b W) (hb : Below W.heap.size W W') : RD w v x y b W' := ⟨h.1.trans (hb.mono h.1.size), h.2.1.on hb, h.2.2.on hb⟩
theorem RC.drew (h : RC w v x y W) : RC w v x y W.drew := ⟨h.1.drew, h.2⟩
theorem RD.drew (h : RD w v x y b W) : RD w v x y b W.drew := ⟨h.1.drew, h.2⟩
end
theorem RowM.take {w : World} {B : Nat} {A : Option Addr} {L : List Dm} (h : RowM w B A L) (k : Nat) : RowM w B A (L.take k) := by
  obtain ⟨b, off, h1, h2⟩ := h
  refine ⟨b, off, fun h0 => h1 (by rw [List.length_take] at h0; omega), fun j d hd => h2 j d ?_⟩
  rw [List.getElem?_take] at hd
  split at hd
  · exact hd
  · cases hd
theorem Fits.take {L : List Dm} (h : Fits L) (k : Nat) : Fits (L.take k) := fun d hd => h d (List.mem_of_mem_take hd)

end Go.Proofs.YtgkgdgchkhdgjaaDoor.Til
