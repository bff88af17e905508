/- Lists of cells as arguments; what chapter 10 asks of them, pure; the model's l10Has and l10Blacks. -/
import Derived.Test.YtkjoonmnedofiaaDefD
import Derived.Test.YtkjoonmnedofiaaRegCel
import Derived.Test.YtkjoonmnedofiaaRegCl
import Derived.Test.YtkjoonmnedofiaaCellF
import Derived.Test.YtkjoonmnedofiaaCellN
import Derived.BigQuiet
import Derived.Deep.QuietTactic
namespace Go.Proofs.Ytkjoonmnedofiaa.Def
set_option linter.unusedVariables false
set_option linter.unusedSimpArgs false
set_option maxRecDepth 100000
open Go.RowKit Go.Proofs.Ytkjoonmnedofiaa.Base Go.Proofs.Ytkjoonmnedofiaa.Pure Go.Proofs.Ytkjoonmnedofiaa.Cell Go.Proofs.Ytkjoonmnedofiaa.CellF Go.Proofs.Ytkjoonmnedofiaa.CellN Go.Proofs.Ytkjoonmnedofiaa.Cels Go.Joins
open Go.Proofs.Ytkjoonmnedofiaa.Reg hiding Yes RC rc_start

/-- cells in a row that an argument names. -/
def RowK (w : World) (B : Nat) (A : Option Addr) (L : List (Int × Int)) : Prop :=
  ∃ b off : Nat, (0 < L.length → A = some ⟨b, off, none⟩ ∧ b < B) ∧ ∀ j p, L[j]? = some p → w.cell? ⟨b, off + j * 2, none⟩ = some (.int .i64 p.1) ∧ w.cell? ⟨b, off + j * 2 + 1, none⟩ = some (.int .i64 p.2)
theorem RowK.below {w w' : World} {B B' : Nat} {A : Option Addr} {L : List (Int × Int)} (h : RowK w B A L) (hb : Below B' w w') (hB : B ≤ B') : RowK w' B A L := by
  obtain ⟨b, off, h1, h2⟩ := h
  refine ⟨b, off, h1, fun j p hp => ?_⟩
  have hl : 0 < L.length := by
    rcases Nat.eq_zero_or_pos L.length with h0 | h0
    · rw [List.eq_nil_of_length_eq_zero h0] at hp; simp at hp
    · exact h0
  have hlt : b < B' := Nat.lt_of_lt_of_le (h1 hl).2 hB
  rw [hb.cell (p := ⟨b, off + j * 2, none⟩) hlt, hb.cell (p := ⟨b, off + j * 2 + 1, none⟩) hlt]
  exact h2 j p hp
/-- a cell's box. -/
def KB (w : World) (x y : Int) (W : World) : Prop :=
  Below w.heap.size w W ∧ w.heap.size < W.heap.size ∧ W.cell? ⟨w.heap.size, 0, none⟩ = some (.int .i64 x) ∧ W.cell? ⟨w.heap.size, 1, none⟩ = some (.int .i64 y)
theorem kb_start {T : TypeId} (x y : Int) (w : World) : KB w x y (w.alloc (.cells #[.int .i64 x, .int .i64 y] T)) := by
  have e2 : (w.alloc (.cells #[.int .i64 x, .int .i64 y] T)).heap[w.heap.size]? = some (.cells #[.int .i64 x, .int .i64 y] T) := by
    show (w.heap.push _)[w.heap.size]? = _
    exact Array.getElem?_push_size
  exact ⟨below_alloc1 w _, by simp, (cell_of_row _ _ 0 _ _ _ e2).trans rfl, (cell_of_row _ _ 1 _ _ _ e2).trans rfl⟩
theorem KB.drew {w W : World} {x y : Int} (h : KB w x y W) : KB w x y W.drew := ⟨h.1.drew, h.2⟩
theorem KB.on {w W W' : World} {x y : Int} (h : KB w x y W) (hb : Below W.heap.size W W') : KB w x y W' := by
  obtain ⟨h0, h1, h3, h4⟩ := h
  have hz := hb.size
  refine ⟨h0.trans (hb.mono h0.size), by omega, ?_, ?_⟩
  · rw [hb.cell (by show w.heap.size < _; omega)]; exact h3
  · rw [hb.cell (by show w.heap.size < _; omega)]; exact h4
end Go.Proofs.Ytkjoonmnedofiaa.Def
