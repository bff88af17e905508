/- What the model's CountHoles holds in memory: marks of the hundred places in a row, a list of places in another. -/
import Derived.Test.YtocjnplbjdpieaaPieP
import Derived.Test.YtocjnplbjdpieaaCnt
import Derived.Test.YtocjnplbjdpieaaFlJ
namespace Go.Proofs.Ytocjnplbjdpieaa.Flo
set_option linter.unusedVariables false
open Go.RowKit Go.Proofs.Ytocjnplbjdpieaa.Base Go.Proofs.Ytocjnplbjdpieaa.Pure Go.Proofs.Ytocjnplbjdpieaa.Euler Go.Proofs.Ytocjnplbjdpieaa.Bal Go.Proofs.Ytocjnplbjdpieaa.Cell Go.Proofs.Ytocjnplbjdpieaa.Reg Go.Proofs.Ytocjnplbjdpieaa.Cels Go.Joins

def one01 (b : Bool) : Int := if b then 1 else 0
def markF (M : Nat → Bool) : List Value := rowF 100 fun v => .int .i64 (one01 (M v))
theorem markF_put (M : Nat → Bool) (p : Nat) : (markF M).set p (.int .i64 1) = markF (putM M p) := by
  unfold markF
  rw [rowF_set]
  refine rowF_same (fun i hi => ?_)
  unfold putM
  by_cases e : i = p
  · subst e; simp [one01]
  · have : (i == p) = false := by rw [beq_eq_false_iff_ne]; exact e
    rw [if_neg e, this, Bool.or_false]
theorem mark_zero : (madeCells (Value.int .i64 0).cells (100 * 1)).toList = markF (fun _ => false) := by kernel_rfl
/-- places as numbers. -/
def plI (L : List Nat) : List Int := L.map fun (v : Nat) => (v : Int)
theorem plI_at {L : List Nat} {k u : Nat} (h : L[k]? = some u) : (ints (plI L))[k]? = some (.int .i64 (u : Int)) := Reg.ints_at (by unfold plI; rw [List.getElem?_map, h]; rfl)
theorem plI_snoc (L : List Nat) (p : Nat) : ints (plI (L ++ [p])) = ints (plI L) ++ [.int .i64 (p : Int)] := by unfold plI ints; simp

/-- the marks, below which nothing has turned since W1. -/
def PO (W1 : World) (sb : Nat) (M : Nat → Bool) (W : World) : Prop :=
  Below sb W1 W ∧ sb < W.heap.size ∧ RowIn W sb (sb + 1) 3 1 (.slice (some ⟨sb, 0, none⟩) 100 100) 100 (markF M)
section
variable {W1 W W' : World} {sb : Nat} {M : Nat → Bool}
theorem PO.on (h : PO W1 sb M W) (hb : Below W.heap.size W W') : PO W1 sb M W' := by
  obtain ⟨a, b, c⟩ := h
  have hz := hb.size
  exact ⟨a.trans (hb.mono (by omega)), by omega, c.on hb⟩
theorem PO.drew (h : PO W1 sb M W) : PO W1 sb M W.drew := ⟨h.1.drew, h.2⟩
theorem PO.cell (h : PO W1 sb M W) {v : Nat} (hv : v < 100) : W.cell? ⟨sb, v, none⟩ = some (.int .i64 (one01 (M v))) := own_cell h.2.2.1 (rowF_at _ hv)
theorem PO.frozen (h : PO W1 sb M W) (v : Nat) : W.frozen? ⟨sb, v, none⟩ = false := h.2.2.1.frozenAt v
end
/-- beside them the list, from lb on, in lg. -/
def PH (W1 : World) (sb lb : Nat) (M : Nat → Bool) (L : List Nat) (lg lc : Nat) (W : World) : Prop :=
  PO W1 sb M W ∧ sb + 1 ≤ lb ∧ lb ≤ W.heap.size ∧ W.ownsRow lb 3 1 (.slice (some ⟨lg, 0, none⟩) L.length lc) L.length (ints (plI L))
section
variable {W1 W W' : World} {sb lb : Nat} {M : Nat → Bool} {L : List Nat} {lg lc : Nat}
theorem PH.on (h : PH W1 sb lb M L lg lc W) (hb : Below W.heap.size W W') : PH W1 sb lb M L lg lc W' := by
  obtain ⟨a, b, c, e⟩ := h
  have hz := hb.size
  exact ⟨a.on hb, b, by omega, own_below e hb (Nat.le_refl _)⟩
theorem PH.lg_lt (h : PH W1 sb lb M L lg lc W) : lb ≤ lg ∧ lg < W.heap.size := h.2.2.2.lt lg rfl
theorem PH.list (h : PH W1 sb lb M L lg lc W) {k u : Nat} (hk : L[k]? = some u) : W.cell? ⟨lg, k, none⟩ = some (.int .i64 (u : Int)) := own_cell h.2.2.2 (plI_at hk)
theorem PH.mark (h : PH W1 sb lb M L lg lc W) (p : Nat) : PH W1 sb lb (putM M p) L lg lc (W.setCell ⟨sb, p, none⟩ (.int .i64 1)) := by
  obtain ⟨⟨a, s, d⟩, b, c, e⟩ := h
  obtain ⟨hst, _⟩ := d.1.stored p (.int .i64 1)
  rw [markF_put] at hst
  exact ⟨⟨a.setCell (Nat.le_refl _) _, by rw [setCell_size]; exact s, ⟨hst, d.2⟩⟩, b, by rw [setCell_size]; exact c, ownsRow_setCell_below e (by show sb < lb; omega) _⟩
theorem PH.app {lg' lc' p : Nat} (h : PH W1 sb lb M L lg lc W) (ho : W'.ownsRow lb 3 1 (.slice (some ⟨lg', 0, none⟩) (L.length + 1) lc') (L.length + 1) (ints (plI L) ++ [.int .i64 (p : Int)])) (hg : W.grownBy W' (some lg)) : PH W1 sb lb M (L ++ [p]) lg' lc' W' := by
  have hl := h.lg_lt
  obtain ⟨⟨a, s, d⟩, b, c, e⟩ := h
  have hz := hg.size
  refine ⟨⟨a.grown hg (by omega) (fun g hg' => by cases hg'; omega), by omega, ⟨d.1.kept hg (.inr (by intro q; simp [Value.ownBlock] at q; omega)), d.2⟩⟩, b, by omega, ?_⟩
  rw [List.length_append, plI_snoc]
  exact ho
theorem own_oneI {e : TypeId} (W : World) (x : Value) : (W.alloc (.cells #[x] e)).ownsRow W.heap.size e 1 (.slice (some ⟨W.heap.size, 0, none⟩) 1 1) 1 [x] :=
  ⟨rfl, .inr ⟨W.heap.size, 1, #[x], rfl, Nat.le_refl _, heap_alloc_new W _, Nat.le_refl _, by unfold maxLen; omega, rfl, rfl⟩⟩
theorem ph_start (h : PO W1 sb M W) (p : Nat) : PH W1 sb W.heap.size (putM M p) [p] W.heap.size 1 ((W.setCell ⟨sb, p, none⟩ (.int .i64 1)).alloc (.cells #[.int .i64 (p : Int)] 3)) := by
  obtain ⟨a, s, d⟩ := h
  obtain ⟨hst, _⟩ := d.1.stored p (.int .i64 1)
  rw [markF_put] at hst
  have hz := setCell_size W ⟨sb, p, none⟩ (.int .i64 1)
  have ho := own_oneI (e := 3) (W.setCell ⟨sb, p, none⟩ (.int .i64 1)) (.int .i64 (p : Int))
  rw [hz] at ho
  refine ⟨⟨(a.setCell (Nat.le_refl _) _).alloc (by rw [hz]; have := a.size; omega) _, by simp [hz]; omega, ⟨hst.alloc _, d.2⟩⟩, by omega, by simp [hz], ho⟩
end
/-- one way of the nine: where it leads. -/
theorem way_in {u d r : Nat} (hu : u < 100) (hr : r < 3) : inTo u (3 * d + r) = true ↔ (0 ≤ ((u % 10 : Nat) : Int) + ((r : Int) - 1) ∧ ((u % 10 : Nat) : Int) + ((r : Int) - 1) ≤ 9) ∧ (0 ≤ ((u / 10 : Nat) : Int) + ((d : Int) - 1) ∧ ((u / 10 : Nat) : Int) + ((d : Int) - 1) ≤ 9) := by
  unfold inTo
  simp only [Bool.and_eq_true, decide_eq_true_eq, show (3 * d + r) / 3 = d by omega, show (3 * d + r) % 3 = r by omega]
  omega
theorem way_to {u d r : Nat} (hu : u < 100) (hr : r < 3) (h : inTo u (3 * d + r) = true) : ((toP u (3 * d + r) : Nat) : Int) = (((u / 10 : Nat) : Int) + ((d : Int) - 1)) * 10 + (((u % 10 : Nat) : Int) + ((r : Int) - 1)) ∧ plC (toP u (3 * d + r)) = (((u % 10 : Nat) : Int) + ((r : Int) - 1) - 1, ((u / 10 : Nat) : Int) + ((d : Int) - 1) - 1) ∧ toP u (3 * d + r) < 100 := by
  have hi := (way_in hu hr).1 h
  have e : ((toP u (3 * d + r) : Nat) : Int) = (((u / 10 : Nat) : Int) + ((d : Int) - 1)) * 10 + (((u % 10 : Nat) : Int) + ((r : Int) - 1)) := by
    unfold toP
    rw [show (3 * d + r) / 3 = d by omega, show (3 * d + r) % 3 = r by omega]
    omega
  refine ⟨e, ?_, by omega⟩
  unfold plC
  exact Prod.ext (by simp only; omega) (by simp only; omega)
theorem way_join {u d r : Nat} (hd : d < 3) (hr : r < 3) (h : inTo u (3 * d + r) = true) : toP u (3 * d + r) ∈ joinF false u := by
  show toP u (3 * d + r) ∈ ringTo u 9
  unfold ringTo
  exact List.mem_map_of_mem (List.mem_filter.2 ⟨List.mem_range.2 (by omega), h⟩)
end Go.Proofs.Ytocjnplbjdpieaa.Flo
