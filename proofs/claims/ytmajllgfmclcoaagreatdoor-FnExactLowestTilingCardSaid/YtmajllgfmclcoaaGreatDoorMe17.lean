/- PieP in one text. -/
import Derived.Test.YtmajllgfmclcoaaGreatDoorMe16
import Derived.Test.YtmajllgfmclcoaaGreatDoorMe00

namespace Go.Proofs.YtmajllgfmclcoaaGreatDoor.Flo
set_option linter.unusedVariables false
open Go.RowKit Go.Proofs.YtmajllgfmclcoaaGreatDoor.Base Go.Proofs.YtmajllgfmclcoaaGreatDoor.Euler Go.Proofs.YtmajllgfmclcoaaGreatDoor.Bal Go.Proofs.YtmajllgfmclcoaaGreatDoor.Cell Go.Proofs.YtmajllgfmclcoaaGreatDoor.Reg Go.Proofs.YtmajllgfmclcoaaGreatDoor.Cels Go.Joins

def rowF (n : Nat) (f : Nat → Value) : List Value := (List.range n).map f
theorem rowF_length (n : Nat) (f : Nat → Value) : (rowF n f).length = n := by unfold rowF; simp
theorem rowF_at {n : Nat} (f : Nat → Value) {j : Nat} (h : j < n) : (rowF n f)[j]? = some (f j) := by unfold rowF; simp [List.getElem?_range h]
theorem rowF_same {n : Nat} {f f' : Nat → Value} (h : ∀ i, i < n → f i = f' i) : rowF n f = rowF n f' := by
 unfold rowF
 exact List.map_congr_left (fun i hi => h i (List.mem_range.1 hi))
theorem rowF_set {n : Nat} (f : Nat → Value) {j : Nat} (v : Value) : (rowF n f).set j v = rowF n (fun i => if i = j then v else f i) := by
 apply List.ext_getElem?
 intro i
 rw [List.getElem?_set]
 by_cases hi : i < n
 ·rw [rowF_at (fun i => if i = j then v else f i) hi]
  by_cases e : j = i
  ·subst e; rw [if_pos rfl, rowF_length, if_pos hi, if_pos rfl]
  ·rw [if_neg e, rowF_at f hi, if_neg (fun q => e q.symm)]
 ·rw [List.getElem?_eq_none (l := rowF n (fun i => if i = j then v else f i)) (by rw [rowF_length]; omega)]
  by_cases e : j = i
  ·subst e; rw [if_pos rfl, rowF_length, if_neg hi]
  ·rw [if_neg e, List.getElem?_eq_none (by rw [rowF_length]; omega)]
def seenF (M : Nat → Bool) : List Value := rowF 64 fun i => .bool (M (io i))
theorem seenF_put (M : Nat → Bool) (j : Nat) : (seenF M).set j (.bool true) = seenF (putM M (io j)) := by
 unfold seenF
 rw [rowF_set]
 refine rowF_same (fun i hi => ?_)
 unfold putM
 by_cases e : i = j
 ·subst e; simp
 ·have : (io i == io j) = false := by
   rw [beq_eq_false_iff_ne]; intro q; exact e (by rw [← oi_io i, ← oi_io j, q])
  rw [if_neg e, this, Bool.or_false]
theorem seen_zero : (madeCells (Value.bool false).cells (64 * 1)).toList = seenF (fun _ => false) := by kernel_rfl
theorem boolInfo : (Tryz.prog.info? 4).map (fun i => (i.zero, i.size, i.bytes)) = some (some (.bool false), 1, 1) := by kernel_rfl
theorem own_form {w : World} {base e size n : Nat} {v : Value} {xs : List Value} {g : Nat} (h : w.ownsRow base e size v n xs) (hg : v.ownBlock = some g) : ∃ c, v = .slice (some ⟨g, 0, none⟩) n c := by
 rcases h.2 with ⟨rfl, _⟩ | ⟨g', c, _, rfl, _⟩
 ·cases hg
 ·simp [Value.ownBlock] at hg; subst hg; exact ⟨c, rfl⟩
theorem own_cell {w : World} {base e size n g c : Nat} {xs : List Value} (h : w.ownsRow base e size (.slice (some ⟨g, 0, none⟩) n c) n xs) {j : Nat} {u : Value} (hj : xs[j]? = some u) : w.cell? ⟨g, j, none⟩ = some u := by
 have := h.cells (g := g) rfl j u hj
 rwa [add_plain] at this

def PS (W1 : World) (sb lb : Nat) (M : Nat → Bool) (L : List Nat) (lg lc : Nat) (W : World) : Prop :=
 Below sb W1 W ∧ sb + 1 ≤ lb ∧ lb ≤ W.heap.size ∧ RowIn W sb (sb + 1) 4 1 (.slice (some ⟨sb, 0, none⟩) 64 64) 64 (seenF M) ∧ W.ownsRow lb 79 2 (.slice (some ⟨lg, 0, none⟩) L.length lc) L.length (rowC (L.map plC))
section
variable {W1 W W' : World} {sb lb : Nat} {M : Nat → Bool} {L : List Nat} {lg lc : Nat}
theorem PS.on (h : PS W1 sb lb M L lg lc W) (hb : Below W.heap.size W W') : PS W1 sb lb M L lg lc W' := by
 obtain ⟨a, b, c, d, e⟩ := h
 have hz := hb.size
 exact ⟨a.trans (hb.mono (by omega)), b, by omega, d.on hb, own_below e hb (Nat.le_refl _)⟩
theorem PS.drew (h : PS W1 sb lb M L lg lc W) : PS W1 sb lb M L lg lc W.drew := ⟨h.1.drew, h.2⟩
theorem PS.lg_lt (h : PS W1 sb lb M L lg lc W) : lb ≤ lg ∧ lg < W.heap.size := h.2.2.2.2.lt lg rfl
theorem PS.seen (h : PS W1 sb lb M L lg lc W) {j : Nat} (hj : j < 64) : W.cell? ⟨sb, j, none⟩ = some (.bool (M (io j))) := own_cell h.2.2.2.1.1 (rowF_at _ hj)
theorem PS.frozen (h : PS W1 sb lb M L lg lc W) (j : Nat) : W.frozen? ⟨sb, j, none⟩ = false := h.2.2.2.1.1.frozenAt j
theorem PS.list (h : PS W1 sb lb M L lg lc W) {k u : Nat} (hk : L[k]? = some u) : W.cell? ⟨lg, k * 2, none⟩ = some (.int .i64 (plC u).1) ∧ W.cell? ⟨lg, k * 2 + 1, none⟩ = some (.int .i64 (plC u).2) := by
 obtain ⟨h1, h2⟩ := rowC_at (L.map plC) k (plC u) (by rw [List.getElem?_map, hk]; rfl)
 exact ⟨own_cell h.2.2.2.2 h1, own_cell h.2.2.2.2 h2⟩
theorem PS.mark (h : PS W1 sb lb M L lg lc W) (j : Nat) : PS W1 sb lb (putM M (io j)) L lg lc (W.setCell ⟨sb, j, none⟩ (.bool true)) := by
 obtain ⟨a, b, c, d, e⟩ := h
 obtain ⟨hst, _⟩ := d.1.stored j (.bool true)
 rw [seenF_put] at hst
 exact ⟨a.setCell (Nat.le_refl _) _, b, by simpa [World.setCell] using c, ⟨hst, d.2⟩, ownsRow_setCell_below e (by show sb < lb; omega) _⟩
theorem PS.app {lg' lc' : Nat} {p : Nat} (h : PS W1 sb lb M L lg lc W) (ho : W'.ownsRow lb 79 2 (.slice (some ⟨lg', 0, none⟩) (L.length + 1) lc') (L.length + 1) (rowC (L.map plC) ++ [.int .i64 (plC p).1, .int .i64 (plC p).2])) (hg : W.grownBy W' (some lg)) : PS W1 sb lb M (L ++ [p]) lg' lc' W' := by
 have hl := h.lg_lt
 obtain ⟨a, b, c, d, e⟩ := h
 have hz := hg.size
 refine ⟨a.grown hg (by omega) (fun g hg' => by cases hg'; omega), b, by omega, ⟨d.1.kept hg (.inr (by intro q; simp [Value.ownBlock] at q; omega)), d.2⟩, ?_⟩
 rw [List.length_append, List.map_append, List.map_singleton, rowC_snoc]
 exact ho
end
theorem own_one {e : TypeId} (W : World) (x y : Value) : (W.alloc (.cells #[x, y] e)).ownsRow W.heap.size e 2 (.slice (some ⟨W.heap.size, 0, none⟩) 1 1) 1 [x, y] :=
 ⟨rfl, .inr ⟨W.heap.size, 1, #[x, y], rfl, Nat.le_refl _, heap_alloc_new W _, Nat.le_refl _, by unfold maxLen; omega, rfl, rfl⟩⟩
theorem setCell_size (W : World) (p : Addr) (v : Value) : (W.setCell p v).heap.size = W.heap.size := by simp [World.setCell]
theorem ps_start {W1 W : World} {sb a : Nat} {x y : Int} (hb : Below sb W1 W) (hs : sb < W.heap.size) (hr : RowIn W sb (sb + 1) 4 1 (.slice (some ⟨sb, 0, none⟩) 64 64) 64 (seenF (fun _ => false))) (hx : x = (plC (io a)).1) (hy : y = (plC (io a)).2) :
  PS W1 sb W.heap.size (putM (fun _ => false) (io a)) [io a] W.heap.size 1 ((W.setCell ⟨sb, a, none⟩ (.bool true)).alloc (.cells #[.int .i64 x, .int .i64 y] 79)) := by
 obtain ⟨hst, _⟩ := hr.1.stored a (.bool true)
 rw [seenF_put] at hst
 have hz := setCell_size W ⟨sb, a, none⟩ (.bool true)
 have ho := own_one (e := 79) (W.setCell ⟨sb, a, none⟩ (.bool true)) (.int .i64 x) (.int .i64 y)
 rw [hz, hx, hy] at ho
 subst hx hy
 refine ⟨(hb.setCell (Nat.le_refl _) _).alloc (by rw [hz]; omega) _, by omega, by simp [hz], ⟨hst.alloc _, hr.2⟩, ho⟩
def PN (W1 : World) (sb lb : Nat) (M : Nat → Bool) (L : List Nat) (lg lc nlo nhi : Nat) (nv : Value) (m : Nat) (NL : List Nat) (W : World) : Prop :=
 PS W1 sb lb M L lg lc W ∧ RowIn W nlo nhi 79 2 nv m (rowC (NL.map plC)) ∧ (lg < nlo ∨ nhi ≤ lg) ∧ nhi ≤ W.heap.size ∧ lb ≤ nlo
section
variable {W1 W W' : World} {sb lb : Nat} {M : Nat → Bool} {L : List Nat} {lg lc nlo nhi : Nat} {nv : Value} {m : Nat} {NL : List Nat}
theorem PN.on (h : PN W1 sb lb M L lg lc nlo nhi nv m NL W) (hb : Below W.heap.size W W') : PN W1 sb lb M L lg lc nlo nhi nv m NL W' := by
 obtain ⟨a, b, c, d, e⟩ := h
 have hz := hb.size
 exact ⟨a.on hb, b.on hb, c, by omega, e⟩
theorem PN.drew (h : PN W1 sb lb M L lg lc nlo nhi nv m NL W) : PN W1 sb lb M L lg lc nlo nhi nv m NL W.drew := ⟨h.1.drew, h.2⟩
theorem PN.mark (h : PN W1 sb lb M L lg lc nlo nhi nv m NL W) (j : Nat) : PN W1 sb lb (putM M (io j)) L lg lc nlo nhi nv m NL (W.setCell ⟨sb, j, none⟩ (.bool true)) := by
 obtain ⟨a, b, c, d, e⟩ := h
 have hz := a.2.1
 exact ⟨a.mark j, ⟨ownsRow_setCell_below b.1 (by show sb < nlo; omega) _, b.2⟩, c, by simpa [World.setCell] using d, e⟩
theorem PN.app {lg' lc' p : Nat} (h : PN W1 sb lb M L lg lc nlo nhi nv m NL W) (ho : W'.ownsRow lb 79 2 (.slice (some ⟨lg', 0, none⟩) (L.length + 1) lc') (L.length + 1) (rowC (L.map plC) ++ [.int .i64 (plC p).1, .int .i64 (plC p).2])) (hg : W.grownBy W' (some lg)) (hl : lg' = lg ∨ lg' = W.heap.size) : PN W1 sb lb M (L ++ [p]) lg' lc' nlo nhi nv m NL W' := by
 obtain ⟨a, b, c, d, e⟩ := h
 have hz := hg.size
 refine ⟨a.app ho hg, ⟨b.1.kept hg ?_, b.2⟩, by omega, by omega, e⟩
 cases q : nv.ownBlock with
 | none => exact .inl rfl
 | some g =>
  refine .inr (fun q2 => ?_)
  have h1 := b.2 g q
  have h2 := (b.1.lt g q).1
  cases q2
  omega
theorem PN.cell {nb c : Nat} (h : PN W1 sb lb M L lg lc nlo nhi (.slice (some ⟨nb, 0, none⟩) m c) m NL W) {i u : Nat} (hi : NL[i]? = some u) : W.cell? ⟨nb, i * 2, none⟩ = some (.int .i64 (plC u).1) ∧ W.cell? ⟨nb, i * 2 + 1, none⟩ = some (.int .i64 (plC u).2) := by
 obtain ⟨h1, h2⟩ := rowC_at (NL.map plC) i (plC u) (by rw [List.getElem?_map, hi]; rfl)
 exact ⟨own_cell h.2.1.1 h1, own_cell h.2.1.1 h2⟩
end
theorem index_io {j : Nat} (hj : j < 64) : indexN (plC (io j)).1 (plC (io j)).2 = (j : Int) := by
 rw [plC_io]
 unfold cellI indexN
 rw [if_pos (by unfold Ok; simp only; omega)]
 simp only; omega
theorem join_io {u p : Nat} (h : p ∈ joinF true u) : ∃ j, j < 64 ∧ p = io j := by
 obtain ⟨j, hj, rfl⟩ := List.mem_map.1 h
 exact ⟨j, List.mem_range.1 (List.mem_filter.1 hj).1, rfl⟩
end Go.Proofs.YtmajllgfmclcoaaGreatDoor.Flo
