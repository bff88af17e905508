/- Regions of a law's own, each in a box; regions of statements that draw their order and end in such a box. -/
import Derived.Test.YtocjnplbjdpieaaRegL2
import Derived.Test.YtocjnplbjdpieaaRegLC
namespace Go.Proofs.Ytocjnplbjdpieaa.Reg
set_option linter.unusedVariables false
open Go.RowKit Go.Proofs.Ytocjnplbjdpieaa.Base Go.Proofs.Ytocjnplbjdpieaa.Pure Go.Proofs.Ytocjnplbjdpieaa.Cell Go.Joins

/-- the value va in the box p, its row beside it, all of it from block B on, below block H. -/
def BoxAt (W : World) (B H p : Nat) (va : Value) (n : Nat) (ys : List Value) : Prop :=
  W.heap[p]? = some (.cells #[va] 26) ∧ B ≤ p ∧ p < H ∧ H ≤ W.heap.size ∧ ∃ lo hi, B ≤ lo ∧ lo ≤ hi ∧ hi ≤ H ∧ RowIn W lo hi 3 1 va n ys ∧ (p < lo ∨ hi ≤ p)
theorem own_range {W : World} {B e size n : Nat} {v : Value} {xs : List Value} (h : W.ownsRow B e size v n xs) (hB : B ≤ W.heap.size) : ∃ lo hi, B ≤ lo ∧ lo ≤ hi ∧ hi ≤ lo + 1 ∧ hi ≤ W.heap.size ∧ RowIn W lo hi e size v n xs := by
  rcases h.2 with ⟨rfl, rfl⟩ | ⟨g, cap, cur, rfl, hg, hgg, rest⟩
  · exact ⟨B, B, Nat.le_refl _, Nat.le_refl _, by omega, hB, ⟨h.1, .inl ⟨rfl, rfl⟩⟩, fun g hg => by simp [Value.ownBlock] at hg⟩
  · have hl := (Array.getElem?_eq_some_iff.1 hgg).1
    exact ⟨g, g + 1, hg, by omega, by omega, by omega, ⟨h.1, .inr ⟨g, cap, cur, rfl, Nat.le_refl _, hgg, rest⟩⟩, fun q hq => by simp [Value.ownBlock] at hq; omega⟩
section
variable {W W' : World} {B H p : Nat} {va : Value} {n : Nat} {ys : List Value}
theorem BoxAt.cell (h : BoxAt W B H p va n ys) : W.cell? ⟨p, 0, none⟩ = some va := (cellAt h.1 0).1.trans rfl
theorem BoxAt.own (h : BoxAt W B H p va n ys) : W.ownsRow B 3 1 va n ys := by
  obtain ⟨_, _, _, _, lo, hi, h1, h2, h3, h4, _⟩ := h
  exact own_base h4.1 h1
theorem BoxAt.on (h : BoxAt W B H p va n ys) (hb : Below W.heap.size W W') : BoxAt W' B H p va n ys := by
  obtain ⟨a, b, c, d, lo, hi, h1, h2, h3, h4, h5⟩ := h
  have := hb.size
  exact ⟨(hb.block p (by omega)).trans a, b, c, by omega, lo, hi, h1, h2, h3, h4.on hb, h5⟩
theorem BoxAt.drew (h : BoxAt W B H p va n ys) : BoxAt W.drew B H p va n ys := h
theorem BoxAt.far {B' H' : Nat} (h : BoxAt W B H p va n ys) (ha : Apart B' H' W W') (hd : H ≤ B' ∨ H' ≤ B) : BoxAt W' B H p va n ys := by
  obtain ⟨a, b, c, d, lo, hi, h1, h2, h3, h4, h5⟩ := h
  have := ha.size
  exact ⟨(ha.block p (by omega) (by omega)).trans a, b, c, by omega, lo, hi, h1, h2, h3, h4.apart ha (by omega), h5⟩
theorem BoxAt.row {A : Option Addr} {cap : Nat} {xs : List Int} (h : BoxAt W B H p (.slice A n cap) n (ints xs)) : RowB W W.heap.size A xs := rowB_own h.own
/-- a box that is made when its row is there. -/
theorem box_last (ho : W.ownsRow B 3 1 va n ys) (hB : B ≤ W.heap.size) : BoxAt (W.alloc (.cells #[va] 26)) B (W.alloc (.cells #[va] 26)).heap.size W.heap.size va n ys := by
  obtain ⟨lo, hi, h1, h2, h3, h4, h5⟩ := own_range ho hB
  exact ⟨heap_alloc_new W _, hB, by simp, Nat.le_refl _, lo, hi, h1, h2, by simp; omega, h5.on (below_alloc1 W _), .inr h4⟩
/-- a box that was there ahead of its row. -/
theorem box_first {u : Value} {B' q : Nat} (hq : W.heap[q]? = some (.cells #[u] 26)) (ho : W.ownsRow B' 3 1 va n ys) (hB : B' ≤ W.heap.size) (hq1 : q < B') (hq2 : B ≤ q) :
    BoxAt (W.setCell ⟨q, 0, none⟩ va) B (W.setCell ⟨q, 0, none⟩ va).heap.size q va n ys := by
  obtain ⟨lo, hi, h1, h2, h3, h4, h5⟩ := own_range ho hB
  have hz : (W.setCell ⟨q, 0, none⟩ va).heap.size = W.heap.size := by simp [World.setCell]
  refine ⟨?_, hq2, by omega, Nat.le_refl _, lo, hi, by omega, h2, by omega, ?_, .inl (by omega)⟩
  · have := block_setCell hq va (i := 0)
    rw [this]; rfl
  · exact h5.apart (lo' := q) (hi' := q + 1) ((Apart.refl q (q + 1) W).setCell (p := ⟨q, 0, none⟩) (Nat.le_refl _) (by show q < q + 1; omega) va) (.inr (by omega))
end
theorem markBox (W : World) (B H p n cap : Nat) (A : Option Addr) (xs : List Int) (m : Int) (hm : m = ((1 + n : Nat) : Int)) (hn : (n : Int) ≤ 9000000) (hr : BoxAt W B H p (.slice A n cap) n (ints xs)) :
    Calls Try.prog 32 #[.agg #[.slice A n cap], .int .i64 1] W fun e w' => e = .returned (.int .i64 m) ∧ BoxAt w' B H p (.slice A n cap) n (ints (marksI 1 n)) ∧ Apart B H W w' := by
  obtain ⟨a, b, c, d, lo, hi, h1, h2, h3, h4, h5⟩ := hr
  refine (markReg1 W lo hi n cap A xs m hm hn h4).mono ?_
  rintro e w' ⟨rfl, hr', ha⟩
  have hz := ha.size
  exact ⟨rfl, ⟨(ha.block p (by omega) h5).trans a, b, c, by omega, lo, hi, h1, h2, h3, hr', h5⟩, ⟨ha.os, ha.tape, ha.output, ha.size, fun k hk hkr => ha.block k hk (by omega)⟩⟩

/-- a fresh box, from block K on, at a world that came later. -/
def Fresh (K : Nat) (W : World) (q : Nat) : Prop := W.heap[q]? = some (.cells #[.slice none 0 0] 26) ∧ W.cell? ⟨q, 0, none⟩ = some (.slice none 0 0) ∧ W.frozen? ⟨q, 0, none⟩ = false ∧ K ≤ q ∧ q < W.heap.size
theorem fresh_of {K : Nat} {W : World} {q : Nat} (h : W.heap[q]? = some (.cells #[.slice none 0 0] 26)) (hq : K ≤ q) : Fresh K W q :=
  ⟨h, (cellAt h 0).1.trans rfl, (cellAt h 0).2, hq, (Array.getElem?_eq_some_iff.1 h).1⟩
theorem fresh_new {K : Nat} {X W : World} (h : K ≤ X.heap.size) (hb : Below (X.alloc (.cells #[.slice none 0 0] 26)).heap.size (X.alloc (.cells #[.slice none 0 0] 26)) W) : Fresh K W X.heap.size :=
  fresh_of ((hb.block _ (by simp)).trans (heap_alloc_new X _)) h
theorem fresh_newD {K : Nat} {X W : World} (h : K ≤ X.heap.size) (hb : Below (X.drew.alloc (.cells #[.slice none 0 0] 26)).heap.size (X.drew.alloc (.cells #[.slice none 0 0] 26)) W) : Fresh K W X.heap.size :=
  show Fresh K W X.drew.heap.size from fresh_new (X := X.drew) h hb
theorem fresh_old {K : Nat} {X W : World} {q : Nat} (h : Fresh K X q) (hb : Below X.heap.size X W) : Fresh K W q := fresh_of ((hb.block _ h.2.2.2.2).trans h.1) h.2.2.2.1
/-- what a statement reads, at worlds that came behind W7. -/
def RK (W7 : World) (g : Nat) (v : Value) (x y : Int) (px : Nat) (vx : Value) (W : World) : Prop :=
  Below W7.heap.size W7 W ∧ W.cell? ⟨g, 0, none⟩ = some v ∧ W.cell? ⟨g + 1, 0, none⟩ = some (.int .i64 x) ∧ W.cell? ⟨g + 1, 1, none⟩ = some (.int .i64 y) ∧ W.cell? ⟨px, 0, none⟩ = some vx ∧ (g + 2 ≤ W7.heap.size ∧ px < W7.heap.size)
section
variable {W7 W W' : World} {g : Nat} {v : Value} {x y : Int} {px : Nat} {vx : Value}
theorem RK.onB {B : Nat} (h : RK W7 g v x y px vx W) (hb : Below B W W') (hB : W7.heap.size ≤ B) : RK W7 g v x y px vx W' := by
  obtain ⟨a, b, c, d, e, f1, f2⟩ := h
  exact ⟨a.trans (hb.mono hB), (hb.cell (by show g < _; omega)).trans b, (hb.cell (by show g + 1 < _; omega)).trans c, (hb.cell (by show g + 1 < _; omega)).trans d, (hb.cell (by show px < _; omega)).trans e, f1, f2⟩
theorem RK.on (h : RK W7 g v x y px vx W) (hb : Below W.heap.size W W') : RK W7 g v x y px vx W' := h.onB hb h.1.size
theorem RK.drew (h : RK W7 g v x y px vx W) : RK W7 g v x y px vx W.drew := ⟨h.1.drew, h.2⟩
theorem RK.store (h : RK W7 g v x y px vx W) {q : Nat} (hq : W7.heap.size ≤ q) (u : Value) : RK W7 g v x y px vx (W.setCell ⟨q, 0, none⟩ u) :=
  h.onB ((Below.refl W7.heap.size W).setCell (p := ⟨q, 0, none⟩) hq u) (Nat.le_refl _)
theorem rk_start {w : World} (h : RC w v x y W7) (hx : W7.cell? ⟨px, 0, none⟩ = some vx) (hp : px < W7.heap.size) : RK W7 w.heap.size v x y px vx W7 := ⟨Below.refl _ _, h.2.2.1, h.2.2.2.1, h.2.2.2.2, hx, h.2.1, hp⟩
end
theorem RC.store {w W : World} {v : Value} {x y : Int} (h : RC w v x y W) {q : Nat} (hq : w.heap.size + 2 ≤ q) (u : Value) : RC w v x y (W.setCell ⟨q, 0, none⟩ u) :=
  h.onB ((Below.refl (w.heap.size + 2) W).setCell (p := ⟨q, 0, none⟩) hq u) (Nat.le_refl _)

theorem own_none {w : World} {base e size n cap : Nat} {A : Option Addr} {xs : List Value} (h : w.ownsRow base e size (.slice A n cap) n xs) : A = none → n = 0 ∧ cap = 0 := by
  intro hA
  subst hA
  rcases h.2 with ⟨h', h0⟩ | ⟨g, cap', cur, h', _⟩
  · simp only [Value.slice.injEq] at h'
    exact ⟨h0, h'.2.2⟩
  · simp at h'
theorem row_on2 {W W' : World} {B B' : Nat} {A : Option Addr} {xs : List Int} (h : RowB W B A xs) (hb : Below B' W W') (hB : B ≤ B' := by exact Nat.le_refl _) : RowB W' B A xs := h.below hb hB
theorem wp_of_rest5 {P : Program} {c : Code} {Q : Exit → Act → World → Prop} {a : Act} {w : World} (F : Option Addr → Nat → Nat → Option Addr → Nat → Act) (Rel : World → Nat → Option Addr → Nat → Prop)
    (h : ∀ Q, (∀ W p A1 c1 A2 c2, Rel W p A2 c2 → Q .normal (F A1 c1 p A2 c2) W) → c.wp P Q a w) (k : ∀ W p A1 c1 A2 c2, Rel W p A2 c2 → Q .normal (F A1 c1 p A2 c2) W) : c.wp P Q a w := h Q k
theorem wp_of_rest3 {P : Program} {c : Code} {Q : Exit → Act → World → Prop} {a : Act} {w : World} (F : Nat → Option Addr → Nat → Act) (Rel : World → Nat → Option Addr → Nat → Prop)
    (h : ∀ Q, (∀ W p A2 c2, Rel W p A2 c2 → Q .normal (F p A2 c2) W) → c.wp P Q a w) (k : ∀ W p A2 c2, Rel W p A2 c2 → Q .normal (F p A2 c2) W) : c.wp P Q a w := h Q k
end Go.Proofs.Ytocjnplbjdpieaa.Reg
