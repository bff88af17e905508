/- Base, Cell, CellF, CellN, Dom in one text. -/
import Derived.WalkKit
import Derived.ProofKit
import Derived.Laws.BytesArg
import Derived.Test.YtjfagpmklifjlaaRows
import Derived.WalkSpells
import Derived.WalkLawsBesides
import Derived.Below
import Derived.Lib.Hide
import Derived.Lib.SmallJoins
import Derived.Deep.QuietTactic
import Derived.BigQuiet
import Derived.Deep.RegionHeld3

namespace Go.Proofs.Ytjfagpmklifjlaa.Base
open Go.RowKit Go.WideShapes Go.ChangeShapes

theorem add_plain (g j : Nat) : (⟨g, 0, none⟩ : Addr).add j = ⟨g, j, none⟩ := by unfold Addr.add; split <;> simp_all

theorem own_shape {w : World} {base e size n : Nat} {v : Value} {xs : List Value} (h : w.ownsRow base e size v n xs) : ∃ A cap, v = .slice A n cap := by
 rcases h.2 with ⟨rfl, rfl⟩ | ⟨g, cap, cur, rfl, _⟩
 ·exact ⟨_, _, rfl⟩
 ·exact ⟨_, _, rfl⟩
end Go.Proofs.Ytjfagpmklifjlaa.Base

namespace Go.Proofs.Ytjfagpmklifjlaa.Cell
set_option linter.unusedVariables false
open Go.RowKit Go.Joins

def Ok (x y : Int) : Prop := 0 ≤ x ∧ x ≤ 7 ∧ 0 ≤ y ∧ y ≤ 7
instance (x y : Int) : Decidable (Ok x y) := inferInstanceAs (Decidable (_ ∧ _ ∧ _ ∧ _))
def Bol (b : Bool) (w : World) (e : Ending) (w' : World) : Prop := e = .returned (.bool b) ∧ Below w.heap.size w w'
def Num (n : Int) (w : World) (e : Ending) (w' : World) : Prop := e = .returned (.int .i64 n) ∧ Below w.heap.size w w'
def Cel (x y : Int) (w : World) (e : Ending) (w' : World) : Prop := e = .returned (.agg #[.int .i64 x, .int .i64 y]) ∧ Below w.heap.size w w'
def CelB (x y : Int) (b : Bool) (w : World) (e : Ending) (w' : World) : Prop := e = .returned (.tuple #[.agg #[.int .i64 x, .int .i64 y], .bool b]) ∧ Below w.heap.size w w'
def inB (n a b : Int) : Bool := decide (a ≤ n ∧ n ≤ b)
theorem inB_of {n a b : Int} (h : a ≤ n ∧ n ≤ b) : inB n a b = true := decide_eq_true h
theorem inB_not {n a b : Int} (h : ¬ (a ≤ n ∧ n ≤ b)) : inB n a b = false := decide_eq_false h
theorem inB_iff {n a b : Int} : inB n a b = true ↔ a ≤ n ∧ n ≤ b := by unfold inB; simp
def BolE (b : Bool) (w : World) (e : Ending) (w' : World) : Prop := e = .returned (.bool b) ∧ w' = w
theorem mkBol {v b : Bool} {w W : World} (h : v = b) (hb : Below w.heap.size w W) : Bol b w (.returned (.bool v)) W := ⟨by rw [h], hb⟩
theorem mkNum {v b : Int} {w W : World} (h : v = b) (hb : Below w.heap.size w W) : Num b w (.returned (.int .i64 v)) W := ⟨by rw [h], hb⟩
theorem mkCel {u v x y : Int} {w W : World} (h : u = x) (h' : v = y) (hb : Below w.heap.size w W) : Cel x y w (.returned (.agg #[.int .i64 u, .int .i64 v])) W := ⟨by rw [h, h'], hb⟩
def okB (x y : Int) : Bool := decide (Ok x y)
theorem okB_of {x y : Int} (h : Ok x y) : okB x y = true := decide_eq_true h
theorem okB_not {x y : Int} (h : ¬ Ok x y) : okB x y = false := decide_eq_false h
theorem okB_iff {x y : Int} : okB x y = true ↔ Ok x y := by unfold okB; simp
def eqB (x y u v : Int) : Bool := decide (x = u ∧ y = v)
theorem eqB_iff {x y u v : Int} : eqB x y u v = true ↔ x = u ∧ y = v := by unfold eqB; simp
def indexN (x y : Int) : Int := if Ok x y then y * 8 + x else -1
def atX (n : Int) : Int := if 0 ≤ n ∧ n ≤ 63 then n % 8 else 0
def atY (n : Int) : Int := if 0 ≤ n ∧ n ≤ 63 then n / 8 else 0
def nbB (x y u v : Int) : Bool := decide (Ok x y ∧ Ok u v ∧ ((x = u ∧ (y = v + 1 ∨ v = y + 1)) ∨ (y = v ∧ (x = u + 1 ∨ u = x + 1))))
theorem nbB_iff {x y u v : Int} : nbB x y u v = true ↔ Ok x y ∧ Ok u v ∧ ((x = u ∧ (y = v + 1 ∨ v = y + 1)) ∨ (y = v ∧ (x = u + 1 ∨ u = x + 1))) := by unfold nbB; simp

set_option maxHeartbeats 400000 in
theorem l01In (n a b : Int) (w : World) :
  Calls Try.prog 43 #[.int .i64 n, .int .i64 a, .int .i64 b] w (BolE (inB n a b) w) := by
 have H : ∀ v : Bool, (v = true ↔ a ≤ n ∧ n ≤ b) → BolE (inB n a b) w (.returned (.bool v)) w := fun v h => by
  have : v = inB n a b := by unfold inB; rw [Bool.eq_iff_iff]; simpa using h
  rw [this]; exact ⟨rfl, rfl⟩
 have HH := Lib.hid H
 clear H
 go_enter Try.func43, Try.ntmps43
 go_wp2
 all_goals
  go_ret
  refine HH.out _ ?_
  simp
  try omega

set_option maxHeartbeats 400000 in
theorem isValid (x y : Int) (w : World) :
  Calls Try.prog 82 #[.agg #[.int .i64 x, .int .i64 y]] w (Bol (okB x y) w) := by
 have H : ∀ (b : Bool) (W : World), (b = true ↔ Ok x y) → Below w.heap.size w W → Bol (okB x y) w (.returned (.bool b)) W := fun b W h hb => mkBol (by rw [Bool.eq_iff_iff, okB_iff]; exact h) hb
 have HH := Lib.hid H
 clear H
 go_enter Try.func82, Try.ntmps82
 go_wp2
 all_goals
  go_ret
  refine HH.out _ _ ?_ (below_alloc1 _ _)
  unfold Ok
  simp
  try omega

set_option maxHeartbeats 400000 in
theorem cellOk (x y : Int) (w : World) :
  Calls Try.prog 97 #[.agg #[.int .i64 x, .int .i64 y]] w (Bol (okB x y) w) := by
 go_enter Try.func97, Try.ntmps97
 go_wp2_with fail
 refine (isValid x y _).mono ?_
 rintro e w1 ⟨rfl, hb1⟩
 have hb := (below_alloc1 w (.cells #[.int .i64 x, .int .i64 y] 38)).trans (hb1.mono (by simp))
 go_wp2
 go_ret
 exact mkBol rfl hb

set_option maxHeartbeats 400000 in
theorem sCellOk (x y : Int) (w : World) :
  Calls Try.prog 89 #[.agg #[.int .i64 x, .int .i64 y]] w (Bol (okB x y) w) := by
 have H : ∀ (b : Bool) (W : World), (b = true ↔ Ok x y) → Below w.heap.size w W → Bol (okB x y) w (.returned (.bool b)) W := fun b W h hb => mkBol (by rw [Bool.eq_iff_iff, okB_iff]; exact h) hb
 have HH := Lib.hid H
 clear H
 go_enter Try.func89, Try.ntmps89
 go_wp2_with fail
 refine (l01In x 0 7 _).mono ?_
 rintro e w1 ⟨rfl, rfl⟩
 by_cases hx : 0 ≤ x ∧ x ≤ 7
 ·rw [inB_of hx]
  go_wp2_with fail
  refine (l01In y 0 7 _).mono ?_
  rintro e w1 ⟨rfl, rfl⟩
  go_wp2
  go_ret
  refine HH.out _ _ ?_ (below_alloc1 _ _)
  unfold Ok
  rw [inB_iff]
  omega
 ·rw [inB_not hx]
  go_wp2
  go_ret
  refine HH.out _ _ ?_ (below_alloc1 _ _)
  unfold Ok
  simp
  omega

theorem box (x y : Int) (w w1 : World) (h : Below (w.alloc (.cells #[.int .i64 x, .int .i64 y] 38)).heap.size (w.alloc (.cells #[.int .i64 x, .int .i64 y] 38)) w1) : Below w.heap.size w w1 :=
 (below_alloc1 w (.cells #[.int .i64 x, .int .i64 y] 38)).trans (h.mono (by simp))
theorem boxed (x y : Int) (w w1 : World) (h : Below (w.alloc (.cells #[.int .i64 x, .int .i64 y] 38)).heap.size (w.alloc (.cells #[.int .i64 x, .int .i64 y] 38)) w1) (k : Nat) (hk : k < 2) :
  w1.cell? ⟨w.heap.size, k, none⟩ = some (#[Value.int .i64 x, Value.int .i64 y].getD k undef) := by
 rw [h.cell (by simp)]
 have hbl : (w.alloc (.cells #[.int .i64 x, .int .i64 y] 38)).heap[w.heap.size]? = some (.cells #[.int .i64 x, .int .i64 y] 38) := by
  show (w.heap.push _)[w.heap.size]? = _
  exact Array.getElem?_push_size
 have : k = 0 ∨ k = 1 := by omega
 rcases this with rfl | rfl
 ·exact (cell_of_row _ _ 0 _ _ _ hbl).trans rfl
 ·exact (cell_of_row _ _ 1 _ _ _ hbl).trans rfl

theorem at_in {n : Int} (h0 : 0 ≤ n) (h1 : n ≤ 63) : atX n = n % 8 ∧ atY n = n / 8 ∧ inB n 0 63 = true := ⟨by unfold atX; simp [h0, h1], by unfold atY; simp [h0, h1], inB_of ⟨h0, h1⟩⟩
theorem at_out {n : Int} (h : ¬ (0 ≤ n ∧ n ≤ 63)) : atX n = 0 ∧ atY n = 0 ∧ inB n 0 63 = false := ⟨by unfold atX; simp [h], by unfold atY; simp [h], inB_not h⟩
theorem mkAtIn {n : Int} {w W : World} (h0 : 0 ≤ n) (h1 : n ≤ 63) (hb : Below w.heap.size w W) : CelB (atX n) (atY n) (inB n 0 63) w (.returned (.tuple #[.agg #[.int .i64 (n % 8), .int .i64 (n / 8)], .bool true])) W := by
 obtain ⟨a, b, c⟩ := at_in h0 h1
 rw [a, b, c]; exact ⟨rfl, hb⟩
theorem mkAtOut {n : Int} {w W : World} (h : ¬ (0 ≤ n ∧ n ≤ 63)) (hb : Below w.heap.size w W) : CelB (atX n) (atY n) (inB n 0 63) w (.returned (.tuple #[.agg #[.int .i64 0, .int .i64 0], .bool false])) W := by
 obtain ⟨a, b, c⟩ := at_out h
 rw [a, b, c]; exact ⟨rfl, hb⟩

set_option maxHeartbeats 400000 in
theorem sCellAt (n : Int) (w : World) :
  Calls Try.prog 50 #[.int .i64 n] w (CelB (atX n) (atY n) (inB n 0 63) w) := by
 have HB := Lib.hid (below_alloc1 w (.cells #[.int .i64 (n % 8), .int .i64 (n / 8)] 38))
 have HZ := Lib.hid (below_alloc1 w (.cells #[.int .i64 0, .int .i64 0] 38))
 by_cases h : 0 ≤ n ∧ n ≤ 63
 ·have HE := Lib.hid (inB_of h)
  obtain ⟨h0, h1⟩ := h
  have HP := fun W (hb : Below w.heap.size w W) => mkAtIn h0 h1 hb
  have HQ := Lib.hid HP
  clear HP
  go_enter Try.func50, Try.ntmps50
  go_wp2_with fail
  refine (l01In n 0 63 _).mono ?_
  rintro e w1 ⟨rfl, rfl⟩
  rw [HE.out]
  go_wp2
  refine bodyPost_ret (v := .tuple #[.agg #[.int .i64 (n % 8), .int .i64 (n / 8)], .bool true]) (by simp [results, Try.results50, go_sem]) rfl ?_
  exact HQ.out _ HB.out
 ·have HE := Lib.hid (inB_not h)
  have HP := fun W (hb : Below w.heap.size w W) => mkAtOut h hb
  have HQ := Lib.hid HP
  clear HP
  go_enter Try.func50, Try.ntmps50
  go_wp2_with fail
  refine (l01In n 0 63 _).mono ?_
  rintro e w1 ⟨rfl, rfl⟩
  rw [HE.out]
  go_wp2
  refine bodyPost_ret (v := .tuple #[.agg #[.int .i64 0, .int .i64 0], .bool false]) (by simp [results, Try.results50, go_sem]) rfl ?_
  exact HQ.out _ HZ.out

theorem drewBelow {B : Nat} {a w : World} (h : Below B a w) (n : Nat) : Below B a (w.drewN n) := ⟨h.os, h.tape, h.output, h.size, h.block⟩
set_option maxHeartbeats 400000 in
theorem moved (x y a b : Int) (w : World) :
  Calls Try.prog 83 #[.agg #[.int .i64 x, .int .i64 y], .int .i64 a, .int .i64 b] w (Cel (wrap64 (x + a)) (wrap64 (y + b)) w) := by
 go_enter Try.func83, Try.ntmps83
 go_wp2
 exact bodyPost_ret (v := .agg #[.int .i64 (wrap64 (x + a)), .int .i64 (wrap64 (y + b))]) (by simp [results, Try.results83, go_sem]) rfl (mkCel rfl rfl (below_alloc2 _ _ _))
end Go.Proofs.Ytjfagpmklifjlaa.Cell

namespace Go.Proofs.Ytjfagpmklifjlaa.CellF
set_option linter.unusedVariables false
open Go.RowKit Go.Proofs.Ytjfagpmklifjlaa.Cell Go.Joins

set_option maxHeartbeats 400000 in
theorem iCellIndex (x y : Int) (w : World) :
  Calls Try.prog 85 #[.agg #[.int .i64 x, .int .i64 y]] w (Num (indexN x y) w) := by
 have H : ∀ (b : Int) (W : World), b = indexN x y → Below w.heap.size w W → Num (indexN x y) w (.returned (.int .i64 b)) W := fun b W h hb => mkNum h hb
 have HH := Lib.hid H
 clear H
 go_enter Try.func85, Try.ntmps85
 go_wp2_with fail
 refine (isValid x y _).mono ?_
 rintro e w1 ⟨rfl, hb1⟩
 have hb := box x y w w1 hb1
 by_cases hok : Ok x y
 ·have h0 := boxed x y w w1 hb1 0 (by omega)
  have h1 := boxed x y w w1 hb1 1 (by omega)
  have hix : indexN x y = y * 8 + x := by unfold indexN; simp [hok]
  have HI := Lib.hid hix
  clear hix
  rw [okB_of hok]
  obtain ⟨x0, x7, y0, y7⟩ := hok
  go_wp2
  go_ret
  refine HH.out _ _ ?_ hb
  rw [HI.out]
 ·have hix : indexN x y = -1 := by unfold indexN; simp [hok]
  have HI := Lib.hid hix
  clear hix
  rw [okB_not hok]
  go_wp2
  go_ret
  refine HH.out _ _ ?_ hb
  rw [HI.out]

theorem sq_nn (p : Int) : 0 ≤ p * p := by
 by_cases k : 0 ≤ p
 ·exact Int.mul_nonneg k k
 ·have := Int.mul_nonneg (a := -p) (b := -p) (by omega) (by omega)
  rw [Int.neg_mul_neg] at this; exact this
theorem sq_small {p : Int} (h : p * p ≤ 1) : -1 ≤ p ∧ p ≤ 1 := by
 by_cases k : 2 ≤ p
 ·have : 2 * 2 ≤ p * p := Int.mul_le_mul k k (by omega) (by omega)
  omega
 ·by_cases k' : 2 ≤ -p
  ·have : 2 * 2 ≤ -p * -p := Int.mul_le_mul k' k' (by omega) (by omega)
   rw [Int.neg_mul_neg] at this
   omega
  ·omega
theorem sq_one {a b c d : Int} (h : (a - b) * (a - b) + (c - d) * (c - d) = 1) : (a = b ∧ (c = d + 1 ∨ d = c + 1)) ∨ (c = d ∧ (a = b + 1 ∨ b = a + 1)) := by
 have key : ∀ p q : Int, p * p + q * q = 1 → (p = 0 ∧ (q = 1 ∨ q = -1)) ∨ (q = 0 ∧ (p = 1 ∨ p = -1)) := by
  intro p q h
  have n1 := sq_nn p
  have n2 := sq_nn q
  have hp := sq_small (p := p) (by omega)
  have hq := sq_small (p := q) (by omega)
  have hp' : p = -1 ∨ p = 0 ∨ p = 1 := by omega
  have hq' : q = -1 ∨ q = 0 ∨ q = 1 := by omega
  rcases hp' with rfl | rfl | rfl <;> rcases hq' with rfl | rfl | rfl <;> simp at h ⊢
 have := key _ _ h
 omega
theorem sq_le {p : Int} (h : -7 ≤ p) (h' : p ≤ 7) : 0 ≤ p * p ∧ p * p ≤ 49 := by
 by_cases k : 0 ≤ p
 ·exact ⟨Int.mul_nonneg k k, Int.mul_le_mul h' h' k (by omega)⟩
 ·have := Int.mul_nonneg (a := -p) (b := -p) (by omega) (by omega)
  have h2 : -p * -p ≤ 7 * 7 := Int.mul_le_mul (by omega) (by omega) (by omega) (by omega)
  rw [Int.neg_mul_neg] at *
  exact ⟨this, h2⟩

theorem boxes (x y u v : Int) (w w1 : World) (h : Below ((w.alloc (.cells #[.int .i64 x, .int .i64 y] 38)).alloc (.cells #[.int .i64 u, .int .i64 v] 38)).heap.size ((w.alloc (.cells #[.int .i64 x, .int .i64 y] 38)).alloc (.cells #[.int .i64 u, .int .i64 v] 38)) w1) :
  Below w.heap.size w w1 ∧ w1.cell? ⟨w.heap.size, 0, none⟩ = some (.int .i64 x) ∧ w1.cell? ⟨w.heap.size, 1, none⟩ = some (.int .i64 y) ∧ w1.cell? ⟨w.heap.size + 1, 0, none⟩ = some (.int .i64 u) ∧ w1.cell? ⟨w.heap.size + 1, 1, none⟩ = some (.int .i64 v) := by
 have e1 : ((w.alloc (.cells #[.int .i64 x, .int .i64 y] 38)).alloc (.cells #[.int .i64 u, .int .i64 v] 38)).heap[w.heap.size]? = some (.cells #[.int .i64 x, .int .i64 y] 38) := by
  show ((w.heap.push _).push _)[w.heap.size]? = _
  rw [Array.getElem?_push_lt (by simp)]
  simp
 have e2 : ((w.alloc (.cells #[.int .i64 x, .int .i64 y] 38)).alloc (.cells #[.int .i64 u, .int .i64 v] 38)).heap[w.heap.size + 1]? = some (.cells #[.int .i64 u, .int .i64 v] 38) := by
  show ((w.heap.push _).push _)[w.heap.size + 1]? = _
  have : w.heap.size + 1 = (w.heap.push (.cells #[.int .i64 x, .int .i64 y] 38)).size := by simp
  rw [this]
  exact Array.getElem?_push_size
 refine ⟨(below_alloc2 w _ _).trans (h.mono (by simp; omega)), ?_, ?_, ?_, ?_⟩
 ·rw [h.cell (by simp; omega)]; exact (cell_of_row _ _ 0 _ _ _ e1).trans rfl
 ·rw [h.cell (by simp; omega)]; exact (cell_of_row _ _ 1 _ _ _ e1).trans rfl
 ·rw [h.cell (by simp)]; exact (cell_of_row _ _ 0 _ _ _ e2).trans rfl
 ·rw [h.cell (by simp)]; exact (cell_of_row _ _ 1 _ _ _ e2).trans rfl
end Go.Proofs.Ytjfagpmklifjlaa.CellF

namespace Go.Proofs.Ytjfagpmklifjlaa.CellN
set_option linter.unusedVariables false
open Go.RowKit Go.Proofs.Ytjfagpmklifjlaa.Cell Go.Proofs.Ytjfagpmklifjlaa.CellF Go.Joins

theorem iAreNeighbors_sq {x y u v : Int} : ((u - x) * (u - x) + (v - y) * (v - y) = 1) ↔ ((x = u ∧ (y = v + 1 ∨ v = y + 1)) ∨ (y = v ∧ (x = u + 1 ∨ u = x + 1))) := by
 constructor
 ·intro h
  have := sq_one h; omega
 ·have key : ∀ p q : Int, (p = 0 ∧ (q = 1 ∨ q = -1)) ∨ (q = 0 ∧ (p = 1 ∨ p = -1)) → p * p + q * q = 1 := by
   rintro p q (⟨rfl, rfl | rfl⟩ | ⟨rfl, rfl | rfl⟩) <;> rfl
  intro h
  exact key _ _ (by omega)

set_option maxHeartbeats 1000000 in
theorem iAreNeighbors (x y u v : Int) (w : World) :
  Calls Try.prog 84 #[.agg #[.int .i64 x, .int .i64 y], .agg #[.int .i64 u, .int .i64 v]] w (Bol (nbB x y u v) w) := by
 have H : ∀ (b : Bool) (W : World), (b = true ↔ Ok x y ∧ Ok u v ∧ ((x = u ∧ (y = v + 1 ∨ v = y + 1)) ∨ (y = v ∧ (x = u + 1 ∨ u = x + 1)))) → Below w.heap.size w W → Bol (nbB x y u v) w (.returned (.bool b)) W := fun b W h hb => mkBol (by rw [Bool.eq_iff_iff, nbB_iff]; exact h) hb
 have HH := Lib.hid H
 clear H
 go_enter Try.func84, Try.ntmps84
 go_wp2_with fail
 refine (isValid x y _).mono ?_
 rintro e w1 ⟨rfl, hb1⟩
 obtain ⟨hb, hc0, hc1, hc2, hc3⟩ := boxes x y u v w w1 hb1
 by_cases hok : Ok x y
 ·rw [okB_of hok]
  have HO := Lib.hid hok
  clear hok
  have hz : w.heap.size + 2 ≤ w1.heap.size := by have := hb1.size; simp at this; omega
  clear hb1
  go_wp2_with fail
  refine (isValid u v _).mono ?_
  rintro e w2 ⟨rfl, hb2⟩
  have hb' := hb.trans (hb2.mono hb.size)
  rw [← hb2.cell (by show w.heap.size < _; omega)] at hc0 hc1
  rw [← hb2.cell (by show w.heap.size + 1 < _; omega)] at hc2 hc3
  clear hb hb2
  by_cases hok2 : Ok u v
  ·rw [okB_of hok2]
   have HO2 := Lib.hid hok2
   obtain ⟨x0, x7, y0, y7⟩ := HO.out
   obtain ⟨u0, u7, v0, v7⟩ := hok2
   have s1 := sq_le (p := (u - x)) (by omega) (by omega)
   have s2 := sq_le (p := (v - y)) (by omega) (by omega)
   obtain ⟨s10, s11⟩ := s1
   obtain ⟨s20, s21⟩ := s2
   go_wp2_with fail
   go_quiet (fail)
   go_wp2
   go_ret
   refine HH.out _ _ ?_ (drewBelow hb' _)
   simp only [HO.out, HO2.out, true_and, beq_iff_eq]
   exact iAreNeighbors_sq
  ·rw [okB_not hok2]
   go_wp2
   go_ret
   refine HH.out _ _ ?_ hb'
   simp [hok2]
 ·rw [okB_not hok]
  go_wp2
  go_ret
  refine HH.out _ _ ?_ hb
  simp [hok]
end Go.Proofs.Ytjfagpmklifjlaa.CellN

namespace Go.Proofs.Ytjfagpmklifjlaa.Dom
set_option linter.unusedVariables false
set_option linter.unusedSimpArgs false
open Go.RowKit Go.Proofs.Ytjfagpmklifjlaa.Cell Go.Joins

def sx (x : Int) (b : Bool) : Int := if b then x else wrap64 (x + 1)
def sy (y : Int) (b : Bool) : Int := if b then wrap64 (y + 1) else y
def domB (x y : Int) (b : Bool) : Bool := okB x y && okB (sx x b) (sy y b)
def Sm (x : Int) : Prop := -9223372036854775808 ≤ x ∧ x ≤ 9223372036854775807
theorem wrap0 {x : Int} (h : Sm x) : wrap64 (x + 0) = x := by
 unfold Sm at h
 unfold wrap64; omega
def Cel2 (x y u v : Int) (w : World) (e : Ending) (w' : World) : Prop := e = .returned (.tuple #[.agg #[.int .i64 x, .int .i64 y], .agg #[.int .i64 u, .int .i64 v]]) ∧ Below w.heap.size w w'
theorem mkCel2 {a b c d x y u v : Int} {w W : World} (h1 : a = x) (h2 : b = y) (h3 : c = u) (h4 : d = v) (hb : Below w.heap.size w W) : Cel2 x y u v w (.returned (.tuple #[.agg #[.int .i64 a, .int .i64 b], .agg #[.int .i64 c, .int .i64 d]])) W := ⟨by rw [h1, h2, h3, h4], hb⟩

def At2 (W : World) (q : Nat) (x y : Int) : Prop := W.heap[q]? = some (.cells #[.int .i64 x, .int .i64 y] 38)
theorem At2.on {W W' : World} {q : Nat} {x y : Int} (h : At2 W q x y) (hb : Below W.heap.size W W') : At2 W' q x y := (hb.block q (Array.getElem?_eq_some_iff.1 h).1).trans h
theorem At2.c0 {W : World} {q : Nat} {x y : Int} (h : At2 W q x y) : W.cell? ⟨q, 0, none⟩ = some (.int .i64 x) := (cell_of_row _ _ 0 _ _ _ h).trans rfl
theorem At2.c1 {W : World} {q : Nat} {x y : Int} (h : At2 W q x y) : W.cell? ⟨q, 1, none⟩ = some (.int .i64 y) := (cell_of_row _ _ 1 _ _ _ h).trans rfl
theorem At2.f0 {W : World} {q : Nat} {x y : Int} (h : At2 W q x y) : W.frozen? ⟨q, 0, none⟩ = false := by have h' := h; unfold At2 at h'; simp [World.frozen?, h']
theorem At2.f1 {W : World} {q : Nat} {x y : Int} (h : At2 W q x y) : W.frozen? ⟨q, 1, none⟩ = false := by have h' := h; unfold At2 at h'; simp [World.frozen?, h']
theorem At2.lt {W : World} {q : Nat} {x y : Int} (h : At2 W q x y) : q < W.heap.size := (Array.getElem?_eq_some_iff.1 h).1
theorem At2.new (W : World) (x y : Int) : At2 (W.alloc (.cells #[.int .i64 x, .int .i64 y] 38)) W.heap.size x y := heap_alloc_new W _

theorem At2.far {W : World} {p q i : Nat} {x y : Int} {v : Value} (h : At2 W q x y) (hp : q ≠ p) : At2 (W.setCell ⟨p, i, none⟩ v) q x y := (Below.heap_setCell W ⟨p, i, none⟩ v q hp).trans h
theorem At2.put {W : World} {q : Nat} {x y a b : Int} (h : At2 W q x y) : At2 ((W.setCell ⟨q, 0, none⟩ (.int .i64 a)).setCell ⟨q, 1, none⟩ (.int .i64 b)) q a b := by
 have h' := h
 unfold At2 at h' ⊢
 simp [World.setCell, Array.getElem?_modify, h']
theorem At2.far2 {W : World} {p q : Nat} {x y : Int} {u v : Value} (h : At2 W q x y) (hp : q ≠ p) : At2 ((W.setCell ⟨p, 0, none⟩ u).setCell ⟨p, 1, none⟩ v) q x y := (h.far hp).far hp

def Four (w : World) (a b c d x y : Int) (W : World) : Prop := Below w.heap.size w W ∧ At2 W (w.heap.size + 1) a b ∧ At2 W (w.heap.size + 1 + 1) c d ∧ At2 W (w.heap.size + 1 + 1 + 1) x y
theorem four_start {T : TypeId} (x y : Int) (b : Bool) (w : World) : Four w 0 0 0 0 x y ((((w.alloc (.cells #[.int .i64 x, .int .i64 y, .bool b] T)).alloc (.cells #[.int .i64 0, .int .i64 0] 38)).alloc (.cells #[.int .i64 0, .int .i64 0] 38)).alloc (.cells #[.int .i64 x, .int .i64 y] 38)) := by
 have e0 : (w.alloc (.cells #[.int .i64 x, .int .i64 y, .bool b] T)).heap.size = w.heap.size + 1 := by simp
 have k1 := At2.new (w.alloc (.cells #[.int .i64 x, .int .i64 y, .bool b] T)) 0 0
 rw [e0] at k1
 have b1 := below_alloc1 w (.cells #[.int .i64 x, .int .i64 y, .bool b] T)
 generalize w.alloc (.cells #[.int .i64 x, .int .i64 y, .bool b] T) = W0 at e0 k1 b1 ⊢
 have e1 : (W0.alloc (.cells #[.int .i64 0, .int .i64 0] 38)).heap.size = w.heap.size + 1 + 1 := by simp [e0]
 have k2 := At2.new (W0.alloc (.cells #[.int .i64 0, .int .i64 0] 38)) 0 0
 rw [e1] at k2
 have b2 := b1.trans ((below_alloc1 W0 (.cells #[.int .i64 0, .int .i64 0] 38)).mono b1.size)
 generalize W0.alloc (.cells #[.int .i64 0, .int .i64 0] 38) = W1 at e1 k1 k2 b2 ⊢
 have e2 : (W1.alloc (.cells #[.int .i64 0, .int .i64 0] 38)).heap.size = w.heap.size + 1 + 1 + 1 := by simp [e1]
 have k3 := At2.new (W1.alloc (.cells #[.int .i64 0, .int .i64 0] 38)) x y
 rw [e2] at k3
 have b3 := b2.trans ((below_alloc1 W1 (.cells #[.int .i64 0, .int .i64 0] 38)).mono b2.size)
 have b4 := b3.trans ((below_alloc1 _ (.cells #[.int .i64 x, .int .i64 y] 38)).mono b3.size)
 exact ⟨b4, (k1.on (below_alloc1 _ _)).on (below_alloc1 _ _), k2.on (below_alloc1 _ _), k3⟩
section
variable {w W W' : World} {a b c d x y : Int}
theorem Four.drew (h : Four w a b c d x y W) : Four w a b c d x y W.drew := ⟨h.1.drew, h.2⟩
theorem Four.on (h : Four w a b c d x y W) (hb : Below W.heap.size W W') : Four w a b c d x y W' := ⟨h.1.trans (hb.mono h.1.size), h.2.1.on hb, h.2.2.1.on hb, h.2.2.2.on hb⟩
theorem Four.put1 (h : Four w a b c d x y W) (a' b' : Int) : Four w a' b' c d x y ((W.setCell ⟨w.heap.size + 1, 0, none⟩ (.int .i64 a')).setCell ⟨w.heap.size + 1, 1, none⟩ (.int .i64 b')) :=
 ⟨(h.1.setCell (p := ⟨w.heap.size + 1, 0, none⟩) (by show w.heap.size ≤ w.heap.size + 1; omega) _).setCell (p := ⟨w.heap.size + 1, 1, none⟩) (by show w.heap.size ≤ w.heap.size + 1; omega) _, h.2.1.put, h.2.2.1.far2 (by omega), h.2.2.2.far2 (by omega)⟩
theorem Four.put2 (h : Four w a b c d x y W) (c' d' : Int) : Four w a b c' d' x y ((W.setCell ⟨w.heap.size + 1 + 1, 0, none⟩ (.int .i64 c')).setCell ⟨w.heap.size + 1 + 1, 1, none⟩ (.int .i64 d')) :=
 ⟨(h.1.setCell (p := ⟨w.heap.size + 1 + 1, 0, none⟩) (by show w.heap.size ≤ w.heap.size + 1 + 1; omega) _).setCell (p := ⟨w.heap.size + 1 + 1, 1, none⟩) (by show w.heap.size ≤ w.heap.size + 1 + 1; omega) _, h.2.1.far2 (by omega), h.2.2.1.put, h.2.2.2.far2 (by omega)⟩
end
theorem movedDown (x y : Int) (hx : Sm x) (w : World) :
  Calls Try.prog 83 #[.agg #[.int .i64 x, .int .i64 y], .int .i64 0, .int .i64 1] w (Cel x (wrap64 (y + 1)) w) := by
 have := moved x y 0 1 w
 rwa [wrap0 hx] at this
theorem movedRight (x y : Int) (hy : Sm y) (w : World) :
  Calls Try.prog 83 #[.agg #[.int .i64 x, .int .i64 y], .int .i64 1, .int .i64 0] w (Cel (wrap64 (x + 1)) y w) := by
 have := moved x y 1 0 w
 rwa [wrap0 hy] at this

set_option maxHeartbeats 400000 in
theorem iCells (x y : Int) (b : Bool) (hx : Sm x) (hy : Sm y) (w : World) :
  Calls Try.prog 86 #[.agg #[.int .i64 x, .int .i64 y, .bool b]] w (Cel2 x y (sx x b) (sy y b) w) := by
 have F0 := Lib.hid (fun T => four_start (T := T) x y b w)
 cases b with
 | true =>
  go_enter Try.func86, Try.ntmps86
  go_wp2_with fail
  have F1 := F0.out 41
  generalize World.alloc _ (.cells #[.int .i64 x, .int .i64 y] 38) = W at F1 ⊢
  clear F0
  refine wp_region_noPanic ?_
  refine wp_region_held_drew (S := (fun w' => w'.cell? ⟨w.heap.size + 1 + 1 + 1, 0, none⟩ = some (.int .i64 x) ∧ w'.cell? ⟨w.heap.size + 1 + 1 + 1, 1, none⟩ = some (.int .i64 y))) (by kernel_rfl) (⟨F1.drew.2.2.2.c0, F1.drew.2.2.2.c1⟩) (fun hHeld => ?_)
  refine wpAnyH_take (i := 0) (v := ?_) rfl (by kernel_rfl) (by kernel_rfl) (by kernel_rfl) (fun _ _ _ h => h) (Or.inl ⟨by rfl, ?_⟩) (by assumption) ?_
  rotate_left
  ·(intro w' hS; (try dsimp only at hS); go_simp; try with_reducible rfl)
  try simp only [Act.put, List.getElem_toArray, List.getElem_cons_succ, List.getElem_cons_zero, List.setIfInBounds_toArray, List.set_cons_zero, List.set_cons_succ]
  refine wpAnyH_take (i := 1) (v := ?_) rfl (by kernel_rfl) (by kernel_rfl) (by kernel_rfl) (fun _ _ _ h => h) (Or.inl ⟨by rfl, ?_⟩) (by assumption) ?_
  rotate_left
  ·(intro w' hS; (try dsimp only at hS); go_simp; try with_reducible rfl)
  try simp only [Act.put, List.getElem_toArray, List.getElem_cons_succ, List.getElem_cons_zero, List.setIfInBounds_toArray, List.set_cons_zero, List.set_cons_succ]
  refine wpAnyH_ready (rs := [2]) (by kernel_rfl) (by simp) ?_
  refine AllReadyH.cons rfl (fun K hK => ?_) AllReadyH.nil
  go_simp
  refine (movedDown _ _ (by assumption) _).mono ?_
  rintro e wx ⟨rfl, hbx⟩
  have F2 := F1.drew.on hbx
  clear F1 hbx hHeld
  go_wp2_with fail
  refine hK.out _ _ (⟨F2.2.2.2.c0, F2.2.2.2.c1⟩) (fun hHeld => ?_)
  clear hK K
  try simp only [Act.put, List.getElem_toArray, List.getElem_cons_succ, List.getElem_cons_zero, List.setIfInBounds_toArray, List.set_cons_zero, List.set_cons_succ]
  refine wpAnyH_ready (rs := [3]) (by kernel_rfl) (by simp) ?_
  refine AllReadyH.cons rfl (fun K hK => ?_) AllReadyH.nil
  have d0 := F2.2.1.c0
  have d1 := F2.2.1.c1
  have d2 := F2.2.1.f0
  have d3 := F2.2.1.f1
  have F3 := F2.put1 x y
  clear F2
  go_simp
  refine hK.out _ _ (⟨F3.2.2.2.c0, F3.2.2.2.c1⟩) (fun hHeld => ?_)
  clear hK K
  try simp only [Act.put, List.getElem_toArray, List.getElem_cons_succ, List.getElem_cons_zero, List.setIfInBounds_toArray, List.set_cons_zero, List.set_cons_succ]
  refine wpAnyH_ready (rs := [4]) (by kernel_rfl) (by simp) ?_
  refine AllReadyH.cons rfl (fun K hK => ?_) AllReadyH.nil
  have d0 := F3.2.2.1.c0
  have d1 := F3.2.2.1.c1
  have d2 := F3.2.2.1.f0
  have d3 := F3.2.2.1.f1
  have F4 := F3.put2 x (wrap64 (y + 1))
  clear F3
  go_simp
  refine hK.out _ _ (⟨F4.2.2.2.c0, F4.2.2.2.c1⟩) (fun hHeld => ?_)
  clear hK K
  try simp only [Act.put, List.getElem_toArray, List.getElem_cons_succ, List.getElem_cons_zero, List.setIfInBounds_toArray, List.set_cons_zero, List.set_cons_succ]
  refine wpAnyH_done (by kernel_rfl) ?_ _
  refine NoPanic.normal ?_
  generalize World.setCell _ _ _ = W4 at F4 ⊢
  have c0 := F4.2.1.c0
  have c1 := F4.2.1.c1
  have c2 := F4.2.2.1.c0
  have c3 := F4.2.2.1.c1
  go_wp2
  refine bodyPost_ret (v := .tuple #[.agg #[.int .i64 x, .int .i64 y], .agg #[.int .i64 x, .int .i64 (wrap64 (y + 1))]]) ?_ rfl (mkCel2 rfl rfl rfl rfl F4.1)
  simp [results, Try.results86, go_sem, c0, c1, c2, c3]
 | false =>
  go_enter Try.func86, Try.ntmps86
  go_wp2_with fail
  have F1 := F0.out 41
  generalize World.alloc _ (.cells #[.int .i64 x, .int .i64 y] 38) = W at F1 ⊢
  clear F0
  refine wp_region_noPanic ?_
  refine wp_region_held_drew (S := (fun w' => w'.cell? ⟨w.heap.size + 1 + 1 + 1, 0, none⟩ = some (.int .i64 x) ∧ w'.cell? ⟨w.heap.size + 1 + 1 + 1, 1, none⟩ = some (.int .i64 y))) (by kernel_rfl) (⟨F1.drew.2.2.2.c0, F1.drew.2.2.2.c1⟩) (fun hHeld => ?_)
  refine wpAnyH_take (i := 0) (v := ?_) rfl (by kernel_rfl) (by kernel_rfl) (by kernel_rfl) (fun _ _ _ h => h) (Or.inl ⟨by rfl, ?_⟩) (by assumption) ?_
  rotate_left
  ·(intro w' hS; (try dsimp only at hS); go_simp; try with_reducible rfl)
  try simp only [Act.put, List.getElem_toArray, List.getElem_cons_succ, List.getElem_cons_zero, List.setIfInBounds_toArray, List.set_cons_zero, List.set_cons_succ]
  refine wpAnyH_take (i := 1) (v := ?_) rfl (by kernel_rfl) (by kernel_rfl) (by kernel_rfl) (fun _ _ _ h => h) (Or.inl ⟨by rfl, ?_⟩) (by assumption) ?_
  rotate_left
  ·(intro w' hS; (try dsimp only at hS); go_simp; try with_reducible rfl)
  try simp only [Act.put, List.getElem_toArray, List.getElem_cons_succ, List.getElem_cons_zero, List.setIfInBounds_toArray, List.set_cons_zero, List.set_cons_succ]
  refine wpAnyH_ready (rs := [2]) (by kernel_rfl) (by simp) ?_
  refine AllReadyH.cons rfl (fun K hK => ?_) AllReadyH.nil
  go_simp
  refine (movedRight _ _ (by assumption) _).mono ?_
  rintro e wx ⟨rfl, hbx⟩
  have F2 := F1.drew.on hbx
  clear F1 hbx hHeld
  go_wp2_with fail
  refine hK.out _ _ (⟨F2.2.2.2.c0, F2.2.2.2.c1⟩) (fun hHeld => ?_)
  clear hK K
  try simp only [Act.put, List.getElem_toArray, List.getElem_cons_succ, List.getElem_cons_zero, List.setIfInBounds_toArray, List.set_cons_zero, List.set_cons_succ]
  refine wpAnyH_ready (rs := [3]) (by kernel_rfl) (by simp) ?_
  refine AllReadyH.cons rfl (fun K hK => ?_) AllReadyH.nil
  have d0 := F2.2.1.c0
  have d1 := F2.2.1.c1
  have d2 := F2.2.1.f0
  have d3 := F2.2.1.f1
  have F3 := F2.put1 x y
  clear F2
  go_simp
  refine hK.out _ _ (⟨F3.2.2.2.c0, F3.2.2.2.c1⟩) (fun hHeld => ?_)
  clear hK K
  try simp only [Act.put, List.getElem_toArray, List.getElem_cons_succ, List.getElem_cons_zero, List.setIfInBounds_toArray, List.set_cons_zero, List.set_cons_succ]
  refine wpAnyH_ready (rs := [4]) (by kernel_rfl) (by simp) ?_
  refine AllReadyH.cons rfl (fun K hK => ?_) AllReadyH.nil
  have d0 := F3.2.2.1.c0
  have d1 := F3.2.2.1.c1
  have d2 := F3.2.2.1.f0
  have d3 := F3.2.2.1.f1
  have F4 := F3.put2 (wrap64 (x + 1)) y
  clear F3
  go_simp
  refine hK.out _ _ (⟨F4.2.2.2.c0, F4.2.2.2.c1⟩) (fun hHeld => ?_)
  clear hK K
  try simp only [Act.put, List.getElem_toArray, List.getElem_cons_succ, List.getElem_cons_zero, List.setIfInBounds_toArray, List.set_cons_zero, List.set_cons_succ]
  refine wpAnyH_done (by kernel_rfl) ?_ _
  refine NoPanic.normal ?_
  generalize World.setCell _ _ _ = W4 at F4 ⊢
  have c0 := F4.2.1.c0
  have c1 := F4.2.1.c1
  have c2 := F4.2.2.1.c0
  have c3 := F4.2.2.1.c1
  go_wp2
  refine bodyPost_ret (v := .tuple #[.agg #[.int .i64 x, .int .i64 y], .agg #[.int .i64 (wrap64 (x + 1)), .int .i64 y]]) ?_ rfl (mkCel2 rfl rfl rfl rfl F4.1)
  simp [results, Try.results86, go_sem, c0, c1, c2, c3]
end Go.Proofs.Ytjfagpmklifjlaa.Dom
