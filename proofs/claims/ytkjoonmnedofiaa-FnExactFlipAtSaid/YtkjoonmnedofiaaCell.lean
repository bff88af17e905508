/- The cells' small functions that later chapters call: which cells are valid, a cell made out of two numbers, two cells compared, the cell of an index. -/
import Derived.Test.YtkjoonmnedofiaaRows
import Derived.Test.YtkjoonmnedofiaaBase
import Derived.WalkKit
import Derived.WalkSpells
import Derived.WalkLawsBesides
import Derived.Below
import Derived.Lib.Hide
import Derived.Lib.SmallJoins
import Derived.Deep.QuietTactic
import Derived.BigQuiet
namespace Go.Proofs.Ytkjoonmnedofiaa.Cell
set_option linter.unusedVariables false
open Go.RowKit Go.Proofs.Ytkjoonmnedofiaa.Base Go.Joins

/-- a valid cell. -/
def Ok (x y : Int) : Prop := 0 ≤ x ∧ x ≤ 7 ∧ 0 ≤ y ∧ y ≤ 7
instance (x y : Int) : Decidable (Ok x y) := inferInstanceAs (Decidable (_ ∧ _ ∧ _ ∧ _))
/-- an ending with one bool. -/
def Bol (b : Bool) (w : World) (e : Ending) (w' : World) : Prop := e = .returned (.bool b) ∧ Below w.heap.size w w'
def Num (n : Int) (w : World) (e : Ending) (w' : World) : Prop := e = .returned (.int .i64 n) ∧ Below w.heap.size w w'
/-- an ending with one cell. -/
def Cel (x y : Int) (w : World) (e : Ending) (w' : World) : Prop := e = .returned (.agg #[.int .i64 x, .int .i64 y]) ∧ Below w.heap.size w w'
def CelB (x y : Int) (b : Bool) (w : World) (e : Ending) (w' : World) : Prop := e = .returned (.tuple #[.agg #[.int .i64 x, .int .i64 y], .bool b]) ∧ Below w.heap.size w w'
/-- in a range, as a bool. -/
def inB (n a b : Int) : Bool := decide (a ≤ n ∧ n ≤ b)
theorem inB_of {n a b : Int} (h : a ≤ n ∧ n ≤ b) : inB n a b = true := decide_eq_true h
theorem inB_not {n a b : Int} (h : ¬ (a ≤ n ∧ n ≤ b)) : inB n a b = false := decide_eq_false h
theorem inB_iff {n a b : Int} : inB n a b = true ↔ a ≤ n ∧ n ≤ b := by unfold inB; simp
/-- an ending with one bool, no memory made. -/
def BolE (b : Bool) (w : World) (e : Ending) (w' : World) : Prop := e = .returned (.bool b) ∧ w' = w
theorem mkBol {v b : Bool} {w W : World} (h : v = b) (hb : Below w.heap.size w W) : Bol b w (.returned (.bool v)) W := ⟨by rw [h], hb⟩
theorem mkNum {v b : Int} {w W : World} (h : v = b) (hb : Below w.heap.size w W) : Num b w (.returned (.int .i64 v)) W := ⟨by rw [h], hb⟩
theorem mkCel {u v x y : Int} {w W : World} (h : u = x) (h' : v = y) (hb : Below w.heap.size w W) : Cel x y w (.returned (.agg #[.int .i64 u, .int .i64 v])) W := ⟨by rw [h, h'], hb⟩
theorem mkCelB {u v x y : Int} {b : Bool} {w W : World} (h : u = x) (h' : v = y) (hb : Below w.heap.size w W) : CelB x y b w (.returned (.tuple #[.agg #[.int .i64 u, .int .i64 v], .bool b])) W := ⟨by rw [h, h'], hb⟩

/-- valid, as a bool. -/
def okB (x y : Int) : Bool := decide (Ok x y)
theorem okB_of {x y : Int} (h : Ok x y) : okB x y = true := decide_eq_true h
theorem okB_not {x y : Int} (h : ¬ Ok x y) : okB x y = false := decide_eq_false h
theorem okB_iff {x y : Int} : okB x y = true ↔ Ok x y := by unfold okB; simp
/-- two cells are the same, as a bool. -/
def eqB (x y u v : Int) : Bool := decide (x = u ∧ y = v)
theorem eqB_iff {x y u v : Int} : eqB x y u v = true ↔ x = u ∧ y = v := by unfold eqB; simp
/-- black, as a bool. -/
def blackB (x y : Int) : Bool := decide (Ok x y ∧ (x + y) % 2 = 0)
theorem blackB_iff {x y : Int} : blackB x y = true ↔ Ok x y ∧ (x + y) % 2 = 0 := by unfold blackB; simp
/-- the index of a cell. -/
def indexN (x y : Int) : Int := if Ok x y then y * 8 + x else -1
/-- the cell of an index. -/
def atX (n : Int) : Int := if 0 ≤ n ∧ n ≤ 63 then n % 8 else 0
def atY (n : Int) : Int := if 0 ≤ n ∧ n ≤ 63 then n / 8 else 0
/-- neighbors, as a bool. -/
def nbB (x y u v : Int) : Bool := decide (Ok x y ∧ Ok u v ∧ ((x = u ∧ (y = v + 1 ∨ v = y + 1)) ∨ (y = v ∧ (x = u + 1 ∨ u = x + 1))))
theorem nbB_iff {x y u v : Int} : nbB x y u v = true ↔ Ok x y ∧ Ok u v ∧ ((x = u ∧ (y = v + 1 ∨ v = y + 1)) ∨ (y = v ∧ (x = u + 1 ∨ u = x + 1))) := by unfold nbB; simp

set_option maxHeartbeats 400000 in
theorem l01In (n a b : Int) (w : World) :
    Calls Try.prog 58 #[.int .i64 n, .int .i64 a, .int .i64 b] w (BolE (inB n a b) w) := by
  have H : ∀ v : Bool, (v = true ↔ a ≤ n ∧ n ≤ b) → BolE (inB n a b) w (.returned (.bool v)) w := fun v h => by
    have : v = inB n a b := by unfold inB; rw [Bool.eq_iff_iff]; simpa using h
    rw [this]; exact ⟨rfl, rfl⟩
  have HH := Lib.hid H
  clear H
  go_enter Try.func58, Try.ntmps58
  go_wp2
  all_goals
    go_ret
    refine HH.out _ ?_
    simp
    try omega

set_option maxHeartbeats 400000 in
theorem isValid (x y : Int) (w : World) :
    Calls Try.prog 64 #[.agg #[.int .i64 x, .int .i64 y]] w (Bol (okB x y) w) := by
  have H : ∀ (b : Bool) (W : World), (b = true ↔ Ok x y) → Below w.heap.size w W → Bol (okB x y) w (.returned (.bool b)) W := fun b W h hb => mkBol (by rw [Bool.eq_iff_iff, okB_iff]; exact h) hb
  have HH := Lib.hid H
  clear H
  go_enter Try.func64, Try.ntmps64
  go_wp2
  all_goals
    go_ret
    refine HH.out _ _ ?_ (below_alloc1 _ _)
    unfold Ok
    simp
    try omega

set_option maxHeartbeats 400000 in
theorem sCellOk (x y : Int) (w : World) :
    Calls Try.prog 65 #[.agg #[.int .i64 x, .int .i64 y]] w (Bol (okB x y) w) := by
  have H : ∀ (b : Bool) (W : World), (b = true ↔ Ok x y) → Below w.heap.size w W → Bol (okB x y) w (.returned (.bool b)) W := fun b W h hb => mkBol (by rw [Bool.eq_iff_iff, okB_iff]; exact h) hb
  have HH := Lib.hid H
  clear H
  go_enter Try.func65, Try.ntmps65
  go_wp2_with fail
  refine (l01In x 0 7 _).mono ?_
  rintro e w1 ⟨rfl, rfl⟩
  by_cases hx : 0 ≤ x ∧ x ≤ 7
  · rw [inB_of hx]
    go_wp2_with fail
    refine (l01In y 0 7 _).mono ?_
    rintro e w1 ⟨rfl, rfl⟩
    go_wp2
    go_ret
    refine HH.out _ _ ?_ (below_alloc1 _ _)
    unfold Ok
    rw [inB_iff]
    omega
  · rw [inB_not hx]
    go_wp2
    go_ret
    refine HH.out _ _ ?_ (below_alloc1 _ _)
    unfold Ok
    simp
    omega

set_option maxHeartbeats 400000 in
theorem toCell (x y : Int) (w : World) :
    Calls Try.prog 24 #[.agg #[.int .i64 x, .int .i64 y]] w (Cel x y w) := by
  go_enter Try.func24, Try.ntmps24
  go_wp2
  exact bodyPost_ret (v := .agg #[.int .i64 x, .int .i64 y]) (by simp [results, Try.results24, go_sem]) rfl (mkCel rfl rfl (below_alloc3 _ _ _ _))

set_option maxHeartbeats 400000 in
theorem eqCell (x y u v : Int) (w : World) :
    Calls Try.prog 54 #[.agg #[.int .i64 x, .int .i64 y], .agg #[.int .i64 u, .int .i64 v]] w (Bol (eqB x y u v) w) := by
  have H : ∀ (b : Bool) (W : World), (b = true ↔ x = u ∧ y = v) → Below w.heap.size w W → Bol (eqB x y u v) w (.returned (.bool b)) W := fun b W h hb => mkBol (by rw [Bool.eq_iff_iff, eqB_iff]; exact h) hb
  have HH := Lib.hid H
  clear H
  go_enter Try.func54, Try.ntmps54
  by_cases h1 : x = u
  · by_cases h2 : y = v
    · have e1 : (x != u) = false := by simp [h1]
      have e2 : (y != v) = false := by simp [h2]
      go_wp2
      go_ret
      refine HH.out _ _ ?_ (below_alloc2 _ _ _)
      simp [h1, h2]
    · have e1 : (x != u) = false := by simp [h1]
      have e2 : (y != v) = true := by simp [h2]
      go_wp2
      go_ret
      refine HH.out _ _ ?_ (below_alloc2 _ _ _)
      simp [h2]
  · have e1 : (x != u) = true := by simp [h1]
    go_wp2
    go_ret
    refine HH.out _ _ ?_ (below_alloc2 _ _ _)
    simp [h1]
theorem box (x y : Int) (w w1 : World) (h : Below (w.alloc (.cells #[.int .i64 x, .int .i64 y] 35)).heap.size (w.alloc (.cells #[.int .i64 x, .int .i64 y] 35)) w1) : Below w.heap.size w w1 :=
  (below_alloc1 w (.cells #[.int .i64 x, .int .i64 y] 35)).trans (h.mono (by simp))
theorem boxed (x y : Int) (w w1 : World) (h : Below (w.alloc (.cells #[.int .i64 x, .int .i64 y] 35)).heap.size (w.alloc (.cells #[.int .i64 x, .int .i64 y] 35)) w1) (k : Nat) (hk : k < 2) :
    w1.cell? ⟨w.heap.size, k, none⟩ = some (#[Value.int .i64 x, Value.int .i64 y].getD k undef) := by
  rw [h.cell (by simp)]
  have hbl : (w.alloc (.cells #[.int .i64 x, .int .i64 y] 35)).heap[w.heap.size]? = some (.cells #[.int .i64 x, .int .i64 y] 35) := by
    show (w.heap.push _)[w.heap.size]? = _
    exact Array.getElem?_push_size
  have : k = 0 ∨ k = 1 := by omega
  rcases this with rfl | rfl
  · exact (cell_of_row _ _ 0 _ _ _ hbl).trans rfl
  · exact (cell_of_row _ _ 1 _ _ _ hbl).trans rfl

theorem at_in {n : Int} (h0 : 0 ≤ n) (h1 : n ≤ 63) : atX n = n % 8 ∧ atY n = n / 8 ∧ inB n 0 63 = true := ⟨by unfold atX; simp [h0, h1], by unfold atY; simp [h0, h1], inB_of ⟨h0, h1⟩⟩
theorem at_out {n : Int} (h : ¬ (0 ≤ n ∧ n ≤ 63)) : atX n = 0 ∧ atY n = 0 ∧ inB n 0 63 = false := ⟨by unfold atX; simp [h], by unfold atY; simp [h], inB_not h⟩
theorem mkAtIn {n : Int} {w W : World} (h0 : 0 ≤ n) (h1 : n ≤ 63) (hb : Below w.heap.size w W) : CelB (atX n) (atY n) (inB n 0 63) w (.returned (.tuple #[.agg #[.int .i64 (n % 8), .int .i64 (n / 8)], .bool true])) W := by
  obtain ⟨a, b, c⟩ := at_in h0 h1
  rw [a, b, c]; exact ⟨rfl, hb⟩
theorem mkAtOut {n : Int} {w W : World} (h : ¬ (0 ≤ n ∧ n ≤ 63)) (hb : Below w.heap.size w W) : CelB (atX n) (atY n) (inB n 0 63) w (.returned (.tuple #[.agg #[.int .i64 0, .int .i64 0], .bool false])) W := by
  obtain ⟨a, b, c⟩ := at_out h
  rw [a, b, c]; exact ⟨rfl, hb⟩

set_option maxHeartbeats 400000 in
theorem sCellAt (n : Int) (w : World) :
    Calls Try.prog 37 #[.int .i64 n] w (CelB (atX n) (atY n) (inB n 0 63) w) := by
  have HB := Lib.hid (below_alloc1 w (.cells #[.int .i64 (n % 8), .int .i64 (n / 8)] 35))
  have HZ := Lib.hid (below_alloc1 w (.cells #[.int .i64 0, .int .i64 0] 35))
  by_cases h : 0 ≤ n ∧ n ≤ 63
  · have HE := Lib.hid (inB_of h)
    obtain ⟨h0, h1⟩ := h
    have HP := fun W (hb : Below w.heap.size w W) => mkAtIn h0 h1 hb
    have HQ := Lib.hid HP
    clear HP
    go_enter Try.func37, Try.ntmps37
    go_wp2_with fail
    refine (l01In n 0 63 _).mono ?_
    rintro e w1 ⟨rfl, rfl⟩
    rw [HE.out]
    go_wp2
    refine bodyPost_ret (v := .tuple #[.agg #[.int .i64 (n % 8), .int .i64 (n / 8)], .bool true]) (by simp [results, Try.results37, go_sem]) rfl ?_
    exact HQ.out _ HB.out
  · have HE := Lib.hid (inB_not h)
    have HP := fun W (hb : Below w.heap.size w W) => mkAtOut h hb
    have HQ := Lib.hid HP
    clear HP
    go_enter Try.func37, Try.ntmps37
    go_wp2_with fail
    refine (l01In n 0 63 _).mono ?_
    rintro e w1 ⟨rfl, rfl⟩
    rw [HE.out]
    go_wp2
    refine bodyPost_ret (v := .tuple #[.agg #[.int .i64 0, .int .i64 0], .bool false]) (by simp [results, Try.results37, go_sem]) rfl ?_
    exact HQ.out _ HZ.out

theorem drewBelow {B : Nat} {a w : World} (h : Below B a w) (n : Nat) : Below B a (w.drewN n) := ⟨h.os, h.tape, h.output, h.size, h.block⟩
set_option maxHeartbeats 400000 in
theorem moved (x y a b : Int) (w : World) :
    Calls Try.prog 82 #[.agg #[.int .i64 x, .int .i64 y], .int .i64 a, .int .i64 b] w (Cel (wrap64 (x + a)) (wrap64 (y + b)) w) := by
  go_enter Try.func82, Try.ntmps82
  go_wp2
  exact bodyPost_ret (v := .agg #[.int .i64 (wrap64 (x + a)), .int .i64 (wrap64 (y + b))]) (by simp [results, Try.results82, go_sem]) rfl (mkCel rfl rfl (below_alloc2 _ _ _))
end Go.Proofs.Ytkjoonmnedofiaa.Cell
