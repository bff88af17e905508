/- CntS, CntR, Base, Cell, CellF, CellN in one text. -/
import Derived.Test.YtmenmepdmojnfaaGreatDoorMw00
import Derived.WalkKit
import Derived.ProofKit
import Derived.Laws.BytesArg
import Derived.Test.YtmenmepdmojnfaaGreatDoorRows
import Derived.WalkSpells
import Derived.WalkLawsBesides
import Derived.Below
import Derived.Lib.Hide
import Derived.Lib.SmallJoins
import Derived.Deep.QuietTactic
import Derived.BigQuiet

namespace Go.Proofs.YtmenmepdmojnfaaGreatDoor.Cnt
set_option linter.unusedVariables false
set_option linter.unusedSimpArgs false
open Go.RowKit

def D (x y : Int) : Prop := ∃ q : Int, x = y + 18446744073709551616 * q
theorem D.refl (x : Int) : D x x := ⟨0, by omega⟩
theorem D.symm {x y : Int} (h : D x y) : D y x := by obtain ⟨q, h⟩ := h; exact ⟨-q, by omega⟩
theorem D.trans {x y z : Int} (h : D x y) (h' : D y z) : D x z := by
 obtain ⟨q, h⟩ := h; obtain ⟨q', h'⟩ := h'; exact ⟨q + q', by omega⟩
theorem D.add {x y u v : Int} (h : D x y) (h' : D u v) : D (x + u) (y + v) := by
 obtain ⟨q, h⟩ := h; obtain ⟨q', h'⟩ := h'; exact ⟨q + q', by omega⟩
theorem D.mul {x y : Int} (h : D x y) (c : Int) : D (x * c) (y * c) := by
 obtain ⟨q, h⟩ := h; exact ⟨q * c, by rw [h, Int.add_mul, Int.mul_assoc]⟩
theorem D_wrap (x : Int) : D (wrap64 x) x := by
 refine ⟨(wrap64 x - x) / 18446744073709551616, ?_⟩
 unfold wrap64; omega
theorem D.wrap {x y : Int} (h : D x y) : wrap64 x = wrap64 y := by
 obtain ⟨q, h⟩ := h; unfold wrap64; omega
def si : Nat → (Nat → Int) → Int
 | 0, _ => 0
 | n + 1, f => si n f + f n
theorem si_congr {n : Nat} {f h : Nat → Int} (e : ∀ i, i < n → f i = h i) : si n f = si n h := by
 induction n with
 | zero => rfl
 | succ n ih => unfold si; rw [ih (fun i hi => e i (by omega)), e n (by omega)]
theorem si_zero {n : Nat} {f : Nat → Int} (e : ∀ i, i < n → f i = 0) : si n f = 0 := by
 induction n with
 | zero => rfl
 | succ n ih => unfold si; rw [ih (fun i hi => e i (by omega)), e n (by omega)]; rfl
theorem si_one {n c : Nat} (hc : c < n) {f : Nat → Int} (h : ∀ i, i < n → i ≠ c → f i = 0) : si n f = f c := by
 induction n with
 | zero => omega
 | succ n ih =>
  unfold si
  by_cases e : c = n
  ·subst e; rw [si_zero (fun i hi => h i (by omega) (by omega))]; omega
  ·rw [ih (by omega) (fun i hi hne => h i (by omega) hne), h n (by omega) (by omega)]; omega
def upd (b : Nat → Int) (t : Nat) (v : Int) : Nat → Int := fun i => if i = t then v else b i
theorem upd_at (b : Nat → Int) (t : Nat) (v : Int) : upd b t v t = v := if_pos rfl
theorem upd_ne {b : Nat → Int} {t i : Nat} {v : Int} (h : i ≠ t) : upd b t v i = b i := if_neg h
theorem si_upd {n t : Nat} (ht : t < n) (b w : Nat → Int) (v : Int) : si n (fun i => upd b t v i * w i) = si n (fun i => b i * w i) + (v - b t) * w t := by
 induction n with
 | zero => omega
 | succ n ih =>
  show si n (fun i => upd b t v i * w i) + upd b t v n * w n = si n (fun i => b i * w i) + b n * w n + (v - b t) * w t
  by_cases e : t = n
  ·subst e
   rw [upd_at, si_congr (n := t) (f := fun i => upd b t v i * w i) (h := fun i => b i * w i) (fun i hi => by show upd b t v i * w i = _; rw [upd_ne (by omega)]), Int.sub_mul]
   omega
  ·rw [ih (by omega), upd_ne (fun h => e h.symm)]; omega
def sumW (g : Nat → Bool) (n k s : Nat) (a : Nat → Int) : Int := si s (fun i => a i * (W g n k i : Int))
theorem D_add1 {L v : Int} {g : Nat → Bool} {n k t : Nat} {b : Nat → Int} (h : D L (sumW g n k 256 b)) (ht : t < 256) : D (L + v * (W g n k t : Int)) (sumW g n k 256 (upd b t (wrap64 (b t + v)))) := by
 unfold sumW at h ⊢
 rw [si_upd ht]
 refine h.add ?_
 refine D.mul ?_ _
 have := D_wrap (b t + v)
 obtain ⟨q, hq⟩ := this
 exact ⟨-q, by omega⟩
def St (g : Nat → Bool) (n k : Nat) (a b : Nat → Int) (s : Nat) : Prop := D (sumW g (n + 1) k s a) (sumW g n (k + 1) 256 b)
theorem St.start (g : Nat → Bool) (n k : Nat) (a : Nat → Int) : St g n k a (fun _ => 0) 0 := by
 unfold St sumW
 rw [si_zero (n := 256) (fun i _ => by simp)]
 exact D.refl 0
theorem St.skip {g : Nat → Bool} {n k s : Nat} {a b : Nat → Int} (h : St g n k a b s) (e : a s = 0) : St g n k a b (s + 1) := by
 unfold St at h ⊢
 show D (sumW g (n + 1) k s a + a s * _) _
 rw [e, Int.zero_mul, Int.add_zero]; exact h
theorem St.out {g : Nat → Bool} {n k s : Nat} {a b : Nat → Int} (h : St g n k a b s) (hg : g k = false) (hb : s.testBit (k % 8) = true) : St g n k a b (s + 1) := by
 unfold St at h ⊢
 show D (sumW g (n + 1) k s a + a s * (W g (n + 1) k s : Int)) _
 rw [W_out hg hb]; simpa using h
theorem St.no {g : Nat → Bool} {n k s : Nat} {a b : Nat → Int} (h : St g n k a b s) (hs : s < 256) (hg : g k = false) (hb : s.testBit (k % 8) = false) : St g n k a (upd b s (wrap64 (b s + a s))) (s + 1) := by
 unfold St at h ⊢
 show D (sumW g (n + 1) k s a + a s * (W g (n + 1) k s : Int)) _
 rw [W_no hg hb]
 exact D_add1 h hs
theorem St.cov {g : Nat → Bool} {n k s : Nat} {a b : Nat → Int} (h : St g n k a b s) (hs : s < 256) (hg : g k = true) (hb : s.testBit (k % 8) = true) : St g n k a (upd b (s - 2 ^ (k % 8)) (wrap64 (b (s - 2 ^ (k % 8)) + a s))) (s + 1) := by
 unfold St at h ⊢
 show D (sumW g (n + 1) k s a + a s * (W g (n + 1) k s : Int)) _
 rw [W_cov hg hb]
 exact D_add1 h (bit_sub s hs _ (Nat.mod_lt _ (by omega)) hb).1
def dn (g : Nat → Bool) (k s : Nat) (v : Int) (b : Nat → Int) : Nat → Int := if g (k + 8) = true then upd b (s + 2 ^ (k % 8)) (wrap64 (b (s + 2 ^ (k % 8)) + v)) else b
def rt (g : Nat → Bool) (k s : Nat) (v : Int) (b : Nat → Int) : Nat → Int := if k % 8 ≠ 7 ∧ g (k + 1) = true ∧ s.testBit (k % 8 + 1) = false then upd b (s + 2 ^ (k % 8 + 1)) (wrap64 (b (s + 2 ^ (k % 8 + 1)) + v)) else b
theorem St.two {g : Nat → Bool} {n k s : Nat} {a b : Nat → Int} (h : St g n k a b s) (hs : s < 256) (hg : g k = true) (hb : s.testBit (k % 8) = false) : St g n k a (rt g k s (a s) (dn g k s (a s) b)) (s + 1) := by
 unfold St at h ⊢
 show D (sumW g (n + 1) k s a + a s * (W g (n + 1) k s : Int)) _
 rw [W_two hg hb, Int.natCast_add, Int.mul_add, ← Int.add_assoc]
 have h1 : D (sumW g (n + 1) k s a + a s * ((if g (k + 8) = true then W g n (k + 1) (s + 2 ^ (k % 8)) else 0 : Nat) : Int)) (sumW g n (k + 1) 256 (dn g k s (a s) b)) := by
  unfold dn
  by_cases p : g (k + 8) = true
  ·rw [if_pos p, if_pos p]; exact D_add1 h (bit_add s hs _ (Nat.mod_lt _ (by omega)) hb).1
  ·rw [if_neg p, if_neg p]; simpa using h
 unfold rt
 by_cases p : k % 8 ≠ 7 ∧ g (k + 1) = true ∧ s.testBit (k % 8 + 1) = false
 ·rw [if_pos p, if_pos p]; exact D_add1 h1 (bit_add s hs _ (by omega) p.2.2).1
 ·rw [if_neg p, if_neg p]; simpa using h1
def Inv (g : Nat → Bool) (k : Nat) (a : Nat → Int) : Prop := D (sumW g (64 - k) k 256 a) (tiles g : Int)
theorem Inv.start {g : Nat → Bool} (hg : ∀ j, 64 ≤ j → g j = false) {a : Nat → Int} (h0 : a 0 = 1) (h : ∀ i, i < 256 → i ≠ 0 → a i = 0) : Inv g 0 a := by
 unfold Inv sumW
 rw [si_one (c := 0) (by omega) (fun i hi hne => by rw [h i hi hne, Int.zero_mul]), h0, Int.one_mul, W_tiles hg]
 exact D.refl _
theorem Inv.next {g : Nat → Bool} {k : Nat} {a b : Nat → Int} (hk : k < 64) (h : Inv g k a) (hs : St g (63 - k) k a b 256) : Inv g (k + 1) b := by
 unfold Inv at h ⊢; unfold St at hs
 rw [show 63 - k + 1 = 64 - k by omega] at hs
 rw [show 64 - (k + 1) = 63 - k by omega]
 exact hs.symm.trans h
theorem Inv.last {g : Nat → Bool} {a : Nat → Int} (h : Inv g 64 a) : wrap64 (a 0) = wrap64 (tiles g : Int) := by
 unfold Inv sumW at h
 rw [si_one (c := 0) (by omega) (fun i hi hne => by rw [show 64 - 64 = 0 from rfl, W_zero, if_neg hne]; simp)] at h
 rw [show 64 - 64 = 0 from rfl, W_zero, if_pos rfl] at h
 simpa using h.wrap
def R (C : Nat → Nat) (L : Nat) : Nat → Nat → Nat → (Nat → Bool) → Nat
 | _, _, 0, _ => 1
 | 0, _, _ + 1, _ => 0
 | n + 1, f, m + 1, u => R C L n (f + 1) (m + 1) u + if u f = true then 0 else sm L (fun k => if f < k ∧ u k = false ∧ adj (C f) (C k) = true then R C L n (f + 1) m (fun i => u i || decide (i = k)) else 0)
end Go.Proofs.YtmenmepdmojnfaaGreatDoor.Cnt

namespace Go.Proofs.YtmenmepdmojnfaaGreatDoor.Cnt
set_option linter.unusedVariables false
set_option linter.unusedSimpArgs false
open Go.RowKit Go.Proofs.YtmenmepdmojnfaaGreatDoor.Pure

def gR (xs : List Int) : Nat → Bool := fun j => decide (j < 64) && bitB (rowD xs (j / 8)) (j % 8)
theorem gR_out (xs : List Int) : ∀ j, 64 ≤ j → gR xs j = false := fun j h => by unfold gR; rw [decide_eq_false (by omega)]; rfl
theorem gR_in {xs : List Int} {j : Nat} (h : j < 64) : gR xs j = bitB (rowD xs (j / 8)) (j % 8) := by unfold gR; rw [decide_eq_true h]; rfl
theorem put_bit : ∀ r : Fin 256, ∀ k : Fin 8, ∀ i : Fin 8, bitB (putB ((r.val : Nat) : Int) k.val false) i.val = (bitB ((r.val : Nat) : Int) i.val && decide (i.val ≠ k.val)) := by decide +kernel
theorem gR_with {xs : List Int} (ho : okR xs) {x y : Nat} (hx : x < 8) (hy : y < 8) (j : Nat) : gR (withR xs x y false) j = (gR xs j && decide (j ≠ y * 8 + x)) := by
 by_cases h : j < 64
 ·rw [gR_in h, gR_in h, rowD_with ho.1 x hy]
  by_cases q : j / 8 = y
  ·rw [if_pos q, q]
   have r0 := rowD_ok ho y
   have t := put_bit ⟨(rowD xs y).toNat, by omega⟩ ⟨x, hx⟩ ⟨j % 8, Nat.mod_lt _ (by omega)⟩
   have e : (((rowD xs y).toNat : Nat) : Int) = rowD xs y := Int.toNat_of_nonneg r0.1
   simp only [e] at t
   rw [t]
   congr 1
   rw [Bool.eq_iff_iff, decide_eq_true_iff, decide_eq_true_iff]
   omega
  ·rw [if_neg q, decide_eq_true (show j ≠ y * 8 + x by omega), Bool.and_true]
 ·rw [gR_out _ j (by omega), gR_out _ j (by omega)]; rfl
def tilesR (xs : List Int) : Int := if okR xs then wrap64 (tiles (gR xs) : Int) else 0
theorem tilesR_ok {xs : List Int} (h : okR xs) : tilesR xs = wrap64 (tiles (gR xs) : Int) := if_pos h
theorem tilesR_not {xs : List Int} (h : ¬ okR xs) : tilesR xs = 0 := if_neg h
def gq (a b : Nat) : Nat → Bool := fun j => decide (j % 8 < a) && decide (j / 8 < b)
theorem gq_table : ∀ a : Fin 9, ∀ b : Fin 9, ∀ j : Fin 64, 1 ≤ a.val → 1 ≤ b.val → gR (rectR ((a.val : Nat) : Int) ((b.val : Nat) : Int)) j.val = gq a.val b.val j.val := by decide +kernel
theorem rect_gq {a b : Nat} (ha : 1 ≤ a ∧ a ≤ 8) (hb : 1 ≤ b ∧ b ≤ 8) : gR (rectR (a : Int) (b : Int)) = gq a b := by
 funext j
 by_cases h : j < 64
 ·exact gq_table ⟨a, by omega⟩ ⟨b, by omega⟩ ⟨j, h⟩ ha.1 hb.1
 ·rw [gR_out _ j (by omega)]
  unfold gq
  rw [decide_eq_false (show ¬ j / 8 < b by omega), Bool.and_false]
theorem rect_ok {a b : Nat} (ha : 1 ≤ a ∧ a ≤ 8) (hb : 1 ≤ b ∧ b ≤ 8) : okR (rectR (a : Int) (b : Int)) := by
 have : ∀ a : Fin 9, ∀ b : Fin 9, 1 ≤ a.val → 1 ≤ b.val → okR (rectR ((a.val : Nat) : Int) ((b.val : Nat) : Int)) := by decide +kernel
 exact this ⟨a, by omega⟩ ⟨b, by omega⟩ ha.1 hb.1
theorem rect_tiles {a b : Nat} (ha : 1 ≤ a ∧ a ≤ 8) (hb : 1 ≤ b ∧ b ≤ 8) : tilesR (rectR (a : Int) (b : Int)) = wrap64 (W (gq a b) 64 0 0 : Int) := by
 rw [tilesR_ok (rect_ok ha hb), ← W_tiles (gR_out _), rect_gq ha hb]
def idxs (xs : List Int) : List Nat := (List.range 64).filter (gR xs)
theorem idxs_cells (xs : List Int) : cellsTo xs 64 = (idxs xs).map fun j => (((j % 8 : Nat) : Int), ((j / 8 : Nat) : Int)) := by
 unfold cellsTo idxs
 have e : (List.range 64).filter (fun j => bitB (rowD xs (j / 8)) (j % 8)) = (List.range 64).filter (gR xs) := List.filter_congr (fun j hj => (gR_in (List.mem_range.1 hj)).symm)
 rw [e]
end Go.Proofs.YtmenmepdmojnfaaGreatDoor.Cnt

namespace Go.Proofs.YtmenmepdmojnfaaGreatDoor.Base
open Go.RowKit Go.WideShapes Go.ChangeShapes

theorem add_plain (g j : Nat) : (⟨g, 0, none⟩ : Addr).add j = ⟨g, j, none⟩ := by unfold Addr.add; split <;> simp_all

theorem own_shape {w : World} {base e size n : Nat} {v : Value} {xs : List Value} (h : w.ownsRow base e size v n xs) : ∃ A cap, v = .slice A n cap := by
 rcases h.2 with ⟨rfl, rfl⟩ | ⟨g, cap, cur, rfl, _⟩
 ·exact ⟨_, _, rfl⟩
 ·exact ⟨_, _, rfl⟩
end Go.Proofs.YtmenmepdmojnfaaGreatDoor.Base

namespace Go.Proofs.YtmenmepdmojnfaaGreatDoor.Cell
set_option linter.unusedVariables false
open Go.RowKit Go.Joins

def Ok (x y : Int) : Prop := 0 ≤ x ∧ x ≤ 7 ∧ 0 ≤ y ∧ y ≤ 7
instance (x y : Int) : Decidable (Ok x y) := inferInstanceAs (Decidable (_ ∧ _ ∧ _ ∧ _))
def Bol (b : Bool) (w : World) (e : Ending) (w' : World) : Prop := e = .returned (.bool b) ∧ Below w.heap.size w w'
def Num (n : Int) (w : World) (e : Ending) (w' : World) : Prop := e = .returned (.int .i64 n) ∧ Below w.heap.size w w'
def Cel (x y : Int) (w : World) (e : Ending) (w' : World) : Prop := e = .returned (.agg #[.int .i64 x, .int .i64 y]) ∧ Below w.heap.size w w'
def CelB (x y : Int) (b : Bool) (w : World) (e : Ending) (w' : World) : Prop := e = .returned (.tuple #[.agg #[.int .i64 x, .int .i64 y], .bool b]) ∧ Below w.heap.size w w'
def inB (n a b : Int) : Bool := decide (a ≤ n ∧ n ≤ b)
theorem inB_of {n a b : Int} (h : a ≤ n ∧ n ≤ b) : inB n a b = true := decide_eq_true h
theorem inB_not {n a b : Int} (h : ¬ (a ≤ n ∧ n ≤ b)) : inB n a b = false := decide_eq_false h
theorem inB_iff {n a b : Int} : inB n a b = true ↔ a ≤ n ∧ n ≤ b := by unfold inB; simp
def BolE (b : Bool) (w : World) (e : Ending) (w' : World) : Prop := e = .returned (.bool b) ∧ w' = w
theorem mkBol {v b : Bool} {w W : World} (h : v = b) (hb : Below w.heap.size w W) : Bol b w (.returned (.bool v)) W := ⟨by rw [h], hb⟩
theorem mkNum {v b : Int} {w W : World} (h : v = b) (hb : Below w.heap.size w W) : Num b w (.returned (.int .i64 v)) W := ⟨by rw [h], hb⟩
theorem mkCel {u v x y : Int} {w W : World} (h : u = x) (h' : v = y) (hb : Below w.heap.size w W) : Cel x y w (.returned (.agg #[.int .i64 u, .int .i64 v])) W := ⟨by rw [h, h'], hb⟩
def okB (x y : Int) : Bool := decide (Ok x y)
theorem okB_of {x y : Int} (h : Ok x y) : okB x y = true := decide_eq_true h
theorem okB_not {x y : Int} (h : ¬ Ok x y) : okB x y = false := decide_eq_false h
theorem okB_iff {x y : Int} : okB x y = true ↔ Ok x y := by unfold okB; simp
def eqB (x y u v : Int) : Bool := decide (x = u ∧ y = v)
theorem eqB_iff {x y u v : Int} : eqB x y u v = true ↔ x = u ∧ y = v := by unfold eqB; simp
def indexN (x y : Int) : Int := if Ok x y then y * 8 + x else -1
def atX (n : Int) : Int := if 0 ≤ n ∧ n ≤ 63 then n % 8 else 0
def atY (n : Int) : Int := if 0 ≤ n ∧ n ≤ 63 then n / 8 else 0
def nbB (x y u v : Int) : Bool := decide (Ok x y ∧ Ok u v ∧ ((x = u ∧ (y = v + 1 ∨ v = y + 1)) ∨ (y = v ∧ (x = u + 1 ∨ u = x + 1))))
theorem nbB_iff {x y u v : Int} : nbB x y u v = true ↔ Ok x y ∧ Ok u v ∧ ((x = u ∧ (y = v + 1 ∨ v = y + 1)) ∨ (y = v ∧ (x = u + 1 ∨ u = x + 1))) := by unfold nbB; simp

set_option maxHeartbeats 400000 in
theorem l01In (n a b : Int) (w : World) :
  Calls Tryz.prog 70 #[.int .i64 n, .int .i64 a, .int .i64 b] w (BolE (inB n a b) w) := by
 have H : ∀ v : Bool, (v = true ↔ a ≤ n ∧ n ≤ b) → BolE (inB n a b) w (.returned (.bool v)) w := fun v h => by
  have : v = inB n a b := by unfold inB; rw [Bool.eq_iff_iff]; simpa using h
  rw [this]; exact ⟨rfl, rfl⟩
 have HH := Lib.hid H
 clear H
 go_enter Tryz.func70, Tryz.ntmps70
 go_wp2
 all_goals
  go_ret
  refine HH.out _ ?_
  simp
  try omega

set_option maxHeartbeats 400000 in
theorem isValid (x y : Int) (w : World) :
  Calls Tryz.prog 129 #[.agg #[.int .i64 x, .int .i64 y]] w (Bol (okB x y) w) := by
 have H : ∀ (b : Bool) (W : World), (b = true ↔ Ok x y) → Below w.heap.size w W → Bol (okB x y) w (.returned (.bool b)) W := fun b W h hb => mkBol (by rw [Bool.eq_iff_iff, okB_iff]; exact h) hb
 have HH := Lib.hid H
 clear H
 go_enter Tryz.func129, Tryz.ntmps129
 go_wp2
 all_goals
  go_ret
  refine HH.out _ _ ?_ (below_alloc1 _ _)
  unfold Ok
  simp
  try omega

set_option maxHeartbeats 400000 in
theorem sCellOk (x y : Int) (w : World) :
  Calls Tryz.prog 73 #[.agg #[.int .i64 x, .int .i64 y]] w (Bol (okB x y) w) := by
 have H : ∀ (b : Bool) (W : World), (b = true ↔ Ok x y) → Below w.heap.size w W → Bol (okB x y) w (.returned (.bool b)) W := fun b W h hb => mkBol (by rw [Bool.eq_iff_iff, okB_iff]; exact h) hb
 have HH := Lib.hid H
 clear H
 go_enter Tryz.func73, Tryz.ntmps73
 go_wp2_with fail
 refine (l01In x 0 7 _).mono ?_
 rintro e w1 ⟨rfl, rfl⟩
 by_cases hx : 0 ≤ x ∧ x ≤ 7
 ·rw [inB_of hx]
  go_wp2_with fail
  refine (l01In y 0 7 _).mono ?_
  rintro e w1 ⟨rfl, rfl⟩
  go_wp2
  go_ret
  refine HH.out _ _ ?_ (below_alloc1 _ _)
  unfold Ok
  rw [inB_iff]
  omega
 ·rw [inB_not hx]
  go_wp2
  go_ret
  refine HH.out _ _ ?_ (below_alloc1 _ _)
  unfold Ok
  simp
  omega

theorem box (x y : Int) (w w1 : World) (h : Below (w.alloc (.cells #[.int .i64 x, .int .i64 y] 67)).heap.size (w.alloc (.cells #[.int .i64 x, .int .i64 y] 67)) w1) : Below w.heap.size w w1 :=
 (below_alloc1 w (.cells #[.int .i64 x, .int .i64 y] 67)).trans (h.mono (by simp))
theorem boxed (x y : Int) (w w1 : World) (h : Below (w.alloc (.cells #[.int .i64 x, .int .i64 y] 67)).heap.size (w.alloc (.cells #[.int .i64 x, .int .i64 y] 67)) w1) (k : Nat) (hk : k < 2) :
  w1.cell? ⟨w.heap.size, k, none⟩ = some (#[Value.int .i64 x, Value.int .i64 y].getD k undef) := by
 rw [h.cell (by simp)]
 have hbl : (w.alloc (.cells #[.int .i64 x, .int .i64 y] 67)).heap[w.heap.size]? = some (.cells #[.int .i64 x, .int .i64 y] 67) := by
  show (w.heap.push _)[w.heap.size]? = _
  exact Array.getElem?_push_size
 have : k = 0 ∨ k = 1 := by omega
 rcases this with rfl | rfl
 ·exact (cell_of_row _ _ 0 _ _ _ hbl).trans rfl
 ·exact (cell_of_row _ _ 1 _ _ _ hbl).trans rfl

theorem at_in {n : Int} (h0 : 0 ≤ n) (h1 : n ≤ 63) : atX n = n % 8 ∧ atY n = n / 8 ∧ inB n 0 63 = true := ⟨by unfold atX; simp [h0, h1], by unfold atY; simp [h0, h1], inB_of ⟨h0, h1⟩⟩
theorem at_out {n : Int} (h : ¬ (0 ≤ n ∧ n ≤ 63)) : atX n = 0 ∧ atY n = 0 ∧ inB n 0 63 = false := ⟨by unfold atX; simp [h], by unfold atY; simp [h], inB_not h⟩
theorem mkAtIn {n : Int} {w W : World} (h0 : 0 ≤ n) (h1 : n ≤ 63) (hb : Below w.heap.size w W) : CelB (atX n) (atY n) (inB n 0 63) w (.returned (.tuple #[.agg #[.int .i64 (n % 8), .int .i64 (n / 8)], .bool true])) W := by
 obtain ⟨a, b, c⟩ := at_in h0 h1
 rw [a, b, c]; exact ⟨rfl, hb⟩
theorem mkAtOut {n : Int} {w W : World} (h : ¬ (0 ≤ n ∧ n ≤ 63)) (hb : Below w.heap.size w W) : CelB (atX n) (atY n) (inB n 0 63) w (.returned (.tuple #[.agg #[.int .i64 0, .int .i64 0], .bool false])) W := by
 obtain ⟨a, b, c⟩ := at_out h
 rw [a, b, c]; exact ⟨rfl, hb⟩

set_option maxHeartbeats 400000 in
theorem sCellAt (n : Int) (w : World) :
  Calls Tryz.prog 71 #[.int .i64 n] w (CelB (atX n) (atY n) (inB n 0 63) w) := by
 have HB := Lib.hid (below_alloc1 w (.cells #[.int .i64 (n % 8), .int .i64 (n / 8)] 67))
 have HZ := Lib.hid (below_alloc1 w (.cells #[.int .i64 0, .int .i64 0] 67))
 by_cases h : 0 ≤ n ∧ n ≤ 63
 ·have HE := Lib.hid (inB_of h)
  obtain ⟨h0, h1⟩ := h
  have HP := fun W (hb : Below w.heap.size w W) => mkAtIn h0 h1 hb
  have HQ := Lib.hid HP
  clear HP
  go_enter Tryz.func71, Tryz.ntmps71
  go_wp2_with fail
  refine (l01In n 0 63 _).mono ?_
  rintro e w1 ⟨rfl, rfl⟩
  rw [HE.out]
  go_wp2
  refine bodyPost_ret (v := .tuple #[.agg #[.int .i64 (n % 8), .int .i64 (n / 8)], .bool true]) (by simp [results, Tryz.results71, go_sem]) rfl ?_
  exact HQ.out _ HB.out
 ·have HE := Lib.hid (inB_not h)
  have HP := fun W (hb : Below w.heap.size w W) => mkAtOut h hb
  have HQ := Lib.hid HP
  clear HP
  go_enter Tryz.func71, Tryz.ntmps71
  go_wp2_with fail
  refine (l01In n 0 63 _).mono ?_
  rintro e w1 ⟨rfl, rfl⟩
  rw [HE.out]
  go_wp2
  refine bodyPost_ret (v := .tuple #[.agg #[.int .i64 0, .int .i64 0], .bool false]) (by simp [results, Tryz.results71, go_sem]) rfl ?_
  exact HQ.out _ HZ.out

theorem drewBelow {B : Nat} {a w : World} (h : Below B a w) (n : Nat) : Below B a (w.drewN n) := ⟨h.os, h.tape, h.output, h.size, h.block⟩
set_option maxHeartbeats 400000 in
theorem moved (x y a b : Int) (w : World) :
  Calls Tryz.prog 128 #[.agg #[.int .i64 x, .int .i64 y], .int .i64 a, .int .i64 b] w (Cel (wrap64 (x + a)) (wrap64 (y + b)) w) := by
 go_enter Tryz.func128, Tryz.ntmps128
 go_wp2
 exact bodyPost_ret (v := .agg #[.int .i64 (wrap64 (x + a)), .int .i64 (wrap64 (y + b))]) (by simp [results, Tryz.results128, go_sem]) rfl (mkCel rfl rfl (below_alloc2 _ _ _))
end Go.Proofs.YtmenmepdmojnfaaGreatDoor.Cell

namespace Go.Proofs.YtmenmepdmojnfaaGreatDoor.CellF
set_option linter.unusedVariables false
open Go.RowKit Go.Proofs.YtmenmepdmojnfaaGreatDoor.Cell Go.Joins

set_option maxHeartbeats 400000 in
theorem iCellIndex (x y : Int) (w : World) :
  Calls Tryz.prog 130 #[.agg #[.int .i64 x, .int .i64 y]] w (Num (indexN x y) w) := by
 have H : ∀ (b : Int) (W : World), b = indexN x y → Below w.heap.size w W → Num (indexN x y) w (.returned (.int .i64 b)) W := fun b W h hb => mkNum h hb
 have HH := Lib.hid H
 clear H
 go_enter Tryz.func130, Tryz.ntmps130
 go_wp2_with fail
 refine (isValid x y _).mono ?_
 rintro e w1 ⟨rfl, hb1⟩
 have hb := box x y w w1 hb1
 by_cases hok : Ok x y
 ·have h0 := boxed x y w w1 hb1 0 (by omega)
  have h1 := boxed x y w w1 hb1 1 (by omega)
  have hix : indexN x y = y * 8 + x := by unfold indexN; simp [hok]
  have HI := Lib.hid hix
  clear hix
  rw [okB_of hok]
  obtain ⟨x0, x7, y0, y7⟩ := hok
  go_wp2
  go_ret
  refine HH.out _ _ ?_ hb
  rw [HI.out]
 ·have hix : indexN x y = -1 := by unfold indexN; simp [hok]
  have HI := Lib.hid hix
  clear hix
  rw [okB_not hok]
  go_wp2
  go_ret
  refine HH.out _ _ ?_ hb
  rw [HI.out]

set_option maxHeartbeats 400000 in
theorem sCellIndex (x y : Int) (w : World) :
  Calls Tryz.prog 103 #[.agg #[.int .i64 x, .int .i64 y]] w (Num (indexN x y) w) := by
 have H : ∀ (b : Int) (W : World), b = indexN x y → Below w.heap.size w W → Num (indexN x y) w (.returned (.int .i64 b)) W := fun b W h hb => mkNum h hb
 have HH := Lib.hid H
 clear H
 go_enter Tryz.func103, Tryz.ntmps103
 go_wp2_with fail
 refine (sCellOk x y _).mono ?_
 rintro e w1 ⟨rfl, hb1⟩
 have hb := box x y w w1 hb1
 by_cases hok : Ok x y
 ·have h0 := boxed x y w w1 hb1 0 (by omega)
  have h1 := boxed x y w w1 hb1 1 (by omega)
  have hix : indexN x y = y * 8 + x := by unfold indexN; simp [hok]
  have HI := Lib.hid hix
  clear hix
  rw [okB_of hok]
  obtain ⟨x0, x7, y0, y7⟩ := hok
  go_wp2
  go_ret
  refine HH.out _ _ ?_ hb
  rw [HI.out]
 ·have hix : indexN x y = -1 := by unfold indexN; simp [hok]
  have HI := Lib.hid hix
  clear hix
  rw [okB_not hok]
  go_wp2
  go_ret
  refine HH.out _ _ ?_ hb
  rw [HI.out]


set_option maxHeartbeats 400000 in
theorem iCellAt (n : Int) (w : World) :
  Calls Tryz.prog 105 #[.int .i64 n] w (CelB (atX n) (atY n) (inB n 0 63) w) := by
 by_cases h0 : 0 ≤ n
 ·by_cases h1 : n ≤ 63
  ·go_enter Tryz.func105, Tryz.ntmps105
   go_wp2
   exact bodyPost_ret (v := .tuple #[.agg #[.int .i64 (n % 8), .int .i64 (n / 8)], .bool true]) (by simp [results, Tryz.results105, go_sem]) rfl (mkAtIn h0 h1 (below_alloc1 _ _))
  ·go_enter Tryz.func105, Tryz.ntmps105
   go_wp2
   exact bodyPost_ret (v := .tuple #[.agg #[.int .i64 0, .int .i64 0], .bool false]) (by simp [results, Tryz.results105, go_sem]) rfl (mkAtOut (by omega) (below_alloc1 _ _))
 ·go_enter Tryz.func105, Tryz.ntmps105
  go_wp2
  exact bodyPost_ret (v := .tuple #[.agg #[.int .i64 0, .int .i64 0], .bool false]) (by simp [results, Tryz.results105, go_sem]) rfl (mkAtOut (by omega) (below_alloc1 _ _))

theorem sq_nn (p : Int) : 0 ≤ p * p := by
 by_cases k : 0 ≤ p
 ·exact Int.mul_nonneg k k
 ·have := Int.mul_nonneg (a := -p) (b := -p) (by omega) (by omega)
  rw [Int.neg_mul_neg] at this; exact this
theorem sq_small {p : Int} (h : p * p ≤ 1) : -1 ≤ p ∧ p ≤ 1 := by
 by_cases k : 2 ≤ p
 ·have : 2 * 2 ≤ p * p := Int.mul_le_mul k k (by omega) (by omega)
  omega
 ·by_cases k' : 2 ≤ -p
  ·have : 2 * 2 ≤ -p * -p := Int.mul_le_mul k' k' (by omega) (by omega)
   rw [Int.neg_mul_neg] at this
   omega
  ·omega
theorem sq_one {a b c d : Int} (h : (a - b) * (a - b) + (c - d) * (c - d) = 1) : (a = b ∧ (c = d + 1 ∨ d = c + 1)) ∨ (c = d ∧ (a = b + 1 ∨ b = a + 1)) := by
 have key : ∀ p q : Int, p * p + q * q = 1 → (p = 0 ∧ (q = 1 ∨ q = -1)) ∨ (q = 0 ∧ (p = 1 ∨ p = -1)) := by
  intro p q h
  have n1 := sq_nn p
  have n2 := sq_nn q
  have hp := sq_small (p := p) (by omega)
  have hq := sq_small (p := q) (by omega)
  have hp' : p = -1 ∨ p = 0 ∨ p = 1 := by omega
  have hq' : q = -1 ∨ q = 0 ∨ q = 1 := by omega
  rcases hp' with rfl | rfl | rfl <;> rcases hq' with rfl | rfl | rfl <;> simp at h ⊢
 have := key _ _ h
 omega
theorem sq_le {p : Int} (h : -7 ≤ p) (h' : p ≤ 7) : 0 ≤ p * p ∧ p * p ≤ 49 := by
 by_cases k : 0 ≤ p
 ·exact ⟨Int.mul_nonneg k k, Int.mul_le_mul h' h' k (by omega)⟩
 ·have := Int.mul_nonneg (a := -p) (b := -p) (by omega) (by omega)
  have h2 : -p * -p ≤ 7 * 7 := Int.mul_le_mul (by omega) (by omega) (by omega) (by omega)
  rw [Int.neg_mul_neg] at *
  exact ⟨this, h2⟩

theorem boxes (x y u v : Int) (w w1 : World) (h : Below ((w.alloc (.cells #[.int .i64 x, .int .i64 y] 67)).alloc (.cells #[.int .i64 u, .int .i64 v] 67)).heap.size ((w.alloc (.cells #[.int .i64 x, .int .i64 y] 67)).alloc (.cells #[.int .i64 u, .int .i64 v] 67)) w1) :
  Below w.heap.size w w1 ∧ w1.cell? ⟨w.heap.size, 0, none⟩ = some (.int .i64 x) ∧ w1.cell? ⟨w.heap.size, 1, none⟩ = some (.int .i64 y) ∧ w1.cell? ⟨w.heap.size + 1, 0, none⟩ = some (.int .i64 u) ∧ w1.cell? ⟨w.heap.size + 1, 1, none⟩ = some (.int .i64 v) := by
 have e1 : ((w.alloc (.cells #[.int .i64 x, .int .i64 y] 67)).alloc (.cells #[.int .i64 u, .int .i64 v] 67)).heap[w.heap.size]? = some (.cells #[.int .i64 x, .int .i64 y] 67) := by
  show ((w.heap.push _).push _)[w.heap.size]? = _
  rw [Array.getElem?_push_lt (by simp)]
  simp
 have e2 : ((w.alloc (.cells #[.int .i64 x, .int .i64 y] 67)).alloc (.cells #[.int .i64 u, .int .i64 v] 67)).heap[w.heap.size + 1]? = some (.cells #[.int .i64 u, .int .i64 v] 67) := by
  show ((w.heap.push _).push _)[w.heap.size + 1]? = _
  have : w.heap.size + 1 = (w.heap.push (.cells #[.int .i64 x, .int .i64 y] 67)).size := by simp
  rw [this]
  exact Array.getElem?_push_size
 refine ⟨(below_alloc2 w _ _).trans (h.mono (by simp; omega)), ?_, ?_, ?_, ?_⟩
 ·rw [h.cell (by simp; omega)]; exact (cell_of_row _ _ 0 _ _ _ e1).trans rfl
 ·rw [h.cell (by simp; omega)]; exact (cell_of_row _ _ 1 _ _ _ e1).trans rfl
 ·rw [h.cell (by simp)]; exact (cell_of_row _ _ 0 _ _ _ e2).trans rfl
 ·rw [h.cell (by simp)]; exact (cell_of_row _ _ 1 _ _ _ e2).trans rfl
end Go.Proofs.YtmenmepdmojnfaaGreatDoor.CellF

namespace Go.Proofs.YtmenmepdmojnfaaGreatDoor.CellN
set_option linter.unusedVariables false
open Go.RowKit Go.Proofs.YtmenmepdmojnfaaGreatDoor.Cell Go.Proofs.YtmenmepdmojnfaaGreatDoor.CellF Go.Joins

theorem sAreNeighbors_sq {x y u v : Int} : ((x - u) * (x - u) + (y - v) * (y - v) = 1) ↔ ((x = u ∧ (y = v + 1 ∨ v = y + 1)) ∨ (y = v ∧ (x = u + 1 ∨ u = x + 1))) := by
 constructor
 ·intro h
  exact sq_one h
 ·have key : ∀ p q : Int, (p = 0 ∧ (q = 1 ∨ q = -1)) ∨ (q = 0 ∧ (p = 1 ∨ p = -1)) → p * p + q * q = 1 := by
   rintro p q (⟨rfl, rfl | rfl⟩ | ⟨rfl, rfl | rfl⟩) <;> rfl
  intro h
  exact key _ _ (by omega)

set_option maxHeartbeats 1000000 in
theorem sAreNeighbors (x y u v : Int) (w : World) :
  Calls Tryz.prog 134 #[.agg #[.int .i64 x, .int .i64 y], .agg #[.int .i64 u, .int .i64 v]] w (Bol (nbB x y u v) w) := by
 have H : ∀ (b : Bool) (W : World), (b = true ↔ Ok x y ∧ Ok u v ∧ ((x = u ∧ (y = v + 1 ∨ v = y + 1)) ∨ (y = v ∧ (x = u + 1 ∨ u = x + 1)))) → Below w.heap.size w W → Bol (nbB x y u v) w (.returned (.bool b)) W := fun b W h hb => mkBol (by rw [Bool.eq_iff_iff, nbB_iff]; exact h) hb
 have HH := Lib.hid H
 clear H
 go_enter Tryz.func134, Tryz.ntmps134
 go_wp2_with fail
 refine (sCellOk x y _).mono ?_
 rintro e w1 ⟨rfl, hb1⟩
 obtain ⟨hb, hc0, hc1, hc2, hc3⟩ := boxes x y u v w w1 hb1
 by_cases hok : Ok x y
 ·rw [okB_of hok]
  have HO := Lib.hid hok
  clear hok
  have hz : w.heap.size + 2 ≤ w1.heap.size := by have := hb1.size; simp at this; omega
  clear hb1
  go_wp2_with fail
  refine (sCellOk u v _).mono ?_
  rintro e w2 ⟨rfl, hb2⟩
  have hb' := hb.trans (hb2.mono hb.size)
  rw [← hb2.cell (by show w.heap.size < _; omega)] at hc0 hc1
  rw [← hb2.cell (by show w.heap.size + 1 < _; omega)] at hc2 hc3
  clear hb hb2
  by_cases hok2 : Ok u v
  ·rw [okB_of hok2]
   have HO2 := Lib.hid hok2
   obtain ⟨x0, x7, y0, y7⟩ := HO.out
   obtain ⟨u0, u7, v0, v7⟩ := hok2
   have s1 := sq_le (p := (x - u)) (by omega) (by omega)
   have s2 := sq_le (p := (y - v)) (by omega) (by omega)
   obtain ⟨s10, s11⟩ := s1
   obtain ⟨s20, s21⟩ := s2
   go_wp2
   go_ret
   refine HH.out _ _ ?_ hb'
   simp only [HO.out, HO2.out, true_and, beq_iff_eq]
   exact sAreNeighbors_sq
  ·rw [okB_not hok2]
   go_wp2
   go_ret
   refine HH.out _ _ ?_ hb'
   simp [hok2]
 ·rw [okB_not hok]
  go_wp2
  go_ret
  refine HH.out _ _ ?_ hb
  simp [hok]

end Go.Proofs.YtmenmepdmojnfaaGreatDoor.CellN
