/- SetP, Pure, CntP, CntW in one text. -/
import Derived.Laws.BitsAllLaws
import Derived.Lib.TrailingZeros
import Derived.WalkKit
import Derived.Laws.BytesArg

namespace Go.Proofs.YtmenmepdmojnfaaGreatDoor.Sets
set_option linter.unusedVariables false
set_option linter.unusedSimpArgs false
def bt (x : Nat) : Nat → Bool := fun i => x.testBit i
theorem top_is : 18446744073709551616 = 2 ^ 64 := by decide
theorem bt_out {x : Nat} (h : x < 18446744073709551616) : ∀ i, 64 ≤ i → bt x i = false := fun i hi => by
 refine Nat.testBit_lt_two_pow (Nat.lt_of_lt_of_le h ?_)
 rw [top_is]; exact Nat.pow_le_pow_right (by decide) hi
theorem bt_zero (i : Nat) : bt 0 i = false := by unfold bt; exact Nat.zero_testBit i
theorem bt_ext {x y : Nat} (h : bt x = bt y) : x = y := Nat.eq_of_testBit_eq (fun i => congrFun h i)
theorem one_lt {k : Nat} (h : k < 64) : 2 ^ k < 18446744073709551616 := by rw [top_is]; exact Nat.pow_lt_pow_right (by decide) h
theorem or_lt {x y : Nat} (hx : x < 18446744073709551616) (hy : y < 18446744073709551616) : x ||| y < 18446744073709551616 := by rw [top_is] at *; exact Nat.or_lt_two_pow hx hy
theorem bt_or (x y i : Nat) : bt (x ||| y) i = (bt x i || bt y i) := Nat.testBit_or x y i
theorem bt_one (k i : Nat) : bt (2 ^ k) i = decide (k = i) := Nat.testBit_two_pow
theorem bt_and (x y i : Nat) : bt (x &&& y) i = (bt x i && bt y i) := Nat.testBit_and x y i
theorem bt_not {y : Nat} (hy : y < 18446744073709551616) (i : Nat) : bt (18446744073709551615 - y) i = (decide (i < 64) && !bt y i) := by
 have := Nat.testBit_two_pow_sub_succ (n := 64) (x := y) (by rw [← top_is]; exact hy) i
 rw [← top_is, show 18446744073709551616 - (y + 1) = 18446744073709551615 - y by omega] at this
 exact this
theorem bt_minus {x y : Nat} (hx : x < 18446744073709551616) (hy : y < 18446744073709551616) (i : Nat) : bt (x &&& (18446744073709551615 - y)) i = (bt x i && !bt y i) := by
 rw [bt_and, bt_not hy]
 by_cases h : i < 64
 ·simp [h]
 ·rw [bt_out hx i (by omega)]; rfl
theorem minus_lt {x y : Nat} (hx : x < 18446744073709551616) : x &&& y < 18446744073709551616 := Nat.lt_of_le_of_lt Nat.and_le_left hx
def setN (l : List Nat) : Nat := l.foldl (fun s k => s ||| 2 ^ k) 0
theorem fold_bt : ∀ (l : List Nat) (s i : Nat), bt (l.foldl (fun s k => s ||| 2 ^ k) s) i = (bt s i || decide (i ∈ l))
 | [], s, i => by simp
 | k :: r, s, i => by
  rw [List.foldl_cons, fold_bt r, bt_or, bt_one]
  by_cases h : k = i
  ·subst h; simp
  ·have : ¬ i = k := fun e => h e.symm
   simp [h, this]
theorem bt_set (l : List Nat) (i : Nat) : bt (setN l) i = decide (i ∈ l) := by unfold setN; rw [fold_bt, bt_zero]; rfl
theorem fold_lt : ∀ (l : List Nat) (s : Nat), (∀ k ∈ l, k < 64) → s < 18446744073709551616 → l.foldl (fun s k => s ||| 2 ^ k) s < 18446744073709551616
 | [], s, _, h => h
 | k :: r, s, hl, h => fold_lt r _ (fun j hj => hl j (List.mem_cons_of_mem _ hj)) (or_lt h (one_lt (hl k (List.mem_cons_self ..))))
theorem set_lt {l : List Nat} (h : ∀ k ∈ l, k < 64) : setN l < 18446744073709551616 := fold_lt l 0 h (by decide)
theorem set_snoc (l : List Nat) (k : Nat) : setN (l ++ [k]) = setN l ||| 2 ^ k := by unfold setN; rw [List.foldl_append]; rfl
theorem set_take {l : List Nat} {j : Nat} (h : j < l.length) : setN (l.take (j + 1)) = setN (l.take j) ||| 2 ^ l[j] := by
 rw [List.take_add_one, List.getElem?_eq_getElem h, Option.toList_some, set_snoc]
theorem ctz_is {x : Nat} (h0 : x ≠ 0) (h : x < 18446744073709551616) : Go.Lib.ctz 64 x < 64 ∧ bt x (Go.Lib.ctz 64 x) = true ∧ ∀ i, i < Go.Lib.ctz 64 x → bt x i = false := by
 obtain ⟨m, hm, hk⟩ := Go.Lib.ctzFrom_spec 64 x (by omega) (by rw [← top_is]; exact h)
 have e : Go.Lib.ctz 64 x = Go.Lib.ctzFrom 64 x := by unfold Go.Lib.ctz; rw [if_neg h0]
 rw [← e] at hm hk
 generalize Go.Lib.ctz 64 x = k at hm hk
 refine ⟨hk, ?_, fun i hi => ?_⟩
 ·unfold bt
  rw [hm, Nat.mul_comm, Nat.testBit_mul_two_pow]
  simp [Nat.testBit_zero]
 ·unfold bt
  rw [hm, Nat.mul_comm, Nat.testBit_mul_two_pow]
  simp; omega
theorem meets {x k : Nat} : (x &&& 2 ^ k ≠ 0) ↔ bt x k = true := by
 constructor
 ·intro h
  by_cases q : bt x k = true
  ·exact q
  ·exfalso; apply h
   apply bt_ext
   funext i
   rw [bt_and, bt_one, bt_zero]
   by_cases e : k = i
   ·subst e; simp at q; rw [q]; rfl
   ·simp [e]
 ·intro h e
  have := congrArg (fun y => bt y k) e
  simp only [bt_and, bt_one, bt_zero, h] at this
  simp at this
end Go.Proofs.YtmenmepdmojnfaaGreatDoor.Sets

namespace Go.Proofs.YtmenmepdmojnfaaGreatDoor.Pure
open Go.RowKit

def okR (xs : List Int) : Prop := xs.length ≤ 8 ∧ ∀ x ∈ xs, 0 ≤ x ∧ x ≤ 255
instance (xs : List Int) : Decidable (okR xs) := inferInstanceAs (Decidable (_ ∧ _))
def okRB (xs : List Int) : Bool := decide (okR xs)
theorem okRB_of {xs : List Int} (h : okR xs) : okRB xs = true := decide_eq_true h
theorem okRB_not {xs : List Int} (h : ¬ okR xs) : okRB xs = false := decide_eq_false h
def bitB (r : Int) (k : Nat) : Bool := decide (r / 2 ^ k % 2 = 1)
theorem bitB_zero (k : Nat) : bitB 0 k = false := by unfold bitB; simp
def rowD (xs : List Int) (y : Nat) : Int := xs.getD y 0
theorem rowD_at {xs : List Int} {y : Nat} {r : Int} (h : xs[y]? = some r) : rowD xs y = r := by unfold rowD; simp [List.getD, h]
theorem rowD_out {xs : List Int} {y : Nat} (h : xs.length ≤ y) : rowD xs y = 0 := by unfold rowD; simp [List.getD, List.getElem?_eq_none h]
theorem rowD_ok {xs : List Int} (h : okR xs) (y : Nat) : 0 ≤ rowD xs y ∧ rowD xs y ≤ 255 := by
 by_cases hy : y < xs.length
 ·have e : rowD xs y = xs[y] := rowD_at (List.getElem?_eq_getElem hy)
  rw [e]; exact h.2 _ (List.getElem_mem hy)
 ·rw [rowD_out (by omega)]; omega
def cellsTo (xs : List Int) (k : Nat) : List (Int × Int) := ((List.range k).filter fun j => bitB (rowD xs (j / 8)) (j % 8)).map fun j => (((j % 8 : Nat) : Int), ((j / 8 : Nat) : Int))
theorem cellsTo_yes {xs : List Int} {k : Nat} (h : bitB (rowD xs (k / 8)) (k % 8) = true) : cellsTo xs (k + 1) = cellsTo xs k ++ [(((k % 8 : Nat) : Int), ((k / 8 : Nat) : Int))] := by
 unfold cellsTo; rw [List.range_succ, List.filter_append, List.map_append]; simp [h]
theorem cellsTo_no {xs : List Int} {k : Nat} (h : bitB (rowD xs (k / 8)) (k % 8) = false) : cellsTo xs (k + 1) = cellsTo xs k := by
 unfold cellsTo; rw [List.range_succ, List.filter_append, List.map_append]; simp [h]
theorem cellsTo_length (xs : List Int) (k : Nat) : (cellsTo xs k).length ≤ k := by
 unfold cellsTo; rw [List.length_map]; exact Nat.le_trans (List.length_filter_le _ _) (by simp)
theorem cellsTo_out {xs : List Int} {k : Nat} (h : xs.length * 8 ≤ k) (m : Nat) : cellsTo xs (k + m) = cellsTo xs k := by
 induction m with
 | zero => rfl
 | succ m ih =>
  rw [← Nat.add_assoc, cellsTo_no, ih]
  rw [rowD_out (by omega)]; exact bitB_zero _
def cellsR (xs : List Int) : List (Int × Int) := if okR xs then cellsTo xs 64 else []
theorem cellsR_ok {xs : List Int} (h : okR xs) : cellsR xs = cellsTo xs 64 := by unfold cellsR; simp [h]
theorem cellsR_ok' {xs : List Int} (h : okR xs) : cellsR xs = cellsTo xs (xs.length * 8) := by
 rw [cellsR_ok h]
 have := h.1
 have e := cellsTo_out (xs := xs) (k := xs.length * 8) (Nat.le_refl _) (64 - xs.length * 8)
 rw [show xs.length * 8 + (64 - xs.length * 8) = 64 by omega] at e
 exact e
theorem cellsR_not {xs : List Int} (h : ¬ okR xs) : cellsR xs = [] := by unfold cellsR; simp [h]
theorem cellsR_length (xs : List Int) : (cellsR xs).length ≤ 64 := by
 unfold cellsR; split
 ·exact cellsTo_length _ _
 ·simp
def hasB (xs : List Int) (x y : Int) : Bool := decide (okR xs ∧ 0 ≤ x ∧ x ≤ 7 ∧ 0 ≤ y ∧ y ≤ 7 ∧ bitB (rowD xs y.toNat) x.toNat = true)
theorem hasB_iff {xs : List Int} {x y : Int} : hasB xs x y = true ↔ okR xs ∧ 0 ≤ x ∧ x ≤ 7 ∧ 0 ≤ y ∧ y ≤ 7 ∧ bitB (rowD xs y.toNat) x.toNat = true := by unfold hasB; simp
def rectR (w h : Int) : List Int := if 1 ≤ w ∧ w ≤ 8 ∧ 1 ≤ h ∧ h ≤ 8 then List.replicate h.toNat (2 ^ w.toNat - 1) else []
theorem rectR_in {w h : Int} (k : 1 ≤ w ∧ w ≤ 8 ∧ 1 ≤ h ∧ h ≤ 8) : rectR w h = List.replicate h.toNat (2 ^ w.toNat - 1) := by unfold rectR; simp [k]
theorem rectR_out {w h : Int} (k : ¬ (1 ≤ w ∧ w ≤ 8 ∧ 1 ≤ h ∧ h ≤ 8)) : rectR w h = [] := by unfold rectR; rw [if_neg k]
def putB (r : Int) (k : Nat) (on : Bool) : Int := if bitB r k = on then r else if on then r + 2 ^ k else r - 2 ^ k
def pad8 (xs : List Int) : List Int := xs ++ List.replicate (8 - xs.length) 0
theorem pad8_length {xs : List Int} (h : xs.length ≤ 8) : (pad8 xs).length = 8 := by unfold pad8; simp; omega
theorem rowD_pad8 (xs : List Int) (y : Nat) : rowD (pad8 xs) y = rowD xs y := by
 unfold rowD pad8
 simp only [List.getD]
 by_cases h : y < xs.length
 ·rw [List.getElem?_append_left h]
 ·rw [List.getElem?_append_right (by omega), List.getElem?_eq_none (l := xs) (by omega)]
  by_cases h2 : y - xs.length < 8 - xs.length
  ·rw [List.getElem?_replicate]; simp [h2]
  ·rw [List.getElem?_eq_none (by simp; omega)]
def withR (xs : List Int) (x y : Nat) (on : Bool) : List Int := (pad8 xs).set y (putB (rowD xs y) x on)
theorem rowD_with {xs : List Int} (h : xs.length ≤ 8) (x : Nat) {y : Nat} (hy : y < 8) (on : Bool) (z : Nat) : rowD (withR xs x y on) z = if z = y then putB (rowD xs y) x on else rowD xs z := by
 have hl := pad8_length h
 by_cases e : z = y
 ·subst e
  rw [if_pos rfl]
  unfold withR
  refine rowD_at ?_
  rw [List.getElem?_set_self (by omega)]
 ·rw [if_neg e, ← rowD_pad8 xs z]
  unfold withR rowD
  simp only [List.getD]
  rw [List.getElem?_set_ne (by omega)]
theorem and_table : ∀ r : Fin 256, ∀ k : Fin 8, (bits .and .i64 ((r.val : Nat) : Int) ((2 ^ k.val : Nat) : Int) = if bitB ((r.val : Nat) : Int) k.val then ((2 ^ k.val : Nat) : Int) else 0) ∧
  (bits .and .i64 (((r.val : Nat) : Int) / 2 ^ k.val) 1 = if bitB ((r.val : Nat) : Int) k.val then 1 else 0) ∧ (bits .or .i64 ((r.val : Nat) : Int) ((2 ^ k.val : Nat) : Int) = putB ((r.val : Nat) : Int) k.val true) ∧
  (bits .andNot .i64 ((r.val : Nat) : Int) ((2 ^ k.val : Nat) : Int) = putB ((r.val : Nat) : Int) k.val false) ∧ (putB ((r.val : Nat) : Int) k.val true - 2 ^ k.val = putB ((r.val : Nat) : Int) k.val false) ∧
  0 ≤ putB ((r.val : Nat) : Int) k.val true ∧ putB ((r.val : Nat) : Int) k.val true ≤ 255 ∧ 0 ≤ putB ((r.val : Nat) : Int) k.val false ∧ putB ((r.val : Nat) : Int) k.val false ≤ 255 ∧
  (putB (putB ((r.val : Nat) : Int) k.val true) k.val false = ((r.val : Nat) : Int) ↔ bitB ((r.val : Nat) : Int) k.val = false) := by decide +kernel
theorem table {r : Int} (h0 : 0 ≤ r) (h1 : r ≤ 255) {k : Nat} (hk : k < 8) : (bits .and .i64 r (2 ^ k) = if bitB r k then (2 : Int) ^ k else 0) ∧
  (bits .and .i64 (r / 2 ^ k) 1 = if bitB r k then 1 else 0) ∧ (bits .or .i64 r (2 ^ k) = putB r k true) ∧
  (bits .andNot .i64 r (2 ^ k) = putB r k false) ∧ (putB r k true - 2 ^ k = putB r k false) ∧
  0 ≤ putB r k true ∧ putB r k true ≤ 255 ∧ 0 ≤ putB r k false ∧ putB r k false ≤ 255 ∧ (putB (putB r k true) k false = r ↔ bitB r k = false) := by
 have h := and_table ⟨r.toNat, by omega⟩ ⟨k, hk⟩
 have e : ((r.toNat : Nat) : Int) = r := Int.toNat_of_nonneg h0
 have e2 : ((2 ^ k : Nat) : Int) = 2 ^ k := by simp
 simp only [e, e2] at h
 exact h
theorem and_no {r : Int} (h0 : 0 ≤ r) (h1 : r ≤ 255) {k : Nat} (hk : k < 8) (hb : bitB r k = false) : bits .and .i64 r (2 ^ k) = 0 := by rw [(table h0 h1 hk).1, hb]; rfl
theorem and_yes {r : Int} (h0 : 0 ≤ r) (h1 : r ≤ 255) {k : Nat} (hk : k < 8) (hb : bitB r k = true) : bits .and .i64 r (2 ^ k) = 2 ^ k := by rw [(table h0 h1 hk).1, hb]; rfl
theorem shr_no {r : Int} (h0 : 0 ≤ r) (h1 : r ≤ 255) {k : Nat} (hk : k < 8) (hb : bitB r k = false) : bits .and .i64 (r / 2 ^ k) 1 = 0 := by rw [(table h0 h1 hk).2.1, hb]; rfl
theorem shr_yes {r : Int} (h0 : 0 ≤ r) (h1 : r ≤ 255) {k : Nat} (hk : k < 8) (hb : bitB r k = true) : bits .and .i64 (r / 2 ^ k) 1 = 1 := by rw [(table h0 h1 hk).2.1, hb]; rfl
end Go.Proofs.YtmenmepdmojnfaaGreatDoor.Pure

namespace Go.Proofs.YtmenmepdmojnfaaGreatDoor.Cnt
set_option linter.unusedVariables false
set_option linter.unusedSimpArgs false

def sm : Nat → (Nat → Nat) → Nat
 | 0, _ => 0
 | n + 1, f => sm n f + f n
theorem sm_congr {n : Nat} {f h : Nat → Nat} (e : ∀ i, i < n → f i = h i) : sm n f = sm n h := by
 induction n with
 | zero => rfl
 | succ n ih => unfold sm; rw [ih (fun i hi => e i (by omega)), e n (by omega)]
theorem sm_zero {n : Nat} {f : Nat → Nat} (e : ∀ i, i < n → f i = 0) : sm n f = 0 := by
 induction n with
 | zero => rfl
 | succ n ih => unfold sm; rw [ih (fun i hi => e i (by omega)), e n (by omega)]
theorem sm_add {n : Nat} {f h : Nat → Nat} : sm n (fun i => f i + h i) = sm n f + sm n h := by
 induction n with
 | zero => rfl
 | succ n ih =>
  show sm n (fun i => f i + h i) + (f n + h n) = (sm n f + f n) + (sm n h + h n)
  rw [ih]; omega
theorem sm_one {n c : Nat} (hc : c < n) {f : Nat → Nat} (h : ∀ i, i < n → i ≠ c → f i = 0) : sm n f = f c := by
 induction n with
 | zero => omega
 | succ n ih =>
  unfold sm
  by_cases e : c = n
  ·subst e; rw [sm_zero (fun i hi => h i (by omega) (by omega))]; omega
  ·rw [ih (by omega) (fun i hi hne => h i (by omega) hne), h n (by omega) (by omega)]; omega
def adj (a b : Nat) : Bool := decide ((b = a + 1 ∧ a % 8 ≠ 7) ∨ b = a + 8 ∨ (a = b + 1 ∧ b % 8 ≠ 7) ∨ a = b + 8)
theorem adj_iff {a b : Nat} : adj a b = true ↔ ((b = a + 1 ∧ a % 8 ≠ 7) ∨ b = a + 8 ∨ (a = b + 1 ∧ b % 8 ≠ 7) ∨ a = b + 8) := by unfold adj; simp
def rem (g : Nat → Bool) (a b : Nat) : Nat → Bool := fun i => g i && decide (i ≠ a) && decide (i ≠ b)
theorem rem_iff {g : Nat → Bool} {a b i : Nat} : rem g a b i = true ↔ g i = true ∧ i ≠ a ∧ i ≠ b := by unfold rem; simp [and_assoc]
def T : Nat → Nat → (Nat → Bool) → Nat
 | 0, _, _ => 1
 | n + 1, k, g => if g k = true then sm 64 (fun e => if adj k e = true ∧ g e = true then T n (k + 1) (rem g k e) else 0) else T n (k + 1) g
theorem T_no {n k : Nat} {g : Nat → Bool} (h : g k = false) : T (n + 1) k g = T n (k + 1) g := by
 show (if g k = true then _ else _) = _
 rw [if_neg (by rw [h]; simp)]
theorem T_yes {n k : Nat} {g : Nat → Bool} (h : g k = true) : T (n + 1) k g = sm 64 (fun e => if adj k e = true ∧ g e = true then T n (k + 1) (rem g k e) else 0) := by
 show (if g k = true then _ else _) = _
 rw [if_pos h]
def tiles (g : Nat → Bool) : Nat := T 64 0 g
theorem sm_four {c : Nat} (hc : c < 64) (f : Nat → Nat) : sm 64 (fun b => if adj c b = true then f b else 0)
  = (if c % 8 ≠ 7 then f (c + 1) else 0) + (if c + 8 < 64 then f (c + 8) else 0) + (if c % 8 ≠ 0 then f (c - 1) else 0) + (if 8 ≤ c then f (c - 8) else 0) := by
 have e : ∀ b, b < 64 → (if adj c b = true then f b else 0) = ((if b = c + 1 ∧ c % 8 ≠ 7 then f b else 0) + (if b = c + 8 then f b else 0)) + ((if c = b + 1 ∧ b % 8 ≠ 7 then f b else 0) + (if c = b + 8 then f b else 0)) := by
  intro b hb
  by_cases h1 : b = c + 1 ∧ c % 8 ≠ 7
  ·rw [if_pos h1, if_pos (adj_iff.2 (Or.inl h1)), if_neg (by omega), if_neg (by omega), if_neg (by omega)]; omega
  ·by_cases h2 : b = c + 8
   ·rw [if_neg h1, if_pos h2, if_pos (adj_iff.2 (Or.inr (Or.inl h2))), if_neg (by omega), if_neg (by omega)]; omega
   ·by_cases h3 : c = b + 1 ∧ b % 8 ≠ 7
    ·rw [if_neg h1, if_neg h2, if_pos h3, if_pos (adj_iff.2 (Or.inr (Or.inr (Or.inl h3)))), if_neg (by omega)]; omega
    ·by_cases h4 : c = b + 8
     ·rw [if_neg h1, if_neg h2, if_neg h3, if_pos h4, if_pos (adj_iff.2 (Or.inr (Or.inr (Or.inr h4))))]; omega
     ·rw [if_neg h1, if_neg h2, if_neg h3, if_neg h4, if_neg (by rw [adj_iff]; rintro (h | h | h | h) <;> contradiction)]
 rw [sm_congr e, sm_add, sm_add, sm_add]
 have a1 : sm 64 (fun b => if b = c + 1 ∧ c % 8 ≠ 7 then f b else 0) = if c % 8 ≠ 7 then f (c + 1) else 0 := by
  by_cases h : c % 8 ≠ 7
  ·rw [sm_one (c := c + 1) (by omega) (fun i _ hi => by rw [if_neg]; rintro ⟨h, _⟩; exact hi h), if_pos ⟨rfl, h⟩, if_pos h]
  ·rw [sm_zero (fun i _ => by rw [if_neg]; rintro ⟨_, q⟩; exact h q), if_neg h]
 have a2 : sm 64 (fun b => if b = c + 8 then f b else 0) = if c + 8 < 64 then f (c + 8) else 0 := by
  by_cases h : c + 8 < 64
  ·rw [sm_one (c := c + 8) h (fun i _ hi => by rw [if_neg]; exact hi), if_pos rfl, if_pos h]
  ·rw [sm_zero (fun i _ => by rw [if_neg]; omega), if_neg h]
 have a3 : sm 64 (fun b => if c = b + 1 ∧ b % 8 ≠ 7 then f b else 0) = if c % 8 ≠ 0 then f (c - 1) else 0 := by
  by_cases h : c % 8 ≠ 0
  ·rw [sm_one (c := c - 1) (by omega) (fun i _ hi => by rw [if_neg]; omega), if_pos (by omega), if_pos h]
  ·rw [sm_zero (fun i _ => by rw [if_neg]; omega), if_neg h]
 have a4 : sm 64 (fun b => if c = b + 8 then f b else 0) = if 8 ≤ c then f (c - 8) else 0 := by
  by_cases h : 8 ≤ c
  ·rw [sm_one (c := c - 8) (by omega) (fun i _ hi => by rw [if_neg]; omega), if_pos (by omega), if_pos h]
  ·rw [sm_zero (fun i _ => by rw [if_neg]; omega), if_neg h]
 rw [a1, a2, a3, a4]; omega

def cnt : Nat → Nat → (Nat → Bool) → Nat
 | 0, _, _ => 0
 | n + 1, k, g => (if g k = true then 1 else 0) + cnt n (k + 1) g
theorem cnt_congr : ∀ {n k : Nat} {g h : Nat → Bool}, (∀ i, k ≤ i → i < k + n → g i = h i) → cnt n k g = cnt n k h
 | 0, _, _, _, _ => rfl
 | n + 1, k, g, h, e => by
  show (if g k = true then 1 else 0) + cnt n (k + 1) g = (if h k = true then 1 else 0) + cnt n (k + 1) h
  rw [e k (by omega) (by omega), cnt_congr (n := n) (k := k + 1) (fun i h1 h2 => e i (by omega) (by omega))]
theorem cnt_rem : ∀ {n k a b : Nat} {g : Nat → Bool}, a < k → k ≤ b → b < k + n → g b = true → cnt n k (rem g a b) + 1 = cnt n k g
 | 0, k, a, b, g, _, h1, h2, _ => by omega
 | n + 1, k, a, b, g, ha, h1, h2, hb => by
  show (if rem g a b k = true then 1 else 0) + cnt n (k + 1) (rem g a b) + 1 = (if g k = true then 1 else 0) + cnt n (k + 1) g
  by_cases e : b = k
  ·subst e
   rw [if_neg (by rw [rem_iff]; rintro ⟨_, _, h⟩; exact h rfl), if_pos hb, cnt_congr (n := n) (k := b + 1) (g := rem g a b) (h := g) (fun i q _ => by
    rw [Bool.eq_iff_iff, rem_iff]; exact ⟨fun h => h.1, fun h => ⟨h, by omega, by omega⟩⟩)]
   omega
  ·have ih := cnt_rem (n := n) (k := k + 1) (a := a) (b := b) (g := g) (by omega) (by omega) (by omega) hb
   have : (rem g a b k = true) ↔ (g k = true) := by rw [rem_iff]; exact ⟨fun h => h.1, fun h => ⟨h, by omega, fun q => e q.symm⟩⟩
   by_cases q : g k = true
   ·rw [if_pos (this.2 q), if_pos q]; omega
   ·rw [if_neg (fun h => q (this.1 h)), if_neg q]; omega
def P : Nat → Nat → Nat → (Nat → Bool) → Nat
 | _, _, 0, _ => 1
 | 0, _, _ + 1, _ => 0
 | n + 1, k, m + 1, g => P n (k + 1) (m + 1) g + if g k = true then sm 64 (fun e => if adj k e = true ∧ g e = true ∧ k < e then P n (k + 1) m (rem g k e) else 0) else 0
end Go.Proofs.YtmenmepdmojnfaaGreatDoor.Cnt

namespace Go.Proofs.YtmenmepdmojnfaaGreatDoor.Cnt
set_option linter.unusedVariables false
set_option linter.unusedSimpArgs false

theorem bit_sub : ∀ s, s < 256 → ∀ x, x < 8 → s.testBit x = true → s - 2 ^ x < 256 ∧ ∀ i, i < 8 → (s - 2 ^ x).testBit i = (s.testBit i && decide (i ≠ x)) := by decide +kernel
theorem bit_add : ∀ s, s < 256 → ∀ x, x < 8 → s.testBit x = false → s + 2 ^ x < 256 ∧ ∀ i, i < 8 → (s + 2 ^ x).testBit i = (s.testBit i || decide (i = x)) := by decide +kernel
theorem bit_none : ∀ s, s < 256 → (∀ i, i < 8 → s.testBit i = false) → s = 0 := by decide +kernel
def W (g : Nat → Bool) : Nat → Nat → Nat → Nat
 | 0, _, s => if s = 0 then 1 else 0
 | n + 1, k, s => if g k = true then
   if s.testBit (k % 8) = true then W g n (k + 1) (s - 2 ^ (k % 8))
   else (if g (k + 8) = true then W g n (k + 1) (s + 2 ^ (k % 8)) else 0) + (if k % 8 ≠ 7 ∧ g (k + 1) = true ∧ s.testBit (k % 8 + 1) = false then W g n (k + 1) (s + 2 ^ (k % 8 + 1)) else 0)
  else if s.testBit (k % 8) = true then 0 else W g n (k + 1) s
theorem W_zero (g : Nat → Bool) (k s : Nat) : W g 0 k s = if s = 0 then 1 else 0 := rfl
theorem W_out {g : Nat → Bool} {n k s : Nat} (h : g k = false) (hs : s.testBit (k % 8) = true) : W g (n + 1) k s = 0 := by
 show (if g k = true then _ else _) = _
 rw [if_neg (by rw [h]; simp), if_pos hs]
theorem W_no {g : Nat → Bool} {n k s : Nat} (h : g k = false) (hs : s.testBit (k % 8) = false) : W g (n + 1) k s = W g n (k + 1) s := by
 show (if g k = true then _ else _) = _
 rw [if_neg (by rw [h]; simp), if_neg (by rw [hs]; simp)]
theorem W_cov {g : Nat → Bool} {n k s : Nat} (h : g k = true) (hs : s.testBit (k % 8) = true) : W g (n + 1) k s = W g n (k + 1) (s - 2 ^ (k % 8)) := by
 show (if g k = true then _ else _) = _
 rw [if_pos h, if_pos hs]
theorem W_two {g : Nat → Bool} {n k s : Nat} (h : g k = true) (hs : s.testBit (k % 8) = false) : W g (n + 1) k s = (if g (k + 8) = true then W g n (k + 1) (s + 2 ^ (k % 8)) else 0) + (if k % 8 ≠ 7 ∧ g (k + 1) = true ∧ s.testBit (k % 8 + 1) = false then W g n (k + 1) (s + 2 ^ (k % 8 + 1)) else 0) := by
 show (if g k = true then _ else _) = _
 rw [if_pos h, if_neg (by rw [hs]; simp)]
def G (g : Nat → Bool) (k s : Nat) : Nat → Bool := fun j => g j && decide (k ≤ j) && !(decide (j < k + 8) && s.testBit (j % 8))
theorem G_iff {g : Nat → Bool} {k s j : Nat} : G g k s j = true ↔ g j = true ∧ k ≤ j ∧ ¬ (j < k + 8 ∧ s.testBit (j % 8) = true) := by
 unfold G; simp only [Bool.and_eq_true, decide_eq_true_eq, Bool.not_eq_true', Bool.and_eq_false_iff, decide_eq_false_iff_not]
 constructor
 ·rintro ⟨⟨a, b⟩, c⟩; refine ⟨a, b, ?_⟩; rintro ⟨d, e⟩; rcases c with c | c
  ·exact c d
  ·rw [c] at e; cases e
 ·rintro ⟨a, b, c⟩; refine ⟨⟨a, b⟩, ?_⟩
  by_cases d : j < k + 8
  ·right; cases e : s.testBit (j % 8) with
   | false => rfl
   | true => exact absurd ⟨d, e⟩ c
  ·left; exact d
theorem G_eq {g h : Nat → Bool} (e : ∀ j, g j = true ↔ h j = true) : g = h := by funext j; rw [Bool.eq_iff_iff]; exact e j
theorem W_T {g : Nat → Bool} (hg : ∀ j, 64 ≤ j → g j = false) : ∀ (n k s : Nat), k + n = 64 → s < 256 → (∀ i, i < 8 → s.testBit ((k + i) % 8) = true → g (k + i) = true) → W g n k s = T n k (G g k s)
 | 0, k, s, hk, hs, hv => by
  have : s = 0 := bit_none s hs (fun i hi => by
   cases h : s.testBit i with
   | false => rfl
   | true =>
    have := hv i hi (by rw [show (k + i) % 8 = i by omega]; exact h)
    rw [hg (k + i) (by omega)] at this; cases this)
  rw [W_zero, if_pos this]; rfl
 | n + 1, k, s, hk, hs, hv => by
  have hx : k % 8 < 8 := Nat.mod_lt _ (by omega)
  by_cases hgk : g k = true
  ·cases hb : s.testBit (k % 8) with
   | true =>
    obtain ⟨b1, b2⟩ := bit_sub s hs _ hx hb
    rw [W_cov hgk hb, T_no (by rw [Bool.eq_false_iff, Ne, G_iff]; rintro ⟨_, _, h⟩; exact h ⟨by omega, hb⟩), W_T hg n (k + 1) _ (by omega) b1 ?_]
    ·congr 1
     refine G_eq (fun j => ?_)
     rw [G_iff, G_iff]
     have hj : j % 8 < 8 := Nat.mod_lt _ (by omega)
     rw [b2 _ hj]
     simp only [Bool.and_eq_true, decide_eq_true_eq]
     constructor
     ·rintro ⟨p1, p2, p3⟩; exact ⟨p1, by omega, fun q => p3 ⟨by omega, q.2, by omega⟩⟩
     ·rintro ⟨p1, p2, p3⟩
      have : j ≠ k := fun q => p3 ⟨by omega, by rw [q]; exact hb⟩
      exact ⟨p1, by omega, fun q => p3 ⟨by omega, q.2.1⟩⟩
    ·intro i hi q
     rw [b2 _ (Nat.mod_lt _ (by omega))] at q
     simp only [Bool.and_eq_true, decide_eq_true_eq] at q
     have := hv (i + 1) (by omega) (by rw [show k + (i + 1) = k + 1 + i by omega]; exact q.1)
     rw [show k + 1 + i = k + (i + 1) by omega]; exact this
   | false =>
    have hGk : G g k s k = true := by rw [G_iff]; exact ⟨hgk, by omega, fun q => by rw [hb] at q; cases q.2⟩
    rw [W_two hgk hb, T_yes hGk]
    have e : ∀ b, b < 64 → (if adj k b = true ∧ G g k s b = true then T n (k + 1) (rem (G g k s) k b) else 0) = (if adj k b = true then (if G g k s b = true then T n (k + 1) (rem (G g k s) k b) else 0) else 0) := by
     intro b _
     by_cases p : adj k b = true <;> by_cases q : G g k s b = true <;> simp [p, q]
    rw [sm_congr e, sm_four (by omega) (fun b => if G g k s b = true then T n (k + 1) (rem (G g k s) k b) else 0)]
    have z1 : (if k % 8 ≠ 0 then (if G g k s (k - 1) = true then T n (k + 1) (rem (G g k s) k (k - 1)) else 0) else 0) = 0 := by
     by_cases p : k % 8 ≠ 0
     ·rw [if_pos p, if_neg (by rw [G_iff]; omega)]
     ·rw [if_neg p]
    have z2 : (if 8 ≤ k then (if G g k s (k - 8) = true then T n (k + 1) (rem (G g k s) k (k - 8)) else 0) else 0) = 0 := by
     by_cases p : 8 ≤ k
     ·rw [if_pos p, if_neg (by rw [G_iff]; omega)]
     ·rw [if_neg p]
    rw [z1, z2]
    have d : (if g (k + 8) = true then W g n (k + 1) (s + 2 ^ (k % 8)) else 0) = (if k + 8 < 64 then (if G g k s (k + 8) = true then T n (k + 1) (rem (G g k s) k (k + 8)) else 0) else 0) := by
     by_cases p : g (k + 8) = true
     ·have h64 : k + 8 < 64 := by
       by_cases q : k + 8 < 64
       ·exact q
       ·rw [hg (k + 8) (by omega)] at p; cases p
      obtain ⟨b1, b2⟩ := bit_add s hs _ hx hb
      rw [if_pos p, if_pos h64, if_pos (by rw [G_iff]; exact ⟨p, by omega, fun q => by omega⟩), W_T hg n (k + 1) _ (by omega) b1 ?_]
      ·congr 1
       refine G_eq (fun j => ?_)
       rw [G_iff, rem_iff, G_iff]
       have hj : j % 8 < 8 := Nat.mod_lt _ (by omega)
       rw [b2 _ hj]
       simp only [Bool.or_eq_true, decide_eq_true_eq]
       constructor
       ·rintro ⟨p1, p2, p3⟩
        exact ⟨⟨p1, by omega, fun q => p3 ⟨by omega, Or.inl q.2⟩⟩, by omega, fun q => p3 ⟨by omega, Or.inr (by omega)⟩⟩
       ·rintro ⟨⟨p1, p2, p3⟩, p4, p5⟩
        refine ⟨p1, by omega, ?_⟩
        rintro ⟨q1, q2 | q2⟩
        ·exact p3 ⟨by omega, q2⟩
        ·omega
      ·intro i hi q
       rw [b2 _ (Nat.mod_lt _ (by omega))] at q
       simp only [Bool.or_eq_true, decide_eq_true_eq] at q
       by_cases h7 : i = 7
       ·subst h7; exact p
       ·rcases q with q | q
        ·have := hv (i + 1) (by omega) (by rw [show k + (i + 1) = k + 1 + i by omega]; exact q)
         rw [show k + 1 + i = k + (i + 1) by omega]; exact this
        ·omega
     ·rw [if_neg p]
      by_cases h64 : k + 8 < 64
      ·rw [if_pos h64, if_neg (by rw [G_iff]; exact fun q => p q.1)]
      ·rw [if_neg h64]
    have r : (if k % 8 ≠ 7 ∧ g (k + 1) = true ∧ s.testBit (k % 8 + 1) = false then W g n (k + 1) (s + 2 ^ (k % 8 + 1)) else 0) = (if k % 8 ≠ 7 then (if G g k s (k + 1) = true then T n (k + 1) (rem (G g k s) k (k + 1)) else 0) else 0) := by
     by_cases h7 : k % 8 ≠ 7
     ·rw [if_pos h7]
      have hm : (k + 1) % 8 = k % 8 + 1 := by omega
      by_cases p : g (k + 1) = true ∧ s.testBit (k % 8 + 1) = false
      ·obtain ⟨b1, b2⟩ := bit_add s hs (k % 8 + 1) (by omega) p.2
       rw [if_pos ⟨h7, p⟩, if_pos (by rw [G_iff, hm]; exact ⟨p.1, by omega, fun q => by rw [p.2] at q; cases q.2⟩), W_T hg n (k + 1) _ (by omega) b1 ?_]
       ·congr 1
        refine G_eq (fun j => ?_)
        rw [G_iff, rem_iff, G_iff]
        have hj : j % 8 < 8 := Nat.mod_lt _ (by omega)
        rw [b2 _ hj]
        simp only [Bool.or_eq_true, decide_eq_true_eq]
        constructor
        ·rintro ⟨p1, p2, p3⟩
         exact ⟨⟨p1, by omega, fun q => p3 ⟨by omega, Or.inl q.2⟩⟩, by omega, fun q => p3 ⟨by omega, Or.inr (by omega)⟩⟩
        ·rintro ⟨⟨p1, p2, p3⟩, p4, p5⟩
         refine ⟨p1, by omega, ?_⟩
         rintro ⟨q1, q2 | q2⟩
         ·by_cases e8 : j = k + 8
          ·rw [e8, show (k + 8) % 8 = k % 8 by omega, hb] at q2; cases q2
          ·exact p3 ⟨by omega, q2⟩
         ·omega
       ·intro i hi q
        rw [b2 _ (Nat.mod_lt _ (by omega))] at q
        simp only [Bool.or_eq_true, decide_eq_true_eq] at q
        by_cases h7' : i = 7
        ·subst h7'
         rcases q with q | q
         ·rw [show (k + 1 + 7) % 8 = k % 8 by omega, hb] at q; cases q
         ·omega
        ·rcases q with q | q
         ·have := hv (i + 1) (by omega) (by rw [show k + (i + 1) = k + 1 + i by omega]; exact q)
          rw [show k + 1 + i = k + (i + 1) by omega]; exact this
         ·rw [show i = 0 by omega]; exact p.1
      ·rw [if_neg (fun q => p q.2), if_neg]
       rw [G_iff, hm]
       rintro ⟨q1, _, q3⟩
       refine p ⟨q1, ?_⟩
       cases hh : s.testBit (k % 8 + 1) with
       | false => rfl
       | true => exact absurd ⟨by omega, hh⟩ q3
     ·rw [if_neg h7, if_neg (fun q => h7 q.1)]
    rw [d, r]; omega
  ·have hb : s.testBit (k % 8) = false := by
    cases h : s.testBit (k % 8) with
    | false => rfl
    | true => exact absurd (hv 0 (by omega) h) hgk
   have hgk : g k = false := by simpa using hgk
   rw [W_no hgk hb, T_no (by rw [Bool.eq_false_iff, Ne, G_iff]; rintro ⟨h, _⟩; rw [hgk] at h; cases h), W_T hg n (k + 1) _ (by omega) hs ?_]
   ·congr 1
    refine G_eq (fun j => ?_)
    rw [G_iff, G_iff]
    constructor
    ·rintro ⟨p1, p2, p3⟩; exact ⟨p1, by omega, fun q => p3 ⟨by omega, q.2⟩⟩
    ·rintro ⟨p1, p2, p3⟩
     have : j ≠ k := fun q => by rw [q, hgk] at p1; cases p1
     refine ⟨p1, by omega, fun q => ?_⟩
     by_cases e8 : j = k + 8
     ·rw [e8, show (k + 8) % 8 = k % 8 by omega, hb] at q; cases q.2
     ·exact p3 ⟨by omega, q.2⟩
   ·intro i hi q
    by_cases h7 : i = 7
    ·subst h7; rw [show (k + 1 + 7) % 8 = k % 8 by omega, hb] at q; cases q
    ·have := hv (i + 1) (by omega) (by rw [show k + (i + 1) = k + 1 + i by omega]; exact q)
     rw [show k + 1 + i = k + (i + 1) by omega]; exact this
theorem W_tiles {g : Nat → Bool} (hg : ∀ j, 64 ≤ j → g j = false) : W g 64 0 0 = tiles g := by
 rw [W_T hg 64 0 0 rfl (by omega) (fun i _ q => by simp at q)]
 unfold tiles
 congr 1
 refine G_eq (fun j => ?_)
 rw [G_iff]; simp
end Go.Proofs.YtmenmepdmojnfaaGreatDoor.Cnt
