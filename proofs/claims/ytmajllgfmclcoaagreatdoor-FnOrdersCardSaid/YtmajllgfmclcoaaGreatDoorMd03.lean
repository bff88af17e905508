/- CntP, Kun, CntW, CntS, CntR in one text. -/
import Derived.Test.YtmajllgfmclcoaaGreatDoorMd02
set_option linter.unusedVariables false
set_option linter.unusedSimpArgs false
namespace Go.Proofs.YtmajllgfmclcoaaGreatDoor.Cnt
def sm : Nat → (Nat → Nat) → Nat
 | 0, _ => 0
 | n + 1, f => sm n f + f n
theorem sm_congr {n : Nat} {f h : Nat → Nat} (e : ∀ i, i < n → f i = h i) : sm n f = sm n h := by
 induction n with
 | zero => rfl
 | succ n ih => unfold sm; rw [ih (fun i hi => e i (by omega)), e n (by omega)]
theorem sm_zero {n : Nat} {f : Nat → Nat} (e : ∀ i, i < n → f i = 0) : sm n f = 0 := by
 induction n with
 | zero => rfl
 | succ n ih => unfold sm; rw [ih (fun i hi => e i (by omega)), e n (by omega)]
theorem sm_add {n : Nat} {f h : Nat → Nat} : sm n (fun i => f i + h i) = sm n f + sm n h := by
 induction n with
 | zero => rfl
 | succ n ih =>
  show sm n (fun i => f i + h i) + (f n + h n) = (sm n f + f n) + (sm n h + h n)
  rw [ih]; omega
theorem sm_one {n c : Nat} (hc : c < n) {f : Nat → Nat} (h : ∀ i, i < n → i ≠ c → f i = 0) : sm n f = f c := by
 induction n with
 | zero => omega
 | succ n ih =>
  unfold sm
  by_cases e : c = n
  ·subst e; rw [sm_zero (fun i hi => h i (by omega) (by omega))]; omega
  ·rw [ih (by omega) (fun i hi hne => h i (by omega) hne), h n (by omega) (by omega)]; omega
def adj (a b : Nat) : Bool := decide ((b = a + 1 ∧ a % 8 ≠ 7) ∨ b = a + 8 ∨ (a = b + 1 ∧ b % 8 ≠ 7) ∨ a = b + 8)
theorem adj_iff {a b : Nat} : adj a b = true ↔ ((b = a + 1 ∧ a % 8 ≠ 7) ∨ b = a + 8 ∨ (a = b + 1 ∧ b % 8 ≠ 7) ∨ a = b + 8) := by unfold adj; simp
def rem (g : Nat → Bool) (a b : Nat) : Nat → Bool := fun i => g i && decide (i ≠ a) && decide (i ≠ b)
theorem rem_iff {g : Nat → Bool} {a b i : Nat} : rem g a b i = true ↔ g i = true ∧ i ≠ a ∧ i ≠ b := by unfold rem; simp [and_assoc]
def T : Nat → Nat → (Nat → Bool) → Nat
 | 0, _, _ => 1
 | n + 1, k, g => if g k = true then sm 64 (fun e => if adj k e = true ∧ g e = true then T n (k + 1) (rem g k e) else 0) else T n (k + 1) g
theorem T_no {n k : Nat} {g : Nat → Bool} (h : g k = false) : T (n + 1) k g = T n (k + 1) g := by
 show (if g k = true then _ else _) = _
 rw [if_neg (by rw [h]; simp)]
theorem T_yes {n k : Nat} {g : Nat → Bool} (h : g k = true) : T (n + 1) k g = sm 64 (fun e => if adj k e = true ∧ g e = true then T n (k + 1) (rem g k e) else 0) := by
 show (if g k = true then _ else _) = _
 rw [if_pos h]
def tiles (g : Nat → Bool) : Nat := T 64 0 g
theorem sm_four {c : Nat} (hc : c < 64) (f : Nat → Nat) : sm 64 (fun b => if adj c b = true then f b else 0)
  = (if c % 8 ≠ 7 then f (c + 1) else 0) + (if c + 8 < 64 then f (c + 8) else 0) + (if c % 8 ≠ 0 then f (c - 1) else 0) + (if 8 ≤ c then f (c - 8) else 0) := by
 have e : ∀ b, b < 64 → (if adj c b = true then f b else 0) = ((if b = c + 1 ∧ c % 8 ≠ 7 then f b else 0) + (if b = c + 8 then f b else 0)) + ((if c = b + 1 ∧ b % 8 ≠ 7 then f b else 0) + (if c = b + 8 then f b else 0)) := by
  intro b hb
  by_cases h1 : b = c + 1 ∧ c % 8 ≠ 7
  ·rw [if_pos h1, if_pos (adj_iff.2 (Or.inl h1)), if_neg (by omega), if_neg (by omega), if_neg (by omega)]; omega
  ·by_cases h2 : b = c + 8
   ·rw [if_neg h1, if_pos h2, if_pos (adj_iff.2 (Or.inr (Or.inl h2))), if_neg (by omega), if_neg (by omega)]; omega
   ·by_cases h3 : c = b + 1 ∧ b % 8 ≠ 7
    ·rw [if_neg h1, if_neg h2, if_pos h3, if_pos (adj_iff.2 (Or.inr (Or.inr (Or.inl h3)))), if_neg (by omega)]; omega
    ·by_cases h4 : c = b + 8
     ·rw [if_neg h1, if_neg h2, if_neg h3, if_pos h4, if_pos (adj_iff.2 (Or.inr (Or.inr (Or.inr h4))))]; omega
     ·rw [if_neg h1, if_neg h2, if_neg h3, if_neg h4, if_neg (by rw [adj_iff]; rintro (h | h | h | h) <;> contradiction)]
 rw [sm_congr e, sm_add, sm_add, sm_add]
 have a1 : sm 64 (fun b => if b = c + 1 ∧ c % 8 ≠ 7 then f b else 0) = if c % 8 ≠ 7 then f (c + 1) else 0 := by
  by_cases h : c % 8 ≠ 7
  ·rw [sm_one (c := c + 1) (by omega) (fun i _ hi => by rw [if_neg]; rintro ⟨h, _⟩; exact hi h), if_pos ⟨rfl, h⟩, if_pos h]
  ·rw [sm_zero (fun i _ => by rw [if_neg]; rintro ⟨_, q⟩; exact h q), if_neg h]
 have a2 : sm 64 (fun b => if b = c + 8 then f b else 0) = if c + 8 < 64 then f (c + 8) else 0 := by
  by_cases h : c + 8 < 64
  ·rw [sm_one (c := c + 8) h (fun i _ hi => by rw [if_neg]; exact hi), if_pos rfl, if_pos h]
  ·rw [sm_zero (fun i _ => by rw [if_neg]; omega), if_neg h]
 have a3 : sm 64 (fun b => if c = b + 1 ∧ b % 8 ≠ 7 then f b else 0) = if c % 8 ≠ 0 then f (c - 1) else 0 := by
  by_cases h : c % 8 ≠ 0
  ·rw [sm_one (c := c - 1) (by omega) (fun i _ hi => by rw [if_neg]; omega), if_pos (by omega), if_pos h]
  ·rw [sm_zero (fun i _ => by rw [if_neg]; omega), if_neg h]
 have a4 : sm 64 (fun b => if c = b + 8 then f b else 0) = if 8 ≤ c then f (c - 8) else 0 := by
  by_cases h : 8 ≤ c
  ·rw [sm_one (c := c - 8) (by omega) (fun i _ hi => by rw [if_neg]; omega), if_pos (by omega), if_pos h]
  ·rw [sm_zero (fun i _ => by rw [if_neg]; omega), if_neg h]
 rw [a1, a2, a3, a4]; omega
def cnt : Nat → Nat → (Nat → Bool) → Nat
 | 0, _, _ => 0
 | n + 1, k, g => (if g k = true then 1 else 0) + cnt n (k + 1) g
theorem cnt_congr : ∀ {n k : Nat} {g h : Nat → Bool}, (∀ i, k ≤ i → i < k + n → g i = h i) → cnt n k g = cnt n k h
 | 0, _, _, _, _ => rfl
 | n + 1, k, g, h, e => by
  show (if g k = true then 1 else 0) + cnt n (k + 1) g = (if h k = true then 1 else 0) + cnt n (k + 1) h
  rw [e k (by omega) (by omega), cnt_congr (n := n) (k := k + 1) (fun i h1 h2 => e i (by omega) (by omega))]
theorem cnt_rem : ∀ {n k a b : Nat} {g : Nat → Bool}, a < k → k ≤ b → b < k + n → g b = true → cnt n k (rem g a b) + 1 = cnt n k g
 | 0, k, a, b, g, _, h1, h2, _ => by omega
 | n + 1, k, a, b, g, ha, h1, h2, hb => by
  show (if rem g a b k = true then 1 else 0) + cnt n (k + 1) (rem g a b) + 1 = (if g k = true then 1 else 0) + cnt n (k + 1) g
  by_cases e : b = k
  ·subst e
   rw [if_neg (by rw [rem_iff]; rintro ⟨_, _, h⟩; exact h rfl), if_pos hb, cnt_congr (n := n) (k := b + 1) (g := rem g a b) (h := g) (fun i q _ => by
    rw [Bool.eq_iff_iff, rem_iff]; exact ⟨fun h => h.1, fun h => ⟨h, by omega, by omega⟩⟩)]
   omega
  ·have ih := cnt_rem (n := n) (k := k + 1) (a := a) (b := b) (g := g) (by omega) (by omega) (by omega) hb
   have : (rem g a b k = true) ↔ (g k = true) := by rw [rem_iff]; exact ⟨fun h => h.1, fun h => ⟨h, by omega, fun q => e q.symm⟩⟩
   by_cases q : g k = true
   ·rw [if_pos (this.2 q), if_pos q]; omega
   ·rw [if_neg (fun h => q (this.1 h)), if_neg q]; omega
def P : Nat → Nat → Nat → (Nat → Bool) → Nat
 | _, _, 0, _ => 1
 | 0, _, _ + 1, _ => 0
 | n + 1, k, m + 1, g => P n (k + 1) (m + 1) g + if g k = true then sm 64 (fun e => if adj k e = true ∧ g e = true ∧ k < e then P n (k + 1) m (rem g k e) else 0) else 0
end Go.Proofs.YtmajllgfmclcoaaGreatDoor.Cnt
namespace Go.Proofs.YtmajllgfmclcoaaGreatDoor.Kun
open Cnt (adj adj_iff)
def nbN (v : Nat) : List Nat := (List.range 64).filter (adj v)
def put {α : Type} (J : Nat → α) (i : Nat) (x : α) : Nat → α := fun k => if k = i then x else J k
abbrev Ans := Bool × (Nat → Int) × (Nat → Bool)
def tryF (g : Nat → Bool) (rec : (Nat → Int) → (Nat → Bool) → Nat → Ans) (v : Nat) : List Nat → (Nat → Int) → (Nat → Bool) → Ans
 | [], J, Z => (false, J, Z)
 | i :: r, J, Z =>
  if g i = false ∨ Z i = true then tryF g rec v r J Z
  else if J i < 0 then (true, put J i (v : Int), put Z i true)
  else match rec J (put Z i true) (J i).toNat with
   | (true, J2, Z2) => (true, put J2 i (v : Int), Z2)
   | (false, J2, Z2) => tryF g rec v r J2 Z2
def findF (g : Nat → Bool) : Nat → (Nat → Int) → (Nat → Bool) → Nat → Ans
 | 0, J, Z, _ => (false, J, Z)
 | f + 1, J, Z, v => tryF g (findF g f) v (nbN v) J Z
theorem not_true {b : Bool} (h : b = true → False) : b = false := by
 cases b
 ·rfl
 ·exact absurd (h rfl) id
def allF (g : Nat → Bool) (f : Nat) : List Nat → (Nat → Int) → (Nat → Int)
 | [], J => J
 | v :: r, J => allF g f r (findF g f J (fun _ => false) v).2.1
end Go.Proofs.YtmajllgfmclcoaaGreatDoor.Kun
namespace Go.Proofs.YtmajllgfmclcoaaGreatDoor.Cnt
theorem bit_sub : ∀ s, s < 256 → ∀ x, x < 8 → s.testBit x = true → s - 2 ^ x < 256 ∧ ∀ i, i < 8 → (s - 2 ^ x).testBit i = (s.testBit i && decide (i ≠ x)) := by decide +kernel
theorem bit_add : ∀ s, s < 256 → ∀ x, x < 8 → s.testBit x = false → s + 2 ^ x < 256 ∧ ∀ i, i < 8 → (s + 2 ^ x).testBit i = (s.testBit i || decide (i = x)) := by decide +kernel
theorem bit_none : ∀ s, s < 256 → (∀ i, i < 8 → s.testBit i = false) → s = 0 := by decide +kernel
def W (g : Nat → Bool) : Nat → Nat → Nat → Nat
 | 0, _, s => if s = 0 then 1 else 0
 | n + 1, k, s => if g k = true then
   if s.testBit (k % 8) = true then W g n (k + 1) (s - 2 ^ (k % 8))
   else (if g (k + 8) = true then W g n (k + 1) (s + 2 ^ (k % 8)) else 0) + (if k % 8 ≠ 7 ∧ g (k + 1) = true ∧ s.testBit (k % 8 + 1) = false then W g n (k + 1) (s + 2 ^ (k % 8 + 1)) else 0)
  else if s.testBit (k % 8) = true then 0 else W g n (k + 1) s
theorem W_zero (g : Nat → Bool) (k s : Nat) : W g 0 k s = if s = 0 then 1 else 0 := rfl
theorem W_out {g : Nat → Bool} {n k s : Nat} (h : g k = false) (hs : s.testBit (k % 8) = true) : W g (n + 1) k s = 0 := by
 show (if g k = true then _ else _) = _
 rw [if_neg (by rw [h]; simp), if_pos hs]
theorem W_no {g : Nat → Bool} {n k s : Nat} (h : g k = false) (hs : s.testBit (k % 8) = false) : W g (n + 1) k s = W g n (k + 1) s := by
 show (if g k = true then _ else _) = _
 rw [if_neg (by rw [h]; simp), if_neg (by rw [hs]; simp)]
theorem W_cov {g : Nat → Bool} {n k s : Nat} (h : g k = true) (hs : s.testBit (k % 8) = true) : W g (n + 1) k s = W g n (k + 1) (s - 2 ^ (k % 8)) := by
 show (if g k = true then _ else _) = _
 rw [if_pos h, if_pos hs]
theorem W_two {g : Nat → Bool} {n k s : Nat} (h : g k = true) (hs : s.testBit (k % 8) = false) : W g (n + 1) k s = (if g (k + 8) = true then W g n (k + 1) (s + 2 ^ (k % 8)) else 0) + (if k % 8 ≠ 7 ∧ g (k + 1) = true ∧ s.testBit (k % 8 + 1) = false then W g n (k + 1) (s + 2 ^ (k % 8 + 1)) else 0) := by
 show (if g k = true then _ else _) = _
 rw [if_pos h, if_neg (by rw [hs]; simp)]
def G (g : Nat → Bool) (k s : Nat) : Nat → Bool := fun j => g j && decide (k ≤ j) && !(decide (j < k + 8) && s.testBit (j % 8))
theorem G_iff {g : Nat → Bool} {k s j : Nat} : G g k s j = true ↔ g j = true ∧ k ≤ j ∧ ¬ (j < k + 8 ∧ s.testBit (j % 8) = true) := by
 unfold G; simp only [Bool.and_eq_true, decide_eq_true_eq, Bool.not_eq_true', Bool.and_eq_false_iff, decide_eq_false_iff_not]
 constructor
 ·rintro ⟨⟨a, b⟩, c⟩; refine ⟨a, b, ?_⟩; rintro ⟨d, e⟩; rcases c with c | c
  ·exact c d
  ·rw [c] at e; cases e
 ·rintro ⟨a, b, c⟩; refine ⟨⟨a, b⟩, ?_⟩
  by_cases d : j < k + 8
  ·right; cases e : s.testBit (j % 8) with
   | false => rfl
   | true => exact absurd ⟨d, e⟩ c
  ·left; exact d
theorem G_eq {g h : Nat → Bool} (e : ∀ j, g j = true ↔ h j = true) : g = h := by funext j; rw [Bool.eq_iff_iff]; exact e j
theorem W_T {g : Nat → Bool} (hg : ∀ j, 64 ≤ j → g j = false) : ∀ (n k s : Nat), k + n = 64 → s < 256 → (∀ i, i < 8 → s.testBit ((k + i) % 8) = true → g (k + i) = true) → W g n k s = T n k (G g k s)
 | 0, k, s, hk, hs, hv => by
  have : s = 0 := bit_none s hs (fun i hi => by
   cases h : s.testBit i with
   | false => rfl
   | true =>
    have := hv i hi (by rw [show (k + i) % 8 = i by omega]; exact h)
    rw [hg (k + i) (by omega)] at this; cases this)
  rw [W_zero, if_pos this]; rfl
 | n + 1, k, s, hk, hs, hv => by
  have hx : k % 8 < 8 := Nat.mod_lt _ (by omega)
  by_cases hgk : g k = true
  ·cases hb : s.testBit (k % 8) with
   | true =>
    obtain ⟨b1, b2⟩ := bit_sub s hs _ hx hb
    rw [W_cov hgk hb, T_no (by rw [Bool.eq_false_iff, Ne, G_iff]; rintro ⟨_, _, h⟩; exact h ⟨by omega, hb⟩), W_T hg n (k + 1) _ (by omega) b1 ?_]
    ·congr 1
     refine G_eq (fun j => ?_)
     rw [G_iff, G_iff]
     have hj : j % 8 < 8 := Nat.mod_lt _ (by omega)
     rw [b2 _ hj]
     simp only [Bool.and_eq_true, decide_eq_true_eq]
     constructor
     ·rintro ⟨p1, p2, p3⟩; exact ⟨p1, by omega, fun q => p3 ⟨by omega, q.2, by omega⟩⟩
     ·rintro ⟨p1, p2, p3⟩
      have : j ≠ k := fun q => p3 ⟨by omega, by rw [q]; exact hb⟩
      exact ⟨p1, by omega, fun q => p3 ⟨by omega, q.2.1⟩⟩
    ·intro i hi q
     rw [b2 _ (Nat.mod_lt _ (by omega))] at q
     simp only [Bool.and_eq_true, decide_eq_true_eq] at q
     have := hv (i + 1) (by omega) (by rw [show k + (i + 1) = k + 1 + i by omega]; exact q.1)
     rw [show k + 1 + i = k + (i + 1) by omega]; exact this
   | false =>
    have hGk : G g k s k = true := by rw [G_iff]; exact ⟨hgk, by omega, fun q => by rw [hb] at q; cases q.2⟩
    rw [W_two hgk hb, T_yes hGk]
    have e : ∀ b, b < 64 → (if adj k b = true ∧ G g k s b = true then T n (k + 1) (rem (G g k s) k b) else 0) = (if adj k b = true then (if G g k s b = true then T n (k + 1) (rem (G g k s) k b) else 0) else 0) := by
     intro b _
     by_cases p : adj k b = true <;> by_cases q : G g k s b = true <;> simp [p, q]
    rw [sm_congr e, sm_four (by omega) (fun b => if G g k s b = true then T n (k + 1) (rem (G g k s) k b) else 0)]
    have z1 : (if k % 8 ≠ 0 then (if G g k s (k - 1) = true then T n (k + 1) (rem (G g k s) k (k - 1)) else 0) else 0) = 0 := by
     by_cases p : k % 8 ≠ 0
     ·rw [if_pos p, if_neg (by rw [G_iff]; omega)]
     ·rw [if_neg p]
    have z2 : (if 8 ≤ k then (if G g k s (k - 8) = true then T n (k + 1) (rem (G g k s) k (k - 8)) else 0) else 0) = 0 := by
     by_cases p : 8 ≤ k
     ·rw [if_pos p, if_neg (by rw [G_iff]; omega)]
     ·rw [if_neg p]
    rw [z1, z2]
    have d : (if g (k + 8) = true then W g n (k + 1) (s + 2 ^ (k % 8)) else 0) = (if k + 8 < 64 then (if G g k s (k + 8) = true then T n (k + 1) (rem (G g k s) k (k + 8)) else 0) else 0) := by
     by_cases p : g (k + 8) = true
     ·have h64 : k + 8 < 64 := by
       by_cases q : k + 8 < 64
       ·exact q
       ·rw [hg (k + 8) (by omega)] at p; cases p
      obtain ⟨b1, b2⟩ := bit_add s hs _ hx hb
      rw [if_pos p, if_pos h64, if_pos (by rw [G_iff]; exact ⟨p, by omega, fun q => by omega⟩), W_T hg n (k + 1) _ (by omega) b1 ?_]
      ·congr 1
       refine G_eq (fun j => ?_)
       rw [G_iff, rem_iff, G_iff]
       have hj : j % 8 < 8 := Nat.mod_lt _ (by omega)
       rw [b2 _ hj]
       simp only [Bool.or_eq_true, decide_eq_true_eq]
       constructor
       ·rintro ⟨p1, p2, p3⟩
        exact ⟨⟨p1, by omega, fun q => p3 ⟨by omega, Or.inl q.2⟩⟩, by omega, fun q => p3 ⟨by omega, Or.inr (by omega)⟩⟩
       ·rintro ⟨⟨p1, p2, p3⟩, p4, p5⟩
        refine ⟨p1, by omega, ?_⟩
        rintro ⟨q1, q2 | q2⟩
        ·exact p3 ⟨by omega, q2⟩
        ·omega
      ·intro i hi q
       rw [b2 _ (Nat.mod_lt _ (by omega))] at q
       simp only [Bool.or_eq_true, decide_eq_true_eq] at q
       by_cases h7 : i = 7
       ·subst h7; exact p
       ·rcases q with q | q
        ·have := hv (i + 1) (by omega) (by rw [show k + (i + 1) = k + 1 + i by omega]; exact q)
         rw [show k + 1 + i = k + (i + 1) by omega]; exact this
        ·omega
     ·rw [if_neg p]
      by_cases h64 : k + 8 < 64
      ·rw [if_pos h64, if_neg (by rw [G_iff]; exact fun q => p q.1)]
      ·rw [if_neg h64]
    have r : (if k % 8 ≠ 7 ∧ g (k + 1) = true ∧ s.testBit (k % 8 + 1) = false then W g n (k + 1) (s + 2 ^ (k % 8 + 1)) else 0) = (if k % 8 ≠ 7 then (if G g k s (k + 1) = true then T n (k + 1) (rem (G g k s) k (k + 1)) else 0) else 0) := by
     by_cases h7 : k % 8 ≠ 7
     ·rw [if_pos h7]
      have hm : (k + 1) % 8 = k % 8 + 1 := by omega
      by_cases p : g (k + 1) = true ∧ s.testBit (k % 8 + 1) = false
      ·obtain ⟨b1, b2⟩ := bit_add s hs (k % 8 + 1) (by omega) p.2
       rw [if_pos ⟨h7, p⟩, if_pos (by rw [G_iff, hm]; exact ⟨p.1, by omega, fun q => by rw [p.2] at q; cases q.2⟩), W_T hg n (k + 1) _ (by omega) b1 ?_]
       ·congr 1
        refine G_eq (fun j => ?_)
        rw [G_iff, rem_iff, G_iff]
        have hj : j % 8 < 8 := Nat.mod_lt _ (by omega)
        rw [b2 _ hj]
        simp only [Bool.or_eq_true, decide_eq_true_eq]
        constructor
        ·rintro ⟨p1, p2, p3⟩
         exact ⟨⟨p1, by omega, fun q => p3 ⟨by omega, Or.inl q.2⟩⟩, by omega, fun q => p3 ⟨by omega, Or.inr (by omega)⟩⟩
        ·rintro ⟨⟨p1, p2, p3⟩, p4, p5⟩
         refine ⟨p1, by omega, ?_⟩
         rintro ⟨q1, q2 | q2⟩
         ·by_cases e8 : j = k + 8
          ·rw [e8, show (k + 8) % 8 = k % 8 by omega, hb] at q2; cases q2
          ·exact p3 ⟨by omega, q2⟩
         ·omega
       ·intro i hi q
        rw [b2 _ (Nat.mod_lt _ (by omega))] at q
        simp only [Bool.or_eq_true, decide_eq_true_eq] at q
        by_cases h7' : i = 7
        ·subst h7'
         rcases q with q | q
         ·rw [show (k + 1 + 7) % 8 = k % 8 by omega, hb] at q; cases q
         ·omega
        ·rcases q with q | q
         ·have := hv (i + 1) (by omega) (by rw [show k + (i + 1) = k + 1 + i by omega]; exact q)
          rw [show k + 1 + i = k + (i + 1) by omega]; exact this
         ·rw [show i = 0 by omega]; exact p.1
      ·rw [if_neg (fun q => p q.2), if_neg]
       rw [G_iff, hm]
       rintro ⟨q1, _, q3⟩
       refine p ⟨q1, ?_⟩
       cases hh : s.testBit (k % 8 + 1) with
       | false => rfl
       | true => exact absurd ⟨by omega, hh⟩ q3
     ·rw [if_neg h7, if_neg (fun q => h7 q.1)]
    rw [d, r]; omega
  ·have hb : s.testBit (k % 8) = false := by
    cases h : s.testBit (k % 8) with
    | false => rfl
    | true => exact absurd (hv 0 (by omega) h) hgk
   have hgk : g k = false := by simpa using hgk
   rw [W_no hgk hb, T_no (by rw [Bool.eq_false_iff, Ne, G_iff]; rintro ⟨h, _⟩; rw [hgk] at h; cases h), W_T hg n (k + 1) _ (by omega) hs ?_]
   ·congr 1
    refine G_eq (fun j => ?_)
    rw [G_iff, G_iff]
    constructor
    ·rintro ⟨p1, p2, p3⟩; exact ⟨p1, by omega, fun q => p3 ⟨by omega, q.2⟩⟩
    ·rintro ⟨p1, p2, p3⟩
     have : j ≠ k := fun q => by rw [q, hgk] at p1; cases p1
     refine ⟨p1, by omega, fun q => ?_⟩
     by_cases e8 : j = k + 8
     ·rw [e8, show (k + 8) % 8 = k % 8 by omega, hb] at q; cases q.2
     ·exact p3 ⟨by omega, q.2⟩
   ·intro i hi q
    by_cases h7 : i = 7
    ·subst h7; rw [show (k + 1 + 7) % 8 = k % 8 by omega, hb] at q; cases q
    ·have := hv (i + 1) (by omega) (by rw [show k + (i + 1) = k + 1 + i by omega]; exact q)
     rw [show k + 1 + i = k + (i + 1) by omega]; exact this
theorem W_tiles {g : Nat → Bool} (hg : ∀ j, 64 ≤ j → g j = false) : W g 64 0 0 = tiles g := by
 rw [W_T hg 64 0 0 rfl (by omega) (fun i _ q => by simp at q)]
 unfold tiles
 congr 1
 refine G_eq (fun j => ?_)
 rw [G_iff]; simp
end Go.Proofs.YtmajllgfmclcoaaGreatDoor.Cnt
namespace Go.Proofs.YtmajllgfmclcoaaGreatDoor.Cnt
open Go.RowKit
def D (x y : Int) : Prop := ∃ q : Int, x = y + 18446744073709551616 * q
theorem D.refl (x : Int) : D x x := ⟨0, by omega⟩
theorem D.symm {x y : Int} (h : D x y) : D y x := by obtain ⟨q, h⟩ := h; exact ⟨-q, by omega⟩
theorem D.trans {x y z : Int} (h : D x y) (h' : D y z) : D x z := by
 obtain ⟨q, h⟩ := h; obtain ⟨q', h'⟩ := h'; exact ⟨q + q', by omega⟩
theorem D.add {x y u v : Int} (h : D x y) (h' : D u v) : D (x + u) (y + v) := by
 obtain ⟨q, h⟩ := h; obtain ⟨q', h'⟩ := h'; exact ⟨q + q', by omega⟩
theorem D.mul {x y : Int} (h : D x y) (c : Int) : D (x * c) (y * c) := by
 obtain ⟨q, h⟩ := h; exact ⟨q * c, by rw [h, Int.add_mul, Int.mul_assoc]⟩
theorem D_wrap (x : Int) : D (wrap64 x) x := by
 refine ⟨(wrap64 x - x) / 18446744073709551616, ?_⟩
 unfold wrap64; omega
theorem D.wrap {x y : Int} (h : D x y) : wrap64 x = wrap64 y := by
 obtain ⟨q, h⟩ := h; unfold wrap64; omega
def si : Nat → (Nat → Int) → Int
 | 0, _ => 0
 | n + 1, f => si n f + f n
theorem si_congr {n : Nat} {f h : Nat → Int} (e : ∀ i, i < n → f i = h i) : si n f = si n h := by
 induction n with
 | zero => rfl
 | succ n ih => unfold si; rw [ih (fun i hi => e i (by omega)), e n (by omega)]
theorem si_zero {n : Nat} {f : Nat → Int} (e : ∀ i, i < n → f i = 0) : si n f = 0 := by
 induction n with
 | zero => rfl
 | succ n ih => unfold si; rw [ih (fun i hi => e i (by omega)), e n (by omega)]; rfl
theorem si_one {n c : Nat} (hc : c < n) {f : Nat → Int} (h : ∀ i, i < n → i ≠ c → f i = 0) : si n f = f c := by
 induction n with
 | zero => omega
 | succ n ih =>
  unfold si
  by_cases e : c = n
  ·subst e; rw [si_zero (fun i hi => h i (by omega) (by omega))]; omega
  ·rw [ih (by omega) (fun i hi hne => h i (by omega) hne), h n (by omega) (by omega)]; omega
def upd (b : Nat → Int) (t : Nat) (v : Int) : Nat → Int := fun i => if i = t then v else b i
theorem upd_at (b : Nat → Int) (t : Nat) (v : Int) : upd b t v t = v := if_pos rfl
theorem upd_ne {b : Nat → Int} {t i : Nat} {v : Int} (h : i ≠ t) : upd b t v i = b i := if_neg h
theorem si_upd {n t : Nat} (ht : t < n) (b w : Nat → Int) (v : Int) : si n (fun i => upd b t v i * w i) = si n (fun i => b i * w i) + (v - b t) * w t := by
 induction n with
 | zero => omega
 | succ n ih =>
  show si n (fun i => upd b t v i * w i) + upd b t v n * w n = si n (fun i => b i * w i) + b n * w n + (v - b t) * w t
  by_cases e : t = n
  ·subst e
   rw [upd_at, si_congr (n := t) (f := fun i => upd b t v i * w i) (h := fun i => b i * w i) (fun i hi => by show upd b t v i * w i = _; rw [upd_ne (by omega)]), Int.sub_mul]
   omega
  ·rw [ih (by omega), upd_ne (fun h => e h.symm)]; omega
def sumW (g : Nat → Bool) (n k s : Nat) (a : Nat → Int) : Int := si s (fun i => a i * (W g n k i : Int))
theorem D_add1 {L v : Int} {g : Nat → Bool} {n k t : Nat} {b : Nat → Int} (h : D L (sumW g n k 256 b)) (ht : t < 256) : D (L + v * (W g n k t : Int)) (sumW g n k 256 (upd b t (wrap64 (b t + v)))) := by
 unfold sumW at h ⊢
 rw [si_upd ht]
 refine h.add ?_
 refine D.mul ?_ _
 have := D_wrap (b t + v)
 obtain ⟨q, hq⟩ := this
 exact ⟨-q, by omega⟩
def St (g : Nat → Bool) (n k : Nat) (a b : Nat → Int) (s : Nat) : Prop := D (sumW g (n + 1) k s a) (sumW g n (k + 1) 256 b)
theorem St.start (g : Nat → Bool) (n k : Nat) (a : Nat → Int) : St g n k a (fun _ => 0) 0 := by
 unfold St sumW
 rw [si_zero (n := 256) (fun i _ => by simp)]
 exact D.refl 0
theorem St.skip {g : Nat → Bool} {n k s : Nat} {a b : Nat → Int} (h : St g n k a b s) (e : a s = 0) : St g n k a b (s + 1) := by
 unfold St at h ⊢
 show D (sumW g (n + 1) k s a + a s * _) _
 rw [e, Int.zero_mul, Int.add_zero]; exact h
theorem St.out {g : Nat → Bool} {n k s : Nat} {a b : Nat → Int} (h : St g n k a b s) (hg : g k = false) (hb : s.testBit (k % 8) = true) : St g n k a b (s + 1) := by
 unfold St at h ⊢
 show D (sumW g (n + 1) k s a + a s * (W g (n + 1) k s : Int)) _
 rw [W_out hg hb]; simpa using h
theorem St.no {g : Nat → Bool} {n k s : Nat} {a b : Nat → Int} (h : St g n k a b s) (hs : s < 256) (hg : g k = false) (hb : s.testBit (k % 8) = false) : St g n k a (upd b s (wrap64 (b s + a s))) (s + 1) := by
 unfold St at h ⊢
 show D (sumW g (n + 1) k s a + a s * (W g (n + 1) k s : Int)) _
 rw [W_no hg hb]
 exact D_add1 h hs
theorem St.cov {g : Nat → Bool} {n k s : Nat} {a b : Nat → Int} (h : St g n k a b s) (hs : s < 256) (hg : g k = true) (hb : s.testBit (k % 8) = true) : St g n k a (upd b (s - 2 ^ (k % 8)) (wrap64 (b (s - 2 ^ (k % 8)) + a s))) (s + 1) := by
 unfold St at h ⊢
 show D (sumW g (n + 1) k s a + a s * (W g (n + 1) k s : Int)) _
 rw [W_cov hg hb]
 exact D_add1 h (bit_sub s hs _ (Nat.mod_lt _ (by omega)) hb).1
def dn (g : Nat → Bool) (k s : Nat) (v : Int) (b : Nat → Int) : Nat → Int := if g (k + 8) = true then upd b (s + 2 ^ (k % 8)) (wrap64 (b (s + 2 ^ (k % 8)) + v)) else b
def rt (g : Nat → Bool) (k s : Nat) (v : Int) (b : Nat → Int) : Nat → Int := if k % 8 ≠ 7 ∧ g (k + 1) = true ∧ s.testBit (k % 8 + 1) = false then upd b (s + 2 ^ (k % 8 + 1)) (wrap64 (b (s + 2 ^ (k % 8 + 1)) + v)) else b
theorem St.two {g : Nat → Bool} {n k s : Nat} {a b : Nat → Int} (h : St g n k a b s) (hs : s < 256) (hg : g k = true) (hb : s.testBit (k % 8) = false) : St g n k a (rt g k s (a s) (dn g k s (a s) b)) (s + 1) := by
 unfold St at h ⊢
 show D (sumW g (n + 1) k s a + a s * (W g (n + 1) k s : Int)) _
 rw [W_two hg hb, Int.natCast_add, Int.mul_add, ← Int.add_assoc]
 have h1 : D (sumW g (n + 1) k s a + a s * ((if g (k + 8) = true then W g n (k + 1) (s + 2 ^ (k % 8)) else 0 : Nat) : Int)) (sumW g n (k + 1) 256 (dn g k s (a s) b)) := by
  unfold dn
  by_cases p : g (k + 8) = true
  ·rw [if_pos p, if_pos p]; exact D_add1 h (bit_add s hs _ (Nat.mod_lt _ (by omega)) hb).1
  ·rw [if_neg p, if_neg p]; simpa using h
 unfold rt
 by_cases p : k % 8 ≠ 7 ∧ g (k + 1) = true ∧ s.testBit (k % 8 + 1) = false
 ·rw [if_pos p, if_pos p]; exact D_add1 h1 (bit_add s hs _ (by omega) p.2.2).1
 ·rw [if_neg p, if_neg p]; simpa using h1
def Inv (g : Nat → Bool) (k : Nat) (a : Nat → Int) : Prop := D (sumW g (64 - k) k 256 a) (tiles g : Int)
theorem Inv.start {g : Nat → Bool} (hg : ∀ j, 64 ≤ j → g j = false) {a : Nat → Int} (h0 : a 0 = 1) (h : ∀ i, i < 256 → i ≠ 0 → a i = 0) : Inv g 0 a := by
 unfold Inv sumW
 rw [si_one (c := 0) (by omega) (fun i hi hne => by rw [h i hi hne, Int.zero_mul]), h0, Int.one_mul, W_tiles hg]
 exact D.refl _
theorem Inv.next {g : Nat → Bool} {k : Nat} {a b : Nat → Int} (hk : k < 64) (h : Inv g k a) (hs : St g (63 - k) k a b 256) : Inv g (k + 1) b := by
 unfold Inv at h ⊢; unfold St at hs
 rw [show 63 - k + 1 = 64 - k by omega] at hs
 rw [show 64 - (k + 1) = 63 - k by omega]
 exact hs.symm.trans h
theorem Inv.last {g : Nat → Bool} {a : Nat → Int} (h : Inv g 64 a) : wrap64 (a 0) = wrap64 (tiles g : Int) := by
 unfold Inv sumW at h
 rw [si_one (c := 0) (by omega) (fun i hi hne => by rw [show 64 - 64 = 0 from rfl, W_zero, if_neg hne]; simp)] at h
 rw [show 64 - 64 = 0 from rfl, W_zero, if_pos rfl] at h
 simpa using h.wrap
def R (C : Nat → Nat) (L : Nat) : Nat → Nat → Nat → (Nat → Bool) → Nat
 | _, _, 0, _ => 1
 | 0, _, _ + 1, _ => 0
 | n + 1, f, m + 1, u => R C L n (f + 1) (m + 1) u + if u f = true then 0 else sm L (fun k => if f < k ∧ u k = false ∧ adj (C f) (C k) = true then R C L n (f + 1) m (fun i => u i || decide (i = k)) else 0)
end Go.Proofs.YtmajllgfmclcoaaGreatDoor.Cnt
namespace Go.Proofs.YtmajllgfmclcoaaGreatDoor.Cnt
open Go.RowKit Go.Proofs.YtmajllgfmclcoaaGreatDoor.Pure
def gR (xs : List Int) : Nat → Bool := fun j => decide (j < 64) && bitB (rowD xs (j / 8)) (j % 8)
theorem gR_out (xs : List Int) : ∀ j, 64 ≤ j → gR xs j = false := fun j h => by unfold gR; rw [decide_eq_false (by omega)]; rfl
theorem gR_in {xs : List Int} {j : Nat} (h : j < 64) : gR xs j = bitB (rowD xs (j / 8)) (j % 8) := by unfold gR; rw [decide_eq_true h]; rfl
theorem put_bit : ∀ r : Fin 256, ∀ k : Fin 8, ∀ i : Fin 8, bitB (putB ((r.val : Nat) : Int) k.val false) i.val = (bitB ((r.val : Nat) : Int) i.val && decide (i.val ≠ k.val)) := by decide +kernel
theorem gR_with {xs : List Int} (ho : okR xs) {x y : Nat} (hx : x < 8) (hy : y < 8) (j : Nat) : gR (withR xs x y false) j = (gR xs j && decide (j ≠ y * 8 + x)) := by
 by_cases h : j < 64
 ·rw [gR_in h, gR_in h, rowD_with ho.1 x hy]
  by_cases q : j / 8 = y
  ·rw [if_pos q, q]
   have r0 := rowD_ok ho y
   have t := put_bit ⟨(rowD xs y).toNat, by omega⟩ ⟨x, hx⟩ ⟨j % 8, Nat.mod_lt _ (by omega)⟩
   have e : (((rowD xs y).toNat : Nat) : Int) = rowD xs y := Int.toNat_of_nonneg r0.1
   simp only [e] at t
   rw [t]
   congr 1
   rw [Bool.eq_iff_iff, decide_eq_true_iff, decide_eq_true_iff]
   omega
  ·rw [if_neg q, decide_eq_true (show j ≠ y * 8 + x by omega), Bool.and_true]
 ·rw [gR_out _ j (by omega), gR_out _ j (by omega)]; rfl
def tilesR (xs : List Int) : Int := if okR xs then wrap64 (tiles (gR xs) : Int) else 0
theorem tilesR_ok {xs : List Int} (h : okR xs) : tilesR xs = wrap64 (tiles (gR xs) : Int) := if_pos h
theorem tilesR_not {xs : List Int} (h : ¬ okR xs) : tilesR xs = 0 := if_neg h
def gq (a b : Nat) : Nat → Bool := fun j => decide (j % 8 < a) && decide (j / 8 < b)
theorem gq_table : ∀ a : Fin 9, ∀ b : Fin 9, ∀ j : Fin 64, 1 ≤ a.val → 1 ≤ b.val → gR (rectR ((a.val : Nat) : Int) ((b.val : Nat) : Int)) j.val = gq a.val b.val j.val := by decide +kernel
theorem rect_gq {a b : Nat} (ha : 1 ≤ a ∧ a ≤ 8) (hb : 1 ≤ b ∧ b ≤ 8) : gR (rectR (a : Int) (b : Int)) = gq a b := by
 funext j
 by_cases h : j < 64
 ·exact gq_table ⟨a, by omega⟩ ⟨b, by omega⟩ ⟨j, h⟩ ha.1 hb.1
 ·rw [gR_out _ j (by omega)]
  unfold gq
  rw [decide_eq_false (show ¬ j / 8 < b by omega), Bool.and_false]
theorem rect_ok {a b : Nat} (ha : 1 ≤ a ∧ a ≤ 8) (hb : 1 ≤ b ∧ b ≤ 8) : okR (rectR (a : Int) (b : Int)) := by
 have : ∀ a : Fin 9, ∀ b : Fin 9, 1 ≤ a.val → 1 ≤ b.val → okR (rectR ((a.val : Nat) : Int) ((b.val : Nat) : Int)) := by decide +kernel
 exact this ⟨a, by omega⟩ ⟨b, by omega⟩ ha.1 hb.1
theorem rect_tiles {a b : Nat} (ha : 1 ≤ a ∧ a ≤ 8) (hb : 1 ≤ b ∧ b ≤ 8) : tilesR (rectR (a : Int) (b : Int)) = wrap64 (W (gq a b) 64 0 0 : Int) := by
 rw [tilesR_ok (rect_ok ha hb), ← W_tiles (gR_out _), rect_gq ha hb]
def idxs (xs : List Int) : List Nat := (List.range 64).filter (gR xs)
theorem idxs_cells (xs : List Int) : cellsTo xs 64 = (idxs xs).map fun j => (((j % 8 : Nat) : Int), ((j / 8 : Nat) : Int)) := by
 unfold cellsTo idxs
 have e : (List.range 64).filter (fun j => bitB (rowD xs (j / 8)) (j % 8)) = (List.range 64).filter (gR xs) := List.filter_congr (fun j hj => (gR_in (List.mem_range.1 hj)).symm)
 rw [e]
end Go.Proofs.YtmajllgfmclcoaaGreatDoor.Cnt
