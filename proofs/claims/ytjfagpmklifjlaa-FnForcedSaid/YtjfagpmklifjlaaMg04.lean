/- CntW, CntS, CntR in one text. -/
import Derived.Test.YtjfagpmklifjlaaMg03

namespace Go.Proofs.Ytjfagpmklifjlaa.Cnt
set_option linter.unusedVariables false
set_option linter.unusedSimpArgs false

theorem bit_sub : ∀ s, s < 256 → ∀ x, x < 8 → s.testBit x = true → s - 2 ^ x < 256 ∧ ∀ i, i < 8 → (s - 2 ^ x).testBit i = (s.testBit i && decide (i ≠ x)) := by decide +kernel
theorem bit_add : ∀ s, s < 256 → ∀ x, x < 8 → s.testBit x = false → s + 2 ^ x < 256 ∧ ∀ i, i < 8 → (s + 2 ^ x).testBit i = (s.testBit i || decide (i = x)) := by decide +kernel
theorem bit_none : ∀ s, s < 256 → (∀ i, i < 8 → s.testBit i = false) → s = 0 := by decide +kernel
def W (g : Nat → Bool) : Nat → Nat → Nat → Nat
 | 0, _, s => if s = 0 then 1 else 0
 | n + 1, k, s => if g k = true then
   if s.testBit (k % 8) = true then W g n (k + 1) (s - 2 ^ (k % 8))
   else (if g (k + 8) = true then W g n (k + 1) (s + 2 ^ (k % 8)) else 0) + (if k % 8 ≠ 7 ∧ g (k + 1) = true ∧ s.testBit (k % 8 + 1) = false then W g n (k + 1) (s + 2 ^ (k % 8 + 1)) else 0)
  else if s.testBit (k % 8) = true then 0 else W g n (k + 1) s
theorem W_zero (g : Nat → Bool) (k s : Nat) : W g 0 k s = if s = 0 then 1 else 0 := rfl
theorem W_out {g : Nat → Bool} {n k s : Nat} (h : g k = false) (hs : s.testBit (k % 8) = true) : W g (n + 1) k s = 0 := by
 show (if g k = true then _ else _) = _
 rw [if_neg (by rw [h]; simp), if_pos hs]
theorem W_no {g : Nat → Bool} {n k s : Nat} (h : g k = false) (hs : s.testBit (k % 8) = false) : W g (n + 1) k s = W g n (k + 1) s := by
 show (if g k = true then _ else _) = _
 rw [if_neg (by rw [h]; simp), if_neg (by rw [hs]; simp)]
theorem W_cov {g : Nat → Bool} {n k s : Nat} (h : g k = true) (hs : s.testBit (k % 8) = true) : W g (n + 1) k s = W g n (k + 1) (s - 2 ^ (k % 8)) := by
 show (if g k = true then _ else _) = _
 rw [if_pos h, if_pos hs]
theorem W_two {g : Nat → Bool} {n k s : Nat} (h : g k = true) (hs : s.testBit (k % 8) = false) : W g (n + 1) k s = (if g (k + 8) = true then W g n (k + 1) (s + 2 ^ (k % 8)) else 0) + (if k % 8 ≠ 7 ∧ g (k + 1) = true ∧ s.testBit (k % 8 + 1) = false then W g n (k + 1) (s + 2 ^ (k % 8 + 1)) else 0) := by
 show (if g k = true then _ else _) = _
 rw [if_pos h, if_neg (by rw [hs]; simp)]
def G (g : Nat → Bool) (k s : Nat) : Nat → Bool := fun j => g j && decide (k ≤ j) && !(decide (j < k + 8) && s.testBit (j % 8))
theorem G_iff {g : Nat → Bool} {k s j : Nat} : G g k s j = true ↔ g j = true ∧ k ≤ j ∧ ¬ (j < k + 8 ∧ s.testBit (j % 8) = true) := by
 unfold G; simp only [Bool.and_eq_true, decide_eq_true_eq, Bool.not_eq_true', Bool.and_eq_false_iff, decide_eq_false_iff_not]
 constructor
 ·rintro ⟨⟨a, b⟩, c⟩; refine ⟨a, b, ?_⟩; rintro ⟨d, e⟩; rcases c with c | c
  ·exact c d
  ·rw [c] at e; cases e
 ·rintro ⟨a, b, c⟩; refine ⟨⟨a, b⟩, ?_⟩
  by_cases d : j < k + 8
  ·right; cases e : s.testBit (j % 8) with
   | false => rfl
   | true => exact absurd ⟨d, e⟩ c
  ·left; exact d
theorem G_eq {g h : Nat → Bool} (e : ∀ j, g j = true ↔ h j = true) : g = h := by funext j; rw [Bool.eq_iff_iff]; exact e j
theorem W_T {g : Nat → Bool} (hg : ∀ j, 64 ≤ j → g j = false) : ∀ (n k s : Nat), k + n = 64 → s < 256 → (∀ i, i < 8 → s.testBit ((k + i) % 8) = true → g (k + i) = true) → W g n k s = T n k (G g k s)
 | 0, k, s, hk, hs, hv => by
  have : s = 0 := bit_none s hs (fun i hi => by
   cases h : s.testBit i with
   | false => rfl
   | true =>
    have := hv i hi (by rw [show (k + i) % 8 = i by omega]; exact h)
    rw [hg (k + i) (by omega)] at this; cases this)
  rw [W_zero, if_pos this]; rfl
 | n + 1, k, s, hk, hs, hv => by
  have hx : k % 8 < 8 := Nat.mod_lt _ (by omega)
  by_cases hgk : g k = true
  ·cases hb : s.testBit (k % 8) with
   | true =>
    obtain ⟨b1, b2⟩ := bit_sub s hs _ hx hb
    rw [W_cov hgk hb, T_no (by rw [Bool.eq_false_iff, Ne, G_iff]; rintro ⟨_, _, h⟩; exact h ⟨by omega, hb⟩), W_T hg n (k + 1) _ (by omega) b1 ?_]
    ·congr 1
     refine G_eq (fun j => ?_)
     rw [G_iff, G_iff]
     have hj : j % 8 < 8 := Nat.mod_lt _ (by omega)
     rw [b2 _ hj]
     simp only [Bool.and_eq_true, decide_eq_true_eq]
     constructor
     ·rintro ⟨p1, p2, p3⟩; exact ⟨p1, by omega, fun q => p3 ⟨by omega, q.2, by omega⟩⟩
     ·rintro ⟨p1, p2, p3⟩
      have : j ≠ k := fun q => p3 ⟨by omega, by rw [q]; exact hb⟩
      exact ⟨p1, by omega, fun q => p3 ⟨by omega, q.2.1⟩⟩
    ·intro i hi q
     rw [b2 _ (Nat.mod_lt _ (by omega))] at q
     simp only [Bool.and_eq_true, decide_eq_true_eq] at q
     have := hv (i + 1) (by omega) (by rw [show k + (i + 1) = k + 1 + i by omega]; exact q.1)
     rw [show k + 1 + i = k + (i + 1) by omega]; exact this
   | false =>
    have hGk : G g k s k = true := by rw [G_iff]; exact ⟨hgk, by omega, fun q => by rw [hb] at q; cases q.2⟩
    rw [W_two hgk hb, T_yes hGk]
    have e : ∀ b, b < 64 → (if adj k b = true ∧ G g k s b = true then T n (k + 1) (rem (G g k s) k b) else 0) = (if adj k b = true then (if G g k s b = true then T n (k + 1) (rem (G g k s) k b) else 0) else 0) := by
     intro b _
     by_cases p : adj k b = true <;> by_cases q : G g k s b = true <;> simp [p, q]
    rw [sm_congr e, sm_four (by omega) (fun b => if G g k s b = true then T n (k + 1) (rem (G g k s) k b) else 0)]
    have z1 : (if k % 8 ≠ 0 then (if G g k s (k - 1) = true then T n (k + 1) (rem (G g k s) k (k - 1)) else 0) else 0) = 0 := by
     by_cases p : k % 8 ≠ 0
     ·rw [if_pos p, if_neg (by rw [G_iff]; omega)]
     ·rw [if_neg p]
    have z2 : (if 8 ≤ k then (if G g k s (k - 8) = true then T n (k + 1) (rem (G g k s) k (k - 8)) else 0) else 0) = 0 := by
     by_cases p : 8 ≤ k
     ·rw [if_pos p, if_neg (by rw [G_iff]; omega)]
     ·rw [if_neg p]
    rw [z1, z2]
    have d : (if g (k + 8) = true then W g n (k + 1) (s + 2 ^ (k % 8)) else 0) = (if k + 8 < 64 then (if G g k s (k + 8) = true then T n (k + 1) (rem (G g k s) k (k + 8)) else 0) else 0) := by
     by_cases p : g (k + 8) = true
     ·have h64 : k + 8 < 64 := by
       by_cases q : k + 8 < 64
       ·exact q
       ·rw [hg (k + 8) (by omega)] at p; cases p
      obtain ⟨b1, b2⟩ := bit_add s hs _ hx hb
      rw [if_pos p, if_pos h64, if_pos (by rw [G_iff]; exact ⟨p, by omega, fun q => by omega⟩), W_T hg n (k + 1) _ (by omega) b1 ?_]
      ·congr 1
       refine G_eq (fun j => ?_)
       rw [G_iff, rem_iff, G_iff]
       have hj : j % 8 < 8 := Nat.mod_lt _ (by omega)
       rw [b2 _ hj]
       simp only [Bool.or_eq_true, decide_eq_true_eq]
       constructor
       ·rintro ⟨p1, p2, p3⟩
        exact ⟨⟨p1, by omega, fun q => p3 ⟨by omega, Or.inl q.2⟩⟩, by omega, fun q => p3 ⟨by omega, Or.inr (by omega)⟩⟩
       ·rintro ⟨⟨p1, p2, p3⟩, p4, p5⟩
        refine ⟨p1, by omega, ?_⟩
        rintro ⟨q1, q2 | q2⟩
        ·exact p3 ⟨by omega, q2⟩
        ·omega
      ·intro i hi q
       rw [b2 _ (Nat.mod_lt _ (by omega))] at q
       simp only [Bool.or_eq_true, decide_eq_true_eq] at q
       by_cases h7 : i = 7
       ·subst h7; exact p
       ·rcases q with q | q
        ·have := hv (i + 1) (by omega) (by rw [show k + (i + 1) = k + 1 + i by omega]; exact q)
         rw [show k + 1 + i = k + (i + 1) by omega]; exact this
        ·omega
     ·rw [if_neg p]
      by_cases h64 : k + 8 < 64
      ·rw [if_pos h64, if_neg (by rw [G_iff]; exact fun q => p q.1)]
      ·rw [if_neg h64]
    have r : (if k % 8 ≠ 7 ∧ g (k + 1) = true ∧ s.testBit (k % 8 + 1) = false then W g n (k + 1) (s + 2 ^ (k % 8 + 1)) else 0) = (if k % 8 ≠ 7 then (if G g k s (k + 1) = true then T n (k + 1) (rem (G g k s) k (k + 1)) else 0) else 0) := by
     by_cases h7 : k % 8 ≠ 7
     ·rw [if_pos h7]
      have hm : (k + 1) % 8 = k % 8 + 1 := by omega
      by_cases p : g (k + 1) = true ∧ s.testBit (k % 8 + 1) = false
      ·obtain ⟨b1, b2⟩ := bit_add s hs (k % 8 + 1) (by omega) p.2
       rw [if_pos ⟨h7, p⟩, if_pos (by rw [G_iff, hm]; exact ⟨p.1, by omega, fun q => by rw [p.2] at q; cases q.2⟩), W_T hg n (k + 1) _ (by omega) b1 ?_]
       ·congr 1
        refine G_eq (fun j => ?_)
        rw [G_iff, rem_iff, G_iff]
        have hj : j % 8 < 8 := Nat.mod_lt _ (by omega)
        rw [b2 _ hj]
        simp only [Bool.or_eq_true, decide_eq_true_eq]
        constructor
        ·rintro ⟨p1, p2, p3⟩
         exact ⟨⟨p1, by omega, fun q => p3 ⟨by omega, Or.inl q.2⟩⟩, by omega, fun q => p3 ⟨by omega, Or.inr (by omega)⟩⟩
        ·rintro ⟨⟨p1, p2, p3⟩, p4, p5⟩
         refine ⟨p1, by omega, ?_⟩
         rintro ⟨q1, q2 | q2⟩
         ·by_cases e8 : j = k + 8
          ·rw [e8, show (k + 8) % 8 = k % 8 by omega, hb] at q2; cases q2
          ·exact p3 ⟨by omega, q2⟩
         ·omega
       ·intro i hi q
        rw [b2 _ (Nat.mod_lt _ (by omega))] at q
        simp only [Bool.or_eq_true, decide_eq_true_eq] at q
        by_cases h7' : i = 7
        ·subst h7'
         rcases q with q | q
         ·rw [show (k + 1 + 7) % 8 = k % 8 by omega, hb] at q; cases q
         ·omega
        ·rcases q with q | q
         ·have := hv (i + 1) (by omega) (by rw [show k + (i + 1) = k + 1 + i by omega]; exact q)
          rw [show k + 1 + i = k + (i + 1) by omega]; exact this
         ·rw [show i = 0 by omega]; exact p.1
      ·rw [if_neg (fun q => p q.2), if_neg]
       rw [G_iff, hm]
       rintro ⟨q1, _, q3⟩
       refine p ⟨q1, ?_⟩
       cases hh : s.testBit (k % 8 + 1) with
       | false => rfl
       | true => exact absurd ⟨by omega, hh⟩ q3
     ·rw [if_neg h7, if_neg (fun q => h7 q.1)]
    rw [d, r]; omega
  ·have hb : s.testBit (k % 8) = false := by
    cases h : s.testBit (k % 8) with
    | false => rfl
    | true => exact absurd (hv 0 (by omega) h) hgk
   have hgk : g k = false := by simpa using hgk
   rw [W_no hgk hb, T_no (by rw [Bool.eq_false_iff, Ne, G_iff]; rintro ⟨h, _⟩; rw [hgk] at h; cases h), W_T hg n (k + 1) _ (by omega) hs ?_]
   ·congr 1
    refine G_eq (fun j => ?_)
    rw [G_iff, G_iff]
    constructor
    ·rintro ⟨p1, p2, p3⟩; exact ⟨p1, by omega, fun q => p3 ⟨by omega, q.2⟩⟩
    ·rintro ⟨p1, p2, p3⟩
     have : j ≠ k := fun q => by rw [q, hgk] at p1; cases p1
     refine ⟨p1, by omega, fun q => ?_⟩
     by_cases e8 : j = k + 8
     ·rw [e8, show (k + 8) % 8 = k % 8 by omega, hb] at q; cases q.2
     ·exact p3 ⟨by omega, q.2⟩
   ·intro i hi q
    by_cases h7 : i = 7
    ·subst h7; rw [show (k + 1 + 7) % 8 = k % 8 by omega, hb] at q; cases q
    ·have := hv (i + 1) (by omega) (by rw [show k + (i + 1) = k + 1 + i by omega]; exact q)
     rw [show k + 1 + i = k + (i + 1) by omega]; exact this
theorem W_tiles {g : Nat → Bool} (hg : ∀ j, 64 ≤ j → g j = false) : W g 64 0 0 = tiles g := by
 rw [W_T hg 64 0 0 rfl (by omega) (fun i _ q => by simp at q)]
 unfold tiles
 congr 1
 refine G_eq (fun j => ?_)
 rw [G_iff]; simp
end Go.Proofs.Ytjfagpmklifjlaa.Cnt

namespace Go.Proofs.Ytjfagpmklifjlaa.Cnt
set_option linter.unusedVariables false
set_option linter.unusedSimpArgs false
open Go.RowKit

def D (x y : Int) : Prop := ∃ q : Int, x = y + 18446744073709551616 * q
theorem D.refl (x : Int) : D x x := ⟨0, by omega⟩
theorem D.symm {x y : Int} (h : D x y) : D y x := by obtain ⟨q, h⟩ := h; exact ⟨-q, by omega⟩
theorem D.trans {x y z : Int} (h : D x y) (h' : D y z) : D x z := by
 obtain ⟨q, h⟩ := h; obtain ⟨q', h'⟩ := h'; exact ⟨q + q', by omega⟩
theorem D.add {x y u v : Int} (h : D x y) (h' : D u v) : D (x + u) (y + v) := by
 obtain ⟨q, h⟩ := h; obtain ⟨q', h'⟩ := h'; exact ⟨q + q', by omega⟩
theorem D.mul {x y : Int} (h : D x y) (c : Int) : D (x * c) (y * c) := by
 obtain ⟨q, h⟩ := h; exact ⟨q * c, by rw [h, Int.add_mul, Int.mul_assoc]⟩
theorem D_wrap (x : Int) : D (wrap64 x) x := by
 refine ⟨(wrap64 x - x) / 18446744073709551616, ?_⟩
 unfold wrap64; omega
theorem D.wrap {x y : Int} (h : D x y) : wrap64 x = wrap64 y := by
 obtain ⟨q, h⟩ := h; unfold wrap64; omega
def si : Nat → (Nat → Int) → Int
 | 0, _ => 0
 | n + 1, f => si n f + f n
theorem si_congr {n : Nat} {f h : Nat → Int} (e : ∀ i, i < n → f i = h i) : si n f = si n h := by
 induction n with
 | zero => rfl
 | succ n ih => unfold si; rw [ih (fun i hi => e i (by omega)), e n (by omega)]
theorem si_zero {n : Nat} {f : Nat → Int} (e : ∀ i, i < n → f i = 0) : si n f = 0 := by
 induction n with
 | zero => rfl
 | succ n ih => unfold si; rw [ih (fun i hi => e i (by omega)), e n (by omega)]; rfl
theorem si_one {n c : Nat} (hc : c < n) {f : Nat → Int} (h : ∀ i, i < n → i ≠ c → f i = 0) : si n f = f c := by
 induction n with
 | zero => omega
 | succ n ih =>
  unfold si
  by_cases e : c = n
  ·subst e; rw [si_zero (fun i hi => h i (by omega) (by omega))]; omega
  ·rw [ih (by omega) (fun i hi hne => h i (by omega) hne), h n (by omega) (by omega)]; omega
def upd (b : Nat → Int) (t : Nat) (v : Int) : Nat → Int := fun i => if i = t then v else b i
theorem upd_at (b : Nat → Int) (t : Nat) (v : Int) : upd b t v t = v := if_pos rfl
theorem upd_ne {b : Nat → Int} {t i : Nat} {v : Int} (h : i ≠ t) : upd b t v i = b i := if_neg h
theorem si_upd {n t : Nat} (ht : t < n) (b w : Nat → Int) (v : Int) : si n (fun i => upd b t v i * w i) = si n (fun i => b i * w i) + (v - b t) * w t := by
 induction n with
 | zero => omega
 | succ n ih =>
  show si n (fun i => upd b t v i * w i) + upd b t v n * w n = si n (fun i => b i * w i) + b n * w n + (v - b t) * w t
  by_cases e : t = n
  ·subst e
   rw [upd_at, si_congr (n := t) (f := fun i => upd b t v i * w i) (h := fun i => b i * w i) (fun i hi => by show upd b t v i * w i = _; rw [upd_ne (by omega)]), Int.sub_mul]
   omega
  ·rw [ih (by omega), upd_ne (fun h => e h.symm)]; omega
def sumW (g : Nat → Bool) (n k s : Nat) (a : Nat → Int) : Int := si s (fun i => a i * (W g n k i : Int))
theorem D_add1 {L v : Int} {g : Nat → Bool} {n k t : Nat} {b : Nat → Int} (h : D L (sumW g n k 256 b)) (ht : t < 256) : D (L + v * (W g n k t : Int)) (sumW g n k 256 (upd b t (wrap64 (b t + v)))) := by
 unfold sumW at h ⊢
 rw [si_upd ht]
 refine h.add ?_
 refine D.mul ?_ _
 have := D_wrap (b t + v)
 obtain ⟨q, hq⟩ := this
 exact ⟨-q, by omega⟩
def St (g : Nat → Bool) (n k : Nat) (a b : Nat → Int) (s : Nat) : Prop := D (sumW g (n + 1) k s a) (sumW g n (k + 1) 256 b)
theorem St.start (g : Nat → Bool) (n k : Nat) (a : Nat → Int) : St g n k a (fun _ => 0) 0 := by
 unfold St sumW
 rw [si_zero (n := 256) (fun i _ => by simp)]
 exact D.refl 0
theorem St.skip {g : Nat → Bool} {n k s : Nat} {a b : Nat → Int} (h : St g n k a b s) (e : a s = 0) : St g n k a b (s + 1) := by
 unfold St at h ⊢
 show D (sumW g (n + 1) k s a + a s * _) _
 rw [e, Int.zero_mul, Int.add_zero]; exact h
theorem St.out {g : Nat → Bool} {n k s : Nat} {a b : Nat → Int} (h : St g n k a b s) (hg : g k = false) (hb : s.testBit (k % 8) = true) : St g n k a b (s + 1) := by
 unfold St at h ⊢
 show D (sumW g (n + 1) k s a + a s * (W g (n + 1) k s : Int)) _
 rw [W_out hg hb]; simpa using h
theorem St.no {g : Nat → Bool} {n k s : Nat} {a b : Nat → Int} (h : St g n k a b s) (hs : s < 256) (hg : g k = false) (hb : s.testBit (k % 8) = false) : St g n k a (upd b s (wrap64 (b s + a s))) (s + 1) := by
 unfold St at h ⊢
 show D (sumW g (n + 1) k s a + a s * (W g (n + 1) k s : Int)) _
 rw [W_no hg hb]
 exact D_add1 h hs
theorem St.cov {g : Nat → Bool} {n k s : Nat} {a b : Nat → Int} (h : St g n k a b s) (hs : s < 256) (hg : g k = true) (hb : s.testBit (k % 8) = true) : St g n k a (upd b (s - 2 ^ (k % 8)) (wrap64 (b (s - 2 ^ (k % 8)) + a s))) (s + 1) := by
 unfold St at h ⊢
 show D (sumW g (n + 1) k s a + a s * (W g (n + 1) k s : Int)) _
 rw [W_cov hg hb]
 exact D_add1 h (bit_sub s hs _ (Nat.mod_lt _ (by omega)) hb).1
def dn (g : Nat → Bool) (k s : Nat) (v : Int) (b : Nat → Int) : Nat → Int := if g (k + 8) = true then upd b (s + 2 ^ (k % 8)) (wrap64 (b (s + 2 ^ (k % 8)) + v)) else b
def rt (g : Nat → Bool) (k s : Nat) (v : Int) (b : Nat → Int) : Nat → Int := if k % 8 ≠ 7 ∧ g (k + 1) = true ∧ s.testBit (k % 8 + 1) = false then upd b (s + 2 ^ (k % 8 + 1)) (wrap64 (b (s + 2 ^ (k % 8 + 1)) + v)) else b
theorem St.two {g : Nat → Bool} {n k s : Nat} {a b : Nat → Int} (h : St g n k a b s) (hs : s < 256) (hg : g k = true) (hb : s.testBit (k % 8) = false) : St g n k a (rt g k s (a s) (dn g k s (a s) b)) (s + 1) := by
 unfold St at h ⊢
 show D (sumW g (n + 1) k s a + a s * (W g (n + 1) k s : Int)) _
 rw [W_two hg hb, Int.natCast_add, Int.mul_add, ← Int.add_assoc]
 have h1 : D (sumW g (n + 1) k s a + a s * ((if g (k + 8) = true then W g n (k + 1) (s + 2 ^ (k % 8)) else 0 : Nat) : Int)) (sumW g n (k + 1) 256 (dn g k s (a s) b)) := by
  unfold dn
  by_cases p : g (k + 8) = true
  ·rw [if_pos p, if_pos p]; exact D_add1 h (bit_add s hs _ (Nat.mod_lt _ (by omega)) hb).1
  ·rw [if_neg p, if_neg p]; simpa using h
 unfold rt
 by_cases p : k % 8 ≠ 7 ∧ g (k + 1) = true ∧ s.testBit (k % 8 + 1) = false
 ·rw [if_pos p, if_pos p]; exact D_add1 h1 (bit_add s hs _ (by omega) p.2.2).1
 ·rw [if_neg p, if_neg p]; simpa using h1
def Inv (g : Nat → Bool) (k : Nat) (a : Nat → Int) : Prop := D (sumW g (64 - k) k 256 a) (tiles g : Int)
theorem Inv.start {g : Nat → Bool} (hg : ∀ j, 64 ≤ j → g j = false) {a : Nat → Int} (h0 : a 0 = 1) (h : ∀ i, i < 256 → i ≠ 0 → a i = 0) : Inv g 0 a := by
 unfold Inv sumW
 rw [si_one (c := 0) (by omega) (fun i hi hne => by rw [h i hi hne, Int.zero_mul]), h0, Int.one_mul, W_tiles hg]
 exact D.refl _
theorem Inv.next {g : Nat → Bool} {k : Nat} {a b : Nat → Int} (hk : k < 64) (h : Inv g k a) (hs : St g (63 - k) k a b 256) : Inv g (k + 1) b := by
 unfold Inv at h ⊢; unfold St at hs
 rw [show 63 - k + 1 = 64 - k by omega] at hs
 rw [show 64 - (k + 1) = 63 - k by omega]
 exact hs.symm.trans h
theorem Inv.last {g : Nat → Bool} {a : Nat → Int} (h : Inv g 64 a) : wrap64 (a 0) = wrap64 (tiles g : Int) := by
 unfold Inv sumW at h
 rw [si_one (c := 0) (by omega) (fun i hi hne => by rw [show 64 - 64 = 0 from rfl, W_zero, if_neg hne]; simp)] at h
 rw [show 64 - 64 = 0 from rfl, W_zero, if_pos rfl] at h
 simpa using h.wrap
def R (C : Nat → Nat) (L : Nat) : Nat → Nat → Nat → (Nat → Bool) → Nat
 | _, _, 0, _ => 1
 | 0, _, _ + 1, _ => 0
 | n + 1, f, m + 1, u => R C L n (f + 1) (m + 1) u + if u f = true then 0 else sm L (fun k => if f < k ∧ u k = false ∧ adj (C f) (C k) = true then R C L n (f + 1) m (fun i => u i || decide (i = k)) else 0)
theorem sm_place {N : Nat} : ∀ {L : Nat} {C : Nat → Nat} {F : Nat → Nat}, (∀ i, i < L → C i < N) → (∀ i j, i < j → j < L → C i ≠ C j) → (∀ j, j < N → (∀ i, i < L → C i ≠ j) → F j = 0) → sm N F = sm L (fun i => F (C i))
 | 0, C, F, _, _, h0 => sm_zero (fun j hj => h0 j hj (fun i hi => by omega))
 | L + 1, C, F, h1, h2, h0 => by
  show sm N F = sm L (fun i => F (C i)) + F (C L)
  rw [sm_out (h1 L (by omega)) F, sm_place (L := L) (C := C) (F := fun i => if i = C L then 0 else F i) (fun i hi => h1 i (by omega)) (fun i j hi hj => h2 i j hi (by omega)) ?_]
  ·rw [sm_congr (n := L) (h := fun i => F (C i)) (fun i hi => if_neg (h2 i L hi (by omega)))]; omega
  ·intro j hj hn
   by_cases e : j = C L
   ·exact if_pos e
   ·show (if j = C L then 0 else F j) = 0
    rw [if_neg e]
    refine h0 j hj (fun i hi => ?_)
    by_cases q : i = L
    ·rw [q]; exact fun r => e r.symm
    ·exact hn i (by omega)
theorem P_skip {m : Nat} {g : Nat → Bool} : ∀ (d n k : Nat), (∀ j, k ≤ j → j < k + d → g j = false) → P (n + d) k m g = P n (k + d) m g
 | 0, n, k, _ => rfl
 | d + 1, n, k, h => by
  have := P_skip (m := m) (g := g) d n (k + 1) (fun j h1 h2 => h j (by omega) (by omega))
  rw [show k + (d + 1) = k + 1 + d by omega, ← this]
  cases m with
  | zero => rw [P_zero, P_zero]
  | succ m =>
   show P (n + d) (k + 1) (m + 1) g + (if g k = true then _ else 0) = _
   rw [if_neg (by rw [h k (by omega) (by omega)]; simp), Nat.add_zero]
structure Lists (g0 : Nat → Bool) (C : Nat → Nat) (L : Nat) : Prop where
 asc : ∀ i j, i < j → j < L → C i < C j
 mem : ∀ i, i < L → C i < 64 ∧ g0 (C i) = true
 all : ∀ j, j < 64 → g0 j = true → ∃ i, i < L ∧ C i = j
theorem R_P {g0 : Nat → Bool} {C : Nat → Nat} {L : Nat} (hl : Lists g0 C L) : ∀ (n f m k : Nat) (u g : Nat → Bool), f + n = L → k ≤ 64 → (∀ i, i < f → C i < k) → (∀ i, f ≤ i → i < L → k ≤ C i) → (∀ j, k ≤ j → (g j = true ↔ ∃ i, i < L ∧ C i = j ∧ u i = false)) → R C L n f m u = P (64 - k) k m g
 | n, f, 0, k, u, g, _, _, _, _, _ => by rw [P_zero]; cases n <;> rfl
 | 0, f, m + 1, k, u, g, hf, hk, h1, h2, hg => by
  have e := P_skip (m := m + 1) (g := g) (64 - k) 0 k (fun j p q => by
   rw [Bool.eq_false_iff, Ne, hg j p]
   rintro ⟨i, hi, hc, _⟩
   have := h1 i (by omega); omega)
  rw [Nat.zero_add] at e
  rw [e]; rfl
 | n + 1, f, m + 1, k, u, g, hf, hk, h1, h2, hg => by
  have hfL : f < L := by omega
  obtain ⟨hc64, hgc⟩ := hl.mem f hfL
  have hkc := h2 f (by omega) hfL
  have e := P_skip (m := m + 1) (g := g) (C f - k) (64 - C f) k (fun j p q => by
   rw [Bool.eq_false_iff, Ne, hg j p]
   rintro ⟨i, hi, hc, _⟩
   by_cases q : i < f
   ·have := h1 i q; omega
   ·by_cases r : i = f
    ·rw [r] at hc; omega
    ·have := hl.asc f i (by omega) hi; omega)
  rw [show 64 - C f + (C f - k) = 64 - k by omega, show k + (C f - k) = C f by omega] at e
  rw [e, show 64 - C f = (64 - (C f + 1)) + 1 by omega]
  have a1 : ∀ i, i < f + 1 → C i < C f + 1 := fun i hi => by
   by_cases q : i = f
   ·rw [q]; omega
   ·have := hl.asc i f (by omega) hfL; omega
  have a2 : ∀ i, f + 1 ≤ i → i < L → C f + 1 ≤ C i := fun i p q => hl.asc f i (by omega) q
  show R C L n (f + 1) (m + 1) u + _ = P (64 - (C f + 1)) (C f + 1) (m + 1) g + _
  rw [R_P hl n (f + 1) (m + 1) (C f + 1) u g (by omega) (by omega) a1 a2 (fun j hj => hg j (by omega))]
  congr 1
  have hgf : g (C f) = true ↔ u f = false := by
   rw [hg _ hkc]
   constructor
   ·rintro ⟨i, hi, hc, hu⟩
    by_cases q : i < f
    ·have := hl.asc i f q hfL; omega
    ·by_cases r : i = f
     ·rw [← r]; exact hu
     ·have := hl.asc f i (by omega) hi; omega
   ·intro hu; exact ⟨f, hfL, rfl, hu⟩
  by_cases hu : u f = true
  ·rw [if_pos hu, if_neg (by rw [hgf, hu]; simp)]
  ·have hu : u f = false := by simpa using hu
   rw [if_neg (by rw [hu]; simp), if_pos (hgf.2 hu)]
   rw [sm_place (N := 64) (L := L) (C := C) (fun i hi => (hl.mem i hi).1) (fun i j hi hj => by have := hl.asc i j hi hj; omega) ?_]
   ·refine sm_congr (fun i hi => ?_)
    by_cases q : f < i ∧ u i = false ∧ adj (C f) (C i) = true
    ·have hfi := hl.asc f i q.1 hi
     rw [if_pos q, if_pos ⟨q.2.2, (hg _ (by omega)).2 ⟨i, hi, rfl, q.2.1⟩, hfi⟩]
     refine R_P hl n (f + 1) m (C f + 1) _ _ (by omega) (by omega) a1 a2 (fun j hj => ?_)
     rw [rem_iff, hg j (by omega)]
     constructor
     ·rintro ⟨⟨i', p1, p2, p3⟩, p4, p5⟩
      refine ⟨i', p1, p2, ?_⟩
      simp only [Bool.or_eq_false_iff, decide_eq_false_iff_not]
      exact ⟨p3, fun r => p5 (by rw [← p2, r])⟩
     ·rintro ⟨i', p1, p2, p3⟩
      simp only [Bool.or_eq_false_iff, decide_eq_false_iff_not] at p3
      refine ⟨⟨i', p1, p2, p3.1⟩, by omega, fun r => p3.2 ?_⟩
      rcases Nat.lt_trichotomy i' i with t | t | t
      ·have := hl.asc i' i t hi; omega
      ·exact t
      ·have := hl.asc i i' t p1; omega
    ·rw [if_neg q, if_neg]
     rintro ⟨q1, q2, q3⟩
     obtain ⟨i', p1, p2, p3⟩ := (hg (C i) (by omega)).1 q2
     have hii : i' = i := by
      rcases Nat.lt_trichotomy i' i with t | t | t
      ·have := hl.asc i' i t hi; omega
      ·exact t
      ·have := hl.asc i i' t p1; omega
     refine q ⟨?_, by rw [← hii]; exact p3, q1⟩
     rcases Nat.lt_trichotomy f i with t | t | t
     ·exact t
     ·rw [t] at q3; omega
     ·have := hl.asc i f t hfL; omega
   ·intro j hj hn
    rw [if_neg]
    rintro ⟨_, q2, q3⟩
    obtain ⟨i, p1, p2, _⟩ := (hg j (by omega)).1 q2
    exact hn i p1 p2
end Go.Proofs.Ytjfagpmklifjlaa.Cnt

namespace Go.Proofs.Ytjfagpmklifjlaa.Cnt
set_option linter.unusedVariables false
set_option linter.unusedSimpArgs false
open Go.RowKit Go.Proofs.Ytjfagpmklifjlaa.Pure

def gR (xs : List Int) : Nat → Bool := fun j => decide (j < 64) && bitB (rowD xs (j / 8)) (j % 8)
theorem gR_out (xs : List Int) : ∀ j, 64 ≤ j → gR xs j = false := fun j h => by unfold gR; rw [decide_eq_false (by omega)]; rfl
theorem gR_in {xs : List Int} {j : Nat} (h : j < 64) : gR xs j = bitB (rowD xs (j / 8)) (j % 8) := by unfold gR; rw [decide_eq_true h]; rfl
theorem put_bit : ∀ r : Fin 256, ∀ k : Fin 8, ∀ i : Fin 8, bitB (putB ((r.val : Nat) : Int) k.val false) i.val = (bitB ((r.val : Nat) : Int) i.val && decide (i.val ≠ k.val)) := by decide +kernel
theorem okR_with {xs : List Int} (ho : okR xs) {x y : Nat} (hx : x < 8) (hy : y < 8) : okR (withR xs x y false) := by
 refine ⟨by rw [withR_length ho.1]; omega, fun r hr => ?_⟩
 obtain ⟨i, hi, e⟩ := List.getElem_of_mem hr
 have h := rowD_with ho.1 x hy false i
 rw [rowD_at (List.getElem?_eq_getElem hi), e] at h
 rw [h]
 have r0 := rowD_ok ho y
 have t := table r0.1 r0.2 hx
 by_cases q : i = y
 ·rw [if_pos q]; exact ⟨t.2.2.2.2.2.2.2.1, t.2.2.2.2.2.2.2.2.1⟩
 ·rw [if_neg q]; exact rowD_ok ho i
theorem gR_with {xs : List Int} (ho : okR xs) {x y : Nat} (hx : x < 8) (hy : y < 8) (j : Nat) : gR (withR xs x y false) j = (gR xs j && decide (j ≠ y * 8 + x)) := by
 by_cases h : j < 64
 ·rw [gR_in h, gR_in h, rowD_with ho.1 x hy]
  by_cases q : j / 8 = y
  ·rw [if_pos q, q]
   have r0 := rowD_ok ho y
   have t := put_bit ⟨(rowD xs y).toNat, by omega⟩ ⟨x, hx⟩ ⟨j % 8, Nat.mod_lt _ (by omega)⟩
   have e : (((rowD xs y).toNat : Nat) : Int) = rowD xs y := Int.toNat_of_nonneg r0.1
   simp only [e] at t
   rw [t]
   congr 1
   rw [Bool.eq_iff_iff, decide_eq_true_iff, decide_eq_true_iff]
   omega
  ·rw [if_neg q, decide_eq_true (show j ≠ y * 8 + x by omega), Bool.and_true]
 ·rw [gR_out _ j (by omega), gR_out _ j (by omega)]; rfl
theorem gR_two {xs : List Int} (ho : okR xs) {x y u v : Nat} (hx : x < 8) (hy : y < 8) (hu : u < 8) (hv : v < 8) : gR (withR (withR xs x y false) u v false) = rem (gR xs) (y * 8 + x) (v * 8 + u) := by
 funext j
 rw [gR_with (okR_with ho hx hy) hu hv, gR_with ho hx hy]; rfl
def tilesR (xs : List Int) : Int := if okR xs then wrap64 (tiles (gR xs) : Int) else 0
theorem tilesR_ok {xs : List Int} (h : okR xs) : tilesR xs = wrap64 (tiles (gR xs) : Int) := if_pos h
theorem tilesR_not {xs : List Int} (h : ¬ okR xs) : tilesR xs = 0 := if_neg h
def gq (a b : Nat) : Nat → Bool := fun j => decide (j % 8 < a) && decide (j / 8 < b)
theorem gq_table : ∀ a : Fin 9, ∀ b : Fin 9, ∀ j : Fin 64, 1 ≤ a.val → 1 ≤ b.val → gR (rectR ((a.val : Nat) : Int) ((b.val : Nat) : Int)) j.val = gq a.val b.val j.val := by decide +kernel
theorem rect_gq {a b : Nat} (ha : 1 ≤ a ∧ a ≤ 8) (hb : 1 ≤ b ∧ b ≤ 8) : gR (rectR (a : Int) (b : Int)) = gq a b := by
 funext j
 by_cases h : j < 64
 ·exact gq_table ⟨a, by omega⟩ ⟨b, by omega⟩ ⟨j, h⟩ ha.1 hb.1
 ·rw [gR_out _ j (by omega)]
  unfold gq
  rw [decide_eq_false (show ¬ j / 8 < b by omega), Bool.and_false]
theorem rect_ok {a b : Nat} (ha : 1 ≤ a ∧ a ≤ 8) (hb : 1 ≤ b ∧ b ≤ 8) : okR (rectR (a : Int) (b : Int)) := by
 have : ∀ a : Fin 9, ∀ b : Fin 9, 1 ≤ a.val → 1 ≤ b.val → okR (rectR ((a.val : Nat) : Int) ((b.val : Nat) : Int)) := by decide +kernel
 exact this ⟨a, by omega⟩ ⟨b, by omega⟩ ha.1 hb.1
theorem rect_tiles {a b : Nat} (ha : 1 ≤ a ∧ a ≤ 8) (hb : 1 ≤ b ∧ b ≤ 8) : tilesR (rectR (a : Int) (b : Int)) = wrap64 (W (gq a b) 64 0 0 : Int) := by
 rw [tilesR_ok (rect_ok ha hb), ← W_tiles (gR_out _), rect_gq ha hb]
theorem some_table : ∀ a : Fin 5, ∀ b : Fin 5, (a.val = 2 ∨ a.val = 4) → 2 ≤ b.val → 1 ≤ W (gq a.val b.val) 64 0 0 ∧ W (gq a.val b.val) 64 0 0 ≤ 300 := by decide +kernel
theorem rect_some {a b : Nat} (ha : a = 2 ∨ a = 4) (hb : 2 ≤ b ∧ b ≤ 4) : 1 ≤ tilesR (rectR (a : Int) (b : Int)) ∧ tilesR (rectR (a : Int) (b : Int)) ≤ 300 := by
 rw [rect_tiles (by omega) (by omega)]
 have := some_table ⟨a, by omega⟩ ⟨b, by omega⟩ ha hb.1
 unfold wrap64
 simp only at this
 omega
def idxs (xs : List Int) : List Nat := (List.range 64).filter (gR xs)
theorem idxs_cells (xs : List Int) : cellsTo xs 64 = (idxs xs).map fun j => (((j % 8 : Nat) : Int), ((j / 8 : Nat) : Int)) := by
 unfold cellsTo idxs
 have e : (List.range 64).filter (fun j => bitB (rowD xs (j / 8)) (j % 8)) = (List.range 64).filter (gR xs) := List.filter_congr (fun j hj => (gR_in (List.mem_range.1 hj)).symm)
 rw [e]
def plcN (xs : List Int) (i : Nat) : Nat := (idxs xs).getD i 64
theorem plcN_at {xs : List Int} {i : Nat} (h : i < (idxs xs).length) : plcN xs i = (idxs xs)[i] := by unfold plcN; simp [List.getD, h]
theorem idxs_lists (xs : List Int) : Lists (gR xs) (plcN xs) (idxs xs).length := by
 refine ⟨fun i j hij hj => ?_, fun i hi => ?_, fun j hj hg => ?_⟩
 ·rw [plcN_at (by omega), plcN_at hj]
  have hp : (idxs xs).Pairwise (· < ·) := List.Pairwise.filter _ List.pairwise_lt_range
  exact List.pairwise_iff_getElem.1 hp i j (by omega) hj hij
 ·rw [plcN_at hi]
  have := List.mem_filter.1 (List.getElem_mem hi : (idxs xs)[i] ∈ idxs xs)
  exact ⟨List.mem_range.1 this.1, this.2⟩
 ·obtain ⟨i, hi, e⟩ := List.getElem_of_mem (List.mem_filter.2 ⟨List.mem_range.2 hj, hg⟩ : j ∈ idxs xs)
  exact ⟨i, hi, by rw [plcN_at hi]; exact e⟩
theorem cnt_range (g : Nat → Bool) : ∀ n k, cnt n k g = ((List.range' k n).filter g).length
 | 0, k => rfl
 | n + 1, k => by
  rw [List.range'_succ]
  show (if g k = true then 1 else 0) + cnt n (k + 1) g = _
  rw [cnt_range g n (k + 1)]
  by_cases h : g k = true
  ·rw [if_pos h, List.filter_cons_of_pos h, List.length_cons]; omega
  ·rw [if_neg h, List.filter_cons_of_neg h]; omega
theorem idxs_cnt (xs : List Int) : cnt 64 0 (gR xs) = (idxs xs).length := by
 rw [cnt_range]; unfold idxs; rw [List.range_eq_range']
def partsN (xs : List Int) (m : Nat) : Nat := P 64 0 m (gR xs)
theorem R_parts (xs : List Int) (m : Nat) : R (plcN xs) (idxs xs).length (idxs xs).length 0 m (fun _ => false) = partsN xs m := by
 have := R_P (idxs_lists xs) (idxs xs).length 0 m 0 (fun _ => false) (gR xs) (by omega) (by omega) (fun i hi => by omega) (fun i _ _ => Nat.zero_le _) (fun j _ => ?_)
 ·exact this
 ·constructor
  ·intro h
   have h64 : j < 64 := by
    by_cases q : j < 64
    ·exact q
    ·rw [gR_out xs j (by omega)] at h; cases h
   obtain ⟨i, hi, e⟩ := (idxs_lists xs).all j h64 h
   exact ⟨i, hi, e, rfl⟩
  ·rintro ⟨i, hi, e, _⟩
   rw [← e]; exact ((idxs_lists xs).mem i hi).2
theorem T_even : ∀ (n k : Nat) (g : Nat → Bool), k + n = 64 → (∀ i, i < k → g i = false) → T n k g ≠ 0 → cnt n k g % 2 = 0
 | 0, _, _, _, _, _ => rfl
 | n + 1, k, g, hk, h0, h => by
  have hc : cnt (n + 1) k g = (if g k = true then 1 else 0) + cnt n (k + 1) g := rfl
  by_cases q : g k = true
  ·rw [T_yes q] at h
   have : ∃ e, e < 64 ∧ adj k e = true ∧ g e = true ∧ T n (k + 1) (rem g k e) ≠ 0 := by
    refine Classical.byContradiction (fun hn => h (sm_zero (fun e he => ?_)))
    by_cases p : adj k e = true ∧ g e = true
    ·rw [if_pos p]
     exact Classical.byContradiction (fun r => hn ⟨e, he, p.1, p.2, r⟩)
    ·rw [if_neg p]
   obtain ⟨e, he, ha, hge, hT⟩ := this
   have hke : k < e := by
    by_cases r : e < k
    ·rw [h0 e r] at hge; cases hge
    ·have := adj_ne ha; omega
   have ih := T_even n (k + 1) (rem g k e) (by omega) (fun i hi => by
    rw [Bool.eq_false_iff, Ne, rem_iff]
    rintro ⟨h1, h2, h3⟩
    rw [h0 i (by omega)] at h1; cases h1) hT
   have := cnt_rem (n := n) (k := k + 1) (a := k) (b := e) (g := g) (by omega) (by omega) (by omega) hge
   rw [if_pos q] at hc
   omega
  ·rw [if_neg q] at hc
   rw [T_no (by simpa using q)] at h
   have := T_even n (k + 1) g (by omega) (fun i hi => by
    by_cases r : i = k
    ·rw [r]; simpa using q
    ·exact h0 i (by omega)) h
   omega
theorem tiles_even {xs : List Int} (h : tiles (gR xs) ≠ 0) : (idxs xs).length % 2 = 0 := by
 rw [← idxs_cnt]; exact T_even 64 0 _ (by omega) (fun i hi => by omega) h
end Go.Proofs.Ytjfagpmklifjlaa.Cnt
