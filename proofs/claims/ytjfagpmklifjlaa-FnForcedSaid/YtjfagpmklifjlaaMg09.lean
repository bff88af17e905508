/- CntV in one text. -/
import Derived.Test.YtjfagpmklifjlaaMg04

namespace Go.Proofs.Ytjfagpmklifjlaa.Cnt
set_option linter.unusedVariables false
set_option linter.unusedSimpArgs false
open Go.RowKit

def V (g : Nat → Bool) (fr : Bool) (e : Nat) : Nat → Nat → Nat → Nat → Nat
 | 0, _, s, d => if s = 0 ∧ d = e then 1 else 0
 | n + 1, k, s, d => if g k = true then
   if s.testBit (k % 8) = true then V g fr e n (k + 1) (s - 2 ^ (k % 8)) d
   else ((if fr = true then V g fr e n (k + 1) s d else 0) + (if k % 8 ≠ 7 ∧ g (k + 1) = true ∧ s.testBit (k % 8 + 1) = false then V g fr e n (k + 1) (s + 2 ^ (k % 8 + 1)) (d + 1) else 0)) + (if g (k + 8) = true then V g fr e n (k + 1) (s + 2 ^ (k % 8)) (d + 1) else 0)
  else V g fr e n (k + 1) s d
section
variable {g : Nat → Bool} {fr : Bool} {e n k s d : Nat}
theorem V_zero : V g fr e 0 k s d = if s = 0 ∧ d = e then 1 else 0 := rfl
theorem V_no (h : g k = false) : V g fr e (n + 1) k s d = V g fr e n (k + 1) s d := by
 show (if g k = true then _ else _) = _
 rw [if_neg (by rw [h]; simp)]
theorem V_cov (h : g k = true) (hs : s.testBit (k % 8) = true) : V g fr e (n + 1) k s d = V g fr e n (k + 1) (s - 2 ^ (k % 8)) d := by
 show (if g k = true then _ else _) = _
 rw [if_pos h, if_pos hs]
theorem V_two (h : g k = true) (hs : s.testBit (k % 8) = false) : V g fr e (n + 1) k s d = ((if fr = true then V g fr e n (k + 1) s d else 0) + (if k % 8 ≠ 7 ∧ g (k + 1) = true ∧ s.testBit (k % 8 + 1) = false then V g fr e n (k + 1) (s + 2 ^ (k % 8 + 1)) (d + 1) else 0)) + (if g (k + 8) = true then V g fr e n (k + 1) (s + 2 ^ (k % 8)) (d + 1) else 0) := by
 show (if g k = true then _ else _) = _
 rw [if_pos h, if_neg (by rw [hs]; simp)]
theorem V_skip : ∀ (q n k : Nat), (∀ j, k ≤ j → j < k + q → g j = false) → V g fr e (n + q) k s d = V g fr e n (k + q) s d
 | 0, n, k, _ => rfl
 | q + 1, n, k, h => by
  rw [show n + (q + 1) = (n + q) + 1 by omega, V_no (h k (by omega) (by omega)), V_skip q n (k + 1) (fun j h1 h2 => h j (by omega) (by omega)), show k + 1 + q = k + (q + 1) by omega]

def Vd (g : Nat → Bool) (k s : Nat) : Prop := ∀ i, i < 8 → s.testBit ((k + i) % 8) = true → g (k + i) = true
theorem Vd_zero : Vd g k 0 := fun i _ h => by simp at h
theorem Vd_bit (h : Vd g k s) (hg : g k = false) : s.testBit (k % 8) = false := by
 cases hb : s.testBit (k % 8) with
 | false => rfl
 | true =>
  have := h 0 (by omega) hb
  rw [Nat.add_zero, hg] at this; cases this
theorem Vd_of (h : Vd g k s) {t : Nat} (ht : ∀ i, i < 7 → t.testBit ((k + 1 + i) % 8) = true → s.testBit ((k + 1 + i) % 8) = true ∨ g (k + 1 + i) = true) (h8 : t.testBit (k % 8) = true → g (k + 8) = true) : Vd g (k + 1) t := by
 intro i hi q
 by_cases h7 : i = 7
 ·subst h7
  have := h8 (by rw [show k % 8 = (k + 1 + 7) % 8 by omega]; exact q)
  rw [show k + 1 + 7 = k + 8 by omega]; exact this
 ·rcases ht i (by omega) q with p | p
  ·have := h (i + 1) (by omega) (by rw [show k + (i + 1) = k + 1 + i by omega]; exact p)
   rw [show k + 1 + i = k + (i + 1) by omega]; exact this
  ·exact p
theorem Vd_no (h : Vd g k s) (hb : s.testBit (k % 8) = false) : Vd g (k + 1) s := Vd_of h (fun i _ q => Or.inl q) (fun q => by rw [hb] at q; cases q)
theorem Vd_cov (h : Vd g k s) (hs : s < 256) (hb : s.testBit (k % 8) = true) : Vd g (k + 1) (s - 2 ^ (k % 8)) := by
 obtain ⟨b1, b2⟩ := bit_sub s hs _ (Nat.mod_lt k (by omega)) hb
 refine Vd_of h (fun i _ q => ?_) (fun q => ?_)
 ·rw [b2 _ (Nat.mod_lt _ (by omega))] at q
  simp only [Bool.and_eq_true, decide_eq_true_eq] at q
  exact Or.inl q.1
 ·rw [b2 _ (Nat.mod_lt _ (by omega))] at q
  simp only [Bool.and_eq_true, decide_eq_true_eq] at q
  exact absurd rfl q.2
theorem Vd_dn (h : Vd g k s) (hs : s < 256) (hb : s.testBit (k % 8) = false) (hg : g (k + 8) = true) : Vd g (k + 1) (s + 2 ^ (k % 8)) := by
 obtain ⟨b1, b2⟩ := bit_add s hs _ (Nat.mod_lt k (by omega)) hb
 refine Vd_of h (fun i hi q => ?_) (fun q => hg)
 rw [b2 _ (Nat.mod_lt _ (by omega))] at q
 simp only [Bool.or_eq_true, decide_eq_true_eq] at q
 rcases q with q | q
 ·exact Or.inl q
 ·omega
theorem Vd_rt (h : Vd g k s) (hs : s < 256) (hb : s.testBit (k % 8) = false) (h7 : k % 8 ≠ 7) (hb1 : s.testBit (k % 8 + 1) = false) (hg : g (k + 1) = true) : Vd g (k + 1) (s + 2 ^ (k % 8 + 1)) := by
 obtain ⟨b1, b2⟩ := bit_add s hs (k % 8 + 1) (by omega) hb1
 refine Vd_of h (fun i hi q => ?_) (fun q => ?_)
 ·rw [b2 _ (Nat.mod_lt _ (by omega))] at q
  simp only [Bool.or_eq_true, decide_eq_true_eq] at q
  rcases q with q | q
  ·exact Or.inl q
  ·right; rw [show i = 0 by omega]; exact hg
 ·rw [b2 _ (Nat.mod_lt _ (by omega))] at q
  simp only [Bool.or_eq_true, decide_eq_true_eq] at q
  rcases q with q | q
  ·rw [hb] at q; cases q
  ·omega
theorem Vd_skip : ∀ (q k : Nat), Vd g k s → (∀ j, k ≤ j → j < k + q → g j = false) → Vd g (k + q) s
 | 0, k, h, _ => h
 | q + 1, k, h, hg => by
  have := Vd_skip q (k + 1) (Vd_no h (Vd_bit h (hg k (by omega) (by omega)))) (fun j h1 h2 => hg j (by omega) (by omega))
  rw [show k + (q + 1) = k + 1 + q by omega]; exact this

def pop (s : Nat) : Nat := (List.range 8).countP fun i => s.testBit i
theorem pop_sub : ∀ s, s < 256 → ∀ x, x < 8 → s.testBit x = true → pop (s - 2 ^ x) + 1 = pop s := by decide +kernel
theorem pop_add : ∀ s, s < 256 → ∀ x, x < 8 → s.testBit x = false → pop (s + 2 ^ x) = pop s + 1 := by decide +kernel
theorem pop_zero : pop 0 = 0 := by decide +kernel
theorem cnt_next : cnt (n + 1) k g = (if g k = true then 1 else 0) + cnt n (k + 1) g := rfl
theorem V_W : ∀ (n k s d : Nat), s < 256 → Vd g k s → V g false e n k s d = if 2 * d + cnt n k g = 2 * e + pop s then W g n k s else 0
 | 0, k, s, d, hs, hv => by
  rw [V_zero, W_zero]
  show _ = if 2 * d + 0 = 2 * e + pop s then _ else 0
  by_cases h : s = 0
  ·subst h; rw [pop_zero]
   by_cases hd : d = e
   ·rw [if_pos ⟨rfl, hd⟩, if_pos (by omega), if_pos rfl]
   ·rw [if_neg (fun q => hd q.2), if_neg (by omega)]
  ·rw [if_neg (fun q => h q.1), if_neg h]; simp
 | n + 1, k, s, d, hs, hv => by
  have hx : k % 8 < 8 := Nat.mod_lt _ (by omega)
  by_cases hg : g k = true
  ·have hc : cnt (n + 1) k g = 1 + cnt n (k + 1) g := by rw [cnt_next, if_pos hg]
   cases hb : s.testBit (k % 8) with
   | true =>
    obtain ⟨b1, _⟩ := bit_sub s hs _ hx hb
    have hp := pop_sub s hs _ hx hb
    rw [V_cov hg hb, W_cov hg hb, V_W n (k + 1) _ d b1 (Vd_cov hv hs hb)]
    by_cases q : 2 * d + cnt n (k + 1) g = 2 * e + pop (s - 2 ^ (k % 8))
    ·rw [if_pos q, if_pos (by omega)]
    ·rw [if_neg q, if_neg (by omega)]
   | false =>
    rw [V_two hg hb, W_two hg hb]
    rw [if_neg (by simp : ¬ (false = true)), Nat.zero_add]
    have h1 : (if k % 8 ≠ 7 ∧ g (k + 1) = true ∧ s.testBit (k % 8 + 1) = false then V g false e n (k + 1) (s + 2 ^ (k % 8 + 1)) (d + 1) else 0) = if 2 * d + cnt (n + 1) k g = 2 * e + pop s then (if k % 8 ≠ 7 ∧ g (k + 1) = true ∧ s.testBit (k % 8 + 1) = false then W g n (k + 1) (s + 2 ^ (k % 8 + 1)) else 0) else 0 := by
     by_cases p : k % 8 ≠ 7 ∧ g (k + 1) = true ∧ s.testBit (k % 8 + 1) = false
     ·have hp := pop_add s hs _ (show k % 8 + 1 < 8 by omega) p.2.2
      rw [if_pos p, if_pos p, V_W n (k + 1) _ (d + 1) (bit_add s hs _ (by omega) p.2.2).1 (Vd_rt hv hs hb p.1 p.2.2 p.2.1)]
      by_cases q : 2 * d + cnt (n + 1) k g = 2 * e + pop s
      ·rw [if_pos q, if_pos (by omega)]
      ·rw [if_neg q, if_neg (by omega)]
     ·rw [if_neg p, if_neg p]; simp
    have h2 : (if g (k + 8) = true then V g false e n (k + 1) (s + 2 ^ (k % 8)) (d + 1) else 0) = if 2 * d + cnt (n + 1) k g = 2 * e + pop s then (if g (k + 8) = true then W g n (k + 1) (s + 2 ^ (k % 8)) else 0) else 0 := by
     by_cases p : g (k + 8) = true
     ·have hp := pop_add s hs _ hx hb
      rw [if_pos p, if_pos p, V_W n (k + 1) _ (d + 1) (bit_add s hs _ hx hb).1 (Vd_dn hv hs hb p)]
      by_cases q : 2 * d + cnt (n + 1) k g = 2 * e + pop s
      ·rw [if_pos q, if_pos (by omega)]
      ·rw [if_neg q, if_neg (by omega)]
     ·rw [if_neg p, if_neg p]; simp
    rw [h1, h2]
    by_cases q : 2 * d + cnt (n + 1) k g = 2 * e + pop s
    ·rw [if_pos q, if_pos q, if_pos q]; omega
    ·rw [if_neg q, if_neg q, if_neg q]
  ·have hg : g k = false := by simpa using hg
   have hb := Vd_bit hv hg
   have hc : cnt (n + 1) k g = cnt n (k + 1) g := by rw [cnt_next, if_neg (by rw [hg]; simp), Nat.zero_add]
   rw [V_no hg, W_no hg hb, V_W n (k + 1) s d hs (Vd_no hv hb), hc]
theorem P_congr : ∀ {n k m : Nat} {g h : Nat → Bool}, (∀ j, k ≤ j → g j = h j) → P n k m g = P n k m h
 | n, k, 0, g, h, _ => by rw [P_zero, P_zero]
 | 0, k, m + 1, g, h, _ => rfl
 | n + 1, k, m + 1, g, h, q => by
  show P n (k + 1) (m + 1) g + _ = P n (k + 1) (m + 1) h + _
  rw [P_congr (n := n) (k := k + 1) (fun j hj => q j (by omega)), q k (by omega)]
  congr 1
  by_cases p : h k = true
  ·rw [if_pos p, if_pos p]
   refine sm_congr (fun i hi => ?_)
   by_cases r : k < i
   ·rw [q i (by omega), P_congr (n := n) (k := k + 1) (m := m) (g := rem g k i) (h := rem h k i) (fun j hj => by unfold rem; rw [q j (by omega)])]
   ·rw [if_neg (fun t => r t.2.2), if_neg (fun t => r t.2.2)]
  ·rw [if_neg p, if_neg p]
theorem P_out (h : g k = false) {m : Nat} : P (n + 1) k m g = P n (k + 1) m g := by
 cases m with
 | zero => rw [P_zero, P_zero]
 | succ m =>
  show P n (k + 1) (m + 1) g + (if g k = true then _ else 0) = _
  rw [if_neg (by rw [h]; simp), Nat.add_zero]
theorem V_many : ∀ (n k s d : Nat), e < d → V g fr e n k s d = 0
 | 0, k, s, d, h => by rw [V_zero, if_neg (by omega)]
 | n + 1, k, s, d, h => by
  by_cases hg : g k = true
  ·cases hb : s.testBit (k % 8) with
   | true => rw [V_cov hg hb, V_many n _ _ _ h]
   | false =>
    rw [V_two hg hb, V_many n _ _ _ h, V_many n _ _ _ (by omega : e < d + 1), V_many n _ _ _ (by omega : e < d + 1)]
    simp
  ·rw [V_no (by simpa using hg), V_many n _ _ _ h]
theorem V_P (hg64 : ∀ j, 64 ≤ j → g j = false) : ∀ (n k s d : Nat), k + n = 64 → s < 256 → Vd g k s → d ≤ e → V g true e n k s d = P n k (e - d) (G g k s)
 | 0, k, s, d, hk, hs, hv, hd => by
  have h0 : s = 0 := bit_none s hs (fun i hi => by
   cases h : s.testBit i with
   | false => rfl
   | true =>
    have := hv i hi (by rw [show (k + i) % 8 = i by omega]; exact h)
    rw [hg64 (k + i) (by omega)] at this; cases this)
  rw [V_zero]
  by_cases q : d = e
  ·rw [if_pos ⟨h0, q⟩, show e - d = 0 by omega, P_zero]
  ·rw [if_neg (fun r => q r.2)]
   obtain ⟨m, hm⟩ : ∃ m, e - d = m + 1 := ⟨e - d - 1, by omega⟩
   rw [hm]; rfl
 | n + 1, k, s, d, hk, hs, hv, hd => by
  have hx : k % 8 < 8 := Nat.mod_lt _ (by omega)
  by_cases hgk : g k = true
  ·cases hb : s.testBit (k % 8) with
   | true =>
    obtain ⟨b1, b2⟩ := bit_sub s hs _ hx hb
    rw [V_cov hgk hb, P_out (by rw [Bool.eq_false_iff, Ne, G_iff]; rintro ⟨_, _, h⟩; exact h ⟨by omega, hb⟩), V_P hg64 n (k + 1) _ d (by omega) b1 (Vd_cov hv hs hb) hd]
    congr 1
    refine G_eq (fun j => ?_)
    rw [G_iff, G_iff]
    have hj : j % 8 < 8 := Nat.mod_lt _ (by omega)
    rw [b2 _ hj]
    simp only [Bool.and_eq_true, decide_eq_true_eq]
    constructor
    ·rintro ⟨p1, p2, p3⟩; exact ⟨p1, by omega, fun q => p3 ⟨by omega, q.2, by omega⟩⟩
    ·rintro ⟨p1, p2, p3⟩
     have : j ≠ k := fun q => p3 ⟨by omega, by rw [q]; exact hb⟩
     exact ⟨p1, by omega, fun q => p3 ⟨by omega, q.2.1⟩⟩
   | false =>
    have hGk : G g k s k = true := by rw [G_iff]; exact ⟨hgk, by omega, fun q => by rw [hb] at q; cases q.2⟩
    have hfree : ∀ m, P n (k + 1) m (G g (k + 1) s) = P n (k + 1) m (G g k s) := fun m => P_congr (fun j hj => by
     rw [Bool.eq_iff_iff, G_iff, G_iff]
     constructor
     ·rintro ⟨p1, p2, p3⟩; exact ⟨p1, by omega, fun q => p3 ⟨by omega, q.2⟩⟩
     ·rintro ⟨p1, p2, p3⟩
      refine ⟨p1, by omega, fun q => ?_⟩
      by_cases e8 : j = k + 8
      ·rw [e8, show (k + 8) % 8 = k % 8 by omega, hb] at q; cases q.2
      ·exact p3 ⟨by omega, q.2⟩)
    rw [V_two hgk hb, if_pos rfl, V_P hg64 n (k + 1) s d (by omega) hs (Vd_no hv hb) hd, hfree]
    by_cases hde : d = e
    ·rw [show e - d = 0 by omega, P_zero, P_zero, V_many n _ _ _ (by omega : e < d + 1), V_many n _ _ _ (by omega : e < d + 1)]
     simp
    ·obtain ⟨m, hm⟩ : ∃ m, e - d = m + 1 := ⟨e - d - 1, by omega⟩
     have hm1 : e - (d + 1) = m := by omega
     rw [hm]
     show _ = P n (k + 1) (m + 1) (G g k s) + (if G g k s k = true then _ else 0)
     rw [if_pos hGk, Nat.add_assoc]
     congr 1
     have e1 : ∀ b, b < 64 → (if adj k b = true ∧ G g k s b = true ∧ k < b then P n (k + 1) m (rem (G g k s) k b) else 0) = (if adj k b = true then (if G g k s b = true ∧ k < b then P n (k + 1) m (rem (G g k s) k b) else 0) else 0) := by
      intro b _
      by_cases p : adj k b = true <;> by_cases q : G g k s b = true <;> simp [p, q]
     rw [sm_congr e1, sm_four (by omega) (fun b => if G g k s b = true ∧ k < b then P n (k + 1) m (rem (G g k s) k b) else 0)]
     have z1 : (if k % 8 ≠ 0 then (if G g k s (k - 1) = true ∧ k < k - 1 then P n (k + 1) m (rem (G g k s) k (k - 1)) else 0) else 0) = 0 := by
      rw [if_neg (by omega : ¬ (G g k s (k - 1) = true ∧ k < k - 1))]; simp
     have z2 : (if 8 ≤ k then (if G g k s (k - 8) = true ∧ k < k - 8 then P n (k + 1) m (rem (G g k s) k (k - 8)) else 0) else 0) = 0 := by
      rw [if_neg (by omega : ¬ (G g k s (k - 8) = true ∧ k < k - 8))]; simp
     rw [z1, z2]
     have r : (if k % 8 ≠ 7 ∧ g (k + 1) = true ∧ s.testBit (k % 8 + 1) = false then V g true e n (k + 1) (s + 2 ^ (k % 8 + 1)) (d + 1) else 0) = (if k % 8 ≠ 7 then (if G g k s (k + 1) = true ∧ k < k + 1 then P n (k + 1) m (rem (G g k s) k (k + 1)) else 0) else 0) := by
      by_cases h7 : k % 8 ≠ 7
      ·rw [if_pos h7]
       have hmo : (k + 1) % 8 = k % 8 + 1 := by omega
       by_cases p : g (k + 1) = true ∧ s.testBit (k % 8 + 1) = false
       ·obtain ⟨b1, b2⟩ := bit_add s hs (k % 8 + 1) (by omega) p.2
        rw [if_pos ⟨h7, p⟩, if_pos (by rw [G_iff, hmo]; exact ⟨⟨p.1, by omega, fun q => by rw [p.2] at q; cases q.2⟩, by omega⟩), V_P hg64 n (k + 1) _ (d + 1) (by omega) b1 (Vd_rt hv hs hb h7 p.2 p.1) (by omega), hm1]
        congr 1
        refine G_eq (fun j => ?_)
        rw [G_iff, rem_iff, G_iff]
        have hj : j % 8 < 8 := Nat.mod_lt _ (by omega)
        rw [b2 _ hj]
        simp only [Bool.or_eq_true, decide_eq_true_eq]
        constructor
        ·rintro ⟨p1, p2, p3⟩
         exact ⟨⟨p1, by omega, fun q => p3 ⟨by omega, Or.inl q.2⟩⟩, by omega, fun q => p3 ⟨by omega, Or.inr (by omega)⟩⟩
        ·rintro ⟨⟨p1, p2, p3⟩, p4, p5⟩
         refine ⟨p1, by omega, ?_⟩
         rintro ⟨q1, q2 | q2⟩
         ·by_cases e8 : j = k + 8
          ·rw [e8, show (k + 8) % 8 = k % 8 by omega, hb] at q2; cases q2
          ·exact p3 ⟨by omega, q2⟩
         ·omega
       ·rw [if_neg (fun q => p q.2), if_neg]
        rw [G_iff, hmo]
        rintro ⟨⟨q1, _, q3⟩, _⟩
        refine p ⟨q1, ?_⟩
        cases hh : s.testBit (k % 8 + 1) with
        | false => rfl
        | true => exact absurd ⟨by omega, hh⟩ q3
      ·rw [if_neg h7, if_neg (fun q => h7 q.1)]
     have dd : (if g (k + 8) = true then V g true e n (k + 1) (s + 2 ^ (k % 8)) (d + 1) else 0) = (if k + 8 < 64 then (if G g k s (k + 8) = true ∧ k < k + 8 then P n (k + 1) m (rem (G g k s) k (k + 8)) else 0) else 0) := by
      by_cases p : g (k + 8) = true
      ·have h64 : k + 8 < 64 := by
        by_cases q : k + 8 < 64
        ·exact q
        ·rw [hg64 (k + 8) (by omega)] at p; cases p
       obtain ⟨b1, b2⟩ := bit_add s hs _ hx hb
       rw [if_pos p, if_pos h64, if_pos (by rw [G_iff]; exact ⟨⟨p, by omega, fun q => by omega⟩, by omega⟩), V_P hg64 n (k + 1) _ (d + 1) (by omega) b1 (Vd_dn hv hs hb p) (by omega), hm1]
       congr 1
       refine G_eq (fun j => ?_)
       rw [G_iff, rem_iff, G_iff]
       have hj : j % 8 < 8 := Nat.mod_lt _ (by omega)
       rw [b2 _ hj]
       simp only [Bool.or_eq_true, decide_eq_true_eq]
       constructor
       ·rintro ⟨p1, p2, p3⟩
        exact ⟨⟨p1, by omega, fun q => p3 ⟨by omega, Or.inl q.2⟩⟩, by omega, fun q => p3 ⟨by omega, Or.inr (by omega)⟩⟩
       ·rintro ⟨⟨p1, p2, p3⟩, p4, p5⟩
        refine ⟨p1, by omega, ?_⟩
        rintro ⟨q1, q2 | q2⟩
        ·exact p3 ⟨by omega, q2⟩
        ·omega
      ·rw [if_neg p]
       by_cases h64 : k + 8 < 64
       ·rw [if_pos h64, if_neg (by rw [G_iff]; exact fun q => p q.1.1)]
       ·rw [if_neg h64]
     rw [r, dd]; omega
  ·have hgk : g k = false := by simpa using hgk
   have hb := Vd_bit hv hgk
   rw [V_no hgk, P_out (by rw [Bool.eq_false_iff, Ne, G_iff]; rintro ⟨h, _⟩; rw [hgk] at h; cases h), V_P hg64 n (k + 1) s d (by omega) hs (Vd_no hv hb) hd]
   congr 1
   refine G_eq (fun j => ?_)
   rw [G_iff, G_iff]
   constructor
   ·rintro ⟨p1, p2, p3⟩; exact ⟨p1, by omega, fun q => p3 ⟨by omega, q.2⟩⟩
   ·rintro ⟨p1, p2, p3⟩
    have : j ≠ k := fun q => by rw [q, hgk] at p1; cases p1
    refine ⟨p1, by omega, fun q => ?_⟩
    by_cases e8 : j = k + 8
    ·rw [e8, show (k + 8) % 8 = k % 8 by omega, hb] at q; cases q.2
    ·exact p3 ⟨by omega, q.2⟩
theorem G_whole : G g 0 0 = g := G_eq (fun j => by rw [G_iff]; simp)
theorem V_parts (hg64 : ∀ j, 64 ≤ j → g j = false) : V g true e 64 0 0 0 = P 64 0 e g := by
 rw [V_P hg64 64 0 0 0 rfl (by omega) Vd_zero (Nat.zero_le _), G_whole, Nat.sub_zero]
theorem V_tiles (hg64 : ∀ j, 64 ≤ j → g j = false) : V g false e 64 0 0 0 = if cnt 64 0 g = 2 * e then tiles g else 0 := by
 rw [V_W 64 0 0 0 (by omega) Vd_zero, W_tiles hg64, pop_zero]
 simp only [Nat.mul_zero, Nat.zero_add, Nat.add_zero]
def sumV (g : Nat → Bool) (fr : Bool) (e n k : Nat) (a : Nat → Int) : Int := si 16640 (fun i => a i * (V g fr e n k (i % 256) (i / 256) : Int))
theorem sumV_congr {a b : Nat → Int} (h : ∀ i, i < 16640 → a i = b i) : sumV g fr e n k a = sumV g fr e n k b := si_congr (fun i hi => by rw [h i hi])
theorem sumV_add {L v : Int} {t : Nat} {b : Nat → Int} (h : D L (sumV g fr e n k b)) (ht : t < 16640) : D (L + v * (V g fr e n k (t % 256) (t / 256) : Int)) (sumV g fr e n k (upd b t (wrap64 (b t + v)))) := by
 unfold sumV at h ⊢
 rw [si_upd ht]
 refine h.add (D.mul ?_ _)
 obtain ⟨q, hq⟩ := D_wrap (b t + v)
 exact ⟨-q, by omega⟩
theorem sumV_set {a : Nat → Int} {t : Nat} (ht : t < 16640) (h0 : a t = 0) (v : Int) : sumV g fr e n k (upd a t v) = sumV g fr e n k a + v * (V g fr e n k (t % 256) (t / 256) : Int) := by
 unfold sumV
 rw [si_upd ht, h0, Int.sub_zero]
theorem sumV_skip {a : Nat → Int} {q : Nat} (h : ∀ j, k ≤ j → j < k + q → g j = false) : sumV g fr e (n + q) k a = sumV g fr e n (k + q) a := si_congr (fun i _ => by rw [V_skip q n k h])
theorem sumV_start {a : Nat → Int} (h0 : a 0 = 1) (h : ∀ i, i < 16640 → i ≠ 0 → a i = 0) : sumV g fr e n k a = (V g fr e n k 0 0 : Int) := by
 unfold sumV
 rw [si_one (c := 0) (by omega) (fun i hi hne => by rw [h i hi hne, Int.zero_mul]), h0, Int.one_mul]
theorem sumV_last {a : Nat → Int} (he : e < 65) : sumV g fr e 0 k a = a (256 * e) := by
 unfold sumV
 rw [si_one (c := 256 * e) (by omega) (fun i hi hne => by rw [V_zero, if_neg (by omega)]; simp), V_zero, if_pos (by omega)]
 simp
end
end Go.Proofs.Ytjfagpmklifjlaa.Cnt
