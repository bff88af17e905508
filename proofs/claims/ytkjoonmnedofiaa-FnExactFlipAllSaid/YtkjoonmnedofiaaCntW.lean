/- The same count, from row to row: a state holds which of the next eight cells are covered; the sum over all states that does not change: no program here. -/
import Derived.Test.YtkjoonmnedofiaaCntP
namespace Go.Proofs.Ytkjoonmnedofiaa.Cnt
set_option linter.unusedVariables false
set_option linter.unusedSimpArgs false

theorem bit_sub : ∀ s, s < 256 → ∀ x, x < 8 → s.testBit x = true → s - 2 ^ x < 256 ∧ ∀ i, i < 8 → (s - 2 ^ x).testBit i = (s.testBit i && decide (i ≠ x)) := by decide +kernel
theorem bit_add : ∀ s, s < 256 → ∀ x, x < 8 → s.testBit x = false → s + 2 ^ x < 256 ∧ ∀ i, i < 8 → (s + 2 ^ x).testBit i = (s.testBit i || decide (i = x)) := by decide +kernel
theorem bit_none : ∀ s, s < 256 → (∀ i, i < 8 → s.testBit i = false) → s = 0 := by decide +kernel
/-- the coverings behind the cell k, in a state. -/
def W (g : Nat → Bool) : Nat → Nat → Nat → Nat
  | 0, _, s => if s = 0 then 1 else 0
  | n + 1, k, s => if g k = true then
      if s.testBit (k % 8) = true then W g n (k + 1) (s - 2 ^ (k % 8))
      else (if g (k + 8) = true then W g n (k + 1) (s + 2 ^ (k % 8)) else 0) + (if k % 8 ≠ 7 ∧ g (k + 1) = true ∧ s.testBit (k % 8 + 1) = false then W g n (k + 1) (s + 2 ^ (k % 8 + 1)) else 0)
    else if s.testBit (k % 8) = true then 0 else W g n (k + 1) s
theorem W_zero (g : Nat → Bool) (k s : Nat) : W g 0 k s = if s = 0 then 1 else 0 := rfl
theorem W_out {g : Nat → Bool} {n k s : Nat} (h : g k = false) (hs : s.testBit (k % 8) = true) : W g (n + 1) k s = 0 := by
  show (if g k = true then _ else _) = _
  rw [if_neg (by rw [h]; simp), if_pos hs]
theorem W_no {g : Nat → Bool} {n k s : Nat} (h : g k = false) (hs : s.testBit (k % 8) = false) : W g (n + 1) k s = W g n (k + 1) s := by
  show (if g k = true then _ else _) = _
  rw [if_neg (by rw [h]; simp), if_neg (by rw [hs]; simp)]
theorem W_cov {g : Nat → Bool} {n k s : Nat} (h : g k = true) (hs : s.testBit (k % 8) = true) : W g (n + 1) k s = W g n (k + 1) (s - 2 ^ (k % 8)) := by
  show (if g k = true then _ else _) = _
  rw [if_pos h, if_pos hs]
theorem W_two {g : Nat → Bool} {n k s : Nat} (h : g k = true) (hs : s.testBit (k % 8) = false) : W g (n + 1) k s = (if g (k + 8) = true then W g n (k + 1) (s + 2 ^ (k % 8)) else 0) + (if k % 8 ≠ 7 ∧ g (k + 1) = true ∧ s.testBit (k % 8 + 1) = false then W g n (k + 1) (s + 2 ^ (k % 8 + 1)) else 0) := by
  show (if g k = true then _ else _) = _
  rw [if_pos h, if_neg (by rw [hs]; simp)]
/-- the cells that are free behind the cell k. -/
def G (g : Nat → Bool) (k s : Nat) : Nat → Bool := fun j => g j && decide (k ≤ j) && !(decide (j < k + 8) && s.testBit (j % 8))
theorem G_iff {g : Nat → Bool} {k s j : Nat} : G g k s j = true ↔ g j = true ∧ k ≤ j ∧ ¬ (j < k + 8 ∧ s.testBit (j % 8) = true) := by
  unfold G; simp only [Bool.and_eq_true, decide_eq_true_eq, Bool.not_eq_true', Bool.and_eq_false_iff, decide_eq_false_iff_not]
  constructor
  · rintro ⟨⟨a, b⟩, c⟩; refine ⟨a, b, ?_⟩; rintro ⟨d, e⟩; rcases c with c | c
    · exact c d
    · rw [c] at e; cases e
  · rintro ⟨a, b, c⟩; refine ⟨⟨a, b⟩, ?_⟩
    by_cases d : j < k + 8
    · right; cases e : s.testBit (j % 8) with
      | false => rfl
      | true => exact absurd ⟨d, e⟩ c
    · left; exact d
theorem G_eq {g h : Nat → Bool} (e : ∀ j, g j = true ↔ h j = true) : g = h := by funext j; rw [Bool.eq_iff_iff]; exact e j
theorem W_T {g : Nat → Bool} (hg : ∀ j, 64 ≤ j → g j = false) : ∀ (n k s : Nat), k + n = 64 → s < 256 → (∀ i, i < 8 → s.testBit ((k + i) % 8) = true → g (k + i) = true) → W g n k s = T n k (G g k s)
  | 0, k, s, hk, hs, hv => by
    have : s = 0 := bit_none s hs (fun i hi => by
      cases h : s.testBit i with
      | false => rfl
      | true =>
        have := hv i hi (by rw [show (k + i) % 8 = i by omega]; exact h)
        rw [hg (k + i) (by omega)] at this; cases this)
    rw [W_zero, if_pos this]; rfl
  | n + 1, k, s, hk, hs, hv => by
    have hx : k % 8 < 8 := Nat.mod_lt _ (by omega)
    by_cases hgk : g k = true
    · cases hb : s.testBit (k % 8) with
      | true =>
        obtain ⟨b1, b2⟩ := bit_sub s hs _ hx hb
        rw [W_cov hgk hb, T_no (by rw [Bool.eq_false_iff, Ne, G_iff]; rintro ⟨_, _, h⟩; exact h ⟨by omega, hb⟩), W_T hg n (k + 1) _ (by omega) b1 ?_]
        · congr 1
          refine G_eq (fun j => ?_)
          rw [G_iff, G_iff]
          have hj : j % 8 < 8 := Nat.mod_lt _ (by omega)
          rw [b2 _ hj]
          simp only [Bool.and_eq_true, decide_eq_true_eq]
          constructor
          · rintro ⟨p1, p2, p3⟩; exact ⟨p1, by omega, fun q => p3 ⟨by omega, q.2, by omega⟩⟩
          · rintro ⟨p1, p2, p3⟩
            have : j ≠ k := fun q => p3 ⟨by omega, by rw [q]; exact hb⟩
            exact ⟨p1, by omega, fun q => p3 ⟨by omega, q.2.1⟩⟩
        · intro i hi q
          rw [b2 _ (Nat.mod_lt _ (by omega))] at q
          simp only [Bool.and_eq_true, decide_eq_true_eq] at q
          have := hv (i + 1) (by omega) (by rw [show k + (i + 1) = k + 1 + i by omega]; exact q.1)
          rw [show k + 1 + i = k + (i + 1) by omega]; exact this
      | false =>
        have hGk : G g k s k = true := by rw [G_iff]; exact ⟨hgk, by omega, fun q => by rw [hb] at q; cases q.2⟩
        rw [W_two hgk hb, T_yes hGk]
        have e : ∀ b, b < 64 → (if adj k b = true ∧ G g k s b = true then T n (k + 1) (rem (G g k s) k b) else 0) = (if adj k b = true then (if G g k s b = true then T n (k + 1) (rem (G g k s) k b) else 0) else 0) := by
          intro b _
          by_cases p : adj k b = true <;> by_cases q : G g k s b = true <;> simp [p, q]
        rw [sm_congr e, sm_four (by omega) (fun b => if G g k s b = true then T n (k + 1) (rem (G g k s) k b) else 0)]
        have z1 : (if k % 8 ≠ 0 then (if G g k s (k - 1) = true then T n (k + 1) (rem (G g k s) k (k - 1)) else 0) else 0) = 0 := by
          by_cases p : k % 8 ≠ 0
          · rw [if_pos p, if_neg (by rw [G_iff]; omega)]
          · rw [if_neg p]
        have z2 : (if 8 ≤ k then (if G g k s (k - 8) = true then T n (k + 1) (rem (G g k s) k (k - 8)) else 0) else 0) = 0 := by
          by_cases p : 8 ≤ k
          · rw [if_pos p, if_neg (by rw [G_iff]; omega)]
          · rw [if_neg p]
        rw [z1, z2]
        have d : (if g (k + 8) = true then W g n (k + 1) (s + 2 ^ (k % 8)) else 0) = (if k + 8 < 64 then (if G g k s (k + 8) = true then T n (k + 1) (rem (G g k s) k (k + 8)) else 0) else 0) := by
          by_cases p : g (k + 8) = true
          · have h64 : k + 8 < 64 := by
              by_cases q : k + 8 < 64
              · exact q
              · rw [hg (k + 8) (by omega)] at p; cases p
            obtain ⟨b1, b2⟩ := bit_add s hs _ hx hb
            rw [if_pos p, if_pos h64, if_pos (by rw [G_iff]; exact ⟨p, by omega, fun q => by omega⟩), W_T hg n (k + 1) _ (by omega) b1 ?_]
            · congr 1
              refine G_eq (fun j => ?_)
              rw [G_iff, rem_iff, G_iff]
              have hj : j % 8 < 8 := Nat.mod_lt _ (by omega)
              rw [b2 _ hj]
              simp only [Bool.or_eq_true, decide_eq_true_eq]
              constructor
              · rintro ⟨p1, p2, p3⟩
                exact ⟨⟨p1, by omega, fun q => p3 ⟨by omega, Or.inl q.2⟩⟩, by omega, fun q => p3 ⟨by omega, Or.inr (by omega)⟩⟩
              · rintro ⟨⟨p1, p2, p3⟩, p4, p5⟩
                refine ⟨p1, by omega, ?_⟩
                rintro ⟨q1, q2 | q2⟩
                · exact p3 ⟨by omega, q2⟩
                · omega
            · intro i hi q
              rw [b2 _ (Nat.mod_lt _ (by omega))] at q
              simp only [Bool.or_eq_true, decide_eq_true_eq] at q
              by_cases h7 : i = 7
              · subst h7; exact p
              · rcases q with q | q
                · have := hv (i + 1) (by omega) (by rw [show k + (i + 1) = k + 1 + i by omega]; exact q)
                  rw [show k + 1 + i = k + (i + 1) by omega]; exact this
                · omega
          · rw [if_neg p]
            by_cases h64 : k + 8 < 64
            · rw [if_pos h64, if_neg (by rw [G_iff]; exact fun q => p q.1)]
            · rw [if_neg h64]
        have r : (if k % 8 ≠ 7 ∧ g (k + 1) = true ∧ s.testBit (k % 8 + 1) = false then W g n (k + 1) (s + 2 ^ (k % 8 + 1)) else 0) = (if k % 8 ≠ 7 then (if G g k s (k + 1) = true then T n (k + 1) (rem (G g k s) k (k + 1)) else 0) else 0) := by
          by_cases h7 : k % 8 ≠ 7
          · rw [if_pos h7]
            have hm : (k + 1) % 8 = k % 8 + 1 := by omega
            by_cases p : g (k + 1) = true ∧ s.testBit (k % 8 + 1) = false
            · obtain ⟨b1, b2⟩ := bit_add s hs (k % 8 + 1) (by omega) p.2
              rw [if_pos ⟨h7, p⟩, if_pos (by rw [G_iff, hm]; exact ⟨p.1, by omega, fun q => by rw [p.2] at q; cases q.2⟩), W_T hg n (k + 1) _ (by omega) b1 ?_]
              · congr 1
                refine G_eq (fun j => ?_)
                rw [G_iff, rem_iff, G_iff]
                have hj : j % 8 < 8 := Nat.mod_lt _ (by omega)
                rw [b2 _ hj]
                simp only [Bool.or_eq_true, decide_eq_true_eq]
                constructor
                · rintro ⟨p1, p2, p3⟩
                  exact ⟨⟨p1, by omega, fun q => p3 ⟨by omega, Or.inl q.2⟩⟩, by omega, fun q => p3 ⟨by omega, Or.inr (by omega)⟩⟩
                · rintro ⟨⟨p1, p2, p3⟩, p4, p5⟩
                  refine ⟨p1, by omega, ?_⟩
                  rintro ⟨q1, q2 | q2⟩
                  · by_cases e8 : j = k + 8
                    · rw [e8, show (k + 8) % 8 = k % 8 by omega, hb] at q2; cases q2
                    · exact p3 ⟨by omega, q2⟩
                  · omega
              · intro i hi q
                rw [b2 _ (Nat.mod_lt _ (by omega))] at q
                simp only [Bool.or_eq_true, decide_eq_true_eq] at q
                by_cases h7' : i = 7
                · subst h7'
                  rcases q with q | q
                  · rw [show (k + 1 + 7) % 8 = k % 8 by omega, hb] at q; cases q
                  · omega
                · rcases q with q | q
                  · have := hv (i + 1) (by omega) (by rw [show k + (i + 1) = k + 1 + i by omega]; exact q)
                    rw [show k + 1 + i = k + (i + 1) by omega]; exact this
                  · rw [show i = 0 by omega]; exact p.1
            · rw [if_neg (fun q => p q.2), if_neg]
              rw [G_iff, hm]
              rintro ⟨q1, _, q3⟩
              refine p ⟨q1, ?_⟩
              cases hh : s.testBit (k % 8 + 1) with
              | false => rfl
              | true => exact absurd ⟨by omega, hh⟩ q3
          · rw [if_neg h7, if_neg (fun q => h7 q.1)]
        rw [d, r]; omega
    · have hb : s.testBit (k % 8) = false := by
        cases h : s.testBit (k % 8) with
        | false => rfl
        | true => exact absurd (hv 0 (by omega) h) hgk
      have hgk : g k = false := by simpa using hgk
      rw [W_no hgk hb, T_no (by rw [Bool.eq_false_iff, Ne, G_iff]; rintro ⟨h, _⟩; rw [hgk] at h; cases h), W_T hg n (k + 1) _ (by omega) hs ?_]
      · congr 1
        refine G_eq (fun j => ?_)
        rw [G_iff, G_iff]
        constructor
        · rintro ⟨p1, p2, p3⟩; exact ⟨p1, by omega, fun q => p3 ⟨by omega, q.2⟩⟩
        · rintro ⟨p1, p2, p3⟩
          have : j ≠ k := fun q => by rw [q, hgk] at p1; cases p1
          refine ⟨p1, by omega, fun q => ?_⟩
          by_cases e8 : j = k + 8
          · rw [e8, show (k + 8) % 8 = k % 8 by omega, hb] at q; cases q.2
          · exact p3 ⟨by omega, q.2⟩
      · intro i hi q
        by_cases h7 : i = 7
        · subst h7; rw [show (k + 1 + 7) % 8 = k % 8 by omega, hb] at q; cases q
        · have := hv (i + 1) (by omega) (by rw [show k + (i + 1) = k + 1 + i by omega]; exact q)
          rw [show k + 1 + i = k + (i + 1) by omega]; exact this
theorem W_tiles {g : Nat → Bool} (hg : ∀ j, 64 ≤ j → g j = false) : W g 64 0 0 = tiles g := by
  rw [W_T hg 64 0 0 rfl (by omega) (fun i _ q => by simp at q)]
  unfold tiles
  congr 1
  refine G_eq (fun j => ?_)
  rw [G_iff]; simp
end Go.Proofs.Ytkjoonmnedofiaa.Cnt
