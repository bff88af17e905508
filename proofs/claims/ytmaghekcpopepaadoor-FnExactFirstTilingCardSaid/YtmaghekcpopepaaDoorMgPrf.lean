/- CntV, MapK, CntM, ProF, GoP in one text. -/
import Derived.Test.YtmaghekcpopepaaDoorMgCnt
import Derived.Test.YtmaghekcpopepaaDoorBase
import Derived.Test.YtmaghekcpopepaaDoorChecked
import Derived.Maps.RangeWalk
import Derived.Maps.OwnOps
import Derived.DeepKeys4
import Derived.WideKeyEntry
import Derived.Test.YtmaghekcpopepaaDoorMgReg
import Derived.Test.YtmaghekcpopepaaDoorMgCls
import Derived.Deep.RegionHeld3
import Derived.BigQuiet
import Derived.StillTailTactics

/- The count by profiles: a state holds which next cells of the columns are covered, beside it the number of dominoes; with or without free cells: no program here. -/
namespace Go.Proofs.YtmaghekcpopepaaDoor.Cnt
set_option linter.unusedVariables false
set_option linter.unusedSimpArgs false
open Go.RowKit

/-- the lists with e dominoes that go on behind the cell k, from a state with d dominoes. -/
def V (g : Nat → Bool) (fr : Bool) (e : Nat) : Nat → Nat → Nat → Nat → Nat
  | 0, _, s, d => if s = 0 ∧ d = e then 1 else 0
  | n + 1, k, s, d => if g k = true then
      if s.testBit (k % 8) = true then V g fr e n (k + 1) (s - 2 ^ (k % 8)) d
      else ((if fr = true then V g fr e n (k + 1) s d else 0) + (if k % 8 ≠ 7 ∧ g (k + 1) = true ∧ s.testBit (k % 8 + 1) = false then V g fr e n (k + 1) (s + 2 ^ (k % 8 + 1)) (d + 1) else 0)) + (if g (k + 8) = true then V g fr e n (k + 1) (s + 2 ^ (k % 8)) (d + 1) else 0)
    else V g fr e n (k + 1) s d
section
variable {g : Nat → Bool} {fr : Bool} {e n k s d : Nat}
theorem V_zero : V g fr e 0 k s d = if s = 0 ∧ d = e then 1 else 0 := rfl
theorem V_no (h : g k = false) : V g fr e (n + 1) k s d = V g fr e n (k + 1) s d := by
  show (if g k = true then _ else _) = _
  rw [if_neg (by rw [h]; simp)]
theorem V_cov (h : g k = true) (hs : s.testBit (k % 8) = true) : V g fr e (n + 1) k s d = V g fr e n (k + 1) (s - 2 ^ (k % 8)) d := by
  show (if g k = true then _ else _) = _
  rw [if_pos h, if_pos hs]
theorem V_two (h : g k = true) (hs : s.testBit (k % 8) = false) : V g fr e (n + 1) k s d = ((if fr = true then V g fr e n (k + 1) s d else 0) + (if k % 8 ≠ 7 ∧ g (k + 1) = true ∧ s.testBit (k % 8 + 1) = false then V g fr e n (k + 1) (s + 2 ^ (k % 8 + 1)) (d + 1) else 0)) + (if g (k + 8) = true then V g fr e n (k + 1) (s + 2 ^ (k % 8)) (d + 1) else 0) := by
  show (if g k = true then _ else _) = _
  rw [if_pos h, if_neg (by rw [hs]; simp)]
/-- where no cell is, nothing is done. -/
theorem V_skip : ∀ (q n k : Nat), (∀ j, k ≤ j → j < k + q → g j = false) → V g fr e (n + q) k s d = V g fr e n (k + q) s d
  | 0, n, k, _ => rfl
  | q + 1, n, k, h => by
    rw [show n + (q + 1) = (n + q) + 1 by omega, V_no (h k (by omega) (by omega)), V_skip q n (k + 1) (fun j h1 h2 => h j (by omega) (by omega)), show k + 1 + q = k + (q + 1) by omega]

/-- only cells of the set are covered ahead. -/
def Vd (g : Nat → Bool) (k s : Nat) : Prop := ∀ i, i < 8 → s.testBit ((k + i) % 8) = true → g (k + i) = true
theorem Vd_zero : Vd g k 0 := fun i _ h => by simp at h
theorem Vd_bit (h : Vd g k s) (hg : g k = false) : s.testBit (k % 8) = false := by
  cases hb : s.testBit (k % 8) with
  | false => rfl
  | true =>
    have := h 0 (by omega) hb
    rw [Nat.add_zero, hg] at this; cases this
/-- what a change of the state leaves valid: every bit of the new one is an old one of a later cell, or a cell's. -/
theorem Vd_of (h : Vd g k s) {t : Nat} (ht : ∀ i, i < 7 → t.testBit ((k + 1 + i) % 8) = true → s.testBit ((k + 1 + i) % 8) = true ∨ g (k + 1 + i) = true) (h8 : t.testBit (k % 8) = true → g (k + 8) = true) : Vd g (k + 1) t := by
  intro i hi q
  by_cases h7 : i = 7
  · subst h7
    have := h8 (by rw [show k % 8 = (k + 1 + 7) % 8 by omega]; exact q)
    rw [show k + 1 + 7 = k + 8 by omega]; exact this
  · rcases ht i (by omega) q with p | p
    · have := h (i + 1) (by omega) (by rw [show k + (i + 1) = k + 1 + i by omega]; exact p)
      rw [show k + 1 + i = k + (i + 1) by omega]; exact this
    · exact p
theorem Vd_no (h : Vd g k s) (hb : s.testBit (k % 8) = false) : Vd g (k + 1) s := Vd_of h (fun i _ q => Or.inl q) (fun q => by rw [hb] at q; cases q)
theorem Vd_cov (h : Vd g k s) (hs : s < 256) (hb : s.testBit (k % 8) = true) : Vd g (k + 1) (s - 2 ^ (k % 8)) := by
  obtain ⟨b1, b2⟩ := bit_sub s hs _ (Nat.mod_lt k (by omega)) hb
  refine Vd_of h (fun i _ q => ?_) (fun q => ?_)
  · rw [b2 _ (Nat.mod_lt _ (by omega))] at q
    simp only [Bool.and_eq_true, decide_eq_true_eq] at q
    exact Or.inl q.1
  · rw [b2 _ (Nat.mod_lt _ (by omega))] at q
    simp only [Bool.and_eq_true, decide_eq_true_eq] at q
    exact absurd rfl q.2
theorem Vd_dn (h : Vd g k s) (hs : s < 256) (hb : s.testBit (k % 8) = false) (hg : g (k + 8) = true) : Vd g (k + 1) (s + 2 ^ (k % 8)) := by
  obtain ⟨b1, b2⟩ := bit_add s hs _ (Nat.mod_lt k (by omega)) hb
  refine Vd_of h (fun i hi q => ?_) (fun q => hg)
  rw [b2 _ (Nat.mod_lt _ (by omega))] at q
  simp only [Bool.or_eq_true, decide_eq_true_eq] at q
  rcases q with q | q
  · exact Or.inl q
  · omega
theorem Vd_rt (h : Vd g k s) (hs : s < 256) (hb : s.testBit (k % 8) = false) (h7 : k % 8 ≠ 7) (hb1 : s.testBit (k % 8 + 1) = false) (hg : g (k + 1) = true) : Vd g (k + 1) (s + 2 ^ (k % 8 + 1)) := by
  obtain ⟨b1, b2⟩ := bit_add s hs (k % 8 + 1) (by omega) hb1
  refine Vd_of h (fun i hi q => ?_) (fun q => ?_)
  · rw [b2 _ (Nat.mod_lt _ (by omega))] at q
    simp only [Bool.or_eq_true, decide_eq_true_eq] at q
    rcases q with q | q
    · exact Or.inl q
    · right; rw [show i = 0 by omega]; exact hg
  · rw [b2 _ (Nat.mod_lt _ (by omega))] at q
    simp only [Bool.or_eq_true, decide_eq_true_eq] at q
    rcases q with q | q
    · rw [hb] at q; cases q
    · omega
theorem Vd_skip : ∀ (q k : Nat), Vd g k s → (∀ j, k ≤ j → j < k + q → g j = false) → Vd g (k + q) s
  | 0, k, h, _ => h
  | q + 1, k, h, hg => by
    have := Vd_skip q (k + 1) (Vd_no h (Vd_bit h (hg k (by omega) (by omega)))) (fun j h1 h2 => hg j (by omega) (by omega))
    rw [show k + (q + 1) = k + 1 + q by omega]; exact this

/-- how many bits a state has. -/
def pop (s : Nat) : Nat := (List.range 8).countP fun i => s.testBit i
theorem pop_sub : ∀ s, s < 256 → ∀ x, x < 8 → s.testBit x = true → pop (s - 2 ^ x) + 1 = pop s := by decide +kernel
theorem pop_add : ∀ s, s < 256 → ∀ x, x < 8 → s.testBit x = false → pop (s + 2 ^ x) = pop s + 1 := by decide +kernel
theorem pop_zero : pop 0 = 0 := by decide +kernel
theorem cnt_next : cnt (n + 1) k g = (if g k = true then 1 else 0) + cnt n (k + 1) g := rfl
/-- without free cells: the coverings, if the numbers fit. -/
theorem V_W : ∀ (n k s d : Nat), s < 256 → Vd g k s → V g false e n k s d = if 2 * d + cnt n k g = 2 * e + pop s then W g n k s else 0
  | 0, k, s, d, hs, hv => by
    rw [V_zero, W_zero]
    show _ = if 2 * d + 0 = 2 * e + pop s then _ else 0
    by_cases h : s = 0
    · subst h; rw [pop_zero]
      by_cases hd : d = e
      · rw [if_pos ⟨rfl, hd⟩, if_pos (by omega), if_pos rfl]
      · rw [if_neg (fun q => hd q.2), if_neg (by omega)]
    · rw [if_neg (fun q => h q.1), if_neg h]; simp
  | n + 1, k, s, d, hs, hv => by
    have hx : k % 8 < 8 := Nat.mod_lt _ (by omega)
    by_cases hg : g k = true
    · have hc : cnt (n + 1) k g = 1 + cnt n (k + 1) g := by rw [cnt_next, if_pos hg]
      cases hb : s.testBit (k % 8) with
      | true =>
        obtain ⟨b1, _⟩ := bit_sub s hs _ hx hb
        have hp := pop_sub s hs _ hx hb
        rw [V_cov hg hb, W_cov hg hb, V_W n (k + 1) _ d b1 (Vd_cov hv hs hb)]
        by_cases q : 2 * d + cnt n (k + 1) g = 2 * e + pop (s - 2 ^ (k % 8))
        · rw [if_pos q, if_pos (by omega)]
        · rw [if_neg q, if_neg (by omega)]
      | false =>
        rw [V_two hg hb, W_two hg hb]
        rw [if_neg (by simp : ¬ (false = true)), Nat.zero_add]
        have h1 : (if k % 8 ≠ 7 ∧ g (k + 1) = true ∧ s.testBit (k % 8 + 1) = false then V g false e n (k + 1) (s + 2 ^ (k % 8 + 1)) (d + 1) else 0) = if 2 * d + cnt (n + 1) k g = 2 * e + pop s then (if k % 8 ≠ 7 ∧ g (k + 1) = true ∧ s.testBit (k % 8 + 1) = false then W g n (k + 1) (s + 2 ^ (k % 8 + 1)) else 0) else 0 := by
          by_cases p : k % 8 ≠ 7 ∧ g (k + 1) = true ∧ s.testBit (k % 8 + 1) = false
          · have hp := pop_add s hs _ (show k % 8 + 1 < 8 by omega) p.2.2
            rw [if_pos p, if_pos p, V_W n (k + 1) _ (d + 1) (bit_add s hs _ (by omega) p.2.2).1 (Vd_rt hv hs hb p.1 p.2.2 p.2.1)]
            by_cases q : 2 * d + cnt (n + 1) k g = 2 * e + pop s
            · rw [if_pos q, if_pos (by omega)]
            · rw [if_neg q, if_neg (by omega)]
          · rw [if_neg p, if_neg p]; simp
        have h2 : (if g (k + 8) = true then V g false e n (k + 1) (s + 2 ^ (k % 8)) (d + 1) else 0) = if 2 * d + cnt (n + 1) k g = 2 * e + pop s then (if g (k + 8) = true then W g n (k + 1) (s + 2 ^ (k % 8)) else 0) else 0 := by
          by_cases p : g (k + 8) = true
          · have hp := pop_add s hs _ hx hb
            rw [if_pos p, if_pos p, V_W n (k + 1) _ (d + 1) (bit_add s hs _ hx hb).1 (Vd_dn hv hs hb p)]
            by_cases q : 2 * d + cnt (n + 1) k g = 2 * e + pop s
            · rw [if_pos q, if_pos (by omega)]
            · rw [if_neg q, if_neg (by omega)]
          · rw [if_neg p, if_neg p]; simp
        rw [h1, h2]
        by_cases q : 2 * d + cnt (n + 1) k g = 2 * e + pop s
        · rw [if_pos q, if_pos q, if_pos q]; omega
        · rw [if_neg q, if_neg q, if_neg q]
    · have hg : g k = false := by simpa using hg
      have hb := Vd_bit hv hg
      have hc : cnt (n + 1) k g = cnt n (k + 1) g := by rw [cnt_next, if_neg (by rw [hg]; simp), Nat.zero_add]
      rw [V_no hg, W_no hg hb, V_W n (k + 1) s d hs (Vd_no hv hb), hc]
theorem P_congr : ∀ {n k m : Nat} {g h : Nat → Bool}, (∀ j, k ≤ j → g j = h j) → P n k m g = P n k m h
  | n, k, 0, g, h, _ => by rw [P_zero, P_zero]
  | 0, k, m + 1, g, h, _ => rfl
  | n + 1, k, m + 1, g, h, q => by
    show P n (k + 1) (m + 1) g + _ = P n (k + 1) (m + 1) h + _
    rw [P_congr (n := n) (k := k + 1) (fun j hj => q j (by omega)), q k (by omega)]
    congr 1
    by_cases p : h k = true
    · rw [if_pos p, if_pos p]
      refine sm_congr (fun i hi => ?_)
      by_cases r : k < i
      · rw [q i (by omega), P_congr (n := n) (k := k + 1) (m := m) (g := rem g k i) (h := rem h k i) (fun j hj => by unfold rem; rw [q j (by omega)])]
      · rw [if_neg (fun t => r t.2.2), if_neg (fun t => r t.2.2)]
    · rw [if_neg p, if_neg p]
theorem P_out (h : g k = false) {m : Nat} : P (n + 1) k m g = P n (k + 1) m g := by
  cases m with
  | zero => rw [P_zero, P_zero]
  | succ m =>
    show P n (k + 1) (m + 1) g + (if g k = true then _ else 0) = _
    rw [if_neg (by rw [h]; simp), Nat.add_zero]
theorem V_many : ∀ (n k s d : Nat), e < d → V g fr e n k s d = 0
  | 0, k, s, d, h => by rw [V_zero, if_neg (by omega)]
  | n + 1, k, s, d, h => by
    by_cases hg : g k = true
    · cases hb : s.testBit (k % 8) with
      | true => rw [V_cov hg hb, V_many n _ _ _ h]
      | false =>
        rw [V_two hg hb, V_many n _ _ _ h, V_many n _ _ _ (by omega : e < d + 1), V_many n _ _ _ (by omega : e < d + 1)]
        simp
    · rw [V_no (by simpa using hg), V_many n _ _ _ h]
/-- with free cells: the lists of dominoes. -/
theorem V_P (hg64 : ∀ j, 64 ≤ j → g j = false) : ∀ (n k s d : Nat), k + n = 64 → s < 256 → Vd g k s → d ≤ e → V g true e n k s d = P n k (e - d) (G g k s)
  | 0, k, s, d, hk, hs, hv, hd => by
    have h0 : s = 0 := bit_none s hs (fun i hi => by
      cases h : s.testBit i with
      | false => rfl
      | true =>
        have := hv i hi (by rw [show (k + i) % 8 = i by omega]; exact h)
        rw [hg64 (k + i) (by omega)] at this; cases this)
    rw [V_zero]
    by_cases q : d = e
    · rw [if_pos ⟨h0, q⟩, show e - d = 0 by omega, P_zero]
    · rw [if_neg (fun r => q r.2)]
      obtain ⟨m, hm⟩ : ∃ m, e - d = m + 1 := ⟨e - d - 1, by omega⟩
      rw [hm]; rfl
  | n + 1, k, s, d, hk, hs, hv, hd => by
    have hx : k % 8 < 8 := Nat.mod_lt _ (by omega)
    by_cases hgk : g k = true
    · cases hb : s.testBit (k % 8) with
      | true =>
        obtain ⟨b1, b2⟩ := bit_sub s hs _ hx hb
        rw [V_cov hgk hb, P_out (by rw [Bool.eq_false_iff, Ne, G_iff]; rintro ⟨_, _, h⟩; exact h ⟨by omega, hb⟩), V_P hg64 n (k + 1) _ d (by omega) b1 (Vd_cov hv hs hb) hd]
        congr 1
        refine G_eq (fun j => ?_)
        rw [G_iff, G_iff]
        have hj : j % 8 < 8 := Nat.mod_lt _ (by omega)
        rw [b2 _ hj]
        simp only [Bool.and_eq_true, decide_eq_true_eq]
        constructor
        · rintro ⟨p1, p2, p3⟩; exact ⟨p1, by omega, fun q => p3 ⟨by omega, q.2, by omega⟩⟩
        · rintro ⟨p1, p2, p3⟩
          have : j ≠ k := fun q => p3 ⟨by omega, by rw [q]; exact hb⟩
          exact ⟨p1, by omega, fun q => p3 ⟨by omega, q.2.1⟩⟩
      | false =>
        have hGk : G g k s k = true := by rw [G_iff]; exact ⟨hgk, by omega, fun q => by rw [hb] at q; cases q.2⟩
        have hfree : ∀ m, P n (k + 1) m (G g (k + 1) s) = P n (k + 1) m (G g k s) := fun m => P_congr (fun j hj => by
          rw [Bool.eq_iff_iff, G_iff, G_iff]
          constructor
          · rintro ⟨p1, p2, p3⟩; exact ⟨p1, by omega, fun q => p3 ⟨by omega, q.2⟩⟩
          · rintro ⟨p1, p2, p3⟩
            refine ⟨p1, by omega, fun q => ?_⟩
            by_cases e8 : j = k + 8
            · rw [e8, show (k + 8) % 8 = k % 8 by omega, hb] at q; cases q.2
            · exact p3 ⟨by omega, q.2⟩)
        rw [V_two hgk hb, if_pos rfl, V_P hg64 n (k + 1) s d (by omega) hs (Vd_no hv hb) hd, hfree]
        by_cases hde : d = e
        · rw [show e - d = 0 by omega, P_zero, P_zero, V_many n _ _ _ (by omega : e < d + 1), V_many n _ _ _ (by omega : e < d + 1)]
          simp
        · obtain ⟨m, hm⟩ : ∃ m, e - d = m + 1 := ⟨e - d - 1, by omega⟩
          have hm1 : e - (d + 1) = m := by omega
          rw [hm]
          show _ = P n (k + 1) (m + 1) (G g k s) + (if G g k s k = true then _ else 0)
          rw [if_pos hGk, Nat.add_assoc]
          congr 1
          have e1 : ∀ b, b < 64 → (if adj k b = true ∧ G g k s b = true ∧ k < b then P n (k + 1) m (rem (G g k s) k b) else 0) = (if adj k b = true then (if G g k s b = true ∧ k < b then P n (k + 1) m (rem (G g k s) k b) else 0) else 0) := by
            intro b _
            by_cases p : adj k b = true <;> by_cases q : G g k s b = true <;> simp [p, q]
          rw [sm_congr e1, sm_four (by omega) (fun b => if G g k s b = true ∧ k < b then P n (k + 1) m (rem (G g k s) k b) else 0)]
          have z1 : (if k % 8 ≠ 0 then (if G g k s (k - 1) = true ∧ k < k - 1 then P n (k + 1) m (rem (G g k s) k (k - 1)) else 0) else 0) = 0 := by
            rw [if_neg (by omega : ¬ (G g k s (k - 1) = true ∧ k < k - 1))]; simp
          have z2 : (if 8 ≤ k then (if G g k s (k - 8) = true ∧ k < k - 8 then P n (k + 1) m (rem (G g k s) k (k - 8)) else 0) else 0) = 0 := by
            rw [if_neg (by omega : ¬ (G g k s (k - 8) = true ∧ k < k - 8))]; simp
          rw [z1, z2]
          have r : (if k % 8 ≠ 7 ∧ g (k + 1) = true ∧ s.testBit (k % 8 + 1) = false then V g true e n (k + 1) (s + 2 ^ (k % 8 + 1)) (d + 1) else 0) = (if k % 8 ≠ 7 then (if G g k s (k + 1) = true ∧ k < k + 1 then P n (k + 1) m (rem (G g k s) k (k + 1)) else 0) else 0) := by
            by_cases h7 : k % 8 ≠ 7
            · rw [if_pos h7]
              have hmo : (k + 1) % 8 = k % 8 + 1 := by omega
              by_cases p : g (k + 1) = true ∧ s.testBit (k % 8 + 1) = false
              · obtain ⟨b1, b2⟩ := bit_add s hs (k % 8 + 1) (by omega) p.2
                rw [if_pos ⟨h7, p⟩, if_pos (by rw [G_iff, hmo]; exact ⟨⟨p.1, by omega, fun q => by rw [p.2] at q; cases q.2⟩, by omega⟩), V_P hg64 n (k + 1) _ (d + 1) (by omega) b1 (Vd_rt hv hs hb h7 p.2 p.1) (by omega), hm1]
                congr 1
                refine G_eq (fun j => ?_)
                rw [G_iff, rem_iff, G_iff]
                have hj : j % 8 < 8 := Nat.mod_lt _ (by omega)
                rw [b2 _ hj]
                simp only [Bool.or_eq_true, decide_eq_true_eq]
                constructor
                · rintro ⟨p1, p2, p3⟩
                  exact ⟨⟨p1, by omega, fun q => p3 ⟨by omega, Or.inl q.2⟩⟩, by omega, fun q => p3 ⟨by omega, Or.inr (by omega)⟩⟩
                · rintro ⟨⟨p1, p2, p3⟩, p4, p5⟩
                  refine ⟨p1, by omega, ?_⟩
                  rintro ⟨q1, q2 | q2⟩
                  · by_cases e8 : j = k + 8
                    · rw [e8, show (k + 8) % 8 = k % 8 by omega, hb] at q2; cases q2
                    · exact p3 ⟨by omega, q2⟩
                  · omega
              · rw [if_neg (fun q => p q.2), if_neg]
                rw [G_iff, hmo]
                rintro ⟨⟨q1, _, q3⟩, _⟩
                refine p ⟨q1, ?_⟩
                cases hh : s.testBit (k % 8 + 1) with
                | false => rfl
                | true => exact absurd ⟨by omega, hh⟩ q3
            · rw [if_neg h7, if_neg (fun q => h7 q.1)]
          have dd : (if g (k + 8) = true then V g true e n (k + 1) (s + 2 ^ (k % 8)) (d + 1) else 0) = (if k + 8 < 64 then (if G g k s (k + 8) = true ∧ k < k + 8 then P n (k + 1) m (rem (G g k s) k (k + 8)) else 0) else 0) := by
            by_cases p : g (k + 8) = true
            · have h64 : k + 8 < 64 := by
                by_cases q : k + 8 < 64
                · exact q
                · rw [hg64 (k + 8) (by omega)] at p; cases p
              obtain ⟨b1, b2⟩ := bit_add s hs _ hx hb
              rw [if_pos p, if_pos h64, if_pos (by rw [G_iff]; exact ⟨⟨p, by omega, fun q => by omega⟩, by omega⟩), V_P hg64 n (k + 1) _ (d + 1) (by omega) b1 (Vd_dn hv hs hb p) (by omega), hm1]
              congr 1
              refine G_eq (fun j => ?_)
              rw [G_iff, rem_iff, G_iff]
              have hj : j % 8 < 8 := Nat.mod_lt _ (by omega)
              rw [b2 _ hj]
              simp only [Bool.or_eq_true, decide_eq_true_eq]
              constructor
              · rintro ⟨p1, p2, p3⟩
                exact ⟨⟨p1, by omega, fun q => p3 ⟨by omega, Or.inl q.2⟩⟩, by omega, fun q => p3 ⟨by omega, Or.inr (by omega)⟩⟩
              · rintro ⟨⟨p1, p2, p3⟩, p4, p5⟩
                refine ⟨p1, by omega, ?_⟩
                rintro ⟨q1, q2 | q2⟩
                · exact p3 ⟨by omega, q2⟩
                · omega
            · rw [if_neg p]
              by_cases h64 : k + 8 < 64
              · rw [if_pos h64, if_neg (by rw [G_iff]; exact fun q => p q.1.1)]
              · rw [if_neg h64]
          rw [r, dd]; omega
    · have hgk : g k = false := by simpa using hgk
      have hb := Vd_bit hv hgk
      rw [V_no hgk, P_out (by rw [Bool.eq_false_iff, Ne, G_iff]; rintro ⟨h, _⟩; rw [hgk] at h; cases h), V_P hg64 n (k + 1) s d (by omega) hs (Vd_no hv hb) hd]
      congr 1
      refine G_eq (fun j => ?_)
      rw [G_iff, G_iff]
      constructor
      · rintro ⟨p1, p2, p3⟩; exact ⟨p1, by omega, fun q => p3 ⟨by omega, q.2⟩⟩
      · rintro ⟨p1, p2, p3⟩
        have : j ≠ k := fun q => by rw [q, hgk] at p1; cases p1
        refine ⟨p1, by omega, fun q => ?_⟩
        by_cases e8 : j = k + 8
        · rw [e8, show (k + 8) % 8 = k % 8 by omega, hb] at q; cases q.2
        · exact p3 ⟨by omega, q.2⟩
theorem G_whole : G g 0 0 = g := G_eq (fun j => by rw [G_iff]; simp)
theorem V_parts (hg64 : ∀ j, 64 ≤ j → g j = false) : V g true e 64 0 0 0 = P 64 0 e g := by
  rw [V_P hg64 64 0 0 0 rfl (by omega) Vd_zero (Nat.zero_le _), G_whole, Nat.sub_zero]
theorem V_tiles (hg64 : ∀ j, 64 ≤ j → g j = false) : V g false e 64 0 0 0 = if cnt 64 0 g = 2 * e then tiles g else 0 := by
  rw [V_W 64 0 0 0 (by omega) Vd_zero, W_tiles hg64, pop_zero]
  simp only [Nat.mul_zero, Nat.zero_add, Nat.add_zero]
/-- the sums over all profiles, by one index: the state and 256 times the dominoes. -/
def sumV (g : Nat → Bool) (fr : Bool) (e n k : Nat) (a : Nat → Int) : Int := si 16640 (fun i => a i * (V g fr e n k (i % 256) (i / 256) : Int))
theorem sumV_congr {a b : Nat → Int} (h : ∀ i, i < 16640 → a i = b i) : sumV g fr e n k a = sumV g fr e n k b := si_congr (fun i hi => by rw [h i hi])
theorem sumV_add {L v : Int} {t : Nat} {b : Nat → Int} (h : D L (sumV g fr e n k b)) (ht : t < 16640) : D (L + v * (V g fr e n k (t % 256) (t / 256) : Int)) (sumV g fr e n k (upd b t (wrap64 (b t + v)))) := by
  unfold sumV at h ⊢
  rw [si_upd ht]
  refine h.add (D.mul ?_ _)
  obtain ⟨q, hq⟩ := D_wrap (b t + v)
  exact ⟨-q, by omega⟩
theorem sumV_set {a : Nat → Int} {t : Nat} (ht : t < 16640) (h0 : a t = 0) (v : Int) : sumV g fr e n k (upd a t v) = sumV g fr e n k a + v * (V g fr e n k (t % 256) (t / 256) : Int) := by
  unfold sumV
  rw [si_upd ht, h0, Int.sub_zero]
theorem sumV_skip {a : Nat → Int} {q : Nat} (h : ∀ j, k ≤ j → j < k + q → g j = false) : sumV g fr e (n + q) k a = sumV g fr e n (k + q) a := si_congr (fun i _ => by rw [V_skip q n k h])
theorem sumV_start {a : Nat → Int} (h0 : a 0 = 1) (h : ∀ i, i < 16640 → i ≠ 0 → a i = 0) : sumV g fr e n k a = (V g fr e n k 0 0 : Int) := by
  unfold sumV
  rw [si_one (c := 0) (by omega) (fun i hi hne => by rw [h i hi hne, Int.zero_mul]), h0, Int.one_mul]
theorem sumV_last {a : Nat → Int} (he : e < 65) : sumV g fr e 0 k a = a (256 * e) := by
  unfold sumV
  rw [si_one (c := 256 * e) (by omega) (fun i hi hne => by rw [V_zero, if_neg (by omega)]; simp), V_zero, if_pos (by omega)]
  simp
end
end Go.Proofs.YtmaghekcpopepaaDoor.Cnt

/- A map whose keys are profiles: the keys by one index, what stands at a key, an entry raised by a number, the step of a loop over it. -/
namespace Go.Proofs.YtmaghekcpopepaaDoor.Prof
set_option linter.unusedVariables false
set_option linter.unusedSimpArgs false
set_option maxRecDepth 100000
open Go.RowKit Go.Proofs.YtmaghekcpopepaaDoor.Base Go.Proofs.YtmaghekcpopepaaDoor.Cnt
open Go.Maps (Keyed)
open Go.ChangeMaps Go.MapKept
open Go.WideElems (Fit rd rg pl rd_key rd_val rg_of rd_mk findIdx_born findIdx_arr modify_last set_self)

theorem laidOut : laidOutB Tryd.prog = true := by kernel_rfl
theorem rowK : (61 : TypeId) < Tryd.prog.types.size := of_decide_eq_true (by kernel_rfl)
theorem deepK : Tryd.prog.keyTypeAt (Tryd.prog.types.size + 1) 61 = true := by kernel_rfl
theorem wideK : (match Tryd.prog.underlying 61 with | some (.array _ _) | some (.struct _) => true | _ => false) = true := by kernel_rfl
theorem lawK : WideMaps.KeyLaw Tryd.prog 61 := deep_law_laid laidOut (m := 2) (by omega) rowK (by kernel_rfl) wideK
theorem law : Keyed Tryd.prog 61 := Keyed.of_law lawK
theorem ut : Tryd.prog.underlying 58 = some (.map 61 3) := by kernel_rfl
theorem ui : Tryd.prog.underlying 3 = some (.int .i64) := by kernel_rfl
theorem zeroE (w : World) : (zeroValue 3).run Tryd.prog w = .ok (.int .i64 0) w := by kernel_rfl

noncomputable def fsK : Array Field := match Tryd.prog.underlying 61 with | some (.struct fs) => fs | _ => #[]
theorem uk : Tryd.prog.underlying 61 = some (.struct fsK) := by kernel_rfl
theorem fsK_is : fsK.toList.map (fun f => (f.name != "_", f.type, f.offset)) = [(true, 3, 0), (true, 3, 1)] := by kernel_rfl
/-- a profile as a key. -/
def k2 (a b : Int) : Lit := .string (keyBytes [.int .i64 a, .int .i64 b])
theorem key2 {a b : Int} (ha : (Lit.int .i64 a).wf = true) (hb : (Lit.int .i64 b).wf = true) : keyOf Tryd.prog 61 (.agg #[.int .i64 a, .int .i64 b]) = some (k2 a b) := by
  have hu := uk
  have hf := fsK_is
  generalize fsK = fs at hu hf
  have hc : Tryd.prog.cellsOf 61 = 2 := by kernel_rfl
  have hi : Tryd.prog.cellsOf 3 = 1 := by kernel_rfl
  have ht : Tryd.prog.keyType 61 = true := deepK
  have hsz : ∃ n, Tryd.prog.types.size + 1 = n + 1 + 1 := ⟨Tryd.prog.types.size - 1, by have : 0 < Tryd.prog.types.size := Nat.lt_of_le_of_lt (Nat.zero_le _) rowK; omega⟩
  obtain ⟨n, hn⟩ := hsz
  have he : ∀ c : Int, (Lit.int .i64 c).wf = true → Tryd.prog.keyLits (n + 1) 3 [.int .i64 c] = some [.int .i64 c] := fun c hw => by
    unfold Program.keyLits
    rw [ui]; simp [hw]
  have hkl : Tryd.prog.keyLits (n + 1 + 1) 61 [.int .i64 a, .int .i64 b] = some [.int .i64 a, .int .i64 b] := by
    rw [Program.keyLits.eq_def]
    simp only [hu, hc]
    have hall : fs.all (fun f => f.name != "_") = true := by
      rw [← Array.all_toList]
      have : (fs.toList.map (fun f => (f.name != "_", f.type, f.offset))).all (fun p => p.1) = true := by rw [hf]; rfl
      simpa [List.all_map, Function.comp_def] using this
    rw [if_pos ⟨rfl, hall⟩]
    have hm : (fs.toList.mapM fun f => Tryd.prog.keyLits (n + 1) f.type (([Value.int .i64 a, Value.int .i64 b].drop f.offset).take (Tryd.prog.cellsOf f.type))) = ((fs.toList.map (fun f => (f.name != "_", f.type, f.offset))).mapM fun p => Tryd.prog.keyLits (n + 1) p.2.1 (([Value.int .i64 a, Value.int .i64 b].drop p.2.2).take (Tryd.prog.cellsOf p.2.1))) := by
      rw [List.mapM_map]; rfl
    rw [hm, hf]
    simp [hi, he a ha, he b hb]
  have hform : (Value.agg #[.int .i64 a, .int .i64 b]).formed Tryd.prog 61 = true := by
    simp [Value.formed, hu, hc]
  unfold keyOf
  rw [hu]
  simp only [ht, hform, hn, Bool.and_true, if_true]
  show Option.map _ (Tryd.prog.keyLits (n + 1 + 1) 61 [.int .i64 a, .int .i64 b]) = _
  rw [hkl]; rfl
theorem k2_inj {a b c d : Int} (ha : (Lit.int .i64 a).wf = true) (hb : (Lit.int .i64 b).wf = true) (hc : (Lit.int .i64 c).wf = true) (hd : (Lit.int .i64 d).wf = true) (h : k2 a b = k2 c d) : a = c ∧ b = d := by
  have h1 := key2 ha hb
  rw [h] at h1
  have := law.inj h1 (key2 hc hd)
  simpa using this
theorem wf_nat {n : Nat} (h : n < 1000000) : (Lit.int .i64 (n : Int)).wf = true := WalkArith.wf_i64 (by omega)
/-- the key of an index. -/
def kI (i : Nat) : Lit := k2 ((i % 256 : Nat) : Int) ((i / 256 : Nat) : Int)
theorem keyI {i : Nat} (hi : i < 20000) : keyOf Tryd.prog 61 (.agg #[.int .i64 ((i % 256 : Nat) : Int), .int .i64 ((i / 256 : Nat) : Int)]) = some (kI i) := key2 (wf_nat (by omega)) (wf_nat (by omega))
theorem kI_key {i : Nat} (hi : i < 20000) : WideAt.IsKeyLit (kI i) := law.key (keyI hi)
theorem kI_inj {i j : Nat} (hi : i < 20000) (hj : j < 20000) (h : kI i = kI j) : i = j := by
  obtain ⟨h1, h2⟩ := k2_inj (wf_nat (by omega)) (wf_nat (by omega)) (wf_nat (by omega)) (wf_nat (by omega)) h
  omega
theorem same_kI {i j : Nat} (hi : i < 20000) (hj : j < 20000) : (kI i).sameKey (kI j) = decide (i = j) := by
  by_cases h : i = j
  · subst h; rw [WideAt.sameKey_self (kI_key hi)]; simp
  · rw [Maps.sameKey_ne (fun e => h (kI_inj hi hj e))]; simp [h]

/-- the number that stands at a key; 0 where none does. -/
def num (d : DataW Unit) : Int := match d with | .lit (.int .i64 c) => c | _ => 0
def at2 (D : DataW Unit) (kl : Lit) : Int := num (D.atKey kl (.lit (.int .i64 0)))
def vw (D : DataW Unit) (i : Nat) : Int := at2 D (kI i)
theorem at2_of {D : DataW Unit} {kl : Lit} {c : Int} (h : D.atKey kl (.lit (.int .i64 0)) = .lit (.int .i64 c)) : at2 D kl = c := by unfold at2; rw [h]; rfl
theorem vw_put {D : DataW Unit} (hD : Maps.IsMap D) {t : Nat} (ht : t < 20000) (c : Int) {i : Nat} (hi : i < 20000) : vw (D.put (kI t) (.lit (.int .i64 c))) i = upd (vw D) t c i := by
  by_cases e : i = t
  · subst e
    rw [upd_at]; unfold vw at2
    rw [Maps.atKey_put_same hD (kI_key ht)]; rfl
  · rw [upd_ne e]; unfold vw at2
    rw [Maps.atKey_put_other (fun q => e (kI_inj hi ht q))]
theorem at2_not {D : DataW Unit} {kl : Lit} (h : Maps.has D kl = false) : at2 D kl = 0 := by unfold at2; rw [Maps.atKey_of_not_has h]; rfl
/-- the keys of a map: profiles of at most q dominoes, with valid states. -/
def KD (D : DataW Unit) (g : Nat → Bool) (k q : Nat) : Prop := ∀ kl, Maps.has D kl = true → ∃ i, i < 256 * (q + 1) ∧ kl = kI i ∧ Vd g k (i % 256)
theorem KD.put {D : DataW Unit} {g : Nat → Bool} {k q t : Nat} (h : KD D g k q) (hD : Maps.IsMap D) (ht : t < 256 * (q + 1)) (hv : Vd g k (t % 256)) (d : DataW Unit) : KD (D.put (kI t) d) g k q := fun kl hk => by
  by_cases e : kl = kI t
  · exact ⟨t, ht, e, hv⟩
  · rw [Maps.has_put_other e] at hk; exact h kl hk
theorem KD.none {g : Nat → Bool} {k q : Nat} : KD (.map []) g k q := fun kl h => by cases h
theorem vw_none (i : Nat) : vw (.map []) i = 0 := rfl

/-- a list without doubles of numbers below n. -/
theorem nodup_len : ∀ (n : Nat) (l : List Nat), l.Nodup → (∀ x ∈ l, x < n) → l.length ≤ n
  | 0, l, _, h => by
    cases l with
    | nil => simp
    | cons x r => exact absurd (h x (by simp)) (by omega)
  | n + 1, l, hn, h => by
    by_cases hm : n ∈ l
    · have h1 := nodup_len n (l.erase n) (hn.erase n) (fun x hx => by
        have h2 := h x (List.mem_of_mem_erase hx)
        have : x ≠ n := fun e => by
          subst e
          exact (List.Nodup.not_mem_erase hn) hx
        omega)
      rw [List.length_erase_of_mem hm] at h1; omega
    · have := nodup_len n l hn (fun x hx => by
        have h2 := h x hx
        have : x ≠ n := fun e => hm (e ▸ hx)
        omega)
      omega
theorem index_list : ∀ (l : List (Lit × DataW Unit)) (n : Nat), l.Pairwise (fun p q => p.1 ≠ q.1) → (∀ p ∈ l, ∃ i, i < n ∧ p.1 = kI i) → ∃ m : List Nat, m.length = l.length ∧ m.Nodup ∧ (∀ x ∈ m, x < n) ∧ ∀ x ∈ m, ∃ p ∈ l, p.1 = kI x
  | [], n, _, _ => ⟨[], rfl, List.nodup_nil, by simp, by simp⟩
  | p :: r, n, hp, h => by
    obtain ⟨h1, h2⟩ := List.pairwise_cons.1 hp
    obtain ⟨m, m1, m2, m3, m4⟩ := index_list r n h2 (fun q hq => h q (by simp [hq]))
    obtain ⟨i, hi, e⟩ := h p (by simp)
    refine ⟨i :: m, by simp [m1], List.nodup_cons.2 ⟨fun hm => ?_, m2⟩, fun x hx => ?_, fun x hx => ?_⟩
    · obtain ⟨q, hq, eq⟩ := m4 i hm
      exact h1 q hq (e.trans eq.symm)
    · rcases List.mem_cons.1 hx with rfl | hx
      · exact hi
      · exact m3 x hx
    · rcases List.mem_cons.1 hx with rfl | hx
      · exact ⟨p, by simp, e⟩
      · obtain ⟨q, hq, eq⟩ := m4 x hx
        exact ⟨q, by simp [hq], eq⟩
noncomputable abbrev RE : Value → Option (DataW Unit × List MemPlace) := plainElem (H := Unit) Tryd.prog 3
/-- the block b is a map of profiles that reads as D. -/
def Own (w : World) (b : Nat) (D : DataW Unit) : Prop := w.ownsMap Tryd.prog 61 RE b 20000 D
theorem own_bound {w : World} {b n q k : Nat} {g : Nat → Bool} {D : DataW Unit} (h : w.ownsMap Tryd.prog 61 RE b n D) (hk : KD D g k q) (hq : q ≤ 65) : Own w b D := by
  obtain ⟨es0, hD0, hp, hkeys⟩ := h.entries law
  have hlen : es0.length ≤ 20000 := by
    obtain ⟨m, m1, m2, m3, _⟩ := index_list es0 20000 hp (fun p hp' => by
      obtain ⟨i, hi, e, _⟩ := hk p.1 (by rw [hD0]; exact List.any_eq_true.2 ⟨p, hp', WideAt.sameKey_self (hkeys p hp')⟩)
      exact ⟨i, by omega, e⟩)
    rw [← m1]; exact nodup_len 20000 m m2 m3
  obtain ⟨es, clock, hb, F, hs, hD⟩ := h
  refine ⟨es, clock, hb, F, ?_, hD⟩
  rw [hD0] at hD
  cases hD
  rw [length_sorted] at hlen
  simpa using hlen
theorem Own.isMap {w : World} {b : Nat} {D : DataW Unit} (h : Own w b D) : Maps.IsMap D := by
  obtain ⟨es, clock, hb, F, hs, hD⟩ := h
  exact ⟨_, hD⟩
theorem Own.lt {w : World} {b : Nat} {D : DataW Unit} (h : Own w b D) : b < w.heap.size := World.ownsMap.lt h
theorem Own.on {w w' : World} {b : Nat} {D : DataW Unit} (h : Own w b D) (hb : Below w.heap.size w w') : Own w' b D := by
  have hlt := h.lt
  obtain ⟨es, clock, hb', F, hs, hD⟩ := h
  exact ⟨es, clock, (hb.block b hlt).trans hb', F, hs, hD⟩
/-- the way of 'm[k] += v': what is read, the entry that is made or found, what is stored. -/
theorem own_raise {w : World} {b : Nat} {D : DataW Unit} (h : Own w b D) {key : Value} {kl : Lit} (hkey : keyOf Tryd.prog 61 key = some kl) :
    ∃ (st : Nat) (w1 : World), (Lit.int .i64 (at2 D kl)).wf = true ∧ (Instr.lookup 58 (.map (some b)) key false).run Tryd.prog w = .ok (.int .i64 (at2 D kl)) w ∧
      (Instr.mapEntry 58 (.map (some b)) key).run Tryd.prog w = .ok (.tuple #[.int .i64 (at2 D kl), .int .i64 (st : Int)]) w1 ∧
      (Instr.lookup 58 (.map (some b)) key false).run Tryd.prog w1 = .ok (.int .i64 (at2 D kl)) w1 ∧ w.grownBy w1 (some b) ∧ w1.heap.size = w.heap.size ∧
      ∀ v : Int, (Lit.int .i64 v).wf = true → ∃ w2, (Instr.entryStore 58 (.map (some b)) (.int .i64 (st : Int)) (.int .i64 v)).run Tryd.prog w1 = .ok () w2 ∧
        w2.ownsMap Tryd.prog 61 RE b 20001 (D.put kl (.lit (.int .i64 v))) ∧ w.grownBy w2 (some b) ∧ w2.heap.size = w.heap.size := by
  obtain ⟨c, hl, hat, hwc⟩ := World.ownsMap.lookup_int h law ut ui (zeroE w) hkey
  have hc := at2_of hat
  subst hc
  have hD := h.isMap
  have hown := h
  obtain ⟨es, clock, hb, F, hs, rfl⟩ := h
  obtain ⟨s1, s2, _⟩ := F.stamped
  have hgr : ∀ o, w.grownBy (setBlock w b o) (some b) := fun o => ⟨rfl, rfl, rfl, by simp [setBlock], fun i _ hi => heap_setBlock_other hb _ (fun e => hi (by rw [e]))⟩
  have hsz : ∀ o, (setBlock w b o).heap.size = w.heap.size := fun o => by simp [setBlock]
  have hself : ∀ o o', setBlock (setBlock w b o) b o' = setBlock w b o' := fun o o' => by simp [setBlock]
  rcases lawK.find w hkey es.toList F.keys with ⟨h1, h2⟩ | ⟨j, e0, h1, h2, h3⟩
  · have hup : ∀ v : Int, (Instr.mapUpdate 58 (.map (some b)) key (.int .i64 v)).run Tryd.prog w = .ok () (setBlock w b (.map (es.push ⟨key, .int .i64 v, clock⟩) (clock + 1))) := fun v => by
      simp [Instr.mapUpdate, run_underlying ut, MapKept.run_getObj_map hb, law.check w false hkey, h1, MapKept.run_setObj_map _ hb, Result.andThen, setBlock]
    have hz0 : at2 (.map ((es.toList.map (rg Tryd.prog 61 RE)).foldr DataW.insert [])) kl = 0 := by
      rcases Maps.fit_look false law ut (zeroE w) hb F hkey with ⟨_, _, hat'⟩ | ⟨e1, y, he1, hk1, _⟩
      · unfold at2; rw [hat']; rfl
      · exact absurd hk1 (h2 e1 he1)
    rw [hz0] at hl hwc ⊢
    obtain ⟨w1, hr1, ho1, hg1⟩ := World.ownsMap.update hown law ut (by unfold maxLen; omega) hkey (plainElem_int (H := Unit) ui (a := 0) hwc)
    rw [hup 0] at hr1
    injection hr1 with _ hw1
    obtain ⟨c1, hl1, hat1, _⟩ := World.ownsMap.lookup_int ho1 law ut ui (zeroE w1) hkey
    rw [Maps.atKey_put_same hD (law.key hkey)] at hat1
    injection hat1 with e1
    injection e1 with _ e1
    subst e1
    refine ⟨clock, w1, hwc, hl, ?_, hl1, hg1, by rw [← hw1]; exact hsz _, fun v hv => ?_⟩
    · rw [← hw1]
      simp [Instr.mapEntry, run_underlying ut, MapKept.run_getObj_map hb, law.check w false hkey, h1, zeroE, MapKept.run_setObj_map _ hb, Result.andThen, setBlock, goInt]
    · obtain ⟨w2, hr2, ho2, hg2⟩ := World.ownsMap.update hown law ut (by unfold maxLen; omega) hkey (plainElem_int (H := Unit) ui (a := v) hv)
      rw [hup v] at hr2
      injection hr2 with _ hw2
      refine ⟨w2, ?_, ho2, hg2, by rw [← hw2]; exact hsz _⟩
      have hb1 : w1.heap[b]? = some (.map (es.push ⟨key, .int .i64 0, clock⟩) (clock + 1)) := by rw [← hw1]; exact heap_setBlock_same hb _
      have hidx : (es.push ⟨key, .int .i64 0, clock⟩).findIdx? (fun e => ((e.born : Nat) : Int) == ((clock : Nat) : Int)) = some es.size := by
        rw [findIdx_arr]
        exact findIdx_born (l := (es.push ⟨key, .int .i64 0, clock⟩).toList) (j := es.size) (e0 := ⟨key, .int .i64 0, clock⟩) (by
          simp only [Array.toList_push, List.map_append, List.map_cons, List.map_nil]
          refine List.nodup_append.2 ⟨s2, by simp, fun a ha c hc e1 => ?_⟩
          simp only [List.mem_singleton] at hc
          obtain ⟨x, hx, rfl⟩ := List.mem_map.1 ha
          have := s1 x hx
          omega) (by simp)
      have hmod : (es.push ⟨key, .int .i64 0, clock⟩).modify es.size (fun e => { e with val := .int .i64 v }) = es.push ⟨key, .int .i64 v, clock⟩ := by
        apply Array.ext'
        rw [Array.toList_modify, Array.toList_push, Array.toList_push, ← Array.length_toList, modify_last]
      have : (Instr.entryStore 58 (.map (some b)) (.int .i64 (clock : Int)) (.int .i64 v)).run Tryd.prog w1 = .ok () (setBlock w1 b (.map (es.push ⟨key, .int .i64 v, clock⟩) (clock + 1))) := by
        simp [Instr.entryStore, MapKept.run_getObj_map hb1, asInt, asIntOf, hidx, hmod, MapKept.run_setObj_map _ hb1, Result.andThen, setBlock]
      rw [this, ← hw2, ← hw1, hself]
  · have hj : es[j]? = some e0 := by simpa using h2
    have hsame : es.modify j (fun e => { e with key := key }) = es := by
      apply Array.ext'
      rw [Array.toList_modify, modify_eq_set _ _ _ _ h2]
      have : ({ e0 with key := key } : MapEntry) = e0 := by rw [← h3]
      rw [this]
      exact set_self _ _ _ h2
    have hv0 : e0.val = .int .i64 (at2 (.map ((es.toList.map (rg Tryd.prog 61 RE)).foldr DataW.insert [])) kl) := by
      have : (Instr.lookup 58 (.map (some b)) key false).run Tryd.prog w = .ok e0.val w := by
        simp [Instr.lookup, run_underlying ut, MapKept.run_getObj_map hb, law.check w _ hkey, h1, Result.andThen]
      rw [this] at hl
      injection hl
    generalize at2 (.map ((es.toList.map (rg Tryd.prog 61 RE)).foldr DataW.insert [])) kl = c0 at hl hat hwc hv0 ⊢
    have hb1 : (setBlock w b (.map es clock)).heap[b]? = some (.map es clock) := heap_setBlock_same hb _
    refine ⟨e0.born, setBlock w b (.map es clock), hwc, hl, ?_, ?_, hgr _, hsz _, fun v hv => ?_⟩
    · simp [Instr.mapEntry, run_underlying ut, MapKept.run_getObj_map hb, law.check w false hkey, h1, hj, h3, law.stays w hkey, hsame, MapKept.run_setObj_map _ hb, Result.andThen, setBlock, goInt, hv0]
    · obtain ⟨c1, hl1, hat1, _⟩ := World.ownsMap.lookup_int (n := 20000) (⟨es, clock, hb1, F, hs, rfl⟩ : World.ownsMap _ Tryd.prog 61 RE b 20000 _) law ut ui (zeroE _) hkey
      rw [hat] at hat1
      injection hat1 with e1
      injection e1 with _ e1
      rw [e1]; exact hl1
    · have hup : (Instr.mapUpdate 58 (.map (some b)) key (.int .i64 v)).run Tryd.prog w = .ok () (setBlock w b (.map (es.modify j (fun e' => { e' with key := key, val := .int .i64 v })) clock)) := by
        simp [Instr.mapUpdate, run_underlying ut, MapKept.run_getObj_map hb, law.check w false hkey, h1, hj, h3, law.stays w hkey, MapKept.run_setObj_map _ hb, Result.andThen, setBlock]
      obtain ⟨w2, hr2, ho2, hg2⟩ := World.ownsMap.update hown law ut (by unfold maxLen; omega) hkey (plainElem_int (H := Unit) ui (a := v) hv)
      rw [hup] at hr2
      injection hr2 with _ hw2
      refine ⟨w2, ?_, ho2, hg2, by rw [← hw2]; exact hsz _⟩
      have hidx : es.findIdx? (fun e => ((e.born : Nat) : Int) == ((e0.born : Nat) : Int)) = some j := by
        rw [findIdx_arr]
        exact findIdx_born s2 h2
      have hmod : es.modify j (fun e => { e with val := .int .i64 v }) = es.modify j (fun e' => { e' with key := key, val := .int .i64 v }) := by
        apply Array.ext'
        rw [Array.toList_modify, Array.toList_modify, modify_eq_set _ _ _ _ h2, modify_eq_set _ _ _ _ h2, ← h3]
      have hst : ∀ W1 : World, W1.heap[b]? = some (.map es clock) → (Instr.entryStore 58 (.map (some b)) (.int .i64 (e0.born : Int)) (.int .i64 v)).run Tryd.prog W1 = .ok () (setBlock W1 b (.map (es.modify j (fun e' => { e' with key := key, val := .int .i64 v })) clock)) := fun W1 hb1 => by
        simp [Instr.entryStore, MapKept.run_getObj_map hb1, asInt, asIntOf, hidx, hmod, MapKept.run_setObj_map _ hb1, Result.andThen, setBlock]
      rw [hst _ hb1, ← hw2, hself]
end Go.Proofs.YtmaghekcpopepaaDoor.Prof

/- A row of 256 numbers in memory, and the bits of a state as the model reckons them: no program here. -/
namespace Go.Proofs.YtmaghekcpopepaaDoor.Cnt
set_option linter.unusedVariables false
set_option linter.unusedSimpArgs false
open Go.RowKit Go.Proofs.YtmaghekcpopepaaDoor.Base Go.Proofs.YtmaghekcpopepaaDoor.Pure Go.Proofs.YtmaghekcpopepaaDoor.Reg Go.Joins

/-- the numbers in the block b. -/
def Nums (W : World) (b : Nat) (a : Nat → Int) : Prop := ∃ cs t, W.heap[b]? = some (.cells cs t (0, 0)) ∧ cs.size = 256 ∧ ∀ v, v < 256 → cs[v]? = some (.int .i64 (a v))
theorem Nums.lt {W : World} {b : Nat} {a : Nat → Int} (h : Nums W b a) : b < W.heap.size := by
  obtain ⟨cs, t, h, _⟩ := h
  exact (Array.getElem?_eq_some_iff.1 h).1
theorem Nums.cell {W : World} {b : Nat} {a : Nat → Int} (h : Nums W b a) {v : Nat} (hv : v < 256) : W.cell? ⟨b, v, none⟩ = some (.int .i64 (a v)) := by
  obtain ⟨cs, t, h, _, h2⟩ := h
  rw [cell_of_block h v]; exact h2 v hv
theorem Nums.frozen {W : World} {b : Nat} {a : Nat → Int} (h : Nums W b a) (v : Nat) : W.frozen? ⟨b, v, none⟩ = false := by
  obtain ⟨cs, t, h, _⟩ := h
  exact unfrozen_of_block h v
theorem Nums.set {W : World} {b : Nat} {a : Nat → Int} (h : Nums W b a) {v : Nat} (hv : v < 256) (x : Int) : Nums (W.setCell ⟨b, v, none⟩ (.int .i64 x)) b (upd a v x) := by
  obtain ⟨cs, t, h, hs, h2⟩ := h
  refine ⟨_, t, block_setCell h _, by simpa using hs, fun u hu => ?_⟩
  unfold upd
  rw [Array.getElem?_setIfInBounds]
  by_cases e : v = u
  · subst e; rw [if_pos rfl, if_pos (by omega), if_pos rfl]
  · rw [if_neg e, h2 u hu, if_neg (fun q => e q.symm)]
theorem Nums.below {W W' : World} {b B : Nat} {a : Nat → Int} (h : Nums W b a) (hb : Below B W W') (hB : b < B) : Nums W' b a := by
  obtain ⟨cs, t, h, r⟩ := h
  exact ⟨cs, t, (hb.block b hB).trans h, r⟩
theorem Nums.on {W W' : World} {b : Nat} {a : Nat → Int} (h : Nums W b a) (hb : Below W.heap.size W W') : Nums W' b a := h.below hb h.lt
theorem Nums.drew {W : World} {b : Nat} {a : Nat → Int} (h : Nums W b a) : Nums W.drew b a := h
theorem Nums.same {W : World} {b : Nat} {a a' : Nat → Int} (h : Nums W b a) (e : ∀ v, v < 256 → a v = a' v) : Nums W b a' := by
  obtain ⟨cs, t, h, hs, h2⟩ := h
  exact ⟨cs, t, h, hs, fun v hv => by rw [h2 v hv, e v hv]⟩

theorem state_table : ∀ s : Fin 256, ∀ x : Fin 8, bitB ((s.val : Nat) : Int) x.val = s.val.testBit x.val ∧ (s.val.testBit x.val = false → bits .or .i64 ((s.val : Nat) : Int) ((2 ^ x.val : Nat) : Int) = ((s.val + 2 ^ x.val : Nat) : Int)) ∧ (s.val.testBit x.val = true → 2 ^ x.val ≤ s.val) := by decide +kernel
theorem state_bit {s x : Nat} (hs : s < 256) (hx : x < 8) : bitB (s : Int) x = s.testBit x := (state_table ⟨s, hs⟩ ⟨x, hx⟩).1
theorem state_or {s x : Nat} (hs : s < 256) (hx : x < 8) (h : s.testBit x = false) : bits .or .i64 (s : Int) (2 ^ x) = ((s + 2 ^ x : Nat) : Int) := by
  have := (state_table ⟨s, hs⟩ ⟨x, hx⟩).2.1 h
  simpa using this
theorem state_sub {s x : Nat} (hs : s < 256) (hx : x < 8) (h : s.testBit x = true) : (s : Int) - 2 ^ x = ((s - 2 ^ x : Nat) : Int) := by
  have := (state_table ⟨s, hs⟩ ⟨x, hx⟩).2.2 h
  rw [Int.natCast_sub this]; simp
theorem state_shr0 {s x : Nat} (hs : s < 256) (hx : x < 8) (h : s.testBit x = false) : bits .and .i64 ((s : Int) / 2 ^ x) 1 = 0 := shr_no (by omega) (by omega) hx (by rw [state_bit hs hx]; exact h)
theorem state_shr1 {s x : Nat} (hs : s < 256) (hx : x < 8) (h : s.testBit x = true) : bits .and .i64 ((s : Int) / 2 ^ x) 1 = 1 := shr_yes (by omega) (by omega) hx (by rw [state_bit hs hx]; exact h)
end Go.Proofs.YtmaghekcpopepaaDoor.Cnt

/- The functions on a profile: is a column covered, the profile without a column, and with one more domino. -/
namespace Go.Proofs.YtmaghekcpopepaaDoor.Prof
set_option linter.unusedVariables false
set_option linter.unusedSimpArgs false
open Go.RowKit Go.Proofs.YtmaghekcpopepaaDoor.Base Go.Proofs.YtmaghekcpopepaaDoor.Pure Go.Proofs.YtmaghekcpopepaaDoor.Cell Go.Proofs.YtmaghekcpopepaaDoor.Reg Go.Proofs.YtmaghekcpopepaaDoor.Cnt Go.Joins

theorem wrap_is (x : Int) : IntKind.i64.wrap x = wrap64 x := by rw [IntKind.wrap_i64]; unfold wrap64; first | rfl | omega
/-- an ending with one profile. -/
def Pro (s d : Int) (w : World) (e : Ending) (w' : World) : Prop := e = .returned (.agg #[.int .i64 s, .int .i64 d]) ∧ Below w.heap.size w w'
theorem mkPro {s d s' d' : Int} {w w' : World} {e : Ending} (hs : s' = s) (hd : d' = d) (he : e = .returned (.agg #[.int .i64 s', .int .i64 d'])) (hb : Below w.heap.size w w') : Pro s d w e w' := ⟨by rw [he, hs, hd], hb⟩
theorem andNot_table : ∀ s : Fin 256, ∀ x : Fin 8, s.val.testBit x.val = true → bits .andNot .i64 ((s.val : Nat) : Int) ((2 ^ x.val : Nat) : Int) = ((s.val - 2 ^ x.val : Nat) : Int) := by decide +kernel
theorem state_andNot {s x : Nat} (hs : s < 256) (hx : x < 8) (h : s.testBit x = true) : bits .andNot .i64 (s : Int) (2 ^ x) = ((s - 2 ^ x : Nat) : Int) := by
  have := andNot_table ⟨s, hs⟩ ⟨x, hx⟩ h
  simpa using this

set_option maxRecDepth 100000 in
set_option maxHeartbeats 2000000 in
theorem iCovers (s d x : Nat) (hs : s < 256) (hx : x < 8) (w : World) :
    Calls Tryd.prog 87 #[.agg #[.int .i64 (s : Int), .int .i64 (d : Int)], .int .i64 (x : Int)] w (Bol (s.testBit x) w) := by
  have HB := Lib.hid (below_alloc1 w (.cells #[.int .i64 (s : Int), .int .i64 (d : Int)] 61))
  have hbit := state_bit hs hx
  have h0 : (0 : Int) ≤ (s : Int) := by omega
  have h1 : (s : Int) ≤ 255 := by omega
  generalize (d : Int) = d' at HB ⊢
  generalize s.testBit x = bt at hbit ⊢
  generalize (s : Int) = s' at HB h0 h1 hbit ⊢
  cases bt with
  | false =>
    have hz := and_no h0 h1 hx hbit
    clear h0 h1 hbit hs
    have hcs : x = 0 ∨ x = 1 ∨ x = 2 ∨ x = 3 ∨ x = 4 ∨ x = 5 ∨ x = 6 ∨ x = 7 := by omega
    clear hx
    rcases hcs with rfl | rfl | rfl | rfl | rfl | rfl | rfl | rfl
    all_goals
      simp only [Int.reducePow] at hz
      go_enter Tryd.func87, Tryd.ntmps87
      go_wp2_with fail
      go_quiet (fail)
      go_wp2
      go_ret
      exact ⟨rfl, HB.out.trans (drewN_below (Below.refl _ _) _)⟩
  | true =>
    have hz := and_yes h0 h1 hx hbit
    clear h0 h1 hbit hs
    have hcs : x = 0 ∨ x = 1 ∨ x = 2 ∨ x = 3 ∨ x = 4 ∨ x = 5 ∨ x = 6 ∨ x = 7 := by omega
    clear hx
    rcases hcs with rfl | rfl | rfl | rfl | rfl | rfl | rfl | rfl
    all_goals
      simp only [Int.reducePow] at hz
      go_enter Tryd.func87, Tryd.ntmps87
      go_wp2_with fail
      go_quiet (fail)
      go_wp2
      go_ret
      exact ⟨rfl, HB.out.trans (drewN_below (Below.refl _ _) _)⟩

/-- a profile's box, and the result's. -/
def PB (w : World) (s d : Int) (W : World) : Prop := Below w.heap.size w W ∧ (W.cell? ⟨w.heap.size, 0, none⟩ = some (.int .i64 s) ∧ W.cell? ⟨w.heap.size, 1, none⟩ = some (.int .i64 d)) ∧ W.cell? ⟨w.heap.size + 1, 0, none⟩ = some (.int .i64 0) ∧ W.cell? ⟨w.heap.size + 1, 1, none⟩ = some (.int .i64 0) ∧ W.frozen? ⟨w.heap.size + 1, 0, none⟩ = false ∧ W.frozen? ⟨w.heap.size + 1, 1, none⟩ = false
theorem pb_start (w : World) (s d : Int) : PB w s d ((w.alloc (.cells #[.int .i64 s, .int .i64 d] 61)).alloc (.cells #[.int .i64 0, .int .i64 0] 61)) := by
  have e0 : (w.alloc (.cells #[.int .i64 s, .int .i64 d] 61)).heap.size = w.heap.size + 1 := by simp
  have h1 := heap_alloc_new (w.alloc (.cells #[.int .i64 s, .int .i64 d] 61)) (.cells #[.int .i64 0, .int .i64 0] 61)
  rw [e0] at h1
  have h0 : ((w.alloc (.cells #[.int .i64 s, .int .i64 d] 61)).alloc (.cells #[.int .i64 0, .int .i64 0] 61)).heap[w.heap.size]? = some (.cells #[.int .i64 s, .int .i64 d] 61) :=
    ((below_alloc1 (w.alloc (.cells #[.int .i64 s, .int .i64 d] 61)) _).block w.heap.size (by rw [e0]; omega)).trans (heap_alloc_new w _)
  exact ⟨below_alloc2 w _ _, ⟨(cellAt h0 0).1.trans rfl, (cellAt h0 1).1.trans rfl⟩, (cellAt h1 0).1.trans rfl, (cellAt h1 1).1.trans rfl, (cellAt h1 0).2, (cellAt h1 1).2⟩
theorem PB.drew {w W : World} {s d : Int} (h : PB w s d W) : PB w s d W.drew := ⟨h.1.drew, h.2⟩
theorem PB.put {w W : World} {s d : Int} (h : PB w s d W) (v u : Value) : Below w.heap.size w ((W.setCell ⟨w.heap.size + 1, 0, none⟩ v).setCell ⟨w.heap.size + 1, 1, none⟩ u) ∧ ((W.setCell ⟨w.heap.size + 1, 0, none⟩ v).setCell ⟨w.heap.size + 1, 1, none⟩ u).cell? ⟨w.heap.size + 1, 0, none⟩ = some v ∧ ((W.setCell ⟨w.heap.size + 1, 0, none⟩ v).setCell ⟨w.heap.size + 1, 1, none⟩ u).cell? ⟨w.heap.size + 1, 1, none⟩ = some u := by
  obtain ⟨h1, _, q0, q1, f0, f1⟩ := h
  refine ⟨(h1.setCell (p := ⟨w.heap.size + 1, 0, none⟩) (Nat.le_succ _) v).setCell (p := ⟨w.heap.size + 1, 1, none⟩) (Nat.le_succ _) u, ?_, ?_⟩
  · rw [World.cell?_setCell_other _ _ _ _ (by simp)]
    exact World.cell?_setCell_same _ _ _ q0
  · exact World.cell?_setCell_same _ _ _ (by rw [World.cell?_setCell_other _ _ _ _ (by simp)]; exact q1)

set_option maxRecDepth 100000 in
set_option maxHeartbeats 2000000 in
theorem iWithout (s d x : Nat) (hs : s < 256) (hd : d < 1000) (hx : x < 8) (hb : s.testBit x = true) (w : World) :
    Calls Tryd.prog 88 #[.agg #[.int .i64 (s : Int), .int .i64 (d : Int)], .int .i64 (x : Int)] w (Pro ((s - 2 ^ x : Nat) : Int) (d : Int) w) := by
  have T0 := Lib.hid (pb_start w (s : Int) (d : Int))
  have hz := state_andNot hs hx hb
  have hdd : IntKind.i64.wrap ((d : Int) + 1) = ((d + 1 : Nat) : Int) := by rw [wrap_is]; unfold wrap64; omega
  generalize (s - 2 ^ x : Nat) = t at hz ⊢
  generalize ((d + 1 : Nat) : Int) = d1 at hdd ⊢
  generalize (d : Int) = d' at T0 hdd ⊢
  generalize (s : Int) = s' at T0 hz ⊢
  clear hb hs hd
  have hcs : x = 0 ∨ x = 1 ∨ x = 2 ∨ x = 3 ∨ x = 4 ∨ x = 5 ∨ x = 6 ∨ x = 7 := by omega
  clear hx
  rcases hcs with rfl | rfl | rfl | rfl | rfl | rfl | rfl | rfl
  all_goals
    simp only [Int.reducePow] at hz
    go_enter Tryd.func88, Tryd.ntmps88
    go_wp2_with fail
    have T1 := T0.out
    clear T0
    generalize (w.alloc _).alloc _ = W at T1 ⊢
    obtain ⟨hB, ⟨c0, c1⟩, q0, q1, f0, f1⟩ := T1.drew
    have HP := Lib.hid T1.drew.put
    clear T1
    refine wp_region_noPanic ?_
    refine wp_region_held_drew (S := (fun w' => w'.cell? ⟨w.heap.size, 0, none⟩ = some (.int .i64 s') ∧ w'.cell? ⟨w.heap.size, 1, none⟩ = some (.int .i64 d'))) (by kernel_rfl) (⟨c0, c1⟩) (fun hHeld => ?_)
    generalize W.drew = WR at hB c0 c1 q0 q1 f0 f1 HP hHeld ⊢
    refine wpAnyH_take (i := 0) (v := ?_) rfl (by kernel_rfl) (by kernel_rfl) (by kernel_rfl) (fun _ _ _ h => h) (Or.inl ⟨by rfl, ?_⟩) (by assumption) ?_
    rotate_left
    · (intro w' hS; (try dsimp only at hS); go_simp; try with_reducible rfl)
    try simp only [Act.put, List.getElem_toArray, List.getElem_cons_succ, List.getElem_cons_zero, List.setIfInBounds_toArray, List.set_cons_zero, List.set_cons_succ]
    refine wpAnyH_take (i := 1) (v := ?_) rfl (by kernel_rfl) (by kernel_rfl) (by kernel_rfl) (fun _ _ _ h => h) (Or.inl ⟨by rfl, ?_⟩) (by assumption) ?_
    rotate_left
    · (intro w' hS; (try dsimp only at hS); go_simp; try with_reducible rfl)
    try simp only [Act.put, List.getElem_toArray, List.getElem_cons_succ, List.getElem_cons_zero, List.setIfInBounds_toArray, List.set_cons_zero, List.set_cons_succ]
    refine wpAnyH_take (i := 2) (v := ?_) rfl (by kernel_rfl) (by kernel_rfl) (by kernel_rfl) (fun _ _ _ h => h) (Or.inl ⟨by rfl, ?_⟩) (by assumption) ?_
    rotate_left
    · (intro w' hS; (try dsimp only at hS); go_simp; try with_reducible rfl)
    try simp only [Act.put, List.getElem_toArray, List.getElem_cons_succ, List.getElem_cons_zero, List.setIfInBounds_toArray, List.set_cons_zero, List.set_cons_succ]
    refine wpAnyH_take (i := 3) (v := ?_) rfl (by kernel_rfl) (by kernel_rfl) (by kernel_rfl) (fun _ _ _ h => h) (Or.inl ⟨by rfl, ?_⟩) (by assumption) ?_
    rotate_left
    · (intro w' hS; (try dsimp only at hS); go_simp; try with_reducible rfl)
    try simp only [Act.put, List.getElem_toArray, List.getElem_cons_succ, List.getElem_cons_zero, List.setIfInBounds_toArray, List.set_cons_zero, List.set_cons_succ]
    refine wpAnyH_take (i := 4) (v := ?_) rfl (by kernel_rfl) (by kernel_rfl) (by kernel_rfl) (fun _ _ _ h => h) (Or.inl ⟨by rfl, ?_⟩) (by assumption) ?_
    rotate_left
    · (intro w' hS; (try dsimp only at hS); go_simp; try with_reducible rfl)
    try simp only [Act.put, List.getElem_toArray, List.getElem_cons_succ, List.getElem_cons_zero, List.setIfInBounds_toArray, List.set_cons_zero, List.set_cons_succ]
    refine wpAnyH_take (i := 5) (v := ?_) rfl (by kernel_rfl) (by kernel_rfl) (by kernel_rfl) (fun _ _ _ h => h) (Or.inl ⟨by rfl, ?_⟩) (by assumption) ?_
    rotate_left
    · (intro w' hS; (try dsimp only at hS); go_simp; try with_reducible rfl)
    try simp only [Act.put, List.getElem_toArray, List.getElem_cons_succ, List.getElem_cons_zero, List.setIfInBounds_toArray, List.set_cons_zero, List.set_cons_succ]
    refine wpAnyH_take (i := 6) (v := ?_) rfl (by kernel_rfl) (by kernel_rfl) (by kernel_rfl) (fun _ _ _ h => h) (Or.inl ⟨by rfl, ?_⟩) (by assumption) ?_
    rotate_left
    · (intro w' hS; (try dsimp only at hS); go_simp; try with_reducible rfl)
    try simp only [Act.put, List.getElem_toArray, List.getElem_cons_succ, List.getElem_cons_zero, List.setIfInBounds_toArray, List.set_cons_zero, List.set_cons_succ]
    refine wpAnyH_take (i := 7) (v := ?_) rfl (by kernel_rfl) (by kernel_rfl) (by kernel_rfl) (fun _ _ _ h => h) (Or.inl ⟨by rfl, ?_⟩) (by assumption) ?_
    rotate_left
    · (intro w' hS; (try dsimp only at hS); go_simp; try with_reducible rfl)
    try simp only [Act.put, List.getElem_toArray, List.getElem_cons_succ, List.getElem_cons_zero, List.setIfInBounds_toArray, List.set_cons_zero, List.set_cons_succ]
    refine wpAnyH_ready (rs := [8]) (by kernel_rfl) (by simp) ?_
    refine AllReadyH.cons rfl (fun K hK => ?_) AllReadyH.nil
    go_simp
    refine hK.out _ _ (⟨(World.cell?_setCell_far _ _ _ _ (by simp)).trans ((World.cell?_setCell_far _ _ _ _ (by simp)).trans c0), (World.cell?_setCell_far _ _ _ _ (by simp)).trans ((World.cell?_setCell_far _ _ _ _ (by simp)).trans c1)⟩) (fun hHeld => ?_)
    clear hK K
    try simp only [Act.put, List.getElem_toArray, List.getElem_cons_succ, List.getElem_cons_zero, List.setIfInBounds_toArray, List.set_cons_zero, List.set_cons_succ]
    refine wpAnyH_done (by kernel_rfl) ?_ _
    refine NoPanic.normal ?_
    simp only [show IntKind.i64.wrap 1 = 1 from rfl, show IntKind.i64.wrap 2 = 2 from rfl, show IntKind.i64.wrap 4 = 4 from rfl, show IntKind.i64.wrap 8 = 8 from rfl, show IntKind.i64.wrap 16 = 16 from rfl, show IntKind.i64.wrap 32 = 32 from rfl, show IntKind.i64.wrap 64 = 64 from rfl, show IntKind.i64.wrap 128 = 128 from rfl, hz, hdd]
    have HQ := HP.out (.int .i64 (t : Int)) (.int .i64 d')
    clear HP
    generalize World.setCell _ _ _ = W4 at HQ ⊢
    obtain ⟨hB4, q4, r4⟩ := HQ
    go_wp2
    refine bodyPost_ret (v := .agg #[.int .i64 (t : Int), .int .i64 d']) ?_ rfl (mkPro rfl rfl rfl hB4)
    simp [results, Tryd.results88, go_sem, q4, r4]

set_option maxRecDepth 100000 in
set_option maxHeartbeats 2000000 in
theorem iWith (s d x : Nat) (hs : s < 256) (hd : d < 1000) (hx : x < 8) (hb : s.testBit x = false) (w : World) :
    Calls Tryd.prog 89 #[.agg #[.int .i64 (s : Int), .int .i64 (d : Int)], .int .i64 (x : Int)] w (Pro ((s + 2 ^ x : Nat) : Int) ((d + 1 : Nat) : Int) w) := by
  have T0 := Lib.hid (pb_start w (s : Int) (d : Int))
  have hz := state_or hs hx hb
  have hdd : IntKind.i64.wrap ((d : Int) + 1) = ((d + 1 : Nat) : Int) := by rw [wrap_is]; unfold wrap64; omega
  generalize (s + 2 ^ x : Nat) = t at hz ⊢
  generalize ((d + 1 : Nat) : Int) = d1 at hdd ⊢
  generalize (d : Int) = d' at T0 hdd ⊢
  generalize (s : Int) = s' at T0 hz ⊢
  clear hb hs hd
  have hcs : x = 0 ∨ x = 1 ∨ x = 2 ∨ x = 3 ∨ x = 4 ∨ x = 5 ∨ x = 6 ∨ x = 7 := by omega
  clear hx
  rcases hcs with rfl | rfl | rfl | rfl | rfl | rfl | rfl | rfl
  all_goals
    simp only [Int.reducePow] at hz
    go_enter Tryd.func89, Tryd.ntmps89
    go_wp2_with fail
    have T1 := T0.out
    clear T0
    generalize (w.alloc _).alloc _ = W at T1 ⊢
    obtain ⟨hB, ⟨c0, c1⟩, q0, q1, f0, f1⟩ := T1.drew
    have HP := Lib.hid T1.drew.put
    clear T1
    refine wp_region_noPanic ?_
    refine wp_region_held_drew (S := (fun w' => w'.cell? ⟨w.heap.size, 0, none⟩ = some (.int .i64 s') ∧ w'.cell? ⟨w.heap.size, 1, none⟩ = some (.int .i64 d'))) (by kernel_rfl) (⟨c0, c1⟩) (fun hHeld => ?_)
    generalize W.drew = WR at hB c0 c1 q0 q1 f0 f1 HP hHeld ⊢
    refine wpAnyH_take (i := 0) (v := ?_) rfl (by kernel_rfl) (by kernel_rfl) (by kernel_rfl) (fun _ _ _ h => h) (Or.inl ⟨by rfl, ?_⟩) (by assumption) ?_
    rotate_left
    · (intro w' hS; (try dsimp only at hS); go_simp; try with_reducible rfl)
    try simp only [Act.put, List.getElem_toArray, List.getElem_cons_succ, List.getElem_cons_zero, List.setIfInBounds_toArray, List.set_cons_zero, List.set_cons_succ]
    refine wpAnyH_take (i := 1) (v := ?_) rfl (by kernel_rfl) (by kernel_rfl) (by kernel_rfl) (fun _ _ _ h => h) (Or.inl ⟨by rfl, ?_⟩) (by assumption) ?_
    rotate_left
    · (intro w' hS; (try dsimp only at hS); go_simp; try with_reducible rfl)
    try simp only [Act.put, List.getElem_toArray, List.getElem_cons_succ, List.getElem_cons_zero, List.setIfInBounds_toArray, List.set_cons_zero, List.set_cons_succ]
    refine wpAnyH_take (i := 2) (v := ?_) rfl (by kernel_rfl) (by kernel_rfl) (by kernel_rfl) (fun _ _ _ h => h) (Or.inl ⟨by rfl, ?_⟩) (by assumption) ?_
    rotate_left
    · (intro w' hS; (try dsimp only at hS); go_simp; try with_reducible rfl)
    try simp only [Act.put, List.getElem_toArray, List.getElem_cons_succ, List.getElem_cons_zero, List.setIfInBounds_toArray, List.set_cons_zero, List.set_cons_succ]
    refine wpAnyH_take (i := 3) (v := ?_) rfl (by kernel_rfl) (by kernel_rfl) (by kernel_rfl) (fun _ _ _ h => h) (Or.inl ⟨by rfl, ?_⟩) (by assumption) ?_
    rotate_left
    · (intro w' hS; (try dsimp only at hS); go_simp; try with_reducible rfl)
    try simp only [Act.put, List.getElem_toArray, List.getElem_cons_succ, List.getElem_cons_zero, List.setIfInBounds_toArray, List.set_cons_zero, List.set_cons_succ]
    refine wpAnyH_take (i := 4) (v := ?_) rfl (by kernel_rfl) (by kernel_rfl) (by kernel_rfl) (fun _ _ _ h => h) (Or.inl ⟨by rfl, ?_⟩) (by assumption) ?_
    rotate_left
    · (intro w' hS; (try dsimp only at hS); go_simp; try with_reducible rfl)
    try simp only [Act.put, List.getElem_toArray, List.getElem_cons_succ, List.getElem_cons_zero, List.setIfInBounds_toArray, List.set_cons_zero, List.set_cons_succ]
    refine wpAnyH_take (i := 5) (v := ?_) rfl (by kernel_rfl) (by kernel_rfl) (by kernel_rfl) (fun _ _ _ h => h) (Or.inl ⟨by rfl, ?_⟩) (by assumption) ?_
    rotate_left
    · (intro w' hS; (try dsimp only at hS); go_simp; try with_reducible rfl)
    try simp only [Act.put, List.getElem_toArray, List.getElem_cons_succ, List.getElem_cons_zero, List.setIfInBounds_toArray, List.set_cons_zero, List.set_cons_succ]
    refine wpAnyH_take (i := 6) (v := ?_) rfl (by kernel_rfl) (by kernel_rfl) (by kernel_rfl) (fun _ _ _ h => h) (Or.inl ⟨by rfl, ?_⟩) (by assumption) ?_
    rotate_left
    · (intro w' hS; (try dsimp only at hS); go_simp; try with_reducible rfl)
    try simp only [Act.put, List.getElem_toArray, List.getElem_cons_succ, List.getElem_cons_zero, List.setIfInBounds_toArray, List.set_cons_zero, List.set_cons_succ]
    refine wpAnyH_take (i := 7) (v := ?_) rfl (by kernel_rfl) (by kernel_rfl) (by kernel_rfl) (fun _ _ _ h => h) (Or.inl ⟨by rfl, ?_⟩) (by assumption) ?_
    rotate_left
    · (intro w' hS; (try dsimp only at hS); go_simp; try with_reducible rfl)
    try simp only [Act.put, List.getElem_toArray, List.getElem_cons_succ, List.getElem_cons_zero, List.setIfInBounds_toArray, List.set_cons_zero, List.set_cons_succ]
    refine wpAnyH_take (i := 8) (v := ?_) rfl (by kernel_rfl) (by kernel_rfl) (by kernel_rfl) (fun _ _ _ h => h) (Or.inl ⟨by rfl, ?_⟩) (by assumption) ?_
    rotate_left
    · (intro w' hS; (try dsimp only at hS); go_simp; try with_reducible rfl)
    try simp only [Act.put, List.getElem_toArray, List.getElem_cons_succ, List.getElem_cons_zero, List.setIfInBounds_toArray, List.set_cons_zero, List.set_cons_succ]
    refine wpAnyH_ready (rs := [9]) (by kernel_rfl) (by simp) ?_
    refine AllReadyH.cons rfl (fun K hK => ?_) AllReadyH.nil
    go_simp
    refine hK.out _ _ (⟨(World.cell?_setCell_far _ _ _ _ (by simp)).trans ((World.cell?_setCell_far _ _ _ _ (by simp)).trans c0), (World.cell?_setCell_far _ _ _ _ (by simp)).trans ((World.cell?_setCell_far _ _ _ _ (by simp)).trans c1)⟩) (fun hHeld => ?_)
    clear hK K
    try simp only [Act.put, List.getElem_toArray, List.getElem_cons_succ, List.getElem_cons_zero, List.setIfInBounds_toArray, List.set_cons_zero, List.set_cons_succ]
    refine wpAnyH_done (by kernel_rfl) ?_ _
    refine NoPanic.normal ?_
    simp only [show IntKind.i64.wrap 1 = 1 from rfl, show IntKind.i64.wrap 2 = 2 from rfl, show IntKind.i64.wrap 4 = 4 from rfl, show IntKind.i64.wrap 8 = 8 from rfl, show IntKind.i64.wrap 16 = 16 from rfl, show IntKind.i64.wrap 32 = 32 from rfl, show IntKind.i64.wrap 64 = 64 from rfl, show IntKind.i64.wrap 128 = 128 from rfl, hz, hdd]
    have HQ := HP.out (.int .i64 (t : Int)) (.int .i64 d1)
    clear HP
    generalize World.setCell _ _ _ = W4 at HQ ⊢
    obtain ⟨hB4, q4, r4⟩ := HQ
    go_wp2
    refine bodyPost_ret (v := .agg #[.int .i64 (t : Int), .int .i64 d1]) ?_ rfl (mkPro rfl rfl rfl hB4)
    simp [results, Tryd.results89, go_sem, q4, r4]
end Go.Proofs.YtmaghekcpopepaaDoor.Prof

/- One cell gone past, pure: what the maps before and behind it say; the boxes and blocks of the walk: no program's walk here. -/
namespace Go.Proofs.YtmaghekcpopepaaDoor.Prof
set_option linter.unusedVariables false
set_option linter.unusedSimpArgs false
open Go.RowKit Go.Proofs.YtmaghekcpopepaaDoor.Base Go.Proofs.YtmaghekcpopepaaDoor.Pure Go.Proofs.YtmaghekcpopepaaDoor.Cell Go.Proofs.YtmaghekcpopepaaDoor.Reg Go.Proofs.YtmaghekcpopepaaDoor.Cnt Go.Joins
open Go.Maps (Keyed)

/-- what is done of a map: the numbers at the keys that are no longer to come. -/
def dn (D : DataW Unit) (left : Lit → Bool) (i : Nat) : Int := if left (kI i) = true then 0 else vw D i
/-- the keys that are still to come. -/
def LK (left : Lit → Bool) (g : Nat → Bool) (k q : Nat) : Prop := ∀ kl, left kl = true → ∃ i, i < 256 * (q + 1) ∧ kl = kI i ∧ Vd g k (i % 256)
/-- a profile is under way: e ways of its number c are still to be laid into the map behind. -/
def PS (g : Nat → Bool) (fr : Bool) (k q : Nat) (Db : DataW Unit) (left : Lit → Bool) (Da : DataW Unit) (c : Int) (E : Nat → Nat) : Prop :=
  KD Da g (k + 1) (q + 1) ∧ ∀ N, D (sumV g fr N (63 - k + 1) k (dn Db left)) (sumV g fr N (63 - k) (k + 1) (vw Da) + c * (E N : Int))
def LS (g : Nat → Bool) (fr : Bool) (k q : Nat) (Db : DataW Unit) (left : Lit → Bool) (Da : DataW Unit) : Prop := LK left g k q ∧ PS g fr k q Db left Da 0 (fun _ => 0)
/-- one cell is gone past. -/
def GoR (g : Nat → Bool) (fr : Bool) (k q : Nat) (Db Da : DataW Unit) : Prop := KD Da g (k + 1) (q + 1) ∧ ∀ N, D (sumV g fr N (63 - k + 1) k (vw Db)) (sumV g fr N (63 - k) (k + 1) (vw Da))
section
variable {g : Nat → Bool} {fr : Bool} {k q : Nat} {Db Da : DataW Unit} {left : Lit → Bool} {c : Int} {E : Nat → Nat}
theorem LS.start (h : KD Db g k q) : LS g fr k q Db (Maps.has Db) (.map []) := by
  refine ⟨h, KD.none, fun N => ?_⟩
  have e : ∀ i, dn Db (Maps.has Db) i = 0 := fun i => by
    unfold dn
    by_cases p : Maps.has Db (kI i) = true
    · exact if_pos p
    · rw [if_neg p]; exact at2_not (by simpa using p)
  rw [sumV_congr (b := fun _ => 0) (fun i _ => e i), sumV_congr (a := vw (.map [])) (b := fun _ => 0) (fun i _ => vw_none i)]
  unfold sumV
  rw [si_zero (fun i _ => Int.zero_mul _), si_zero (fun i _ => Int.zero_mul _)]
  simp only [Int.zero_mul, Int.add_zero]
  exact D.refl 0
theorem LS.next (h : LS g fr k q Db left Da) (hq : q ≤ 63) {i : Nat} (hi : i < 256 * (q + 1)) (hl : left (kI i) = true) (hat : Db.atKey (kI i) (.lit (.int .i64 0)) = .lit (.int .i64 c)) :
    LK (fun z => left z && !z.sameKey (kI i)) g k q ∧ PS g fr k q Db (fun z => left z && !z.sameKey (kI i)) Da c (fun N => V g fr N (63 - k + 1) k (i % 256) (i / 256)) := by
  obtain ⟨h1, h2, h3⟩ := h
  refine ⟨fun kl hk => h1 kl (by simp only [Bool.and_eq_true] at hk; exact hk.1), h2, fun N => ?_⟩
  have h3 := h3 N
  rw [Int.zero_mul, Int.add_zero] at h3
  have e : ∀ j, j < 16640 → dn Db (fun z => left z && !z.sameKey (kI i)) j = upd (dn Db left) i c j := fun j hj => by
    have hs := same_kI (i := j) (j := i) (by omega) (by omega)
    by_cases p : j = i
    · subst p
      rw [upd_at]; unfold dn
      simp only [hs, decide_true, Bool.not_true, Bool.and_false]
      exact at2_of hat
    · rw [upd_ne p]; unfold dn
      simp [hs, p]
  rw [sumV_congr e, sumV_set (by omega) (by unfold dn; exact if_pos hl)]
  exact h3.add (D.refl _)
theorem PS.raise {t : Nat} (h : PS g fr k q Db left Da c (fun N => V g fr N (63 - k) (k + 1) (t % 256) (t / 256) + E N)) (hD : Maps.IsMap Da) (hq : q ≤ 63) (ht : t < 256 * (q + 2)) (hv : Vd g (k + 1) (t % 256)) :
    PS g fr k q Db left (Da.put (kI t) (.lit (.int .i64 (wrap64 (vw Da t + c))))) c E := by
  obtain ⟨h2, h3⟩ := h
  refine ⟨h2.put hD (by omega) hv _, fun N => ?_⟩
  rw [sumV_congr (fun i hi => vw_put hD (t := t) (by omega) _ (by omega))]
  refine (h3 N).trans ?_
  rw [Int.natCast_add, Int.mul_add, ← Int.add_assoc]
  exact (sumV_add (D.refl _) (by omega)).add (D.refl _)
theorem PS.same {E' : Nat → Nat} (h : PS g fr k q Db left Da c E) (e : ∀ N, E N = E' N) : PS g fr k q Db left Da c E' := by
  have : E = E' := funext e
  rw [← this]; exact h
theorem PS.done (h : PS g fr k q Db left Da c (fun _ => 0)) (hl : LK left g k q) : LS g fr k q Db left Da := ⟨hl, h.1, fun N => by
  have := h.2 N
  simpa using this⟩
theorem LS.done (h : LS g fr k q Db left Da) (hl : ∀ kl, left kl = false) : GoR g fr k q Db Da := ⟨h.2.1, fun N => by
  have := h.2.2 N
  rw [Int.zero_mul, Int.add_zero] at this
  rw [sumV_congr (b := vw Db) (fun i _ => by unfold dn; rw [hl]; simp)] at this
  exact this⟩
end
/-- the boxes of the region and of the cell. -/
def BxG (w : World) (v : Value) (x y : Nat) (W : World) : Prop := Below w.heap.size w W ∧ w.heap.size + 2 ≤ W.heap.size ∧ W.cell? ⟨w.heap.size, 0, none⟩ = some v ∧ W.cell? ⟨w.heap.size + 1, 0, none⟩ = some (.int .i64 (x : Int)) ∧ W.cell? ⟨w.heap.size + 1, 1, none⟩ = some (.int .i64 (y : Int))
section
variable {w W W' : World} {v : Value} {x y m m2 r p : Nat} {Db Da : DataW Unit} {left : Lit → Bool} {cnt : Nat}
theorem BxG.grown {row : Option Nat} (h : BxG w v x y W) (hg : W.grownBy W' row) (hr : ∀ j, row = some j → w.heap.size + 2 ≤ j) : BxG w v x y W' := by
  obtain ⟨h0, h1, h2, h3, h4⟩ := h
  have hne : ∀ j, j < w.heap.size + 2 → some j ≠ row := fun j hj e => by have := hr j e.symm; omega
  have hz := hg.size
  refine ⟨h0.grown hg (by omega) (fun j e => by have := hr j e; omega), by omega, ?_, ?_, ?_⟩
  · exact (World.cell?_of_block (hg.block w.heap.size (by omega) (hne _ (by omega)))).trans h2
  · exact (World.cell?_of_block (hg.block (w.heap.size + 1) (by omega) (hne _ (by omega)))).trans h3
  · exact (World.cell?_of_block (hg.block (w.heap.size + 1) (by omega) (hne _ (by omega)))).trans h4
theorem grown_of (hb : Below W.heap.size W W') : W.grownBy W' none := ⟨hb.os, hb.tape, hb.output, hb.size, fun k hk _ => hb.block k hk⟩
theorem BxG.on (h : BxG w v x y W) (hb : Below W.heap.size W W') : BxG w v x y W' := h.grown (grown_of hb) (fun j e => by cases e)
theorem bxG_start (w : World) (v : Value) (x y : Nat) (T T' : TypeId) : BxG w v x y ((w.alloc (.cells #[v] T)).alloc (.cells #[.int .i64 (x : Int), .int .i64 (y : Int)] T')) := by
  have e0 : (w.alloc (.cells #[v] T)).heap.size = w.heap.size + 1 := by simp
  have h1 := heap_alloc_new (w.alloc (.cells #[v] T)) (.cells #[.int .i64 (x : Int), .int .i64 (y : Int)] T')
  rw [e0] at h1
  have h0 : ((w.alloc (.cells #[v] T)).alloc (.cells #[.int .i64 (x : Int), .int .i64 (y : Int)] T')).heap[w.heap.size]? = some (.cells #[v] T) :=
    ((below_alloc1 (w.alloc (.cells #[v] T)) _).block w.heap.size (by rw [e0]; omega)).trans (heap_alloc_new w _)
  exact ⟨below_alloc2 w _ _, by simp, (cellAt h0 0).1.trans rfl, (cellAt h1 0).1.trans rfl, (cellAt h1 1).1.trans rfl⟩
/-- the loop under way: the boxes, the map that is walked, the map behind. -/
def WL (w : World) (v : Value) (x y m m2 r : Nat) (Db : DataW Unit) (left : Lit → Bool) (cnt : Nat) (Da : DataW Unit) (W : World) : Prop :=
  BxG w v x y W ∧ W.ranges Tryd.prog 61 RE m r 20000 Db left cnt ∧ Own W m2 Da ∧ m < w.heap.size ∧ w.heap.size + 2 ≤ m2 ∧ m2 < r
theorem WL.on (h : WL w v x y m m2 r Db left cnt Da W) (hb : Below W.heap.size W W') : WL w v x y m m2 r Db left cnt Da W' := by
  obtain ⟨h1, h2, h3, h4, h5, h6⟩ := h
  exact ⟨h1.on hb, h2.kept (grown_of hb) (by simp) (by simp), h3.on hb, h4, h5, h6⟩
theorem WL.rlt (h : WL w v x y m m2 r Db left cnt Da W) : r < W.heap.size := h.2.1.lt
theorem WL.raised {Da' : DataW Unit} (h : WL w v x y m m2 r Db left cnt Da W) (hg : W.grownBy W' (some m2)) (ho : Own W' m2 Da') : WL w v x y m m2 r Db left cnt Da' W' := by
  obtain ⟨h1, h2, h3, h4, h5, h6⟩ := h
  exact ⟨h1.grown hg (fun j e => by cases e; exact h5), h2.kept hg (fun e => by have := Option.some.inj e; omega) (fun e => by have := Option.some.inj e; omega), ho, h4, h5, h6⟩
theorem WL.step {left' : Lit → Bool} {cnt' : Nat} (h : WL w v x y m m2 r Db left cnt Da W) (hg : W.grownBy W' (some r)) (hr : W'.ranges Tryd.prog 61 RE m r 20000 Db left' cnt') : WL w v x y m m2 r Db left' cnt' Da W' := by
  obtain ⟨h1, h2, h3, h4, h5, h6⟩ := h
  exact ⟨h1.grown hg (fun j e => by cases e; omega), hr, World.ownsMap.kept h3 hg (fun e => by have := Option.some.inj e; omega), h4, h5, h6⟩
/-- .. and a profile's box. -/
def WP (w : World) (v : Value) (x y m m2 r : Nat) (Db : DataW Unit) (left : Lit → Bool) (cnt : Nat) (p : Nat) (s d : Nat) (Da : DataW Unit) (W : World) : Prop :=
  WL w v x y m m2 r Db left cnt Da W ∧ r < p ∧ W.heap[p]? = some (.cells #[.int .i64 (s : Int), .int .i64 (d : Int)] 61)
variable {s d : Nat}
theorem WP.on (h : WP w v x y m m2 r Db left cnt p s d Da W) (hb : Below W.heap.size W W') : WP w v x y m m2 r Db left cnt p s d Da W' :=
  ⟨h.1.on hb, h.2.1, (hb.block p (Array.getElem?_eq_some_iff.1 h.2.2).1).trans h.2.2⟩
theorem WP.drew (h : WP w v x y m m2 r Db left cnt p s d Da W) : WP w v x y m m2 r Db left cnt p s d Da W.drew := h.on (drewN_below (Below.refl _ _) 1)
theorem WP.raised {Da' : DataW Unit} (h : WP w v x y m m2 r Db left cnt p s d Da W) (hg : W.grownBy W' (some m2)) (ho : Own W' m2 Da') : WP w v x y m m2 r Db left cnt p s d Da' W' :=
  ⟨h.1.raised hg ho, h.2.1, (hg.block p (Array.getElem?_eq_some_iff.1 h.2.2).1 (fun e => by have := Option.some.inj e; have := h.1.2.2.2.2.2; have := h.2.1; omega)).trans h.2.2⟩
theorem wp_start (h : WL w v x y m m2 r Db left cnt Da W) : WP w v x y m m2 r Db left cnt W.heap.size s d Da (W.alloc (.cells #[.int .i64 (s : Int), .int .i64 (d : Int)] 61)) :=
  ⟨h.on (below_alloc1 W _), h.rlt, heap_alloc_new W _⟩
/-- what a region of the round reads. -/
theorem WP.reads (h : WP w v x y m m2 r Db left cnt p s d Da W) : W.cell? ⟨p, 0, none⟩ = some (.int .i64 (s : Int)) ∧ W.cell? ⟨p, 1, none⟩ = some (.int .i64 (d : Int)) ∧ W.cell? ⟨w.heap.size + 1, 0, none⟩ = some (.int .i64 (x : Int)) :=
  ⟨(cellAt h.2.2 0).1.trans rfl, (cellAt h.2.2 1).1.trans rfl, h.1.1.2.2.2.1⟩
/-- .. also while an entry is made. -/
theorem WP.keeps (h : WP w v x y m m2 r Db left cnt p s d Da W) (hg : W.grownBy W' (some m2)) : W'.cell? ⟨p, 0, none⟩ = some (.int .i64 (s : Int)) ∧ W'.cell? ⟨p, 1, none⟩ = some (.int .i64 (d : Int)) ∧ W'.cell? ⟨w.heap.size + 1, 0, none⟩ = some (.int .i64 (x : Int)) := by
  have hb := h.1.1.grown hg (fun j e => by cases e; exact h.1.2.2.2.2.1)
  have hp : W'.heap[p]? = some (.cells #[.int .i64 (s : Int), .int .i64 (d : Int)] 61) :=
    (hg.block p (Array.getElem?_eq_some_iff.1 h.2.2).1 (fun e => by have := Option.some.inj e; have := h.1.2.2.2.2.2; have := h.2.1; omega)).trans h.2.2
  exact ⟨(cellAt hp 0).1.trans rfl, (cellAt hp 1).1.trans rfl, hb.2.2.2.1⟩
end
/-- the index of a profile. -/
def ix (s d : Nat) : Nat := s + 256 * d
theorem ix_mod {s d : Nat} (h : s < 256) : ix s d % 256 = s := by unfold ix; omega
theorem ix_div {s d : Nat} (h : s < 256) : ix s d / 256 = d := by unfold ix; omega
theorem ix_at (i : Nat) : ix (i % 256) (i / 256) = i := by unfold ix; omega
theorem PS.raise2 {g : Nat → Bool} {fr : Bool} {k q s d : Nat} {Db Da : DataW Unit} {left : Lit → Bool} {c : Int} {E : Nat → Nat} (h : PS g fr k q Db left Da c (fun N => V g fr N (63 - k) (k + 1) s d + E N)) (hD : Maps.IsMap Da) (hq : q ≤ 63) (hs : s < 256) (hd : d < q + 2) (hv : Vd g (k + 1) s) :
    PS g fr k q Db left (Da.put (kI (ix s d)) (.lit (.int .i64 (wrap64 (vw Da (ix s d) + c))))) c E :=
  PS.raise (t := ix s d) (by rw [ix_mod hs, ix_div hs]; exact h) hD hq (by unfold ix; omega) (by rw [ix_mod hs]; exact hv)
/-- an entry raised: the facts for the region, in one. -/
def Ra (W : World) (m2 s d : Nat) (c : Int) (Da : DataW Unit) (st : Nat) (W1 W2 : World) (a : Int) : Prop :=
  (Instr.lookup 58 (.map (some m2)) (.agg #[.int .i64 (s : Int), .int .i64 (d : Int)]) false).run Tryd.prog W = .ok (.int .i64 a) W ∧
  (Instr.mapEntry 58 (.map (some m2)) (.agg #[.int .i64 (s : Int), .int .i64 (d : Int)])).run Tryd.prog W = .ok (.tuple #[.int .i64 a, .int .i64 (st : Int)]) W1 ∧
  (Instr.lookup 58 (.map (some m2)) (.agg #[.int .i64 (s : Int), .int .i64 (d : Int)]) false).run Tryd.prog W1 = .ok (.int .i64 a) W1 ∧
  W.grownBy W1 (some m2) ∧ (Instr.entryStore 58 (.map (some m2)) (.int .i64 (st : Int)) (.int .i64 (IntKind.i64.wrap (a + c)))).run Tryd.prog W1 = .ok () W2 ∧
  W.grownBy W2 (some m2) ∧ W2.ownsMap Tryd.prog 61 RE m2 20001 (Da.put (kI (ix s d)) (.lit (.int .i64 (wrap64 (vw Da (ix s d) + c)))))
theorem ra_of {W : World} {m2 s d : Nat} {c : Int} {Da : DataW Unit} (h : Own W m2 Da) (hs : s < 256) (hd : d < 70) : ∃ st W1 W2 a, Ra W m2 s d c Da st W1 W2 a := by
  have hk := keyI (i := ix s d) (by unfold ix; omega)
  rw [ix_mod hs, ix_div hs] at hk
  obtain ⟨st, W1, h1, h2, h3, h4, h5, _, h6⟩ := own_raise h hk
  obtain ⟨W2, h7, h8, h9, _⟩ := h6 (wrap64 (vw Da (ix s d) + c)) (wrap64_wf _)
  refine ⟨st, W1, W2, _, h2, h3, h4, h5, ?_, h9, h8⟩
  rw [wrap_is]; exact h7
/-- .. behind it. -/
theorem WP.up {w W W' W2 : World} {v : Value} {x y m m2 r p s d : Nat} {Db Da : DataW Unit} {left : Lit → Bool} {cnt : Nat} {g : Nat → Bool} {fr : Bool} {k q s' d' st : Nat} {c a : Int} {E : Nat → Nat}
    (h : WP w v x y m m2 r Db left cnt p s d Da W) (hr : Ra W m2 s' d' c Da st W' W2 a) (hp : PS g fr k q Db left Da c (fun N => V g fr N (63 - k) (k + 1) s' d' + E N)) (hq : q ≤ 63) (hs : s' < 256) (hd : d' < q + 2) (hv : Vd g (k + 1) s') :
    ∃ Da', WP w v x y m m2 r Db left cnt p s d Da' W2 ∧ PS g fr k q Db left Da' c E := by
  have hp' := hp.raise2 h.1.2.2.1.isMap hq hs hd hv
  exact ⟨_, h.raised hr.2.2.2.2.2.1 (own_bound hr.2.2.2.2.2.2 hp'.1 (by omega)), hp'⟩
end Go.Proofs.YtmaghekcpopepaaDoor.Prof
