/- CntP, CntW, CntS, CntR in one text. -/
import Derived.Test.YtmaghekcpopepaaDoorPure

/- In how many ways a set of the 64 cells can be covered, pure: the count by its first cell, by any of its cells, the counts of partial coverings: no program here. -/
namespace Go.Proofs.YtmaghekcpopepaaDoor.Cnt
set_option linter.unusedVariables false
set_option linter.unusedSimpArgs false

/-- a sum over the numbers below n. -/
def sm : Nat → (Nat → Nat) → Nat
  | 0, _ => 0
  | n + 1, f => sm n f + f n
theorem sm_congr {n : Nat} {f h : Nat → Nat} (e : ∀ i, i < n → f i = h i) : sm n f = sm n h := by
  induction n with
  | zero => rfl
  | succ n ih => unfold sm; rw [ih (fun i hi => e i (by omega)), e n (by omega)]
theorem sm_zero {n : Nat} {f : Nat → Nat} (e : ∀ i, i < n → f i = 0) : sm n f = 0 := by
  induction n with
  | zero => rfl
  | succ n ih => unfold sm; rw [ih (fun i hi => e i (by omega)), e n (by omega)]
theorem sm_add {n : Nat} {f h : Nat → Nat} : sm n (fun i => f i + h i) = sm n f + sm n h := by
  induction n with
  | zero => rfl
  | succ n ih =>
    show sm n (fun i => f i + h i) + (f n + h n) = (sm n f + f n) + (sm n h + h n)
    rw [ih]; omega
theorem sm_comm {n m : Nat} {f : Nat → Nat → Nat} : sm n (fun i => sm m (fun j => f i j)) = sm m (fun j => sm n (fun i => f i j)) := by
  induction n with
  | zero => exact (sm_zero (fun _ _ => rfl)).symm
  | succ n ih =>
    show sm n (fun i => sm m (fun j => f i j)) + sm m (fun j => f n j) = sm m (fun j => sm n (fun i => f i j) + f n j)
    rw [ih, sm_add]
theorem sm_one {n c : Nat} (hc : c < n) {f : Nat → Nat} (h : ∀ i, i < n → i ≠ c → f i = 0) : sm n f = f c := by
  induction n with
  | zero => omega
  | succ n ih =>
    unfold sm
    by_cases e : c = n
    · subst e; rw [sm_zero (fun i hi => h i (by omega) (by omega))]; omega
    · rw [ih (by omega) (fun i hi hne => h i (by omega) hne), h n (by omega) (by omega)]; omega
/-- a term is taken out. -/
theorem sm_out {n c : Nat} (hc : c < n) (f : Nat → Nat) : sm n f = f c + sm n (fun i => if i = c then 0 else f i) := by
  have e : sm n f = sm n (fun i => (if i = c then f i else 0) + (if i = c then 0 else f i)) := sm_congr (fun i _ => by by_cases h : i = c <;> simp [h])
  rw [e, sm_add, sm_one hc (f := fun i => if i = c then f i else 0) (fun i _ hne => if_neg hne), if_pos rfl]

/-- neighbors, by their indexes. -/
def adj (a b : Nat) : Bool := decide ((b = a + 1 ∧ a % 8 ≠ 7) ∨ b = a + 8 ∨ (a = b + 1 ∧ b % 8 ≠ 7) ∨ a = b + 8)
theorem adj_iff {a b : Nat} : adj a b = true ↔ ((b = a + 1 ∧ a % 8 ≠ 7) ∨ b = a + 8 ∨ (a = b + 1 ∧ b % 8 ≠ 7) ∨ a = b + 8) := by unfold adj; simp
theorem adj_comm (a b : Nat) : adj a b = adj b a := by
  rw [Bool.eq_iff_iff, adj_iff, adj_iff]; omega
theorem adj_ne {a b : Nat} (h : adj a b = true) : a ≠ b := by rw [adj_iff] at h; omega
/-- two cells are taken out. -/
def rem (g : Nat → Bool) (a b : Nat) : Nat → Bool := fun i => g i && decide (i ≠ a) && decide (i ≠ b)
theorem rem_iff {g : Nat → Bool} {a b i : Nat} : rem g a b i = true ↔ g i = true ∧ i ≠ a ∧ i ≠ b := by unfold rem; simp [and_assoc]
theorem rem_comm (g : Nat → Bool) (a b : Nat) : rem g a b = rem g b a := by
  funext i; rw [Bool.eq_iff_iff, rem_iff, rem_iff]; constructor <;> rintro ⟨h1, h2, h3⟩ <;> exact ⟨h1, h3, h2⟩
theorem rem_rem (g : Nat → Bool) (a b c d : Nat) : rem (rem g a b) c d = rem (rem g c d) a b := by
  funext i; rw [Bool.eq_iff_iff, rem_iff, rem_iff, rem_iff, rem_iff]
  constructor <;> rintro ⟨⟨h1, h2, h3⟩, h4, h5⟩ <;> exact ⟨⟨h1, h4, h5⟩, h2, h3⟩
/-- the coverings of the cells k to k + n - 1 of a set. -/
def T : Nat → Nat → (Nat → Bool) → Nat
  | 0, _, _ => 1
  | n + 1, k, g => if g k = true then sm 64 (fun e => if adj k e = true ∧ g e = true then T n (k + 1) (rem g k e) else 0) else T n (k + 1) g
theorem T_no {n k : Nat} {g : Nat → Bool} (h : g k = false) : T (n + 1) k g = T n (k + 1) g := by
  show (if g k = true then _ else _) = _
  rw [if_neg (by rw [h]; simp)]
theorem T_yes {n k : Nat} {g : Nat → Bool} (h : g k = true) : T (n + 1) k g = sm 64 (fun e => if adj k e = true ∧ g e = true then T n (k + 1) (rem g k e) else 0) := by
  show (if g k = true then _ else _) = _
  rw [if_pos h]
/-- by one of its cells: each one is covered once. -/
theorem T_any : ∀ (n k : Nat) (g : Nat → Bool) (c : Nat), k + n = 64 → (∀ i, i < k → g i = false) → c < 64 → g c = true → T n k g = sm 64 (fun b => if adj c b = true ∧ g b = true then T n k (rem g c b) else 0)
  | 0, k, g, c, hk, h0, hc, hg => by
    rw [h0 c (by omega)] at hg; cases hg
  | n + 1, k, g, c, hk, h0, hc, hg => by
    by_cases hgk : g k = true
    · rw [T_yes hgk]
      by_cases hck : c = k
      · subst hck
        refine sm_congr (fun e he => ?_)
        by_cases q : adj c e = true ∧ g e = true
        · rw [if_pos q, if_pos q, T_no (by rw [Bool.eq_false_iff, Ne, rem_iff]; rintro ⟨_, h, _⟩; exact h rfl)]
        · rw [if_neg q, if_neg q]
      · have hkc : k < c := by
          by_cases h : c < k
          · rw [h0 c h] at hg; cases hg
          · omega
        have h64 : k < 64 := by omega
        have ih : ∀ e, adj k e = true → g e = true → e ≠ c → T n (k + 1) (rem g k e) = sm 64 (fun b => if adj c b = true ∧ rem g k e b = true then T n (k + 1) (rem (rem g k e) c b) else 0) := by
          intro e ha hge hec
          refine T_any n (k + 1) (rem g k e) c (by omega) ?_ hc ?_
          · intro i hi
            rw [Bool.eq_false_iff, Ne, rem_iff]
            rintro ⟨h1, h2, h3⟩
            rw [h0 i (by omega)] at h1; cases h1
          · rw [rem_iff]; exact ⟨hg, hck, fun h => hec h.symm⟩
        rw [sm_out hc, sm_out (c := k) h64 (fun b => if adj c b = true ∧ g b = true then T (n + 1) k (rem g c b) else 0)]
        have e1 : (if adj k c = true ∧ g c = true then T n (k + 1) (rem g k c) else 0) = (if adj c k = true ∧ g k = true then T (n + 1) k (rem g c k) else 0) := by
          rw [adj_comm c k, T_no (k := k) (g := rem g c k) (by rw [Bool.eq_false_iff, Ne, rem_iff]; rintro ⟨_, _, h⟩; exact h rfl), rem_comm g c k]
          simp [hg, hgk]
        rw [e1]
        congr 1
        have e2 : sm 64 (fun e => if e = c then 0 else if adj k e = true ∧ g e = true then T n (k + 1) (rem g k e) else 0)
            = sm 64 (fun e => sm 64 (fun b => if e ≠ c ∧ b ≠ k ∧ e ≠ b ∧ adj k e = true ∧ g e = true ∧ adj c b = true ∧ g b = true then T n (k + 1) (rem (rem g k e) c b) else 0)) := by
          refine sm_congr (fun e he => ?_)
          by_cases q1 : e = c
          · rw [if_pos q1, sm_zero]; intro b hb; rw [if_neg]; rintro ⟨h, _⟩; exact h q1
          · rw [if_neg q1]
            by_cases q2 : adj k e = true ∧ g e = true
            · rw [if_pos q2, ih e q2.1 q2.2 q1]
              refine sm_congr (fun b hb => ?_)
              by_cases q3 : adj c b = true ∧ rem g k e b = true
              · rw [if_pos q3, if_pos]
                have := rem_iff.1 q3.2
                exact ⟨q1, this.2.1, fun h => this.2.2 h.symm, q2.1, q2.2, q3.1, this.1⟩
              · rw [if_neg q3, if_neg]
                rintro ⟨_, p2, p3, _, _, p6, p7⟩
                exact q3 ⟨p6, rem_iff.2 ⟨p7, p2, fun h => p3 h.symm⟩⟩
            · rw [if_neg q2, sm_zero]; intro b hb; rw [if_neg]; rintro ⟨_, _, _, p4, p5, _⟩; exact q2 ⟨p4, p5⟩
        have e3 : sm 64 (fun b => if b = k then 0 else if adj c b = true ∧ g b = true then T (n + 1) k (rem g c b) else 0)
            = sm 64 (fun b => sm 64 (fun e => if e ≠ c ∧ b ≠ k ∧ e ≠ b ∧ adj k e = true ∧ g e = true ∧ adj c b = true ∧ g b = true then T n (k + 1) (rem (rem g k e) c b) else 0)) := by
          refine sm_congr (fun b hb => ?_)
          by_cases q1 : b = k
          · rw [if_pos q1, sm_zero]; intro e he; rw [if_neg]; rintro ⟨_, h, _⟩; exact h q1
          · rw [if_neg q1]
            by_cases q2 : adj c b = true ∧ g b = true
            · rw [if_pos q2, T_yes (rem_iff.2 ⟨hgk, fun h => hck h.symm, fun h => q1 h.symm⟩)]
              refine sm_congr (fun e he => ?_)
              by_cases q3 : adj k e = true ∧ rem g c b e = true
              · rw [if_pos q3, if_pos, rem_rem]
                have := rem_iff.1 q3.2
                exact ⟨this.2.1, q1, this.2.2, q3.1, this.1, q2.1, q2.2⟩
              · rw [if_neg q3, if_neg]
                rintro ⟨p1, _, p3, p4, p5, _, _⟩
                exact q3 ⟨p4, rem_iff.2 ⟨p5, p1, p3⟩⟩
            · rw [if_neg q2, sm_zero]; intro e he; rw [if_neg]; rintro ⟨_, _, _, _, _, p6, p7⟩; exact q2 ⟨p6, p7⟩
        rw [e2, e3]
        exact sm_comm
    · have hgk : g k = false := by simpa using hgk
      have hck : c ≠ k := fun h => by rw [h, hgk] at hg; cases hg
      rw [T_no hgk, T_any n (k + 1) g c (by omega) (fun i hi => (Nat.lt_or_ge i k).elim (fun h => h0 i h) (fun h => by rw [show i = k by omega]; exact hgk)) hc hg]
      refine sm_congr (fun b hb => ?_)
      rw [T_no (g := rem g c b) (by rw [Bool.eq_false_iff, Ne, rem_iff, hgk]; rintro ⟨h, _⟩; cases h)]
/-- the coverings of a set. -/
def tiles (g : Nat → Bool) : Nat := T 64 0 g
/-- the four dominoes over a cell. -/
theorem sm_four {c : Nat} (hc : c < 64) (f : Nat → Nat) : sm 64 (fun b => if adj c b = true then f b else 0)
    = (if c % 8 ≠ 7 then f (c + 1) else 0) + (if c + 8 < 64 then f (c + 8) else 0) + (if c % 8 ≠ 0 then f (c - 1) else 0) + (if 8 ≤ c then f (c - 8) else 0) := by
  have e : ∀ b, b < 64 → (if adj c b = true then f b else 0) = ((if b = c + 1 ∧ c % 8 ≠ 7 then f b else 0) + (if b = c + 8 then f b else 0)) + ((if c = b + 1 ∧ b % 8 ≠ 7 then f b else 0) + (if c = b + 8 then f b else 0)) := by
    intro b hb
    by_cases h1 : b = c + 1 ∧ c % 8 ≠ 7
    · rw [if_pos h1, if_pos (adj_iff.2 (Or.inl h1)), if_neg (by omega), if_neg (by omega), if_neg (by omega)]; omega
    · by_cases h2 : b = c + 8
      · rw [if_neg h1, if_pos h2, if_pos (adj_iff.2 (Or.inr (Or.inl h2))), if_neg (by omega), if_neg (by omega)]; omega
      · by_cases h3 : c = b + 1 ∧ b % 8 ≠ 7
        · rw [if_neg h1, if_neg h2, if_pos h3, if_pos (adj_iff.2 (Or.inr (Or.inr (Or.inl h3)))), if_neg (by omega)]; omega
        · by_cases h4 : c = b + 8
          · rw [if_neg h1, if_neg h2, if_neg h3, if_pos h4, if_pos (adj_iff.2 (Or.inr (Or.inr (Or.inr h4))))]; omega
          · rw [if_neg h1, if_neg h2, if_neg h3, if_neg h4, if_neg (by rw [adj_iff]; rintro (h | h | h | h) <;> contradiction)]
  rw [sm_congr e, sm_add, sm_add, sm_add]
  have a1 : sm 64 (fun b => if b = c + 1 ∧ c % 8 ≠ 7 then f b else 0) = if c % 8 ≠ 7 then f (c + 1) else 0 := by
    by_cases h : c % 8 ≠ 7
    · rw [sm_one (c := c + 1) (by omega) (fun i _ hi => by rw [if_neg]; rintro ⟨h, _⟩; exact hi h), if_pos ⟨rfl, h⟩, if_pos h]
    · rw [sm_zero (fun i _ => by rw [if_neg]; rintro ⟨_, q⟩; exact h q), if_neg h]
  have a2 : sm 64 (fun b => if b = c + 8 then f b else 0) = if c + 8 < 64 then f (c + 8) else 0 := by
    by_cases h : c + 8 < 64
    · rw [sm_one (c := c + 8) h (fun i _ hi => by rw [if_neg]; exact hi), if_pos rfl, if_pos h]
    · rw [sm_zero (fun i _ => by rw [if_neg]; omega), if_neg h]
  have a3 : sm 64 (fun b => if c = b + 1 ∧ b % 8 ≠ 7 then f b else 0) = if c % 8 ≠ 0 then f (c - 1) else 0 := by
    by_cases h : c % 8 ≠ 0
    · rw [sm_one (c := c - 1) (by omega) (fun i _ hi => by rw [if_neg]; omega), if_pos (by omega), if_pos h]
    · rw [sm_zero (fun i _ => by rw [if_neg]; omega), if_neg h]
  have a4 : sm 64 (fun b => if c = b + 8 then f b else 0) = if 8 ≤ c then f (c - 8) else 0 := by
    by_cases h : 8 ≤ c
    · rw [sm_one (c := c - 8) (by omega) (fun i _ hi => by rw [if_neg]; omega), if_pos (by omega), if_pos h]
    · rw [sm_zero (fun i _ => by rw [if_neg]; omega), if_neg h]
  rw [a1, a2, a3, a4]; omega

/-- how many cells a set has among k to k + n - 1. -/
def cnt : Nat → Nat → (Nat → Bool) → Nat
  | 0, _, _ => 0
  | n + 1, k, g => (if g k = true then 1 else 0) + cnt n (k + 1) g
theorem cnt_congr : ∀ {n k : Nat} {g h : Nat → Bool}, (∀ i, k ≤ i → i < k + n → g i = h i) → cnt n k g = cnt n k h
  | 0, _, _, _, _ => rfl
  | n + 1, k, g, h, e => by
    show (if g k = true then 1 else 0) + cnt n (k + 1) g = (if h k = true then 1 else 0) + cnt n (k + 1) h
    rw [e k (by omega) (by omega), cnt_congr (n := n) (k := k + 1) (fun i h1 h2 => e i (by omega) (by omega))]
theorem cnt_rem : ∀ {n k a b : Nat} {g : Nat → Bool}, a < k → k ≤ b → b < k + n → g b = true → cnt n k (rem g a b) + 1 = cnt n k g
  | 0, k, a, b, g, _, h1, h2, _ => by omega
  | n + 1, k, a, b, g, ha, h1, h2, hb => by
    show (if rem g a b k = true then 1 else 0) + cnt n (k + 1) (rem g a b) + 1 = (if g k = true then 1 else 0) + cnt n (k + 1) g
    by_cases e : b = k
    · subst e
      rw [if_neg (by rw [rem_iff]; rintro ⟨_, _, h⟩; exact h rfl), if_pos hb, cnt_congr (n := n) (k := b + 1) (g := rem g a b) (h := g) (fun i q _ => by
        rw [Bool.eq_iff_iff, rem_iff]; exact ⟨fun h => h.1, fun h => ⟨h, by omega, by omega⟩⟩)]
      omega
    · have ih := cnt_rem (n := n) (k := k + 1) (a := a) (b := b) (g := g) (by omega) (by omega) (by omega) hb
      have : (rem g a b k = true) ↔ (g k = true) := by rw [rem_iff]; exact ⟨fun h => h.1, fun h => ⟨h, by omega, fun q => e q.symm⟩⟩
      by_cases q : g k = true
      · rw [if_pos (this.2 q), if_pos q]; omega
      · rw [if_neg (fun h => q (this.1 h)), if_neg q]; omega
/-- the lists of m dominoes on the cells from k on. -/
def P : Nat → Nat → Nat → (Nat → Bool) → Nat
  | _, _, 0, _ => 1
  | 0, _, _ + 1, _ => 0
  | n + 1, k, m + 1, g => P n (k + 1) (m + 1) g + if g k = true then sm 64 (fun e => if adj k e = true ∧ g e = true ∧ k < e then P n (k + 1) m (rem g k e) else 0) else 0
theorem P_zero (n k : Nat) (g : Nat → Bool) : P n k 0 g = 1 := by cases n <;> rfl
theorem P_few : ∀ {n k m : Nat} {g : Nat → Bool}, k + n = 64 → cnt n k g < 2 * m → P n k m g = 0
  | _, _, 0, _, _, h => by omega
  | 0, _, _ + 1, _, _, _ => rfl
  | n + 1, k, m + 1, g, hk, h => by
    have hc : cnt (n + 1) k g = (if g k = true then 1 else 0) + cnt n (k + 1) g := rfl
    show P n (k + 1) (m + 1) g + _ = 0
    rw [P_few (n := n) (k := k + 1) (m := m + 1) (by omega) (by omega)]
    by_cases q : g k = true
    · rw [if_pos q, sm_zero]
      intro e he
      by_cases p : adj k e = true ∧ g e = true ∧ k < e
      · rw [if_pos p]
        have := cnt_rem (n := n) (k := k + 1) (a := k) (b := e) (g := g) (by omega) (by omega) (by omega) p.2.1
        rw [if_pos q] at hc
        exact P_few (by omega) (by omega)
      · rw [if_neg p]
    · rw [if_neg q]
theorem T_none : ∀ {n k : Nat} {g : Nat → Bool}, cnt n k g = 0 → T n k g = 1
  | 0, _, _, _ => rfl
  | n + 1, k, g, h => by
    have hc : cnt (n + 1) k g = (if g k = true then 1 else 0) + cnt n (k + 1) g := rfl
    by_cases q : g k = true
    · rw [if_pos q] at hc; omega
    · rw [if_neg q] at hc
      rw [T_no (by simpa using q)]
      exact T_none (by omega)
/-- the lists that leave no cell free. -/
theorem P_all : ∀ {n k m : Nat} {g : Nat → Bool}, k + n = 64 → (∀ i, i < k → g i = false) → cnt n k g = 2 * m → P n k m g = T n k g
  | n, k, 0, g, _, _, h => by rw [P_zero, T_none (by omega)]
  | 0, k, m + 1, g, hk, h0, h => by
    have : cnt 0 k g = 0 := rfl
    omega
  | n + 1, k, m + 1, g, hk, h0, h => by
    have hc : cnt (n + 1) k g = (if g k = true then 1 else 0) + cnt n (k + 1) g := rfl
    show P n (k + 1) (m + 1) g + _ = _
    by_cases q : g k = true
    · rw [if_pos q] at hc
      rw [if_pos q, T_yes q, P_few (n := n) (k := k + 1) (m := m + 1) (by omega) (by omega), Nat.zero_add]
      refine sm_congr (fun e he => ?_)
      by_cases p : adj k e = true ∧ g e = true
      · have hke : k < e := by
          by_cases r : e < k
          · rw [h0 e r] at p; cases p.2
          · have := adj_ne p.1; omega
        rw [if_pos ⟨p.1, p.2, hke⟩, if_pos p]
        have := cnt_rem (n := n) (k := k + 1) (a := k) (b := e) (g := g) (by omega) (by omega) (by omega) p.2
        refine P_all (by omega) (fun i hi => ?_) (by omega)
        rw [Bool.eq_false_iff, Ne, rem_iff]
        rintro ⟨h1, h2, h3⟩
        rw [h0 i (by omega)] at h1; cases h1
      · rw [if_neg p, if_neg (fun r => p ⟨r.1, r.2.1⟩)]
    · rw [if_neg q] at hc
      rw [if_neg q, T_no (by simpa using q), Nat.add_zero]
      refine P_all (by omega) (fun i hi => ?_) (by omega)
      by_cases r : i = k
      · rw [r]; simpa using q
      · exact h0 i (by omega)
end Go.Proofs.YtmaghekcpopepaaDoor.Cnt

/- The same count, from row to row: a state holds which of the next eight cells are covered; the sum over all states that does not change: no program here. -/
namespace Go.Proofs.YtmaghekcpopepaaDoor.Cnt
set_option linter.unusedVariables false
set_option linter.unusedSimpArgs false

theorem bit_sub : ∀ s, s < 256 → ∀ x, x < 8 → s.testBit x = true → s - 2 ^ x < 256 ∧ ∀ i, i < 8 → (s - 2 ^ x).testBit i = (s.testBit i && decide (i ≠ x)) := by decide +kernel
theorem bit_add : ∀ s, s < 256 → ∀ x, x < 8 → s.testBit x = false → s + 2 ^ x < 256 ∧ ∀ i, i < 8 → (s + 2 ^ x).testBit i = (s.testBit i || decide (i = x)) := by decide +kernel
theorem bit_none : ∀ s, s < 256 → (∀ i, i < 8 → s.testBit i = false) → s = 0 := by decide +kernel
/-- the coverings behind the cell k, in a state. -/
def W (g : Nat → Bool) : Nat → Nat → Nat → Nat
  | 0, _, s => if s = 0 then 1 else 0
  | n + 1, k, s => if g k = true then
      if s.testBit (k % 8) = true then W g n (k + 1) (s - 2 ^ (k % 8))
      else (if g (k + 8) = true then W g n (k + 1) (s + 2 ^ (k % 8)) else 0) + (if k % 8 ≠ 7 ∧ g (k + 1) = true ∧ s.testBit (k % 8 + 1) = false then W g n (k + 1) (s + 2 ^ (k % 8 + 1)) else 0)
    else if s.testBit (k % 8) = true then 0 else W g n (k + 1) s
theorem W_zero (g : Nat → Bool) (k s : Nat) : W g 0 k s = if s = 0 then 1 else 0 := rfl
theorem W_out {g : Nat → Bool} {n k s : Nat} (h : g k = false) (hs : s.testBit (k % 8) = true) : W g (n + 1) k s = 0 := by
  show (if g k = true then _ else _) = _
  rw [if_neg (by rw [h]; simp), if_pos hs]
theorem W_no {g : Nat → Bool} {n k s : Nat} (h : g k = false) (hs : s.testBit (k % 8) = false) : W g (n + 1) k s = W g n (k + 1) s := by
  show (if g k = true then _ else _) = _
  rw [if_neg (by rw [h]; simp), if_neg (by rw [hs]; simp)]
theorem W_cov {g : Nat → Bool} {n k s : Nat} (h : g k = true) (hs : s.testBit (k % 8) = true) : W g (n + 1) k s = W g n (k + 1) (s - 2 ^ (k % 8)) := by
  show (if g k = true then _ else _) = _
  rw [if_pos h, if_pos hs]
theorem W_two {g : Nat → Bool} {n k s : Nat} (h : g k = true) (hs : s.testBit (k % 8) = false) : W g (n + 1) k s = (if g (k + 8) = true then W g n (k + 1) (s + 2 ^ (k % 8)) else 0) + (if k % 8 ≠ 7 ∧ g (k + 1) = true ∧ s.testBit (k % 8 + 1) = false then W g n (k + 1) (s + 2 ^ (k % 8 + 1)) else 0) := by
  show (if g k = true then _ else _) = _
  rw [if_pos h, if_neg (by rw [hs]; simp)]
/-- the cells that are free behind the cell k. -/
def G (g : Nat → Bool) (k s : Nat) : Nat → Bool := fun j => g j && decide (k ≤ j) && !(decide (j < k + 8) && s.testBit (j % 8))
theorem G_iff {g : Nat → Bool} {k s j : Nat} : G g k s j = true ↔ g j = true ∧ k ≤ j ∧ ¬ (j < k + 8 ∧ s.testBit (j % 8) = true) := by
  unfold G; simp only [Bool.and_eq_true, decide_eq_true_eq, Bool.not_eq_true', Bool.and_eq_false_iff, decide_eq_false_iff_not]
  constructor
  · rintro ⟨⟨a, b⟩, c⟩; refine ⟨a, b, ?_⟩; rintro ⟨d, e⟩; rcases c with c | c
    · exact c d
    · rw [c] at e; cases e
  · rintro ⟨a, b, c⟩; refine ⟨⟨a, b⟩, ?_⟩
    by_cases d : j < k + 8
    · right; cases e : s.testBit (j % 8) with
      | false => rfl
      | true => exact absurd ⟨d, e⟩ c
    · left; exact d
theorem G_eq {g h : Nat → Bool} (e : ∀ j, g j = true ↔ h j = true) : g = h := by funext j; rw [Bool.eq_iff_iff]; exact e j
theorem W_T {g : Nat → Bool} (hg : ∀ j, 64 ≤ j → g j = false) : ∀ (n k s : Nat), k + n = 64 → s < 256 → (∀ i, i < 8 → s.testBit ((k + i) % 8) = true → g (k + i) = true) → W g n k s = T n k (G g k s)
  | 0, k, s, hk, hs, hv => by
    have : s = 0 := bit_none s hs (fun i hi => by
      cases h : s.testBit i with
      | false => rfl
      | true =>
        have := hv i hi (by rw [show (k + i) % 8 = i by omega]; exact h)
        rw [hg (k + i) (by omega)] at this; cases this)
    rw [W_zero, if_pos this]; rfl
  | n + 1, k, s, hk, hs, hv => by
    have hx : k % 8 < 8 := Nat.mod_lt _ (by omega)
    by_cases hgk : g k = true
    · cases hb : s.testBit (k % 8) with
      | true =>
        obtain ⟨b1, b2⟩ := bit_sub s hs _ hx hb
        rw [W_cov hgk hb, T_no (by rw [Bool.eq_false_iff, Ne, G_iff]; rintro ⟨_, _, h⟩; exact h ⟨by omega, hb⟩), W_T hg n (k + 1) _ (by omega) b1 ?_]
        · congr 1
          refine G_eq (fun j => ?_)
          rw [G_iff, G_iff]
          have hj : j % 8 < 8 := Nat.mod_lt _ (by omega)
          rw [b2 _ hj]
          simp only [Bool.and_eq_true, decide_eq_true_eq]
          constructor
          · rintro ⟨p1, p2, p3⟩; exact ⟨p1, by omega, fun q => p3 ⟨by omega, q.2, by omega⟩⟩
          · rintro ⟨p1, p2, p3⟩
            have : j ≠ k := fun q => p3 ⟨by omega, by rw [q]; exact hb⟩
            exact ⟨p1, by omega, fun q => p3 ⟨by omega, q.2.1⟩⟩
        · intro i hi q
          rw [b2 _ (Nat.mod_lt _ (by omega))] at q
          simp only [Bool.and_eq_true, decide_eq_true_eq] at q
          have := hv (i + 1) (by omega) (by rw [show k + (i + 1) = k + 1 + i by omega]; exact q.1)
          rw [show k + 1 + i = k + (i + 1) by omega]; exact this
      | false =>
        have hGk : G g k s k = true := by rw [G_iff]; exact ⟨hgk, by omega, fun q => by rw [hb] at q; cases q.2⟩
        rw [W_two hgk hb, T_yes hGk]
        have e : ∀ b, b < 64 → (if adj k b = true ∧ G g k s b = true then T n (k + 1) (rem (G g k s) k b) else 0) = (if adj k b = true then (if G g k s b = true then T n (k + 1) (rem (G g k s) k b) else 0) else 0) := by
          intro b _
          by_cases p : adj k b = true <;> by_cases q : G g k s b = true <;> simp [p, q]
        rw [sm_congr e, sm_four (by omega) (fun b => if G g k s b = true then T n (k + 1) (rem (G g k s) k b) else 0)]
        have z1 : (if k % 8 ≠ 0 then (if G g k s (k - 1) = true then T n (k + 1) (rem (G g k s) k (k - 1)) else 0) else 0) = 0 := by
          by_cases p : k % 8 ≠ 0
          · rw [if_pos p, if_neg (by rw [G_iff]; omega)]
          · rw [if_neg p]
        have z2 : (if 8 ≤ k then (if G g k s (k - 8) = true then T n (k + 1) (rem (G g k s) k (k - 8)) else 0) else 0) = 0 := by
          by_cases p : 8 ≤ k
          · rw [if_pos p, if_neg (by rw [G_iff]; omega)]
          · rw [if_neg p]
        rw [z1, z2]
        have d : (if g (k + 8) = true then W g n (k + 1) (s + 2 ^ (k % 8)) else 0) = (if k + 8 < 64 then (if G g k s (k + 8) = true then T n (k + 1) (rem (G g k s) k (k + 8)) else 0) else 0) := by
          by_cases p : g (k + 8) = true
          · have h64 : k + 8 < 64 := by
              by_cases q : k + 8 < 64
              · exact q
              · rw [hg (k + 8) (by omega)] at p; cases p
            obtain ⟨b1, b2⟩ := bit_add s hs _ hx hb
            rw [if_pos p, if_pos h64, if_pos (by rw [G_iff]; exact ⟨p, by omega, fun q => by omega⟩), W_T hg n (k + 1) _ (by omega) b1 ?_]
            · congr 1
              refine G_eq (fun j => ?_)
              rw [G_iff, rem_iff, G_iff]
              have hj : j % 8 < 8 := Nat.mod_lt _ (by omega)
              rw [b2 _ hj]
              simp only [Bool.or_eq_true, decide_eq_true_eq]
              constructor
              · rintro ⟨p1, p2, p3⟩
                exact ⟨⟨p1, by omega, fun q => p3 ⟨by omega, Or.inl q.2⟩⟩, by omega, fun q => p3 ⟨by omega, Or.inr (by omega)⟩⟩
              · rintro ⟨⟨p1, p2, p3⟩, p4, p5⟩
                refine ⟨p1, by omega, ?_⟩
                rintro ⟨q1, q2 | q2⟩
                · exact p3 ⟨by omega, q2⟩
                · omega
            · intro i hi q
              rw [b2 _ (Nat.mod_lt _ (by omega))] at q
              simp only [Bool.or_eq_true, decide_eq_true_eq] at q
              by_cases h7 : i = 7
              · subst h7; exact p
              · rcases q with q | q
                · have := hv (i + 1) (by omega) (by rw [show k + (i + 1) = k + 1 + i by omega]; exact q)
                  rw [show k + 1 + i = k + (i + 1) by omega]; exact this
                · omega
          · rw [if_neg p]
            by_cases h64 : k + 8 < 64
            · rw [if_pos h64, if_neg (by rw [G_iff]; exact fun q => p q.1)]
            · rw [if_neg h64]
        have r : (if k % 8 ≠ 7 ∧ g (k + 1) = true ∧ s.testBit (k % 8 + 1) = false then W g n (k + 1) (s + 2 ^ (k % 8 + 1)) else 0) = (if k % 8 ≠ 7 then (if G g k s (k + 1) = true then T n (k + 1) (rem (G g k s) k (k + 1)) else 0) else 0) := by
          by_cases h7 : k % 8 ≠ 7
          · rw [if_pos h7]
            have hm : (k + 1) % 8 = k % 8 + 1 := by omega
            by_cases p : g (k + 1) = true ∧ s.testBit (k % 8 + 1) = false
            · obtain ⟨b1, b2⟩ := bit_add s hs (k % 8 + 1) (by omega) p.2
              rw [if_pos ⟨h7, p⟩, if_pos (by rw [G_iff, hm]; exact ⟨p.1, by omega, fun q => by rw [p.2] at q; cases q.2⟩), W_T hg n (k + 1) _ (by omega) b1 ?_]
              · congr 1
                refine G_eq (fun j => ?_)
                rw [G_iff, rem_iff, G_iff]
                have hj : j % 8 < 8 := Nat.mod_lt _ (by omega)
                rw [b2 _ hj]
                simp only [Bool.or_eq_true, decide_eq_true_eq]
                constructor
                · rintro ⟨p1, p2, p3⟩
                  exact ⟨⟨p1, by omega, fun q => p3 ⟨by omega, Or.inl q.2⟩⟩, by omega, fun q => p3 ⟨by omega, Or.inr (by omega)⟩⟩
                · rintro ⟨⟨p1, p2, p3⟩, p4, p5⟩
                  refine ⟨p1, by omega, ?_⟩
                  rintro ⟨q1, q2 | q2⟩
                  · by_cases e8 : j = k + 8
                    · rw [e8, show (k + 8) % 8 = k % 8 by omega, hb] at q2; cases q2
                    · exact p3 ⟨by omega, q2⟩
                  · omega
              · intro i hi q
                rw [b2 _ (Nat.mod_lt _ (by omega))] at q
                simp only [Bool.or_eq_true, decide_eq_true_eq] at q
                by_cases h7' : i = 7
                · subst h7'
                  rcases q with q | q
                  · rw [show (k + 1 + 7) % 8 = k % 8 by omega, hb] at q; cases q
                  · omega
                · rcases q with q | q
                  · have := hv (i + 1) (by omega) (by rw [show k + (i + 1) = k + 1 + i by omega]; exact q)
                    rw [show k + 1 + i = k + (i + 1) by omega]; exact this
                  · rw [show i = 0 by omega]; exact p.1
            · rw [if_neg (fun q => p q.2), if_neg]
              rw [G_iff, hm]
              rintro ⟨q1, _, q3⟩
              refine p ⟨q1, ?_⟩
              cases hh : s.testBit (k % 8 + 1) with
              | false => rfl
              | true => exact absurd ⟨by omega, hh⟩ q3
          · rw [if_neg h7, if_neg (fun q => h7 q.1)]
        rw [d, r]; omega
    · have hb : s.testBit (k % 8) = false := by
        cases h : s.testBit (k % 8) with
        | false => rfl
        | true => exact absurd (hv 0 (by omega) h) hgk
      have hgk : g k = false := by simpa using hgk
      rw [W_no hgk hb, T_no (by rw [Bool.eq_false_iff, Ne, G_iff]; rintro ⟨h, _⟩; rw [hgk] at h; cases h), W_T hg n (k + 1) _ (by omega) hs ?_]
      · congr 1
        refine G_eq (fun j => ?_)
        rw [G_iff, G_iff]
        constructor
        · rintro ⟨p1, p2, p3⟩; exact ⟨p1, by omega, fun q => p3 ⟨by omega, q.2⟩⟩
        · rintro ⟨p1, p2, p3⟩
          have : j ≠ k := fun q => by rw [q, hgk] at p1; cases p1
          refine ⟨p1, by omega, fun q => ?_⟩
          by_cases e8 : j = k + 8
          · rw [e8, show (k + 8) % 8 = k % 8 by omega, hb] at q; cases q.2
          · exact p3 ⟨by omega, q.2⟩
      · intro i hi q
        by_cases h7 : i = 7
        · subst h7; rw [show (k + 1 + 7) % 8 = k % 8 by omega, hb] at q; cases q
        · have := hv (i + 1) (by omega) (by rw [show k + (i + 1) = k + 1 + i by omega]; exact q)
          rw [show k + 1 + i = k + (i + 1) by omega]; exact this
theorem W_tiles {g : Nat → Bool} (hg : ∀ j, 64 ≤ j → g j = false) : W g 64 0 0 = tiles g := by
  rw [W_T hg 64 0 0 rfl (by omega) (fun i _ q => by simp at q)]
  unfold tiles
  congr 1
  refine G_eq (fun j => ?_)
  rw [G_iff]; simp
end Go.Proofs.YtmaghekcpopepaaDoor.Cnt

/- The sums of a walk over all states, as 64 bit numbers; rectangles; lists of dominoes on a list of cells: no program here. -/
namespace Go.Proofs.YtmaghekcpopepaaDoor.Cnt
set_option linter.unusedVariables false
set_option linter.unusedSimpArgs false
open Go.RowKit

/-- the same number of 64 bits. -/
def D (x y : Int) : Prop := ∃ q : Int, x = y + 18446744073709551616 * q
theorem D.refl (x : Int) : D x x := ⟨0, by omega⟩
theorem D.symm {x y : Int} (h : D x y) : D y x := by obtain ⟨q, h⟩ := h; exact ⟨-q, by omega⟩
theorem D.trans {x y z : Int} (h : D x y) (h' : D y z) : D x z := by
  obtain ⟨q, h⟩ := h; obtain ⟨q', h'⟩ := h'; exact ⟨q + q', by omega⟩
theorem D.add {x y u v : Int} (h : D x y) (h' : D u v) : D (x + u) (y + v) := by
  obtain ⟨q, h⟩ := h; obtain ⟨q', h'⟩ := h'; exact ⟨q + q', by omega⟩
theorem D.mul {x y : Int} (h : D x y) (c : Int) : D (x * c) (y * c) := by
  obtain ⟨q, h⟩ := h; exact ⟨q * c, by rw [h, Int.add_mul, Int.mul_assoc]⟩
theorem D_wrap (x : Int) : D (wrap64 x) x := by
  refine ⟨(wrap64 x - x) / 18446744073709551616, ?_⟩
  unfold wrap64; omega
theorem D.wrap {x y : Int} (h : D x y) : wrap64 x = wrap64 y := by
  obtain ⟨q, h⟩ := h; unfold wrap64; omega
/-- a sum of numbers. -/
def si : Nat → (Nat → Int) → Int
  | 0, _ => 0
  | n + 1, f => si n f + f n
theorem si_congr {n : Nat} {f h : Nat → Int} (e : ∀ i, i < n → f i = h i) : si n f = si n h := by
  induction n with
  | zero => rfl
  | succ n ih => unfold si; rw [ih (fun i hi => e i (by omega)), e n (by omega)]
theorem si_zero {n : Nat} {f : Nat → Int} (e : ∀ i, i < n → f i = 0) : si n f = 0 := by
  induction n with
  | zero => rfl
  | succ n ih => unfold si; rw [ih (fun i hi => e i (by omega)), e n (by omega)]; rfl
theorem si_one {n c : Nat} (hc : c < n) {f : Nat → Int} (h : ∀ i, i < n → i ≠ c → f i = 0) : si n f = f c := by
  induction n with
  | zero => omega
  | succ n ih =>
    unfold si
    by_cases e : c = n
    · subst e; rw [si_zero (fun i hi => h i (by omega) (by omega))]; omega
    · rw [ih (by omega) (fun i hi hne => h i (by omega) hne), h n (by omega) (by omega)]; omega
/-- one number of a row is changed. -/
def upd (b : Nat → Int) (t : Nat) (v : Int) : Nat → Int := fun i => if i = t then v else b i
theorem upd_at (b : Nat → Int) (t : Nat) (v : Int) : upd b t v t = v := if_pos rfl
theorem upd_ne {b : Nat → Int} {t i : Nat} {v : Int} (h : i ≠ t) : upd b t v i = b i := if_neg h
theorem si_upd {n t : Nat} (ht : t < n) (b w : Nat → Int) (v : Int) : si n (fun i => upd b t v i * w i) = si n (fun i => b i * w i) + (v - b t) * w t := by
  induction n with
  | zero => omega
  | succ n ih =>
    show si n (fun i => upd b t v i * w i) + upd b t v n * w n = si n (fun i => b i * w i) + b n * w n + (v - b t) * w t
    by_cases e : t = n
    · subst e
      rw [upd_at, si_congr (n := t) (f := fun i => upd b t v i * w i) (h := fun i => b i * w i) (fun i hi => by show upd b t v i * w i = _; rw [upd_ne (by omega)]), Int.sub_mul]
      omega
    · rw [ih (by omega), upd_ne (fun h => e h.symm)]; omega
/-- a row of 256 numbers, each of them with the ways behind its state. -/
def sumW (g : Nat → Bool) (n k s : Nat) (a : Nat → Int) : Int := si s (fun i => a i * (W g n k i : Int))
theorem D_add1 {L v : Int} {g : Nat → Bool} {n k t : Nat} {b : Nat → Int} (h : D L (sumW g n k 256 b)) (ht : t < 256) : D (L + v * (W g n k t : Int)) (sumW g n k 256 (upd b t (wrap64 (b t + v)))) := by
  unfold sumW at h ⊢
  rw [si_upd ht]
  refine h.add ?_
  refine D.mul ?_ _
  have := D_wrap (b t + v)
  obtain ⟨q, hq⟩ := this
  exact ⟨-q, by omega⟩
/-- the states below s are done: the row b holds what follows from them. -/
def St (g : Nat → Bool) (n k : Nat) (a b : Nat → Int) (s : Nat) : Prop := D (sumW g (n + 1) k s a) (sumW g n (k + 1) 256 b)
theorem St.start (g : Nat → Bool) (n k : Nat) (a : Nat → Int) : St g n k a (fun _ => 0) 0 := by
  unfold St sumW
  rw [si_zero (n := 256) (fun i _ => by simp)]
  exact D.refl 0
theorem St.skip {g : Nat → Bool} {n k s : Nat} {a b : Nat → Int} (h : St g n k a b s) (e : a s = 0) : St g n k a b (s + 1) := by
  unfold St at h ⊢
  show D (sumW g (n + 1) k s a + a s * _) _
  rw [e, Int.zero_mul, Int.add_zero]; exact h
theorem St.out {g : Nat → Bool} {n k s : Nat} {a b : Nat → Int} (h : St g n k a b s) (hg : g k = false) (hb : s.testBit (k % 8) = true) : St g n k a b (s + 1) := by
  unfold St at h ⊢
  show D (sumW g (n + 1) k s a + a s * (W g (n + 1) k s : Int)) _
  rw [W_out hg hb]; simpa using h
theorem St.no {g : Nat → Bool} {n k s : Nat} {a b : Nat → Int} (h : St g n k a b s) (hs : s < 256) (hg : g k = false) (hb : s.testBit (k % 8) = false) : St g n k a (upd b s (wrap64 (b s + a s))) (s + 1) := by
  unfold St at h ⊢
  show D (sumW g (n + 1) k s a + a s * (W g (n + 1) k s : Int)) _
  rw [W_no hg hb]
  exact D_add1 h hs
theorem St.cov {g : Nat → Bool} {n k s : Nat} {a b : Nat → Int} (h : St g n k a b s) (hs : s < 256) (hg : g k = true) (hb : s.testBit (k % 8) = true) : St g n k a (upd b (s - 2 ^ (k % 8)) (wrap64 (b (s - 2 ^ (k % 8)) + a s))) (s + 1) := by
  unfold St at h ⊢
  show D (sumW g (n + 1) k s a + a s * (W g (n + 1) k s : Int)) _
  rw [W_cov hg hb]
  exact D_add1 h (bit_sub s hs _ (Nat.mod_lt _ (by omega)) hb).1
/-- what a step down, and then a step to the right, add. -/
def dn (g : Nat → Bool) (k s : Nat) (v : Int) (b : Nat → Int) : Nat → Int := if g (k + 8) = true then upd b (s + 2 ^ (k % 8)) (wrap64 (b (s + 2 ^ (k % 8)) + v)) else b
def rt (g : Nat → Bool) (k s : Nat) (v : Int) (b : Nat → Int) : Nat → Int := if k % 8 ≠ 7 ∧ g (k + 1) = true ∧ s.testBit (k % 8 + 1) = false then upd b (s + 2 ^ (k % 8 + 1)) (wrap64 (b (s + 2 ^ (k % 8 + 1)) + v)) else b
theorem St.two {g : Nat → Bool} {n k s : Nat} {a b : Nat → Int} (h : St g n k a b s) (hs : s < 256) (hg : g k = true) (hb : s.testBit (k % 8) = false) : St g n k a (rt g k s (a s) (dn g k s (a s) b)) (s + 1) := by
  unfold St at h ⊢
  show D (sumW g (n + 1) k s a + a s * (W g (n + 1) k s : Int)) _
  rw [W_two hg hb, Int.natCast_add, Int.mul_add, ← Int.add_assoc]
  have h1 : D (sumW g (n + 1) k s a + a s * ((if g (k + 8) = true then W g n (k + 1) (s + 2 ^ (k % 8)) else 0 : Nat) : Int)) (sumW g n (k + 1) 256 (dn g k s (a s) b)) := by
    unfold dn
    by_cases p : g (k + 8) = true
    · rw [if_pos p, if_pos p]; exact D_add1 h (bit_add s hs _ (Nat.mod_lt _ (by omega)) hb).1
    · rw [if_neg p, if_neg p]; simpa using h
  unfold rt
  by_cases p : k % 8 ≠ 7 ∧ g (k + 1) = true ∧ s.testBit (k % 8 + 1) = false
  · rw [if_pos p, if_pos p]; exact D_add1 h1 (bit_add s hs _ (by omega) p.2.2).1
  · rw [if_neg p, if_neg p]; simpa using h1
/-- the row before the cell k, and the last one. -/
def Inv (g : Nat → Bool) (k : Nat) (a : Nat → Int) : Prop := D (sumW g (64 - k) k 256 a) (tiles g : Int)
theorem Inv.start {g : Nat → Bool} (hg : ∀ j, 64 ≤ j → g j = false) {a : Nat → Int} (h0 : a 0 = 1) (h : ∀ i, i < 256 → i ≠ 0 → a i = 0) : Inv g 0 a := by
  unfold Inv sumW
  rw [si_one (c := 0) (by omega) (fun i hi hne => by rw [h i hi hne, Int.zero_mul]), h0, Int.one_mul, W_tiles hg]
  exact D.refl _
theorem Inv.next {g : Nat → Bool} {k : Nat} {a b : Nat → Int} (hk : k < 64) (h : Inv g k a) (hs : St g (63 - k) k a b 256) : Inv g (k + 1) b := by
  unfold Inv at h ⊢; unfold St at hs
  rw [show 63 - k + 1 = 64 - k by omega] at hs
  rw [show 64 - (k + 1) = 63 - k by omega]
  exact hs.symm.trans h
theorem Inv.last {g : Nat → Bool} {a : Nat → Int} (h : Inv g 64 a) : wrap64 (a 0) = wrap64 (tiles g : Int) := by
  unfold Inv sumW at h
  rw [si_one (c := 0) (by omega) (fun i hi hne => by rw [show 64 - 64 = 0 from rfl, W_zero, if_neg hne]; simp)] at h
  rw [show 64 - 64 = 0 from rfl, W_zero, if_pos rfl] at h
  simpa using h.wrap
/-- what is laid on the cells of a list, from a place on. -/
def R (C : Nat → Nat) (L : Nat) : Nat → Nat → Nat → (Nat → Bool) → Nat
  | _, _, 0, _ => 1
  | 0, _, _ + 1, _ => 0
  | n + 1, f, m + 1, u => R C L n (f + 1) (m + 1) u + if u f = true then 0 else sm L (fun k => if f < k ∧ u k = false ∧ adj (C f) (C k) = true then R C L n (f + 1) m (fun i => u i || decide (i = k)) else 0)
theorem sm_place {N : Nat} : ∀ {L : Nat} {C : Nat → Nat} {F : Nat → Nat}, (∀ i, i < L → C i < N) → (∀ i j, i < j → j < L → C i ≠ C j) → (∀ j, j < N → (∀ i, i < L → C i ≠ j) → F j = 0) → sm N F = sm L (fun i => F (C i))
  | 0, C, F, _, _, h0 => sm_zero (fun j hj => h0 j hj (fun i hi => by omega))
  | L + 1, C, F, h1, h2, h0 => by
    show sm N F = sm L (fun i => F (C i)) + F (C L)
    rw [sm_out (h1 L (by omega)) F, sm_place (L := L) (C := C) (F := fun i => if i = C L then 0 else F i) (fun i hi => h1 i (by omega)) (fun i j hi hj => h2 i j hi (by omega)) ?_]
    · rw [sm_congr (n := L) (h := fun i => F (C i)) (fun i hi => if_neg (h2 i L hi (by omega)))]; omega
    · intro j hj hn
      by_cases e : j = C L
      · exact if_pos e
      · show (if j = C L then 0 else F j) = 0
        rw [if_neg e]
        refine h0 j hj (fun i hi => ?_)
        by_cases q : i = L
        · rw [q]; exact fun r => e r.symm
        · exact hn i (by omega)
theorem P_skip {m : Nat} {g : Nat → Bool} : ∀ (d n k : Nat), (∀ j, k ≤ j → j < k + d → g j = false) → P (n + d) k m g = P n (k + d) m g
  | 0, n, k, _ => rfl
  | d + 1, n, k, h => by
    have := P_skip (m := m) (g := g) d n (k + 1) (fun j h1 h2 => h j (by omega) (by omega))
    rw [show k + (d + 1) = k + 1 + d by omega, ← this]
    cases m with
    | zero => rw [P_zero, P_zero]
    | succ m =>
      show P (n + d) (k + 1) (m + 1) g + (if g k = true then _ else 0) = _
      rw [if_neg (by rw [h k (by omega) (by omega)]; simp), Nat.add_zero]
/-- the list of the cells of a set. -/
structure Lists (g0 : Nat → Bool) (C : Nat → Nat) (L : Nat) : Prop where
  asc : ∀ i j, i < j → j < L → C i < C j
  mem : ∀ i, i < L → C i < 64 ∧ g0 (C i) = true
  all : ∀ j, j < 64 → g0 j = true → ∃ i, i < L ∧ C i = j
/-- the free cells, when the places of u are used. -/
def frees (g0 : Nat → Bool) (C : Nat → Nat) (L : Nat) (u : Nat → Bool) (g : Nat → Bool) : Prop := ∀ j, g j = true ↔ ∃ i, i < L ∧ C i = j ∧ u i = false
theorem R_P {g0 : Nat → Bool} {C : Nat → Nat} {L : Nat} (hl : Lists g0 C L) : ∀ (n f m k : Nat) (u g : Nat → Bool), f + n = L → k ≤ 64 → (∀ i, i < f → C i < k) → (∀ i, f ≤ i → i < L → k ≤ C i) → (∀ j, k ≤ j → (g j = true ↔ ∃ i, i < L ∧ C i = j ∧ u i = false)) → R C L n f m u = P (64 - k) k m g
  | n, f, 0, k, u, g, _, _, _, _, _ => by rw [P_zero]; cases n <;> rfl
  | 0, f, m + 1, k, u, g, hf, hk, h1, h2, hg => by
    have e := P_skip (m := m + 1) (g := g) (64 - k) 0 k (fun j p q => by
      rw [Bool.eq_false_iff, Ne, hg j p]
      rintro ⟨i, hi, hc, _⟩
      have := h1 i (by omega); omega)
    rw [Nat.zero_add] at e
    rw [e]; rfl
  | n + 1, f, m + 1, k, u, g, hf, hk, h1, h2, hg => by
    have hfL : f < L := by omega
    obtain ⟨hc64, hgc⟩ := hl.mem f hfL
    have hkc := h2 f (by omega) hfL
    have e := P_skip (m := m + 1) (g := g) (C f - k) (64 - C f) k (fun j p q => by
      rw [Bool.eq_false_iff, Ne, hg j p]
      rintro ⟨i, hi, hc, _⟩
      by_cases q : i < f
      · have := h1 i q; omega
      · by_cases r : i = f
        · rw [r] at hc; omega
        · have := hl.asc f i (by omega) hi; omega)
    rw [show 64 - C f + (C f - k) = 64 - k by omega, show k + (C f - k) = C f by omega] at e
    rw [e, show 64 - C f = (64 - (C f + 1)) + 1 by omega]
    have a1 : ∀ i, i < f + 1 → C i < C f + 1 := fun i hi => by
      by_cases q : i = f
      · rw [q]; omega
      · have := hl.asc i f (by omega) hfL; omega
    have a2 : ∀ i, f + 1 ≤ i → i < L → C f + 1 ≤ C i := fun i p q => hl.asc f i (by omega) q
    show R C L n (f + 1) (m + 1) u + _ = P (64 - (C f + 1)) (C f + 1) (m + 1) g + _
    rw [R_P hl n (f + 1) (m + 1) (C f + 1) u g (by omega) (by omega) a1 a2 (fun j hj => hg j (by omega))]
    congr 1
    have hgf : g (C f) = true ↔ u f = false := by
      rw [hg _ hkc]
      constructor
      · rintro ⟨i, hi, hc, hu⟩
        by_cases q : i < f
        · have := hl.asc i f q hfL; omega
        · by_cases r : i = f
          · rw [← r]; exact hu
          · have := hl.asc f i (by omega) hi; omega
      · intro hu; exact ⟨f, hfL, rfl, hu⟩
    by_cases hu : u f = true
    · rw [if_pos hu, if_neg (by rw [hgf, hu]; simp)]
    · have hu : u f = false := by simpa using hu
      rw [if_neg (by rw [hu]; simp), if_pos (hgf.2 hu)]
      rw [sm_place (N := 64) (L := L) (C := C) (fun i hi => (hl.mem i hi).1) (fun i j hi hj => by have := hl.asc i j hi hj; omega) ?_]
      · refine sm_congr (fun i hi => ?_)
        by_cases q : f < i ∧ u i = false ∧ adj (C f) (C i) = true
        · have hfi := hl.asc f i q.1 hi
          rw [if_pos q, if_pos ⟨q.2.2, (hg _ (by omega)).2 ⟨i, hi, rfl, q.2.1⟩, hfi⟩]
          refine R_P hl n (f + 1) m (C f + 1) _ _ (by omega) (by omega) a1 a2 (fun j hj => ?_)
          rw [rem_iff, hg j (by omega)]
          constructor
          · rintro ⟨⟨i', p1, p2, p3⟩, p4, p5⟩
            refine ⟨i', p1, p2, ?_⟩
            simp only [Bool.or_eq_false_iff, decide_eq_false_iff_not]
            exact ⟨p3, fun r => p5 (by rw [← p2, r])⟩
          · rintro ⟨i', p1, p2, p3⟩
            simp only [Bool.or_eq_false_iff, decide_eq_false_iff_not] at p3
            refine ⟨⟨i', p1, p2, p3.1⟩, by omega, fun r => p3.2 ?_⟩
            rcases Nat.lt_trichotomy i' i with t | t | t
            · have := hl.asc i' i t hi; omega
            · exact t
            · have := hl.asc i i' t p1; omega
        · rw [if_neg q, if_neg]
          rintro ⟨q1, q2, q3⟩
          obtain ⟨i', p1, p2, p3⟩ := (hg (C i) (by omega)).1 q2
          have hii : i' = i := by
            rcases Nat.lt_trichotomy i' i with t | t | t
            · have := hl.asc i' i t hi; omega
            · exact t
            · have := hl.asc i i' t p1; omega
          refine q ⟨?_, by rw [← hii]; exact p3, q1⟩
          rcases Nat.lt_trichotomy f i with t | t | t
          · exact t
          · rw [t] at q3; omega
          · have := hl.asc i f t hfL; omega
      · intro j hj hn
        rw [if_neg]
        rintro ⟨_, q2, q3⟩
        obtain ⟨i, p1, p2, _⟩ := (hg j (by omega)).1 q2
        exact hn i p1 p2
end Go.Proofs.YtmaghekcpopepaaDoor.Cnt

/- The count for regions given as rows: a domino's cells taken out, rectangles, the list of the cells: no program here. -/
namespace Go.Proofs.YtmaghekcpopepaaDoor.Cnt
set_option linter.unusedVariables false
set_option linter.unusedSimpArgs false
open Go.RowKit Go.Proofs.YtmaghekcpopepaaDoor.Pure

/-- the cells of a region. -/
def gR (xs : List Int) : Nat → Bool := fun j => decide (j < 64) && bitB (rowD xs (j / 8)) (j % 8)
theorem gR_out (xs : List Int) : ∀ j, 64 ≤ j → gR xs j = false := fun j h => by unfold gR; rw [decide_eq_false (by omega)]; rfl
theorem gR_in {xs : List Int} {j : Nat} (h : j < 64) : gR xs j = bitB (rowD xs (j / 8)) (j % 8) := by unfold gR; rw [decide_eq_true h]; rfl
theorem put_bit : ∀ r : Fin 256, ∀ k : Fin 8, ∀ i : Fin 8, bitB (putB ((r.val : Nat) : Int) k.val false) i.val = (bitB ((r.val : Nat) : Int) i.val && decide (i.val ≠ k.val)) := by decide +kernel
theorem okR_with {xs : List Int} (ho : okR xs) {x y : Nat} (hx : x < 8) (hy : y < 8) : okR (withR xs x y false) := by
  refine ⟨by rw [withR_length ho.1]; omega, fun r hr => ?_⟩
  obtain ⟨i, hi, e⟩ := List.getElem_of_mem hr
  have h := rowD_with ho.1 x hy false i
  rw [rowD_at (List.getElem?_eq_getElem hi), e] at h
  rw [h]
  have r0 := rowD_ok ho y
  have t := table r0.1 r0.2 hx
  by_cases q : i = y
  · rw [if_pos q]; exact ⟨t.2.2.2.2.2.2.2.1, t.2.2.2.2.2.2.2.2.1⟩
  · rw [if_neg q]; exact rowD_ok ho i
theorem gR_with {xs : List Int} (ho : okR xs) {x y : Nat} (hx : x < 8) (hy : y < 8) (j : Nat) : gR (withR xs x y false) j = (gR xs j && decide (j ≠ y * 8 + x)) := by
  by_cases h : j < 64
  · rw [gR_in h, gR_in h, rowD_with ho.1 x hy]
    by_cases q : j / 8 = y
    · rw [if_pos q, q]
      have r0 := rowD_ok ho y
      have t := put_bit ⟨(rowD xs y).toNat, by omega⟩ ⟨x, hx⟩ ⟨j % 8, Nat.mod_lt _ (by omega)⟩
      have e : (((rowD xs y).toNat : Nat) : Int) = rowD xs y := Int.toNat_of_nonneg r0.1
      simp only [e] at t
      rw [t]
      congr 1
      rw [Bool.eq_iff_iff, decide_eq_true_iff, decide_eq_true_iff]
      omega
    · rw [if_neg q, decide_eq_true (show j ≠ y * 8 + x by omega), Bool.and_true]
  · rw [gR_out _ j (by omega), gR_out _ j (by omega)]; rfl
theorem gR_two {xs : List Int} (ho : okR xs) {x y u v : Nat} (hx : x < 8) (hy : y < 8) (hu : u < 8) (hv : v < 8) : gR (withR (withR xs x y false) u v false) = rem (gR xs) (y * 8 + x) (v * 8 + u) := by
  funext j
  rw [gR_with (okR_with ho hx hy) hu hv, gR_with ho hx hy]; rfl
/-- the tilings of a region, as a number of 64 bits. -/
def tilesR (xs : List Int) : Int := if okR xs then wrap64 (tiles (gR xs) : Int) else 0
theorem tilesR_ok {xs : List Int} (h : okR xs) : tilesR xs = wrap64 (tiles (gR xs) : Int) := if_pos h
theorem tilesR_not {xs : List Int} (h : ¬ okR xs) : tilesR xs = 0 := if_neg h
/-- a rectangle's cells. -/
def gq (a b : Nat) : Nat → Bool := fun j => decide (j % 8 < a) && decide (j / 8 < b)
theorem gq_table : ∀ a : Fin 9, ∀ b : Fin 9, ∀ j : Fin 64, 1 ≤ a.val → 1 ≤ b.val → gR (rectR ((a.val : Nat) : Int) ((b.val : Nat) : Int)) j.val = gq a.val b.val j.val := by decide +kernel
theorem rect_gq {a b : Nat} (ha : 1 ≤ a ∧ a ≤ 8) (hb : 1 ≤ b ∧ b ≤ 8) : gR (rectR (a : Int) (b : Int)) = gq a b := by
  funext j
  by_cases h : j < 64
  · exact gq_table ⟨a, by omega⟩ ⟨b, by omega⟩ ⟨j, h⟩ ha.1 hb.1
  · rw [gR_out _ j (by omega)]
    unfold gq
    rw [decide_eq_false (show ¬ j / 8 < b by omega), Bool.and_false]
theorem rect_ok {a b : Nat} (ha : 1 ≤ a ∧ a ≤ 8) (hb : 1 ≤ b ∧ b ≤ 8) : okR (rectR (a : Int) (b : Int)) := by
  have : ∀ a : Fin 9, ∀ b : Fin 9, 1 ≤ a.val → 1 ≤ b.val → okR (rectR ((a.val : Nat) : Int) ((b.val : Nat) : Int)) := by decide +kernel
  exact this ⟨a, by omega⟩ ⟨b, by omega⟩ ha.1 hb.1
theorem rect_tiles {a b : Nat} (ha : 1 ≤ a ∧ a ≤ 8) (hb : 1 ≤ b ∧ b ≤ 8) : tilesR (rectR (a : Int) (b : Int)) = wrap64 (W (gq a b) 64 0 0 : Int) := by
  rw [tilesR_ok (rect_ok ha hb), ← W_tiles (gR_out _), rect_gq ha hb]
theorem sym_table : ∀ a : Fin 6, ∀ b : Fin 6, 1 ≤ a.val → 1 ≤ b.val → W (gq a.val b.val) 64 0 0 = W (gq b.val a.val) 64 0 0 := by decide +kernel
theorem rect_sym {a b : Nat} (ha : 1 ≤ a ∧ a ≤ 5) (hb : 1 ≤ b ∧ b ≤ 5) : tilesR (rectR (a : Int) (b : Int)) = tilesR (rectR (b : Int) (a : Int)) := by
  rw [rect_tiles (by omega) (by omega), rect_tiles (by omega) (by omega), sym_table ⟨a, by omega⟩ ⟨b, by omega⟩ ha.1 hb.1]
theorem rect_25 : tilesR (rectR 2 5) = 8 := by
  have h := rect_tiles (a := 2) (b := 5) (by omega) (by omega)
  have e : W (gq 2 5) 64 0 0 = 8 := by decide +kernel
  rw [e] at h
  show tilesR (rectR ((2 : Nat) : Int) ((5 : Nat) : Int)) = 8
  rw [h]; unfold wrap64; omega
theorem some_table : ∀ a : Fin 5, ∀ b : Fin 5, (a.val = 2 ∨ a.val = 4) → 2 ≤ b.val → 1 ≤ W (gq a.val b.val) 64 0 0 ∧ W (gq a.val b.val) 64 0 0 ≤ 300 := by decide +kernel
theorem rect_some {a b : Nat} (ha : a = 2 ∨ a = 4) (hb : 2 ≤ b ∧ b ≤ 4) : 1 ≤ tilesR (rectR (a : Int) (b : Int)) ∧ tilesR (rectR (a : Int) (b : Int)) ≤ 300 := by
  rw [rect_tiles (by omega) (by omega)]
  have := some_table ⟨a, by omega⟩ ⟨b, by omega⟩ ha hb.1
  unfold wrap64
  simp only at this
  omega
/-- the indexes of the cells. -/
def idxs (xs : List Int) : List Nat := (List.range 64).filter (gR xs)
theorem idxs_cells (xs : List Int) : cellsTo xs 64 = (idxs xs).map fun j => (((j % 8 : Nat) : Int), ((j / 8 : Nat) : Int)) := by
  unfold cellsTo idxs
  have e : (List.range 64).filter (fun j => bitB (rowD xs (j / 8)) (j % 8)) = (List.range 64).filter (gR xs) := List.filter_congr (fun j hj => (gR_in (List.mem_range.1 hj)).symm)
  rw [e]
def plcN (xs : List Int) (i : Nat) : Nat := (idxs xs).getD i 64
theorem plcN_at {xs : List Int} {i : Nat} (h : i < (idxs xs).length) : plcN xs i = (idxs xs)[i] := by unfold plcN; simp [List.getD, h]
theorem idxs_lists (xs : List Int) : Lists (gR xs) (plcN xs) (idxs xs).length := by
  refine ⟨fun i j hij hj => ?_, fun i hi => ?_, fun j hj hg => ?_⟩
  · rw [plcN_at (by omega), plcN_at hj]
    have hp : (idxs xs).Pairwise (· < ·) := List.Pairwise.filter _ List.pairwise_lt_range
    exact List.pairwise_iff_getElem.1 hp i j (by omega) hj hij
  · rw [plcN_at hi]
    have := List.mem_filter.1 (List.getElem_mem hi : (idxs xs)[i] ∈ idxs xs)
    exact ⟨List.mem_range.1 this.1, this.2⟩
  · obtain ⟨i, hi, e⟩ := List.getElem_of_mem (List.mem_filter.2 ⟨List.mem_range.2 hj, hg⟩ : j ∈ idxs xs)
    exact ⟨i, hi, by rw [plcN_at hi]; exact e⟩
theorem cnt_range (g : Nat → Bool) : ∀ n k, cnt n k g = ((List.range' k n).filter g).length
  | 0, k => rfl
  | n + 1, k => by
    rw [List.range'_succ]
    show (if g k = true then 1 else 0) + cnt n (k + 1) g = _
    rw [cnt_range g n (k + 1)]
    by_cases h : g k = true
    · rw [if_pos h, List.filter_cons_of_pos h, List.length_cons]; omega
    · rw [if_neg h, List.filter_cons_of_neg h]; omega
theorem idxs_cnt (xs : List Int) : cnt 64 0 (gR xs) = (idxs xs).length := by
  rw [cnt_range]; unfold idxs; rw [List.range_eq_range']
/-- the partial tilings with n dominoes. -/
def partsN (xs : List Int) (m : Nat) : Nat := P 64 0 m (gR xs)
theorem R_parts (xs : List Int) (m : Nat) : R (plcN xs) (idxs xs).length (idxs xs).length 0 m (fun _ => false) = partsN xs m := by
  have := R_P (idxs_lists xs) (idxs xs).length 0 m 0 (fun _ => false) (gR xs) (by omega) (by omega) (fun i hi => by omega) (fun i _ _ => Nat.zero_le _) (fun j _ => ?_)
  · exact this
  · constructor
    · intro h
      have h64 : j < 64 := by
        by_cases q : j < 64
        · exact q
        · rw [gR_out xs j (by omega)] at h; cases h
      obtain ⟨i, hi, e⟩ := (idxs_lists xs).all j h64 h
      exact ⟨i, hi, e, rfl⟩
    · rintro ⟨i, hi, e, _⟩
      rw [← e]; exact ((idxs_lists xs).mem i hi).2
/-- half as many dominoes as cells: the tilings. -/
theorem parts_half {xs : List Int} {m : Nat} (h : (idxs xs).length = 2 * m) : partsN xs m = tiles (gR xs) :=
  P_all (by omega) (fun i hi => by omega) (by rw [idxs_cnt]; exact h)
theorem parts_none (xs : List Int) : partsN xs 0 = 1 := P_zero _ _ _
theorem parts_many {xs : List Int} {m : Nat} (h : (idxs xs).length < 2 * m) : partsN xs m = 0 := P_few (by omega) (by rw [idxs_cnt]; exact h)
/-- a region with a tiling has an even number of cells. -/
theorem T_even : ∀ (n k : Nat) (g : Nat → Bool), k + n = 64 → (∀ i, i < k → g i = false) → T n k g ≠ 0 → cnt n k g % 2 = 0
  | 0, _, _, _, _, _ => rfl
  | n + 1, k, g, hk, h0, h => by
    have hc : cnt (n + 1) k g = (if g k = true then 1 else 0) + cnt n (k + 1) g := rfl
    by_cases q : g k = true
    · rw [T_yes q] at h
      have : ∃ e, e < 64 ∧ adj k e = true ∧ g e = true ∧ T n (k + 1) (rem g k e) ≠ 0 := by
        refine Classical.byContradiction (fun hn => h (sm_zero (fun e he => ?_)))
        by_cases p : adj k e = true ∧ g e = true
        · rw [if_pos p]
          exact Classical.byContradiction (fun r => hn ⟨e, he, p.1, p.2, r⟩)
        · rw [if_neg p]
      obtain ⟨e, he, ha, hge, hT⟩ := this
      have hke : k < e := by
        by_cases r : e < k
        · rw [h0 e r] at hge; cases hge
        · have := adj_ne ha; omega
      have ih := T_even n (k + 1) (rem g k e) (by omega) (fun i hi => by
        rw [Bool.eq_false_iff, Ne, rem_iff]
        rintro ⟨h1, h2, h3⟩
        rw [h0 i (by omega)] at h1; cases h1) hT
      have := cnt_rem (n := n) (k := k + 1) (a := k) (b := e) (g := g) (by omega) (by omega) (by omega) hge
      rw [if_pos q] at hc
      omega
    · rw [if_neg q] at hc
      rw [T_no (by simpa using q)] at h
      have := T_even n (k + 1) g (by omega) (fun i hi => by
        by_cases r : i = k
        · rw [r]; simpa using q
        · exact h0 i (by omega)) h
      omega
theorem tiles_even {xs : List Int} (h : tiles (gR xs) ≠ 0) : (idxs xs).length % 2 = 0 := by
  rw [← idxs_cnt]; exact T_even 64 0 _ (by omega) (fun i hi => by omega) h
/-- each cell is covered once. -/
theorem tiles_cell {xs : List Int} {c : Nat} (hc : c < 64) (hg : gR xs c = true) : tiles (gR xs) =
    (if c % 8 ≠ 7 then (if gR xs (c + 1) = true then tiles (rem (gR xs) c (c + 1)) else 0) else 0) + (if c + 8 < 64 then (if gR xs (c + 8) = true then tiles (rem (gR xs) c (c + 8)) else 0) else 0)
    + (if c % 8 ≠ 0 then (if gR xs (c - 1) = true then tiles (rem (gR xs) c (c - 1)) else 0) else 0) + (if 8 ≤ c then (if gR xs (c - 8) = true then tiles (rem (gR xs) c (c - 8)) else 0) else 0) := by
  have h := T_any 64 0 (gR xs) c (by omega) (fun i hi => by omega) hc hg
  have e : ∀ b, b < 64 → (if adj c b = true ∧ gR xs b = true then T 64 0 (rem (gR xs) c b) else 0) = (if adj c b = true then (if gR xs b = true then tiles (rem (gR xs) c b) else 0) else 0) := by
    intro b _
    unfold tiles
    by_cases p : adj c b = true <;> by_cases q : gR xs b = true <;> simp [p, q]
  rw [sm_congr e, sm_four hc (fun b => if gR xs b = true then tiles (rem (gR xs) c b) else 0)] at h
  exact h
end Go.Proofs.YtmaghekcpopepaaDoor.Cnt
