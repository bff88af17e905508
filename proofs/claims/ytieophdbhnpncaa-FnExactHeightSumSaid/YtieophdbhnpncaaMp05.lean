/- CntP in one text. -/
import Derived.Test.YtieophdbhnpncaaMp03

/- In how many ways a set of the 64 cells can be covered, pure: the count by its first cell, by any of its cells, the counts of partial coverings: no program here. -/
namespace Go.Proofs.Ytieophdbhnpncaa.Cnt
set_option linter.unusedVariables false
set_option linter.unusedSimpArgs false

/-- a sum over the numbers below n. -/
def sm : Nat → (Nat → Nat) → Nat
  | 0, _ => 0
  | n + 1, f => sm n f + f n
theorem sm_congr {n : Nat} {f h : Nat → Nat} (e : ∀ i, i < n → f i = h i) : sm n f = sm n h := by
  induction n with
  | zero => rfl
  | succ n ih => unfold sm; rw [ih (fun i hi => e i (by omega)), e n (by omega)]
theorem sm_zero {n : Nat} {f : Nat → Nat} (e : ∀ i, i < n → f i = 0) : sm n f = 0 := by
  induction n with
  | zero => rfl
  | succ n ih => unfold sm; rw [ih (fun i hi => e i (by omega)), e n (by omega)]
theorem sm_add {n : Nat} {f h : Nat → Nat} : sm n (fun i => f i + h i) = sm n f + sm n h := by
  induction n with
  | zero => rfl
  | succ n ih =>
    show sm n (fun i => f i + h i) + (f n + h n) = (sm n f + f n) + (sm n h + h n)
    rw [ih]; omega
theorem sm_comm {n m : Nat} {f : Nat → Nat → Nat} : sm n (fun i => sm m (fun j => f i j)) = sm m (fun j => sm n (fun i => f i j)) := by
  induction n with
  | zero => exact (sm_zero (fun _ _ => rfl)).symm
  | succ n ih =>
    show sm n (fun i => sm m (fun j => f i j)) + sm m (fun j => f n j) = sm m (fun j => sm n (fun i => f i j) + f n j)
    rw [ih, sm_add]
theorem sm_one {n c : Nat} (hc : c < n) {f : Nat → Nat} (h : ∀ i, i < n → i ≠ c → f i = 0) : sm n f = f c := by
  induction n with
  | zero => omega
  | succ n ih =>
    unfold sm
    by_cases e : c = n
    · subst e; rw [sm_zero (fun i hi => h i (by omega) (by omega))]; omega
    · rw [ih (by omega) (fun i hi hne => h i (by omega) hne), h n (by omega) (by omega)]; omega
/-- a term is taken out. -/
theorem sm_out {n c : Nat} (hc : c < n) (f : Nat → Nat) : sm n f = f c + sm n (fun i => if i = c then 0 else f i) := by
  have e : sm n f = sm n (fun i => (if i = c then f i else 0) + (if i = c then 0 else f i)) := sm_congr (fun i _ => by by_cases h : i = c <;> simp [h])
  rw [e, sm_add, sm_one hc (f := fun i => if i = c then f i else 0) (fun i _ hne => if_neg hne), if_pos rfl]

/-- neighbors, by their indexes. -/
def adj (a b : Nat) : Bool := decide ((b = a + 1 ∧ a % 8 ≠ 7) ∨ b = a + 8 ∨ (a = b + 1 ∧ b % 8 ≠ 7) ∨ a = b + 8)
theorem adj_iff {a b : Nat} : adj a b = true ↔ ((b = a + 1 ∧ a % 8 ≠ 7) ∨ b = a + 8 ∨ (a = b + 1 ∧ b % 8 ≠ 7) ∨ a = b + 8) := by unfold adj; simp
theorem adj_comm (a b : Nat) : adj a b = adj b a := by
  rw [Bool.eq_iff_iff, adj_iff, adj_iff]; omega
theorem adj_ne {a b : Nat} (h : adj a b = true) : a ≠ b := by rw [adj_iff] at h; omega
/-- two cells are taken out. -/
def rem (g : Nat → Bool) (a b : Nat) : Nat → Bool := fun i => g i && decide (i ≠ a) && decide (i ≠ b)
theorem rem_iff {g : Nat → Bool} {a b i : Nat} : rem g a b i = true ↔ g i = true ∧ i ≠ a ∧ i ≠ b := by unfold rem; simp [and_assoc]
theorem rem_comm (g : Nat → Bool) (a b : Nat) : rem g a b = rem g b a := by
  funext i; rw [Bool.eq_iff_iff, rem_iff, rem_iff]; constructor <;> rintro ⟨h1, h2, h3⟩ <;> exact ⟨h1, h3, h2⟩
theorem rem_rem (g : Nat → Bool) (a b c d : Nat) : rem (rem g a b) c d = rem (rem g c d) a b := by
  funext i; rw [Bool.eq_iff_iff, rem_iff, rem_iff, rem_iff, rem_iff]
  constructor <;> rintro ⟨⟨h1, h2, h3⟩, h4, h5⟩ <;> exact ⟨⟨h1, h4, h5⟩, h2, h3⟩
/-- the coverings of the cells k to k + n - 1 of a set. -/
def T : Nat → Nat → (Nat → Bool) → Nat
  | 0, _, _ => 1
  | n + 1, k, g => if g k = true then sm 64 (fun e => if adj k e = true ∧ g e = true then T n (k + 1) (rem g k e) else 0) else T n (k + 1) g
theorem T_no {n k : Nat} {g : Nat → Bool} (h : g k = false) : T (n + 1) k g = T n (k + 1) g := by
  show (if g k = true then _ else _) = _
  rw [if_neg (by rw [h]; simp)]
theorem T_yes {n k : Nat} {g : Nat → Bool} (h : g k = true) : T (n + 1) k g = sm 64 (fun e => if adj k e = true ∧ g e = true then T n (k + 1) (rem g k e) else 0) := by
  show (if g k = true then _ else _) = _
  rw [if_pos h]
/-- by one of its cells: each one is covered once. -/
theorem T_any : ∀ (n k : Nat) (g : Nat → Bool) (c : Nat), k + n = 64 → (∀ i, i < k → g i = false) → c < 64 → g c = true → T n k g = sm 64 (fun b => if adj c b = true ∧ g b = true then T n k (rem g c b) else 0)
  | 0, k, g, c, hk, h0, hc, hg => by
    rw [h0 c (by omega)] at hg; cases hg
  | n + 1, k, g, c, hk, h0, hc, hg => by
    by_cases hgk : g k = true
    · rw [T_yes hgk]
      by_cases hck : c = k
      · subst hck
        refine sm_congr (fun e he => ?_)
        by_cases q : adj c e = true ∧ g e = true
        · rw [if_pos q, if_pos q, T_no (by rw [Bool.eq_false_iff, Ne, rem_iff]; rintro ⟨_, h, _⟩; exact h rfl)]
        · rw [if_neg q, if_neg q]
      · have hkc : k < c := by
          by_cases h : c < k
          · rw [h0 c h] at hg; cases hg
          · omega
        have h64 : k < 64 := by omega
        have ih : ∀ e, adj k e = true → g e = true → e ≠ c → T n (k + 1) (rem g k e) = sm 64 (fun b => if adj c b = true ∧ rem g k e b = true then T n (k + 1) (rem (rem g k e) c b) else 0) := by
          intro e ha hge hec
          refine T_any n (k + 1) (rem g k e) c (by omega) ?_ hc ?_
          · intro i hi
            rw [Bool.eq_false_iff, Ne, rem_iff]
            rintro ⟨h1, h2, h3⟩
            rw [h0 i (by omega)] at h1; cases h1
          · rw [rem_iff]; exact ⟨hg, hck, fun h => hec h.symm⟩
        rw [sm_out hc, sm_out (c := k) h64 (fun b => if adj c b = true ∧ g b = true then T (n + 1) k (rem g c b) else 0)]
        have e1 : (if adj k c = true ∧ g c = true then T n (k + 1) (rem g k c) else 0) = (if adj c k = true ∧ g k = true then T (n + 1) k (rem g c k) else 0) := by
          rw [adj_comm c k, T_no (k := k) (g := rem g c k) (by rw [Bool.eq_false_iff, Ne, rem_iff]; rintro ⟨_, _, h⟩; exact h rfl), rem_comm g c k]
          simp [hg, hgk]
        rw [e1]
        congr 1
        have e2 : sm 64 (fun e => if e = c then 0 else if adj k e = true ∧ g e = true then T n (k + 1) (rem g k e) else 0)
            = sm 64 (fun e => sm 64 (fun b => if e ≠ c ∧ b ≠ k ∧ e ≠ b ∧ adj k e = true ∧ g e = true ∧ adj c b = true ∧ g b = true then T n (k + 1) (rem (rem g k e) c b) else 0)) := by
          refine sm_congr (fun e he => ?_)
          by_cases q1 : e = c
          · rw [if_pos q1, sm_zero]; intro b hb; rw [if_neg]; rintro ⟨h, _⟩; exact h q1
          · rw [if_neg q1]
            by_cases q2 : adj k e = true ∧ g e = true
            · rw [if_pos q2, ih e q2.1 q2.2 q1]
              refine sm_congr (fun b hb => ?_)
              by_cases q3 : adj c b = true ∧ rem g k e b = true
              · rw [if_pos q3, if_pos]
                have := rem_iff.1 q3.2
                exact ⟨q1, this.2.1, fun h => this.2.2 h.symm, q2.1, q2.2, q3.1, this.1⟩
              · rw [if_neg q3, if_neg]
                rintro ⟨_, p2, p3, _, _, p6, p7⟩
                exact q3 ⟨p6, rem_iff.2 ⟨p7, p2, fun h => p3 h.symm⟩⟩
            · rw [if_neg q2, sm_zero]; intro b hb; rw [if_neg]; rintro ⟨_, _, _, p4, p5, _⟩; exact q2 ⟨p4, p5⟩
        have e3 : sm 64 (fun b => if b = k then 0 else if adj c b = true ∧ g b = true then T (n + 1) k (rem g c b) else 0)
            = sm 64 (fun b => sm 64 (fun e => if e ≠ c ∧ b ≠ k ∧ e ≠ b ∧ adj k e = true ∧ g e = true ∧ adj c b = true ∧ g b = true then T n (k + 1) (rem (rem g k e) c b) else 0)) := by
          refine sm_congr (fun b hb => ?_)
          by_cases q1 : b = k
          · rw [if_pos q1, sm_zero]; intro e he; rw [if_neg]; rintro ⟨_, h, _⟩; exact h q1
          · rw [if_neg q1]
            by_cases q2 : adj c b = true ∧ g b = true
            · rw [if_pos q2, T_yes (rem_iff.2 ⟨hgk, fun h => hck h.symm, fun h => q1 h.symm⟩)]
              refine sm_congr (fun e he => ?_)
              by_cases q3 : adj k e = true ∧ rem g c b e = true
              · rw [if_pos q3, if_pos, rem_rem]
                have := rem_iff.1 q3.2
                exact ⟨this.2.1, q1, this.2.2, q3.1, this.1, q2.1, q2.2⟩
              · rw [if_neg q3, if_neg]
                rintro ⟨p1, _, p3, p4, p5, _, _⟩
                exact q3 ⟨p4, rem_iff.2 ⟨p5, p1, p3⟩⟩
            · rw [if_neg q2, sm_zero]; intro e he; rw [if_neg]; rintro ⟨_, _, _, _, _, p6, p7⟩; exact q2 ⟨p6, p7⟩
        rw [e2, e3]
        exact sm_comm
    · have hgk : g k = false := by simpa using hgk
      have hck : c ≠ k := fun h => by rw [h, hgk] at hg; cases hg
      rw [T_no hgk, T_any n (k + 1) g c (by omega) (fun i hi => (Nat.lt_or_ge i k).elim (fun h => h0 i h) (fun h => by rw [show i = k by omega]; exact hgk)) hc hg]
      refine sm_congr (fun b hb => ?_)
      rw [T_no (g := rem g c b) (by rw [Bool.eq_false_iff, Ne, rem_iff, hgk]; rintro ⟨h, _⟩; cases h)]
/-- the coverings of a set. -/
def tiles (g : Nat → Bool) : Nat := T 64 0 g
/-- the four dominoes over a cell. -/
theorem sm_four {c : Nat} (hc : c < 64) (f : Nat → Nat) : sm 64 (fun b => if adj c b = true then f b else 0)
    = (if c % 8 ≠ 7 then f (c + 1) else 0) + (if c + 8 < 64 then f (c + 8) else 0) + (if c % 8 ≠ 0 then f (c - 1) else 0) + (if 8 ≤ c then f (c - 8) else 0) := by
  have e : ∀ b, b < 64 → (if adj c b = true then f b else 0) = ((if b = c + 1 ∧ c % 8 ≠ 7 then f b else 0) + (if b = c + 8 then f b else 0)) + ((if c = b + 1 ∧ b % 8 ≠ 7 then f b else 0) + (if c = b + 8 then f b else 0)) := by
    intro b hb
    by_cases h1 : b = c + 1 ∧ c % 8 ≠ 7
    · rw [if_pos h1, if_pos (adj_iff.2 (Or.inl h1)), if_neg (by omega), if_neg (by omega), if_neg (by omega)]; omega
    · by_cases h2 : b = c + 8
      · rw [if_neg h1, if_pos h2, if_pos (adj_iff.2 (Or.inr (Or.inl h2))), if_neg (by omega), if_neg (by omega)]; omega
      · by_cases h3 : c = b + 1 ∧ b % 8 ≠ 7
        · rw [if_neg h1, if_neg h2, if_pos h3, if_pos (adj_iff.2 (Or.inr (Or.inr (Or.inl h3)))), if_neg (by omega)]; omega
        · by_cases h4 : c = b + 8
          · rw [if_neg h1, if_neg h2, if_neg h3, if_pos h4, if_pos (adj_iff.2 (Or.inr (Or.inr (Or.inr h4))))]; omega
          · rw [if_neg h1, if_neg h2, if_neg h3, if_neg h4, if_neg (by rw [adj_iff]; rintro (h | h | h | h) <;> contradiction)]
  rw [sm_congr e, sm_add, sm_add, sm_add]
  have a1 : sm 64 (fun b => if b = c + 1 ∧ c % 8 ≠ 7 then f b else 0) = if c % 8 ≠ 7 then f (c + 1) else 0 := by
    by_cases h : c % 8 ≠ 7
    · rw [sm_one (c := c + 1) (by omega) (fun i _ hi => by rw [if_neg]; rintro ⟨h, _⟩; exact hi h), if_pos ⟨rfl, h⟩, if_pos h]
    · rw [sm_zero (fun i _ => by rw [if_neg]; rintro ⟨_, q⟩; exact h q), if_neg h]
  have a2 : sm 64 (fun b => if b = c + 8 then f b else 0) = if c + 8 < 64 then f (c + 8) else 0 := by
    by_cases h : c + 8 < 64
    · rw [sm_one (c := c + 8) h (fun i _ hi => by rw [if_neg]; exact hi), if_pos rfl, if_pos h]
    · rw [sm_zero (fun i _ => by rw [if_neg]; omega), if_neg h]
  have a3 : sm 64 (fun b => if c = b + 1 ∧ b % 8 ≠ 7 then f b else 0) = if c % 8 ≠ 0 then f (c - 1) else 0 := by
    by_cases h : c % 8 ≠ 0
    · rw [sm_one (c := c - 1) (by omega) (fun i _ hi => by rw [if_neg]; omega), if_pos (by omega), if_pos h]
    · rw [sm_zero (fun i _ => by rw [if_neg]; omega), if_neg h]
  have a4 : sm 64 (fun b => if c = b + 8 then f b else 0) = if 8 ≤ c then f (c - 8) else 0 := by
    by_cases h : 8 ≤ c
    · rw [sm_one (c := c - 8) (by omega) (fun i _ hi => by rw [if_neg]; omega), if_pos (by omega), if_pos h]
    · rw [sm_zero (fun i _ => by rw [if_neg]; omega), if_neg h]
  rw [a1, a2, a3, a4]; omega

/-- how many cells a set has among k to k + n - 1. -/
def cnt : Nat → Nat → (Nat → Bool) → Nat
  | 0, _, _ => 0
  | n + 1, k, g => (if g k = true then 1 else 0) + cnt n (k + 1) g
theorem cnt_congr : ∀ {n k : Nat} {g h : Nat → Bool}, (∀ i, k ≤ i → i < k + n → g i = h i) → cnt n k g = cnt n k h
  | 0, _, _, _, _ => rfl
  | n + 1, k, g, h, e => by
    show (if g k = true then 1 else 0) + cnt n (k + 1) g = (if h k = true then 1 else 0) + cnt n (k + 1) h
    rw [e k (by omega) (by omega), cnt_congr (n := n) (k := k + 1) (fun i h1 h2 => e i (by omega) (by omega))]
theorem cnt_rem : ∀ {n k a b : Nat} {g : Nat → Bool}, a < k → k ≤ b → b < k + n → g b = true → cnt n k (rem g a b) + 1 = cnt n k g
  | 0, k, a, b, g, _, h1, h2, _ => by omega
  | n + 1, k, a, b, g, ha, h1, h2, hb => by
    show (if rem g a b k = true then 1 else 0) + cnt n (k + 1) (rem g a b) + 1 = (if g k = true then 1 else 0) + cnt n (k + 1) g
    by_cases e : b = k
    · subst e
      rw [if_neg (by rw [rem_iff]; rintro ⟨_, _, h⟩; exact h rfl), if_pos hb, cnt_congr (n := n) (k := b + 1) (g := rem g a b) (h := g) (fun i q _ => by
        rw [Bool.eq_iff_iff, rem_iff]; exact ⟨fun h => h.1, fun h => ⟨h, by omega, by omega⟩⟩)]
      omega
    · have ih := cnt_rem (n := n) (k := k + 1) (a := a) (b := b) (g := g) (by omega) (by omega) (by omega) hb
      have : (rem g a b k = true) ↔ (g k = true) := by rw [rem_iff]; exact ⟨fun h => h.1, fun h => ⟨h, by omega, fun q => e q.symm⟩⟩
      by_cases q : g k = true
      · rw [if_pos (this.2 q), if_pos q]; omega
      · rw [if_neg (fun h => q (this.1 h)), if_neg q]; omega
/-- the lists of m dominoes on the cells from k on. -/
def P : Nat → Nat → Nat → (Nat → Bool) → Nat
  | _, _, 0, _ => 1
  | 0, _, _ + 1, _ => 0
  | n + 1, k, m + 1, g => P n (k + 1) (m + 1) g + if g k = true then sm 64 (fun e => if adj k e = true ∧ g e = true ∧ k < e then P n (k + 1) m (rem g k e) else 0) else 0
theorem P_zero (n k : Nat) (g : Nat → Bool) : P n k 0 g = 1 := by cases n <;> rfl
theorem P_few : ∀ {n k m : Nat} {g : Nat → Bool}, k + n = 64 → cnt n k g < 2 * m → P n k m g = 0
  | _, _, 0, _, _, h => by omega
  | 0, _, _ + 1, _, _, _ => rfl
  | n + 1, k, m + 1, g, hk, h => by
    have hc : cnt (n + 1) k g = (if g k = true then 1 else 0) + cnt n (k + 1) g := rfl
    show P n (k + 1) (m + 1) g + _ = 0
    rw [P_few (n := n) (k := k + 1) (m := m + 1) (by omega) (by omega)]
    by_cases q : g k = true
    · rw [if_pos q, sm_zero]
      intro e he
      by_cases p : adj k e = true ∧ g e = true ∧ k < e
      · rw [if_pos p]
        have := cnt_rem (n := n) (k := k + 1) (a := k) (b := e) (g := g) (by omega) (by omega) (by omega) p.2.1
        rw [if_pos q] at hc
        exact P_few (by omega) (by omega)
      · rw [if_neg p]
    · rw [if_neg q]
theorem T_none : ∀ {n k : Nat} {g : Nat → Bool}, cnt n k g = 0 → T n k g = 1
  | 0, _, _, _ => rfl
  | n + 1, k, g, h => by
    have hc : cnt (n + 1) k g = (if g k = true then 1 else 0) + cnt n (k + 1) g := rfl
    by_cases q : g k = true
    · rw [if_pos q] at hc; omega
    · rw [if_neg q] at hc
      rw [T_no (by simpa using q)]
      exact T_none (by omega)
/-- the lists that leave no cell free. -/
theorem P_all : ∀ {n k m : Nat} {g : Nat → Bool}, k + n = 64 → (∀ i, i < k → g i = false) → cnt n k g = 2 * m → P n k m g = T n k g
  | n, k, 0, g, _, _, h => by rw [P_zero, T_none (by omega)]
  | 0, k, m + 1, g, hk, h0, h => by
    have : cnt 0 k g = 0 := rfl
    omega
  | n + 1, k, m + 1, g, hk, h0, h => by
    have hc : cnt (n + 1) k g = (if g k = true then 1 else 0) + cnt n (k + 1) g := rfl
    show P n (k + 1) (m + 1) g + _ = _
    by_cases q : g k = true
    · rw [if_pos q] at hc
      rw [if_pos q, T_yes q, P_few (n := n) (k := k + 1) (m := m + 1) (by omega) (by omega), Nat.zero_add]
      refine sm_congr (fun e he => ?_)
      by_cases p : adj k e = true ∧ g e = true
      · have hke : k < e := by
          by_cases r : e < k
          · rw [h0 e r] at p; cases p.2
          · have := adj_ne p.1; omega
        rw [if_pos ⟨p.1, p.2, hke⟩, if_pos p]
        have := cnt_rem (n := n) (k := k + 1) (a := k) (b := e) (g := g) (by omega) (by omega) (by omega) p.2
        refine P_all (by omega) (fun i hi => ?_) (by omega)
        rw [Bool.eq_false_iff, Ne, rem_iff]
        rintro ⟨h1, h2, h3⟩
        rw [h0 i (by omega)] at h1; cases h1
      · rw [if_neg p, if_neg (fun r => p ⟨r.1, r.2.1⟩)]
    · rw [if_neg q] at hc
      rw [if_neg q, T_no (by simpa using q), Nat.add_zero]
      refine P_all (by omega) (fun i hi => ?_) (by omega)
      by_cases r : i = k
      · rw [r]; simpa using q
      · exact h0 i (by omega)
end Go.Proofs.Ytieophdbhnpncaa.Cnt
