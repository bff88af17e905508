/- HgtF in one text. -/
import Derived.Test.YtieophdbhnpncaaMp12

/- Flips by heights, pure: how far two coverings are apart; a flip changes it by one, and where they differ one of the first one's flips brings it nearer: no program here. -/
namespace Go.Proofs.Ytieophdbhnpncaa.Hgt
set_option linter.unusedVariables false
set_option linter.unusedSimpArgs false

/-- a flip at the corner a + 1, b + 1. -/
def flX (X : Cx) (a b : Nat) (v : Bool) : Cx := fun i j => if (i = a ∨ i = a + 1) ∧ j = b + 1 then v else X i j
def flY (Y : Cx) (a b : Nat) (v : Bool) : Cx := fun i j => if i = a + 1 ∧ (j = b ∨ j = b + 1) then v else Y i j
/-- a number a corner is told by its steps along the first row and down. -/
theorem pot_uniq {H V E : Fm} (h0 : E 0 0 = 0) (hH : ∀ i, i < 10 → E (i + 1) 0 = E i 0 + H i 0) (hV : ∀ i j, i ≤ 10 → j < 10 → E i (j + 1) = E i j + V i j) : ∀ i j, i ≤ 10 → j ≤ 10 → E i j = pot H V i j := by
  have row : ∀ i, i ≤ 10 → E i 0 = pot H V i 0 := by
    intro i
    induction i with
    | zero => intro _; exact h0
    | succ i ih =>
      intro hi
      rw [hH i (by omega), ih (by omega)]
      unfold pot
      show sumTo (fun a => H a 0) i + 0 + H i 0 = sumTo (fun a => H a 0) i + H i 0 + 0
      omega
  intro i j hi
  induction j with
  | zero => intro _; exact row i hi
  | succ j ih =>
    intro hj
    rw [hV i j hi (by omega), ih (by omega), pot_V]
section
variable {G : Nat → Nat → Bool} {X Y X' Y' : Cx}
/-- a pair that crosses the way down, or the way across: the other sides are free. -/
theorem pair_Y (h : Tl G X Y) {a b : Nat} (h1 : Y (a + 1) b = true) (h2 : Y (a + 1) (b + 1) = true) : X a (b + 1) = false ∧ X (a + 1) (b + 1) = false := by
  obtain ⟨g1, g2⟩ := h.rt a b h1
  have o1 := h.one a b g1
  have o2 := h.one (a + 1) b g2
  rw [h1] at o1 o2
  have e : bi true = 1 := rfl
  have z1 := bi_or (X a b)
  have z2 := bi_or (X a (b + 1))
  have z3 := bi_or (Y a b)
  have z4 := bi_or (X (a + 1) b)
  have z5 := bi_or (X (a + 1) (b + 1))
  have z6 := bi_or (Y (a + 1 + 1) b)
  exact ⟨bi_0.1 (by omega), bi_0.1 (by omega)⟩
theorem pair_X (h : Tl G X Y) {a b : Nat} (h1 : X a (b + 1) = true) (h2 : X (a + 1) (b + 1) = true) : Y (a + 1) b = false ∧ Y (a + 1) (b + 1) = false := by
  obtain ⟨g1, g2⟩ := h.dn a b h1
  have o1 := h.one a b g1
  have o2 := h.one a (b + 1) g2
  rw [h1] at o1 o2
  have e : bi true = 1 := rfl
  have z1 := bi_or (X a b)
  have z2 := bi_or (Y (a + 1) b)
  have z3 := bi_or (Y a b)
  have z4 := bi_or (Y (a + 1) (b + 1))
  have z5 := bi_or (X a (b + 1 + 1))
  have z6 := bi_or (Y a (b + 1))
  exact ⟨bi_0.1 (by omega), bi_0.1 (by omega)⟩
/-- one number changed. -/
def setE (E : Fm) (a b : Nat) (c : Int) : Fm := fun i j => if i = a ∧ j = b then E i j + c else E i j
theorem setE_ne {E : Fm} {a b i j : Nat} {c : Int} (h : ¬ (i = a ∧ j = b)) : setE E a b c i j = E i j := if_neg h
theorem setE_at (E : Fm) (a b : Nat) (c : Int) : setE E a b c a b = E a b + c := if_pos ⟨rfl, rfl⟩
/-- a flip changes the difference at its corner. -/
theorem flip_dif (p q : Bool) (hpq : q = !p) {a b : Nat} (hu : Y (a + 1) b = p) (hd : Y (a + 1) (b + 1) = p) (ha : a ≤ 8) (hb : b ≤ 8) (i j : Nat) (hi : i ≤ 10) (hj : j ≤ 10) (hrow : ∀ i, i < 10 → dif X Y X' Y' (i + 1) 0 = dif X Y X' Y' i 0 + eH X X' i 0) :
    dif (flX X a b p) (flY Y a b q) X' Y' i j = setE (dif X Y X' Y') (a + 1) (b + 1) (sg (a + 1) (b + 1) * (bi q - bi p)) i j := by
  refine (pot_uniq (H := eH (flX X a b p) X') (V := eV (flY Y a b q) Y') ?_ (fun i hi => ?_) (fun i j hi hj => ?_) i j hi hj).symm
  · rw [setE_ne (by omega)]; rfl
  · rw [setE_ne (by omega), setE_ne (by omega), hrow i hi]
    congr 1
    unfold eH flX
    rw [if_neg (by omega)]
  · have hv := dif_V X Y X' Y' i j
    by_cases e1 : i = a + 1 ∧ j + 1 = b + 1
    · obtain ⟨rfl, e2⟩ := e1
      have e2 : j = b := by omega
      subst e2
      rw [setE_at, setE_ne (by omega), hv, hu]
      unfold eV flY
      rw [if_pos ⟨rfl, .inl rfl⟩, sg_d]
      rcases sg_one (a + 1) j with e | e <;> rw [e] <;> omega
    · rw [setE_ne e1]
      by_cases e2 : i = a + 1 ∧ j = b + 1
      · obtain ⟨rfl, rfl⟩ := e2
        rw [setE_at, hv, hd]
        unfold eV flY
        rw [if_pos ⟨rfl, .inr rfl⟩]
        rcases sg_one (a + 1) (b + 1) with e | e <;> rw [e] <;> omega
      · rw [setE_ne e2, hv]
        congr 1
        unfold eV flY
        rw [if_neg (by omega)]
/-- how far two coverings are apart. -/
def far (E : Fm) : Nat := ((List.range 121).map fun k => (E (k % 11) (k / 11)).natAbs).sum
theorem sum_one : ∀ (l : List Nat) (f g : Nat → Nat) (a : Nat), l.Nodup → a ∈ l → (∀ k ∈ l, k ≠ a → f k = g k) → (l.map f).sum + g a = (l.map g).sum + f a
  | [], f, g, a, _, h, _ => by cases h
  | x :: r, f, g, a, hn, h, he => by
    obtain ⟨h1, h2⟩ := List.nodup_cons.1 hn
    rw [List.map_cons, List.map_cons, List.sum_cons, List.sum_cons]
    rcases List.mem_cons.1 h with e | e
    · subst e
      have : r.map f = r.map g := List.map_congr_left (fun k hk => he k (List.mem_cons_of_mem _ hk) (fun q => h1 (q ▸ hk)))
      rw [this]; omega
    · have ih := sum_one r f g a h2 e (fun k hk => he k (List.mem_cons_of_mem _ hk))
      have hx := he x List.mem_cons_self (fun q => h1 (q ▸ e))
      omega
theorem far_set {E E' : Fm} {a b : Nat} (ha : a ≤ 10) (hb : b ≤ 10) (h : ∀ i j, i ≤ 10 → j ≤ 10 → (i, j) ≠ (a, b) → E' i j = E i j) : far E' + (E a b).natAbs = far E + (E' a b).natAbs := by
  have hk : ∀ k, (fun k => (E (k % 11) (k / 11)).natAbs) k = (E (k % 11) (k / 11)).natAbs := fun _ => rfl
  have e := sum_one (List.range 121) (fun k => (E' (k % 11) (k / 11)).natAbs) (fun k => (E (k % 11) (k / 11)).natAbs) (11 * b + a) List.nodup_range (List.mem_range.2 (by omega)) (fun k hk hne => by
    have hk := List.mem_range.1 hk
    rw [h (k % 11) (k / 11) (by omega) (by omega) (fun q => hne (by injection q with q1 q2; omega))])
  rw [show (11 * b + a) % 11 = a by omega, show (11 * b + a) / 11 = b by omega] at e
  exact e
theorem far_zero {E : Fm} (h : ∀ i j, i ≤ 10 → j ≤ 10 → E i j = 0) : far E = 0 := by
  unfold far
  have : ((List.range 121).map fun k => (E (k % 11) (k / 11)).natAbs) = (List.range 121).map fun _ => 0 := List.map_congr_left (fun k hk => by
    have hk := List.mem_range.1 hk
    rw [h (k % 11) (k / 11) (by omega) (by omega)]; rfl)
  rw [this]; decide
/-- the greatest of some numbers. -/
theorem greatest {α : Type} (g : α → Int) : ∀ (l : List α), l ≠ [] → ∃ a ∈ l, ∀ b ∈ l, g b ≤ g a
  | [], h => absurd rfl h
  | x :: r, _ => by
    by_cases hr : r = []
    · subst hr
      exact ⟨x, List.mem_cons_self, fun b hb => by rw [List.mem_singleton.1 hb]; exact Int.le_refl _⟩
    · obtain ⟨a, ha, h⟩ := greatest g r hr
      by_cases q : g a ≤ g x
      · exact ⟨x, List.mem_cons_self, fun b hb => by
          rcases List.mem_cons.1 hb with rfl | hb
          · exact Int.le_refl _
          · exact Int.le_trans (h b hb) q⟩
      · exact ⟨a, List.mem_cons_of_mem _ ha, fun b hb => by
          rcases List.mem_cons.1 hb with rfl | hb
          · omega
          · exact h b hb⟩
/-- the corners. -/
def crn : List (Nat × Nat) := (List.range 121).map fun k => (k % 11, k / 11)
theorem mem_crn {i j : Nat} : (i, j) ∈ crn ↔ i ≤ 10 ∧ j ≤ 10 := by
  unfold crn
  rw [List.mem_map]
  constructor
  · rintro ⟨k, hk, e⟩
    have hk := List.mem_range.1 hk
    injection e with e1 e2
    omega
  · rintro ⟨h1, h2⟩
    exact ⟨11 * j + i, List.mem_range.2 (by omega), by rw [show (11 * j + i) % 11 = i by omega, show (11 * j + i) / 11 = j by omega]⟩
/-- the highest of the corners with the greatest difference. -/
theorem peak (E f : Fm) (t : Int) (hex : ∃ i j, i ≤ 10 ∧ j ≤ 10 ∧ 0 < t * E i j) :
    ∃ i j, i ≤ 10 ∧ j ≤ 10 ∧ 0 < t * E i j ∧ ∀ a b, a ≤ 10 → b ≤ 10 → t * E a b ≤ t * E i j ∧ (t * E a b = t * E i j → t * f a b ≤ t * f i j) := by
  obtain ⟨i0, j0, hi0, hj0, h0⟩ := hex
  obtain ⟨⟨i1, j1⟩, h1, h2⟩ := greatest (fun c : Nat × Nat => t * E c.1 c.2) crn (fun q => by have := mem_crn.2 ⟨hi0, hj0⟩; rw [q] at this; cases this)
  have hmx := h2 (i0, j0) (mem_crn.2 ⟨hi0, hj0⟩)
  simp only at hmx h2
  obtain ⟨⟨i, j⟩, h3, h4⟩ := greatest (fun c : Nat × Nat => t * f c.1 c.2) (crn.filter fun c => decide (t * E c.1 c.2 = t * E i1 j1)) (fun q => by
    have : (i1, j1) ∈ crn.filter fun c => decide (t * E c.1 c.2 = t * E i1 j1) := List.mem_filter.2 ⟨h1, by simp⟩
    rw [q] at this; cases this)
  obtain ⟨h5, h6⟩ := List.mem_filter.1 h3
  have h6 := of_decide_eq_true h6
  simp only at h4 h6
  obtain ⟨hi, hj⟩ := mem_crn.1 h5
  refine ⟨i, j, hi, hj, by rw [h6]; omega, fun a b ha hb => ⟨by rw [h6]; exact h2 (a, b) (mem_crn.2 ⟨ha, hb⟩), fun e => ?_⟩⟩
  exact h4 (a, b) (List.mem_filter.2 ⟨mem_crn.2 ⟨ha, hb⟩, by simp only; rw [e, h6]; simp⟩)
/-- 'the rest is one piece', as a set that grows. -/
def One (G : Nat → Nat → Bool) : Prop := ∀ Z : Nat × Nat → Prop, Z (0, 0) → (∀ c d, Z c → (decide (d.1 < 10) && decide (d.2 < 10) && !G d.1 d.2) = true → nb d c → Z d) → ∀ d : Nat × Nat, (decide (d.1 < 10) && decide (d.2 < 10) && !G d.1 d.2) = true → Z d
theorem Tl.heights (h : Tl G X Y) (hone : One G) : ∃ f, Hts G X Y f := by
  have h00 : G 0 0 = false := by
    cases q : G 0 0 with
    | false => rfl
    | true => have := h.out 0 0 q; omega
  obtain ⟨L, hL, hall⟩ := chain_all (R := fun i j => decide (i < 10) && decide (j < 10) && !G i j) (fun i j hr => by
    simp only [Bool.and_eq_true, decide_eq_true_eq] at hr
    exact hr.1) (by simp [h00]) hone
  exact Hgt.heights h hL hall
/-- a corner with a difference lies between four cells that are covered. -/
theorem inner (h : Tl G X Y) (h' : Tl G X' Y') (hone : One G) {i j : Nat} (hi : i ≤ 10) (hj : j ≤ 10) (hne : dif X Y X' Y' i j ≠ 0) :
    ∃ a b, i = a + 1 ∧ j = b + 1 ∧ a ≤ 8 ∧ b ≤ 8 ∧ G a b = true ∧ G (a + 1) b = true ∧ G a (b + 1) = true ∧ G (a + 1) (b + 1) = true := by
  have hr := fun a b (ha : a < 10) (hb : b < 10) (hg : G a b = false) => dif_rest h h' hone ha hb hg
  have ho := h.out
  have no : ∀ a b, (a = 0 ∨ a = 9 ∨ b = 0 ∨ b = 9) → G a b = false := fun a b q => by
    cases g : G a b with
    | false => rfl
    | true => have := ho a b g; omega
  have i1 : i ≠ 0 := fun e => by
    subst e
    by_cases q : j < 10
    · exact hne (hr 0 j (by omega) q (no _ _ (.inl rfl))).1
    · have : j = 9 + 1 := by omega
      subst this
      exact hne (hr 0 9 (by omega) (by omega) (no _ _ (.inl rfl))).2.2.1
  have i2 : i ≠ 10 := fun e => by
    subst e
    by_cases q : j < 10
    · exact hne (hr 9 j (by omega) q (no _ _ (.inr (.inl rfl)))).2.1
    · have : j = 9 + 1 := by omega
      subst this
      exact hne (hr 9 9 (by omega) (by omega) (no _ _ (.inr (.inl rfl)))).2.2.2
  have j1 : j ≠ 0 := fun e => by
    subst e
    exact hne (hr i 0 (by omega) (by omega) (no _ _ (.inr (.inr (.inl rfl))))).1
  have j2 : j ≠ 10 := fun e => by
    subst e
    exact hne (hr i 9 (by omega) (by omega) (no _ _ (.inr (.inr (.inr rfl))))).2.2.1
  obtain ⟨a, rfl⟩ : ∃ a, i = a + 1 := ⟨i - 1, by omega⟩
  obtain ⟨b, rfl⟩ : ∃ b, j = b + 1 := ⟨j - 1, by omega⟩
  have yes : ∀ c d, c < 10 → d < 10 → (c = a ∨ c = a + 1) → (d = b ∨ d = b + 1) → G c d = true := fun c d hc hd e1 e2 => by
    cases g : G c d with
    | true => rfl
    | false =>
      obtain ⟨p, q, r, s⟩ := hr c d hc hd g
      rcases e1 with rfl | rfl <;> rcases e2 with rfl | rfl
      · exact absurd s hne
      · exact absurd q hne
      · exact absurd r hne
      · exact absurd p hne
  exact ⟨a, b, rfl, rfl, by omega, by omega, yes a b (by omega) (by omega) (.inl rfl) (.inl rfl), yes _ _ (by omega) (by omega) (.inr rfl) (.inl rfl), yes _ _ (by omega) (by omega) (.inl rfl) (.inr rfl), yes _ _ (by omega) (by omega) (.inr rfl) (.inr rfl)⟩
/-! Four neighbors of a peak. -/
theorem up1 {t s e e1 f f1 z z' : Int} (hs : s = 1 ∨ s = -1) (ht : t = s) (h1 : e = e1 + - -s * (z - z')) (h2 : f = f1 + -s * (1 - 4 * z)) (hz : z = 0 ∨ z = 1) (hz' : z' = 0 ∨ z' = 1) (p1 : t * e1 ≤ t * e) (p2 : t * e1 = t * e → t * f1 ≤ t * f) : z = 1 := by
  subst ht
  rcases hs with rfl | rfl <;> omega
theorem dn1 {t s e e1 f f1 z z' : Int} (hs : s = 1 ∨ s = -1) (ht : t = s) (h1 : e1 = e + -s * (z - z')) (h2 : f1 = f + s * (1 - 4 * z)) (hz : z = 0 ∨ z = 1) (hz' : z' = 0 ∨ z' = 1) (p1 : t * e1 ≤ t * e) (p2 : t * e1 = t * e → t * f1 ≤ t * f) : z = 1 := by
  subst ht
  rcases hs with rfl | rfl <;> omega
theorem lf1 {t s e e1 f f1 z z' : Int} (hs : s = 1 ∨ s = -1) (ht : t = - s) (h1 : e = e1 + -s * (z - z')) (h2 : f = f1 + - -s * (1 - 4 * z)) (hz : z = 0 ∨ z = 1) (hz' : z' = 0 ∨ z' = 1) (p1 : t * e1 ≤ t * e) (p2 : t * e1 = t * e → t * f1 ≤ t * f) : z = 1 := by
  subst ht
  rcases hs with rfl | rfl <;> omega
theorem rg1 {t s e e1 f f1 z z' : Int} (hs : s = 1 ∨ s = -1) (ht : t = - s) (h1 : e1 = e + s * (z - z')) (h2 : f1 = f + -s * (1 - 4 * z)) (hz : z = 0 ∨ z = 1) (hz' : z' = 0 ∨ z' = 1) (p1 : t * e1 ≤ t * e) (p2 : t * e1 = t * e → t * f1 ≤ t * f) : z = 1 := by
  subst ht
  rcases hs with rfl | rfl <;> omega
theorem less1 {t e : Int} {n m : Nat} (ht : t = 1 ∨ t = -1) (h0 : 0 < t * e) (h : n + e.natAbs = m + (e + -t).natAbs) : n + 1 = m := by
  rcases ht with rfl | rfl <;> omega
/-- a flip brings the one nearer to the other. -/
theorem nearer (h : Tl G X Y) (h' : Tl G X' Y') (hone : One G) (hne : ∃ i j, i ≤ 10 ∧ j ≤ 10 ∧ dif X Y X' Y' i j ≠ 0) :
    ∃ a b, a ≤ 8 ∧ b ≤ 8 ∧ ((Y (a + 1) b = true ∧ Y (a + 1) (b + 1) = true ∧ far (dif (flX X a b true) (flY Y a b false) X' Y') + 1 = far (dif X Y X' Y')) ∨
      (X a (b + 1) = true ∧ X (a + 1) (b + 1) = true ∧ far (dif (flX X a b false) (flY Y a b true) X' Y') + 1 = far (dif X Y X' Y'))) := by
  obtain ⟨f, hf⟩ := h.heights hone
  obtain ⟨t, ht, hex⟩ : ∃ t : Int, (t = 1 ∨ t = -1) ∧ ∃ i j, i ≤ 10 ∧ j ≤ 10 ∧ 0 < t * dif X Y X' Y' i j := by
    obtain ⟨i, j, hi, hj, hn⟩ := hne
    by_cases q : 0 < dif X Y X' Y' i j
    · exact ⟨1, .inl rfl, i, j, hi, hj, by omega⟩
    · exact ⟨-1, .inr rfl, i, j, hi, hj, by omega⟩
  obtain ⟨i, j, hi, hj, h0, hpk⟩ := peak (dif X Y X' Y') f t hex
  obtain ⟨a, b, rfl, rfl, ha, hb, g1, g2, g3, g4⟩ := inner h h' hone hi hj (fun q => by rw [q, Int.mul_zero] at h0; omega)
  refine ⟨a, b, ha, hb, ?_⟩
  have dH := fun i j (hi : i < 10) (hj : j ≤ 10) => dif_H h h' (i := i) (j := j) hi hj
  have hrow : ∀ i, i < 10 → dif X Y X' Y' (i + 1) 0 = dif X Y X' Y' i 0 + eH X X' i 0 := fun i hi => dH i 0 hi (by omega)
  have l1 := dH a (b + 1) (by omega) (by omega)
  have r1 := dH (a + 1) (b + 1) (by omega) (by omega)
  have u1 := dif_V X Y X' Y' (a + 1) b
  have d1 := dif_V X Y X' Y' (a + 1) (b + 1)
  have l2 := hf.hor a b (by omega) (by omega) (.inl g1)
  have r2 := hf.hor (a + 1) b (by omega) (by omega) (.inl g2)
  have u2 := hf.ver a b (by omega) (by omega) (.inl g1)
  have d2 := hf.ver a (b + 1) (by omega) (by omega) (.inl g3)
  obtain ⟨pl1, pl2⟩ := hpk a (b + 1) (by omega) (by omega)
  obtain ⟨pr1, pr2⟩ := hpk (a + 1 + 1) (b + 1) (by omega) (by omega)
  obtain ⟨pu1, pu2⟩ := hpk (a + 1) b (by omega) (by omega)
  obtain ⟨pd1, pd2⟩ := hpk (a + 1) (b + 1 + 1) (by omega) (by omega)
  unfold wH at l2 r2
  unfold wV at u2 d2
  have sl : sg a (b + 1) = - sg (a + 1) (b + 1) := by have := sg_r a (b + 1); omega
  have su : sg (a + 1) b = - sg (a + 1) (b + 1) := by have := sg_d (a + 1) b; omega
  rw [sl] at l1 l2
  rw [su] at u1 u2
  have hs := sg_one (a + 1) (b + 1)
  have fin : ∀ (p q : Bool), q = !p → Y (a + 1) b = p → Y (a + 1) (b + 1) = p → sg (a + 1) (b + 1) * (bi q - bi p) = - t → far (dif (flX X a b p) (flY Y a b q) X' Y') + 1 = far (dif X Y X' Y') := fun p q hpq e1 e2 e3 => by
    have e := fun i j hi hj => flip_dif (X' := X') (Y' := Y') p q hpq e1 e2 ha hb i j hi hj hrow
    have hst := far_set (E := dif X Y X' Y') (E' := dif (flX X a b p) (flY Y a b q) X' Y') (a := a + 1) (b := b + 1) (by omega) (by omega) (fun i j hi hj hne => by
      rw [e i j hi hj, setE_ne (fun k => hne (by rw [k.1, k.2]))])
    rw [e (a + 1) (b + 1) (by omega) (by omega), setE_at, e3] at hst
    exact less1 ht h0 hst
  by_cases hu : t = sg (a + 1) (b + 1)
  · left
    have k1 : bi (Y (a + 1) b) = 1 := up1 hs hu u1 u2 (bi_or _) (bi_or _) pu1 pu2
    have k2 : bi (Y (a + 1) (b + 1)) = 1 := dn1 hs hu d1 d2 (bi_or _) (bi_or _) pd1 pd2
    have m1 := bi_1.1 k1
    have m2 := bi_1.1 k2
    refine ⟨m1, m2, fin true false rfl m1 m2 ?_⟩
    show sg (a + 1) (b + 1) * (0 - 1) = - t
    rw [hu]; exact Int.mul_neg_one _
  · right
    have hu : t = - sg (a + 1) (b + 1) := by
      clear l1 r1 u1 d1 l2 r2 u2 d2 pl1 pl2 pr1 pr2 pu1 pu2 pd1 pd2 hpk h0 fin
      omega
    have k1 : bi (X a (b + 1)) = 1 := lf1 hs hu l1 l2 (bi_or _) (bi_or _) pl1 pl2
    have k2 : bi (X (a + 1) (b + 1)) = 1 := rg1 hs hu r1 r2 (bi_or _) (bi_or _) pr1 pr2
    have m1 := bi_1.1 k1
    have m2 := bi_1.1 k2
    obtain ⟨n1, n2⟩ := pair_X h m1 m2
    refine ⟨m1, m2, fin false true rfl n1 n2 ?_⟩
    show sg (a + 1) (b + 1) * (1 - 0) = - t
    rw [hu, Int.neg_neg]; exact Int.mul_one _
end
end Go.Proofs.Ytieophdbhnpncaa.Hgt
