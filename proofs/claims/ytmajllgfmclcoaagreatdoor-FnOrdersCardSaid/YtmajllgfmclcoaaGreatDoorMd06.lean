/- HgtF, HgtL, Euler, EulerG in one text. -/
import Derived.Test.YtmajllgfmclcoaaGreatDoorMd05
set_option linter.unusedVariables false
set_option linter.unusedSimpArgs false
namespace Go.Proofs.YtmajllgfmclcoaaGreatDoor.Hgt
def flX (X : Cx) (a b : Nat) (v : Bool) : Cx := fun i j => if (i = a ∨ i = a + 1) ∧ j = b + 1 then v else X i j
def flY (Y : Cx) (a b : Nat) (v : Bool) : Cx := fun i j => if i = a + 1 ∧ (j = b ∨ j = b + 1) then v else Y i j
theorem pot_uniq {H V E : Fm} (h0 : E 0 0 = 0) (hH : ∀ i, i < 10 → E (i + 1) 0 = E i 0 + H i 0) (hV : ∀ i j, i ≤ 10 → j < 10 → E i (j + 1) = E i j + V i j) : ∀ i j, i ≤ 10 → j ≤ 10 → E i j = pot H V i j := by
 have row : ∀ i, i ≤ 10 → E i 0 = pot H V i 0 := by
  intro i
  induction i with
  | zero => intro _; exact h0
  | succ i ih =>
   intro hi
   rw [hH i (by omega), ih (by omega)]
   unfold pot
   show sumTo (fun a => H a 0) i + 0 + H i 0 = sumTo (fun a => H a 0) i + H i 0 + 0
   omega
 intro i j hi
 induction j with
 | zero => intro _; exact row i hi
 | succ j ih =>
  intro hj
  rw [hV i j hi (by omega), ih (by omega), pot_V]
section
variable {G : Nat → Nat → Bool} {X Y X' Y' : Cx}
theorem pair_X (h : Tl G X Y) {a b : Nat} (h1 : X a (b + 1) = true) (h2 : X (a + 1) (b + 1) = true) : Y (a + 1) b = false ∧ Y (a + 1) (b + 1) = false := by
 obtain ⟨g1, g2⟩ := h.dn a b h1
 have o1 := h.one a b g1
 have o2 := h.one a (b + 1) g2
 rw [h1] at o1 o2
 have e : bi true = 1 := rfl
 have z1 := bi_or (X a b)
 have z2 := bi_or (Y (a + 1) b)
 have z3 := bi_or (Y a b)
 have z4 := bi_or (Y (a + 1) (b + 1))
 have z5 := bi_or (X a (b + 1 + 1))
 have z6 := bi_or (Y a (b + 1))
 exact ⟨bi_0.1 (by omega), bi_0.1 (by omega)⟩
def setE (E : Fm) (a b : Nat) (c : Int) : Fm := fun i j => if i = a ∧ j = b then E i j + c else E i j
theorem setE_ne {E : Fm} {a b i j : Nat} {c : Int} (h : ¬ (i = a ∧ j = b)) : setE E a b c i j = E i j := if_neg h
theorem setE_at (E : Fm) (a b : Nat) (c : Int) : setE E a b c a b = E a b + c := if_pos ⟨rfl, rfl⟩
theorem flip_dif (p q : Bool) (hpq : q = !p) {a b : Nat} (hu : Y (a + 1) b = p) (hd : Y (a + 1) (b + 1) = p) (ha : a ≤ 8) (hb : b ≤ 8) (i j : Nat) (hi : i ≤ 10) (hj : j ≤ 10) (hrow : ∀ i, i < 10 → dif X Y X' Y' (i + 1) 0 = dif X Y X' Y' i 0 + eH X X' i 0) :
  dif (flX X a b p) (flY Y a b q) X' Y' i j = setE (dif X Y X' Y') (a + 1) (b + 1) (sg (a + 1) (b + 1) * (bi q - bi p)) i j := by
 refine (pot_uniq (H := eH (flX X a b p) X') (V := eV (flY Y a b q) Y') ?_ (fun i hi => ?_) (fun i j hi hj => ?_) i j hi hj).symm
 ·rw [setE_ne (by omega)]; rfl
 ·rw [setE_ne (by omega), setE_ne (by omega), hrow i hi]
  congr 1
  unfold eH flX
  rw [if_neg (by omega)]
 ·have hv := dif_V X Y X' Y' i j
  by_cases e1 : i = a + 1 ∧ j + 1 = b + 1
  ·obtain ⟨rfl, e2⟩ := e1
   have e2 : j = b := by omega
   subst e2
   rw [setE_at, setE_ne (by omega), hv, hu]
   unfold eV flY
   rw [if_pos ⟨rfl, .inl rfl⟩, sg_d]
   rcases sg_one (a + 1) j with e | e <;> rw [e] <;> omega
  ·rw [setE_ne e1]
   by_cases e2 : i = a + 1 ∧ j = b + 1
   ·obtain ⟨rfl, rfl⟩ := e2
    rw [setE_at, hv, hd]
    unfold eV flY
    rw [if_pos ⟨rfl, .inr rfl⟩]
    rcases sg_one (a + 1) (b + 1) with e | e <;> rw [e] <;> omega
   ·rw [setE_ne e2, hv]
    congr 1
    unfold eV flY
    rw [if_neg (by omega)]
def far (E : Fm) : Nat := ((List.range 121).map fun k => (E (k % 11) (k / 11)).natAbs).sum
theorem sum_one : ∀ (l : List Nat) (f g : Nat → Nat) (a : Nat), l.Nodup → a ∈ l → (∀ k ∈ l, k ≠ a → f k = g k) → (l.map f).sum + g a = (l.map g).sum + f a
 | [], f, g, a, _, h, _ => by cases h
 | x :: r, f, g, a, hn, h, he => by
  obtain ⟨h1, h2⟩ := List.nodup_cons.1 hn
  rw [List.map_cons, List.map_cons, List.sum_cons, List.sum_cons]
  rcases List.mem_cons.1 h with e | e
  ·subst e
   have : r.map f = r.map g := List.map_congr_left (fun k hk => he k (List.mem_cons_of_mem _ hk) (fun q => h1 (q ▸ hk)))
   rw [this]; omega
  ·have ih := sum_one r f g a h2 e (fun k hk => he k (List.mem_cons_of_mem _ hk))
   have hx := he x List.mem_cons_self (fun q => h1 (q ▸ e))
   omega
theorem far_set {E E' : Fm} {a b : Nat} (ha : a ≤ 10) (hb : b ≤ 10) (h : ∀ i j, i ≤ 10 → j ≤ 10 → (i, j) ≠ (a, b) → E' i j = E i j) : far E' + (E a b).natAbs = far E + (E' a b).natAbs := by
 have hk : ∀ k, (fun k => (E (k % 11) (k / 11)).natAbs) k = (E (k % 11) (k / 11)).natAbs := fun _ => rfl
 have e := sum_one (List.range 121) (fun k => (E' (k % 11) (k / 11)).natAbs) (fun k => (E (k % 11) (k / 11)).natAbs) (11 * b + a) List.nodup_range (List.mem_range.2 (by omega)) (fun k hk hne => by
  have hk := List.mem_range.1 hk
  rw [h (k % 11) (k / 11) (by omega) (by omega) (fun q => hne (by injection q with q1 q2; omega))])
 rw [show (11 * b + a) % 11 = a by omega, show (11 * b + a) / 11 = b by omega] at e
 exact e
theorem far_zero {E : Fm} (h : ∀ i j, i ≤ 10 → j ≤ 10 → E i j = 0) : far E = 0 := by
 unfold far
 have : ((List.range 121).map fun k => (E (k % 11) (k / 11)).natAbs) = (List.range 121).map fun _ => 0 := List.map_congr_left (fun k hk => by
  have hk := List.mem_range.1 hk
  rw [h (k % 11) (k / 11) (by omega) (by omega)]; rfl)
 rw [this]; decide
theorem greatest {α : Type} (g : α → Int) : ∀ (l : List α), l ≠ [] → ∃ a ∈ l, ∀ b ∈ l, g b ≤ g a
 | [], h => absurd rfl h
 | x :: r, _ => by
  by_cases hr : r = []
  ·subst hr
   exact ⟨x, List.mem_cons_self, fun b hb => by rw [List.mem_singleton.1 hb]; exact Int.le_refl _⟩
  ·obtain ⟨a, ha, h⟩ := greatest g r hr
   by_cases q : g a ≤ g x
   ·exact ⟨x, List.mem_cons_self, fun b hb => by
     rcases List.mem_cons.1 hb with rfl | hb
     ·exact Int.le_refl _
     ·exact Int.le_trans (h b hb) q⟩
   ·exact ⟨a, List.mem_cons_of_mem _ ha, fun b hb => by
     rcases List.mem_cons.1 hb with rfl | hb
     ·omega
     ·exact h b hb⟩
def crn : List (Nat × Nat) := (List.range 121).map fun k => (k % 11, k / 11)
theorem mem_crn {i j : Nat} : (i, j) ∈ crn ↔ i ≤ 10 ∧ j ≤ 10 := by
 unfold crn
 rw [List.mem_map]
 constructor
 ·rintro ⟨k, hk, e⟩
  have hk := List.mem_range.1 hk
  injection e with e1 e2
  omega
 ·rintro ⟨h1, h2⟩
  exact ⟨11 * j + i, List.mem_range.2 (by omega), by rw [show (11 * j + i) % 11 = i by omega, show (11 * j + i) / 11 = j by omega]⟩
theorem peak (E f : Fm) (t : Int) (hex : ∃ i j, i ≤ 10 ∧ j ≤ 10 ∧ 0 < t * E i j) :
  ∃ i j, i ≤ 10 ∧ j ≤ 10 ∧ 0 < t * E i j ∧ ∀ a b, a ≤ 10 → b ≤ 10 → t * E a b ≤ t * E i j ∧ (t * E a b = t * E i j → t * f a b ≤ t * f i j) := by
 obtain ⟨i0, j0, hi0, hj0, h0⟩ := hex
 obtain ⟨⟨i1, j1⟩, h1, h2⟩ := greatest (fun c : Nat × Nat => t * E c.1 c.2) crn (fun q => by have := mem_crn.2 ⟨hi0, hj0⟩; rw [q] at this; cases this)
 have hmx := h2 (i0, j0) (mem_crn.2 ⟨hi0, hj0⟩)
 simp only at hmx h2
 obtain ⟨⟨i, j⟩, h3, h4⟩ := greatest (fun c : Nat × Nat => t * f c.1 c.2) (crn.filter fun c => decide (t * E c.1 c.2 = t * E i1 j1)) (fun q => by
  have : (i1, j1) ∈ crn.filter fun c => decide (t * E c.1 c.2 = t * E i1 j1) := List.mem_filter.2 ⟨h1, by simp⟩
  rw [q] at this; cases this)
 obtain ⟨h5, h6⟩ := List.mem_filter.1 h3
 have h6 := of_decide_eq_true h6
 simp only at h4 h6
 obtain ⟨hi, hj⟩ := mem_crn.1 h5
 refine ⟨i, j, hi, hj, by rw [h6]; omega, fun a b ha hb => ⟨by rw [h6]; exact h2 (a, b) (mem_crn.2 ⟨ha, hb⟩), fun e => ?_⟩⟩
 exact h4 (a, b) (List.mem_filter.2 ⟨mem_crn.2 ⟨ha, hb⟩, by simp only; rw [e, h6]; simp⟩)
def One (G : Nat → Nat → Bool) : Prop := ∀ Z : Nat × Nat → Prop, Z (0, 0) → (∀ c d, Z c → (decide (d.1 < 10) && decide (d.2 < 10) && !G d.1 d.2) = true → nb d c → Z d) → ∀ d : Nat × Nat, (decide (d.1 < 10) && decide (d.2 < 10) && !G d.1 d.2) = true → Z d
theorem Tl.heights (h : Tl G X Y) (hone : One G) : ∃ f, Hts G X Y f := by
 have h00 : G 0 0 = false := by
  cases q : G 0 0 with
  | false => rfl
  | true => have := h.out 0 0 q; omega
 obtain ⟨L, hL, hall⟩ := chain_all (R := fun i j => decide (i < 10) && decide (j < 10) && !G i j) (fun i j hr => by
  simp only [Bool.and_eq_true, decide_eq_true_eq] at hr
  exact hr.1) (by simp [h00]) hone
 exact Hgt.heights h hL hall
theorem inner (h : Tl G X Y) (h' : Tl G X' Y') (hone : One G) {i j : Nat} (hi : i ≤ 10) (hj : j ≤ 10) (hne : dif X Y X' Y' i j ≠ 0) :
  ∃ a b, i = a + 1 ∧ j = b + 1 ∧ a ≤ 8 ∧ b ≤ 8 ∧ G a b = true ∧ G (a + 1) b = true ∧ G a (b + 1) = true ∧ G (a + 1) (b + 1) = true := by
 have hr := fun a b (ha : a < 10) (hb : b < 10) (hg : G a b = false) => dif_rest h h' hone ha hb hg
 have ho := h.out
 have no : ∀ a b, (a = 0 ∨ a = 9 ∨ b = 0 ∨ b = 9) → G a b = false := fun a b q => by
  cases g : G a b with
  | false => rfl
  | true => have := ho a b g; omega
 have i1 : i ≠ 0 := fun e => by
  subst e
  by_cases q : j < 10
  ·exact hne (hr 0 j (by omega) q (no _ _ (.inl rfl))).1
  ·have : j = 9 + 1 := by omega
   subst this
   exact hne (hr 0 9 (by omega) (by omega) (no _ _ (.inl rfl))).2.2.1
 have i2 : i ≠ 10 := fun e => by
  subst e
  by_cases q : j < 10
  ·exact hne (hr 9 j (by omega) q (no _ _ (.inr (.inl rfl)))).2.1
  ·have : j = 9 + 1 := by omega
   subst this
   exact hne (hr 9 9 (by omega) (by omega) (no _ _ (.inr (.inl rfl)))).2.2.2
 have j1 : j ≠ 0 := fun e => by
  subst e
  exact hne (hr i 0 (by omega) (by omega) (no _ _ (.inr (.inr (.inl rfl))))).1
 have j2 : j ≠ 10 := fun e => by
  subst e
  exact hne (hr i 9 (by omega) (by omega) (no _ _ (.inr (.inr (.inr rfl))))).2.2.1
 obtain ⟨a, rfl⟩ : ∃ a, i = a + 1 := ⟨i - 1, by omega⟩
 obtain ⟨b, rfl⟩ : ∃ b, j = b + 1 := ⟨j - 1, by omega⟩
 have yes : ∀ c d, c < 10 → d < 10 → (c = a ∨ c = a + 1) → (d = b ∨ d = b + 1) → G c d = true := fun c d hc hd e1 e2 => by
  cases g : G c d with
  | true => rfl
  | false =>
   obtain ⟨p, q, r, s⟩ := hr c d hc hd g
   rcases e1 with rfl | rfl <;> rcases e2 with rfl | rfl
   ·exact absurd s hne
   ·exact absurd q hne
   ·exact absurd r hne
   ·exact absurd p hne
 exact ⟨a, b, rfl, rfl, by omega, by omega, yes a b (by omega) (by omega) (.inl rfl) (.inl rfl), yes _ _ (by omega) (by omega) (.inr rfl) (.inl rfl), yes _ _ (by omega) (by omega) (.inl rfl) (.inr rfl), yes _ _ (by omega) (by omega) (.inr rfl) (.inr rfl)⟩
theorem up1 {t s e e1 f f1 z z' : Int} (hs : s = 1 ∨ s = -1) (ht : t = s) (h1 : e = e1 + - -s * (z - z')) (h2 : f = f1 + -s * (1 - 4 * z)) (hz : z = 0 ∨ z = 1) (hz' : z' = 0 ∨ z' = 1) (p1 : t * e1 ≤ t * e) (p2 : t * e1 = t * e → t * f1 ≤ t * f) : z = 1 := by
 subst ht
 rcases hs with rfl | rfl <;> omega
theorem dn1 {t s e e1 f f1 z z' : Int} (hs : s = 1 ∨ s = -1) (ht : t = s) (h1 : e1 = e + -s * (z - z')) (h2 : f1 = f + s * (1 - 4 * z)) (hz : z = 0 ∨ z = 1) (hz' : z' = 0 ∨ z' = 1) (p1 : t * e1 ≤ t * e) (p2 : t * e1 = t * e → t * f1 ≤ t * f) : z = 1 := by
 subst ht
 rcases hs with rfl | rfl <;> omega
theorem lf1 {t s e e1 f f1 z z' : Int} (hs : s = 1 ∨ s = -1) (ht : t = - s) (h1 : e = e1 + -s * (z - z')) (h2 : f = f1 + - -s * (1 - 4 * z)) (hz : z = 0 ∨ z = 1) (hz' : z' = 0 ∨ z' = 1) (p1 : t * e1 ≤ t * e) (p2 : t * e1 = t * e → t * f1 ≤ t * f) : z = 1 := by
 subst ht
 rcases hs with rfl | rfl <;> omega
theorem rg1 {t s e e1 f f1 z z' : Int} (hs : s = 1 ∨ s = -1) (ht : t = - s) (h1 : e1 = e + s * (z - z')) (h2 : f1 = f + -s * (1 - 4 * z)) (hz : z = 0 ∨ z = 1) (hz' : z' = 0 ∨ z' = 1) (p1 : t * e1 ≤ t * e) (p2 : t * e1 = t * e → t * f1 ≤ t * f) : z = 1 := by
 subst ht
 rcases hs with rfl | rfl <;> omega
theorem less1 {t e : Int} {n m : Nat} (ht : t = 1 ∨ t = -1) (h0 : 0 < t * e) (h : n + e.natAbs = m + (e + -t).natAbs) : n + 1 = m := by
 rcases ht with rfl | rfl <;> omega
theorem nearer (h : Tl G X Y) (h' : Tl G X' Y') (hone : One G) (hne : ∃ i j, i ≤ 10 ∧ j ≤ 10 ∧ dif X Y X' Y' i j ≠ 0) :
  ∃ a b, a ≤ 8 ∧ b ≤ 8 ∧ ((Y (a + 1) b = true ∧ Y (a + 1) (b + 1) = true ∧ far (dif (flX X a b true) (flY Y a b false) X' Y') + 1 = far (dif X Y X' Y')) ∨
   (X a (b + 1) = true ∧ X (a + 1) (b + 1) = true ∧ far (dif (flX X a b false) (flY Y a b true) X' Y') + 1 = far (dif X Y X' Y'))) := by
 obtain ⟨f, hf⟩ := h.heights hone
 obtain ⟨t, ht, hex⟩ : ∃ t : Int, (t = 1 ∨ t = -1) ∧ ∃ i j, i ≤ 10 ∧ j ≤ 10 ∧ 0 < t * dif X Y X' Y' i j := by
  obtain ⟨i, j, hi, hj, hn⟩ := hne
  by_cases q : 0 < dif X Y X' Y' i j
  ·exact ⟨1, .inl rfl, i, j, hi, hj, by omega⟩
  ·exact ⟨-1, .inr rfl, i, j, hi, hj, by omega⟩
 obtain ⟨i, j, hi, hj, h0, hpk⟩ := peak (dif X Y X' Y') f t hex
 obtain ⟨a, b, rfl, rfl, ha, hb, g1, g2, g3, g4⟩ := inner h h' hone hi hj (fun q => by rw [q, Int.mul_zero] at h0; omega)
 refine ⟨a, b, ha, hb, ?_⟩
 have dH := fun i j (hi : i < 10) (hj : j ≤ 10) => dif_H h h' (i := i) (j := j) hi hj
 have hrow : ∀ i, i < 10 → dif X Y X' Y' (i + 1) 0 = dif X Y X' Y' i 0 + eH X X' i 0 := fun i hi => dH i 0 hi (by omega)
 have l1 := dH a (b + 1) (by omega) (by omega)
 have r1 := dH (a + 1) (b + 1) (by omega) (by omega)
 have u1 := dif_V X Y X' Y' (a + 1) b
 have d1 := dif_V X Y X' Y' (a + 1) (b + 1)
 have l2 := hf.hor a b (by omega) (by omega) (.inl g1)
 have r2 := hf.hor (a + 1) b (by omega) (by omega) (.inl g2)
 have u2 := hf.ver a b (by omega) (by omega) (.inl g1)
 have d2 := hf.ver a (b + 1) (by omega) (by omega) (.inl g3)
 obtain ⟨pl1, pl2⟩ := hpk a (b + 1) (by omega) (by omega)
 obtain ⟨pr1, pr2⟩ := hpk (a + 1 + 1) (b + 1) (by omega) (by omega)
 obtain ⟨pu1, pu2⟩ := hpk (a + 1) b (by omega) (by omega)
 obtain ⟨pd1, pd2⟩ := hpk (a + 1) (b + 1 + 1) (by omega) (by omega)
 unfold wH at l2 r2
 unfold wV at u2 d2
 have sl : sg a (b + 1) = - sg (a + 1) (b + 1) := by have := sg_r a (b + 1); omega
 have su : sg (a + 1) b = - sg (a + 1) (b + 1) := by have := sg_d (a + 1) b; omega
 rw [sl] at l1 l2
 rw [su] at u1 u2
 have hs := sg_one (a + 1) (b + 1)
 have fin : ∀ (p q : Bool), q = !p → Y (a + 1) b = p → Y (a + 1) (b + 1) = p → sg (a + 1) (b + 1) * (bi q - bi p) = - t → far (dif (flX X a b p) (flY Y a b q) X' Y') + 1 = far (dif X Y X' Y') := fun p q hpq e1 e2 e3 => by
  have e := fun i j hi hj => flip_dif (X' := X') (Y' := Y') p q hpq e1 e2 ha hb i j hi hj hrow
  have hst := far_set (E := dif X Y X' Y') (E' := dif (flX X a b p) (flY Y a b q) X' Y') (a := a + 1) (b := b + 1) (by omega) (by omega) (fun i j hi hj hne => by
   rw [e i j hi hj, setE_ne (fun k => hne (by rw [k.1, k.2]))])
  rw [e (a + 1) (b + 1) (by omega) (by omega), setE_at, e3] at hst
  exact less1 ht h0 hst
 by_cases hu : t = sg (a + 1) (b + 1)
 ·left
  have k1 : bi (Y (a + 1) b) = 1 := up1 hs hu u1 u2 (bi_or _) (bi_or _) pu1 pu2
  have k2 : bi (Y (a + 1) (b + 1)) = 1 := dn1 hs hu d1 d2 (bi_or _) (bi_or _) pd1 pd2
  have m1 := bi_1.1 k1
  have m2 := bi_1.1 k2
  refine ⟨m1, m2, fin true false rfl m1 m2 ?_⟩
  show sg (a + 1) (b + 1) * (0 - 1) = - t
  rw [hu]; exact Int.mul_neg_one _
 ·right
  have hu : t = - sg (a + 1) (b + 1) := by
   clear l1 r1 u1 d1 l2 r2 u2 d2 pl1 pl2 pr1 pr2 pu1 pu2 pd1 pd2 hpk h0 fin
   omega
  have k1 : bi (X a (b + 1)) = 1 := lf1 hs hu l1 l2 (bi_or _) (bi_or _) pl1 pl2
  have k2 : bi (X (a + 1) (b + 1)) = 1 := rg1 hs hu r1 r2 (bi_or _) (bi_or _) pr1 pr2
  have m1 := bi_1.1 k1
  have m2 := bi_1.1 k2
  obtain ⟨n1, n2⟩ := pair_X h m1 m2
  refine ⟨m1, m2, fin false true rfl n1 n2 ?_⟩
  show sg (a + 1) (b + 1) * (1 - 0) = - t
  rw [hu, Int.neg_neg]; exact Int.mul_one _
end
end Go.Proofs.YtmajllgfmclcoaaGreatDoor.Hgt
namespace Go.Proofs.YtmajllgfmclcoaaGreatDoor.Hgt
open Go.RowKit Go.Proofs.YtmajllgfmclcoaaGreatDoor.Pure Go.Proofs.YtmajllgfmclcoaaGreatDoor.Cell Dom Dms Til Grd Flp Go.Joins
def xL (L : List Dm) : Cx := fun i j => decide ((((i : Int) - 1, (j : Int) - 2, true) : Dm) ∈ L)
def yL (L : List Dm) : Cx := fun i j => decide ((((i : Int) - 2, (j : Int) - 1, false) : Dm) ∈ L)
def gX (xs : List Int) (i j : Nat) : Bool := hasB xs ((i : Int) - 1) ((j : Int) - 1)
theorem xL_iff {L : List Dm} {i j : Nat} : xL L i j = true ↔ (((i : Int) - 1, (j : Int) - 2, true) : Dm) ∈ L := by unfold xL; rw [decide_eq_true_eq]
theorem yL_iff {L : List Dm} {i j : Nat} : yL L i j = true ↔ (((i : Int) - 2, (j : Int) - 1, false) : Dm) ∈ L := by unfold yL; rw [decide_eq_true_eq]
theorem ok_dn {x y : Int} (h : okM (x, y, true) = true) : 0 ≤ x ∧ x ≤ 7 ∧ 0 ≤ y ∧ y ≤ 6 := by
 unfold okM domB at h
 rw [Bool.and_eq_true, okB_iff, okB_iff] at h
 obtain ⟨h1, h2⟩ := h
 unfold Ok at h1 h2
 simp only at h1 h2
 unfold sx sy at h2
 rw [if_pos rfl, if_pos rfl, wrap_in (by omega) (by omega)] at h2
 omega
theorem ok_rt {x y : Int} (h : okM (x, y, false) = true) : 0 ≤ x ∧ x ≤ 6 ∧ 0 ≤ y ∧ y ≤ 7 := by
 unfold okM domB at h
 rw [Bool.and_eq_true, okB_iff, okB_iff] at h
 obtain ⟨h1, h2⟩ := h
 unfold Ok at h1 h2
 simp only at h1 h2
 unfold sx sy at h2
 rw [if_neg (by simp), if_neg (by simp), wrap_in (by omega) (by omega)] at h2
 omega
theorem cov_dn {x y : Int} (h : okM (x, y, true) = true) : covM (x, y, true) x y = true ∧ covM (x, y, true) x (y + 1) = true := by
 have := ok_dn h
 refine ⟨cov_of h (.inl ⟨rfl, rfl⟩), cov_of h (.inr ⟨?_, ?_⟩)⟩
 ·unfold sx; rw [if_pos rfl]
 ·unfold sy; rw [if_pos rfl]; exact (wrap_in (by omega) (by omega)).symm
theorem cov_rt {x y : Int} (h : okM (x, y, false) = true) : covM (x, y, false) x y = true ∧ covM (x, y, false) (x + 1) y = true := by
 have := ok_rt h
 refine ⟨cov_of h (.inl ⟨rfl, rfl⟩), cov_of h (.inr ⟨?_, ?_⟩)⟩
 ·unfold sx; rw [if_neg (by simp)]; exact (wrap_in (by omega) (by omega)).symm
 ·unfold sy; rw [if_neg (by simp)]
theorem cov_who {d : Dm} {x y : Int} (h : covM d x y = true) : d = (x, y, true) ∨ d = (x, y, false) ∨ d = (x, y - 1, true) ∨ d = (x - 1, y, false) := by
 obtain ⟨ho, h⟩ := cov_two h
 obtain ⟨a, b, c⟩ := d
 simp only at h
 cases c with
 | true =>
  have := ok_dn ho
  unfold sx sy at h
  rw [if_pos rfl, if_pos rfl, wrap_in (by omega) (by omega)] at h
  rcases h with ⟨rfl, rfl⟩ | ⟨rfl, rfl⟩
  ·exact .inl rfl
  ·right; right; left
   rw [show b + 1 - 1 = b by omega]
 | false =>
  have := ok_rt ho
  unfold sx sy at h
  rw [if_neg (by simp), if_neg (by simp), wrap_in (by omega) (by omega)] at h
  rcases h with ⟨rfl, rfl⟩ | ⟨rfl, rfl⟩
  ·exact .inr (.inl rfl)
  ·right; right; right
   rw [show a + 1 - 1 = a by omega]
theorem one_of {p q r s : Bool} (h : p = true ∨ q = true ∨ r = true ∨ s = true) (h1 : p = true → q = true → False) (h2 : p = true → r = true → False) (h3 : p = true → s = true → False) (h4 : q = true → r = true → False) (h5 : q = true → s = true → False) (h6 : r = true → s = true → False) : bi p + bi q + bi r + bi s = 1 := by
 cases p <;> cases q <;> cases r <;> cases s <;> simp_all [bi]
theorem tl_of {xs : List Int} {L : List Dm} (ht : tilB xs L = true) : Tl (gX xs) (xL L) (yL L) := by
 have hp : partB xs L = true := by unfold tilB at ht; rw [Bool.and_eq_true] at ht; exact ht.1
 have hv := part_valid hp
 have hdj := part_dj hp
 have hall : ∀ x y, hasB xs x y = true → anyM L x y = true := fun x y hxy => by
  rw [tilB_part hp, decide_eq_true_eq] at ht
  have hn : unc L (cellsR xs) = [] := List.eq_nil_of_length_eq_zero ht
  cases q : anyM L x y with
  | true => rfl
  | false =>
   have : (x, y) ∈ unc L (cellsR xs) := by
    unfold unc
    exact List.mem_filter.2 ⟨mem_cells.2 hxy, by simp [q]⟩
   rw [hn] at this; cases this
 refine ⟨fun i => ?_, fun j => ?_, fun i j h => ?_, fun i j h => ?_, fun i j h => ?_, fun i j h => ?_⟩
 ·cases q : xL L i 0 with
  | false => rfl
  | true => have := ok_dn (hv _ (xL_iff.1 q)); omega
 ·cases q : yL L 0 j with
  | false => rfl
  | true => have := ok_rt (hv _ (yL_iff.1 q)); omega
 ·have hm := xL_iff.1 h
  obtain ⟨c1, c2⟩ := cov_dn (hv _ hm)
  have k1 := part_in hp hm c1
  have k2 := part_in hp hm c2
  refine ⟨?_, ?_⟩
  ·show hasB xs ((i : Int) - 1) ((j : Int) - 1) = true
   rw [← k1]; congr 1; omega
  ·show hasB xs ((i : Int) - 1) (((j + 1 : Nat) : Int) - 1) = true
   rw [← k2]; congr 1; omega
 ·have hm := yL_iff.1 h
  obtain ⟨c1, c2⟩ := cov_rt (hv _ hm)
  have k1 := part_in hp hm c1
  have k2 := part_in hp hm c2
  refine ⟨?_, ?_⟩
  ·show hasB xs ((i : Int) - 1) ((j : Int) - 1) = true
   rw [← k1]; congr 1; omega
  ·show hasB xs (((i + 1 : Nat) : Int) - 1) ((j : Int) - 1) = true
   rw [← k2]; congr 1; omega
 ·-- each cell once
  have hc := hall _ _ h
  unfold anyM at hc
  rw [List.any_eq_true] at hc
  obtain ⟨d, hd, hc⟩ := hc
  obtain ⟨x, hx⟩ : ∃ x : Int, x = (i : Int) - 1 := ⟨_, rfl⟩
  obtain ⟨y, hy⟩ : ∃ y : Int, y = (j : Int) - 1 := ⟨_, rfl⟩
  rw [← hx, ← hy] at hc
  have e1 : xL L i j = decide (((x, y - 1, true) : Dm) ∈ L) := by unfold xL; rw [hx, hy, show (j : Int) - 1 - 1 = (j : Int) - 2 by omega]
  have e2 : yL L (i + 1) j = decide (((x, y, false) : Dm) ∈ L) := by unfold yL; rw [hx, hy, show ((i + 1 : Nat) : Int) - 2 = (i : Int) - 1 by omega]
  have e3 : xL L i (j + 1) = decide (((x, y, true) : Dm) ∈ L) := by unfold xL; rw [hx, hy, show ((j + 1 : Nat) : Int) - 2 = (j : Int) - 1 by omega]
  have e4 : yL L i j = decide (((x - 1, y, false) : Dm) ∈ L) := by unfold yL; rw [hx, hy, show (i : Int) - 1 - 1 = (i : Int) - 2 by omega]
  rw [e1, e2, e3, e4]
  have k1 : ((x, y - 1, true) : Dm) ∈ L → covM (x, y - 1, true) x y = true := fun m => by have := (cov_dn (hv _ m)).2; rwa [show y - 1 + 1 = y by omega] at this
  have k2 : ((x, y, false) : Dm) ∈ L → covM (x, y, false) x y = true := fun m => (cov_rt (hv _ m)).1
  have k3 : ((x, y, true) : Dm) ∈ L → covM (x, y, true) x y = true := fun m => (cov_dn (hv _ m)).1
  have k4 : ((x - 1, y, false) : Dm) ∈ L → covM (x - 1, y, false) x y = true := fun m => by have := (cov_rt (hv _ m)).2; rwa [show x - 1 + 1 = x by omega] at this
  have two : ∀ {d e : Dm}, d ∈ L → e ∈ L → covM d x y = true → covM e x y = true → d = e := fun h1 h2 h3 h4 => hdj _ h1 _ h2 x y h3 h4
  refine one_of ?_ (fun p q => ?_) (fun p q => ?_) (fun p q => ?_) (fun p q => ?_) (fun p q => ?_) (fun p q => ?_)
  ·rcases cov_who hc with rfl | rfl | rfl | rfl
   ·exact .inr (.inr (.inl (decide_eq_true hd)))
   ·exact .inr (.inl (decide_eq_true hd))
   ·exact .inl (decide_eq_true hd)
   ·exact .inr (.inr (.inr (decide_eq_true hd)))
  all_goals
   have p := of_decide_eq_true p
   have q := of_decide_eq_true q
  ·have := two p q (k1 p) (k2 q); simp at this
  ·have := two p q (k1 p) (k3 q); simp at this; omega
  ·have := two p q (k1 p) (k4 q); simp at this
  ·have := two p q (k2 p) (k3 q); simp at this
  ·have := two p q (k2 p) (k4 q); simp at this; omega
  ·have := two p q (k3 p) (k4 q); simp at this
 ·have := hasB_iff.1 h
  omega
theorem turn_X {xs : List Int} {L : List Dm} {x y : Int} {b : Bool} (hv : ∀ d ∈ L, okM d = true) (h6 : 0 ≤ x ∧ x ≤ 6 ∧ 0 ≤ y ∧ y ≤ 6) {a c : Nat} (ha : (a : Int) = x + 1) (hc : (c : Int) = y + 1) :
  xL (turn L x y b) = flX (xL L) a c (!b) ∧ yL (turn L x y b) = flY (yL L) a c b := by
 have dm : ∀ (p q r s : Int) (b c : Bool), ((p, q, b) : Dm) = (r, s, c) ↔ p = r ∧ q = s ∧ b = c := fun p q r s b c => by rw [Prod.mk.injEq, Prod.mk.injEq]
 constructor
 ·funext i j
  unfold flX
  rw [Bool.eq_iff_iff, xL_iff, mem_turn h6 hv, mem_oth]
  have hC : ((i = a ∨ i = a + 1) ∧ j = c + 1) ↔ (((i : Int) - 1 = x ∧ (j : Int) - 2 = y) ∨ ((i : Int) - 1 = x + 1 ∧ (j : Int) - 2 = y)) := by omega
  unfold pr1 pr2
  cases b with
  | false =>
   simp only [Bool.not_false, if_true, Bool.false_eq_true, Bool.true_eq_false, if_false, dm, ne_eq, and_true, and_false, not_false_eq_true]
   by_cases q : (i = a ∨ i = a + 1) ∧ j = c + 1
   ·rw [if_pos q]
    have q := hC.1 q
    exact ⟨fun _ => rfl, fun _ => q.elim .inl (fun r => .inr (.inl r))⟩
   ·rw [if_neg q, xL_iff]
    have q := fun r => q (hC.2 r)
    exact ⟨fun r => r.elim (fun u => absurd (.inl u) q) (fun r => r.elim (fun u => absurd (.inr u) q) id), fun r => .inr (.inr r)⟩
  | true =>
   simp only [Bool.not_true, if_true, Bool.false_eq_true, if_false, dm, ne_eq, and_true, and_false, not_false_eq_true, Bool.true_eq_false, false_or]
   by_cases q : (i = a ∨ i = a + 1) ∧ j = c + 1
   ·rw [if_pos q]
    have q := hC.1 q
    refine ⟨fun r => ?_, fun r => by cases r⟩
    rcases q with q | q
    ·exact absurd q r.2.1
    ·exact absurd q r.2.2
   ·rw [if_neg q, xL_iff]
    have q := fun r => q (hC.2 r)
    exact ⟨fun r => r.1, fun r => ⟨r, fun u => q (.inl u), fun u => q (.inr u)⟩⟩
 ·funext i j
  unfold flY
  rw [Bool.eq_iff_iff, yL_iff, mem_turn h6 hv, mem_oth]
  have hC : (i = a + 1 ∧ (j = c ∨ j = c + 1)) ↔ (((i : Int) - 2 = x ∧ (j : Int) - 1 = y) ∨ ((i : Int) - 2 = x ∧ (j : Int) - 1 = y + 1)) := by omega
  unfold pr1 pr2
  cases b with
  | true =>
   simp only [Bool.not_true, if_true, Bool.false_eq_true, if_false, dm, ne_eq, and_true, and_false, not_false_eq_true]
   by_cases q : i = a + 1 ∧ (j = c ∨ j = c + 1)
   ·rw [if_pos q]
    have q := hC.1 q
    exact ⟨fun _ => rfl, fun _ => q.elim .inl (fun r => .inr (.inl r))⟩
   ·rw [if_neg q, yL_iff]
    have q := fun r => q (hC.2 r)
    exact ⟨fun r => r.elim (fun u => absurd (.inl u) q) (fun r => r.elim (fun u => absurd (.inr u) q) id), fun r => .inr (.inr r)⟩
  | false =>
   simp only [Bool.not_false, if_true, Bool.false_eq_true, if_false, dm, ne_eq, and_true, and_false, not_false_eq_true, Bool.false_eq_true, false_or]
   by_cases q : i = a + 1 ∧ (j = c ∨ j = c + 1)
   ·rw [if_pos q]
    have q := hC.1 q
    refine ⟨fun r => ?_, fun r => by cases r⟩
    rcases q with q | q
    ·exact absurd q r.2.1
    ·exact absurd q r.2.2
   ·rw [if_neg q, yL_iff]
    have q := fun r => q (hC.2 r)
    exact ⟨fun r => r.1, fun r => ⟨r, fun u => q (.inl u), fun u => q (.inr u)⟩⟩
def farL (L M : List Dm) : Nat := far (dif (xL L) (yL L) (xL M) (yL M))
theorem til_part {xs : List Int} {L : List Dm} (h : tilB xs L = true) : partB xs L = true := by unfold tilB at h; rw [Bool.and_eq_true] at h; exact h.1
theorem far_same {xs : List Int} {L M : List Dm} (hL : tilB xs L = true) (hM : tilB xs M = true) (h : ∀ i j, i ≤ 10 → j ≤ 10 → dif (xL L) (yL L) (xL M) (yL M) i j = 0) : L = M := by
 have tL := tl_of hL
 have tM := tl_of hM
 have vL := part_valid (til_part hL)
 have vM := part_valid (til_part hM)
 have kX : ∀ i j, i < 10 → j ≤ 10 → xL L i j = xL M i j := fun i j hi hj => by
  have e := dif_H tL tM hi hj
  rw [h _ _ (by omega) hj, h _ _ (by omega) hj] at e
  have z1 := bi_or (xL L i j)
  have z2 := bi_or (xL M i j)
  have e2 : bi (xL L i j) = bi (xL M i j) := by rcases sg_one i j with q | q <;> rw [q] at e <;> omega
  cases p : xL L i j <;> cases r : xL M i j <;> rw [p, r] at e2 <;> first | rfl | (simp [bi] at e2)
 have kY : ∀ i j, i ≤ 10 → j < 10 → yL L i j = yL M i j := fun i j hi hj => by
  have e := dif_V (xL L) (yL L) (xL M) (yL M) i j
  rw [h _ _ hi (by omega), h _ _ hi (by omega)] at e
  have z1 := bi_or (yL L i j)
  have z2 := bi_or (yL M i j)
  have e2 : bi (yL L i j) = bi (yL M i j) := by rcases sg_one i j with q | q <;> rw [q] at e <;> omega
  cases p : yL L i j <;> cases r : yL M i j <;> rw [p, r] at e2 <;> first | rfl | (simp [bi] at e2)
 have mem : ∀ d : Dm, okM d = true → (d ∈ L ↔ d ∈ M) := fun d hd => by
  obtain ⟨x, y, b⟩ := d
  cases b with
  | true =>
   have o := ok_dn hd
   obtain ⟨i, hi⟩ : ∃ i : Nat, (i : Int) = x + 1 := ⟨(x + 1).toNat, by omega⟩
   obtain ⟨j, hj⟩ : ∃ j : Nat, (j : Int) = y + 2 := ⟨(y + 2).toNat, by omega⟩
   have e := kX i j (by omega) (by omega)
   unfold xL at e
   rw [show (i : Int) - 1 = x by omega, show (j : Int) - 2 = y by omega] at e
   exact decide_eq_decide.1 e
  | false =>
   have o := ok_rt hd
   obtain ⟨i, hi⟩ : ∃ i : Nat, (i : Int) = x + 2 := ⟨(x + 2).toNat, by omega⟩
   obtain ⟨j, hj⟩ : ∃ j : Nat, (j : Int) = y + 1 := ⟨(y + 1).toNat, by omega⟩
   have e := kY i j (by omega) (by omega)
   unfold yL at e
   rw [show (i : Int) - 2 = x by omega, show (j : Int) - 1 = y by omega] at e
   exact decide_eq_decide.1 e
 exact uniq (part_inc (til_part hL)) (part_inc (til_part hM)) (fun d => ⟨fun q => (mem d (vL d q)).1 q, fun q => (mem d (vM d q)).2 q⟩)
theorem far_self (L : List Dm) : farL L L = 0 := by
 unfold farL
 refine far_zero (fun i j hi hj => ?_)
 have key := pot_uniq (E := fun _ _ => 0) (H := eH (xL L) (xL L)) (V := eV (yL L) (yL L)) rfl (fun i _ => by unfold eH; rw [Int.sub_self, Int.mul_zero]; rfl) (fun i j _ _ => by unfold eV; rw [Int.sub_self, Int.mul_zero]; rfl) i j hi hj
 exact key.symm
theorem kind_of {xs : List Int} {L : List Dm} {x y : Int} {b : Bool} (hp : partB xs L = true) (h6 : 0 ≤ x ∧ x ≤ 6 ∧ 0 ≤ y ∧ y ≤ 6) (hb : has2 L x y b = true) : kindN L x y = if b then 2 else 1 := by
 unfold kindN
 rw [if_pos (in6_iff.2 h6)]
 cases b with
 | false => rw [hb]; rfl
 | true =>
  obtain ⟨n1, n2⟩ := not_other hp h6 hb
  have : has2 L x y false = false := by
   apply Bool.eq_false_iff.2
   intro q
   exact n1 (has2_iff.1 q).1
  rw [this, hb]; rfl
theorem flip_turn {xs : List Int} {L : List Dm} {x y : Int} {b : Bool} (hp : partB xs L = true) (h6 : 0 ≤ x ∧ x ≤ 6 ∧ 0 ≤ y ∧ y ≤ 6) (hb : has2 L x y b = true) : canB L x y = true ∧ flipL L x y = turn L x y b := by
 have hk := kind_of hp h6 hb
 constructor
 ·unfold canB; rw [hk]; cases b <;> rfl
 ·rw [flip_yes (by rw [hk]; cases b <;> simp), hk]
  cases b <;> rfl
theorem turn_of {xs : List Int} {L : List Dm} {x y : Int} (hc : canB L x y = true) : (0 ≤ x ∧ x ≤ 6 ∧ 0 ≤ y ∧ y ≤ 6) ∧ ∃ b, has2 L x y b = true := by
 unfold canB at hc
 have hc := of_decide_eq_true hc
 obtain ⟨h1, h2⟩ := kind_is (L := L) (x := x) (y := y) (by omega)
 exact ⟨in6_iff.1 h1, _, h2⟩
theorem step_near {xs : List Int} {L M : List Dm} (hone : One (gX xs)) (hL : tilB xs L = true) (hM : tilB xs M = true) (hne : L ≠ M) :
  ∃ x y b, (0 ≤ x ∧ x ≤ 6 ∧ 0 ≤ y ∧ y ≤ 6) ∧ has2 L x y b = true ∧ farL (turn L x y b) M + 1 = farL L M := by
 have tL := tl_of hL
 have tM := tl_of hM
 have vL := part_valid (til_part hL)
 obtain ⟨a, c, ha, hc, h⟩ := nearer tL tM hone (Classical.byContradiction fun q => hne (far_same hL hM (fun i j hi hj => Classical.byContradiction fun r => q ⟨i, j, hi, hj, r⟩)))
 rcases h with ⟨h1, h2, h3⟩ | ⟨h1, h2, h3⟩
 ·have m1 := yL_iff.1 h1
  have m2 := yL_iff.1 h2
  have o1 := ok_rt (vL _ m1)
  have o2 := ok_rt (vL _ m2)
  have h6 : 0 ≤ (a : Int) - 1 ∧ (a : Int) - 1 ≤ 6 ∧ 0 ≤ (c : Int) - 1 ∧ (c : Int) - 1 ≤ 6 := by omega
  refine ⟨(a : Int) - 1, (c : Int) - 1, false, h6, has2_iff.2 ⟨?_, ?_⟩, ?_⟩
  ·unfold pr1; rw [show (a : Int) - 1 = ((a + 1 : Nat) : Int) - 2 by omega]; exact m1
  ·unfold pr2
   rw [if_neg (by simp), show (a : Int) - 1 = ((a + 1 : Nat) : Int) - 2 by omega, show (c : Int) - 1 + 1 = ((c + 1 : Nat) : Int) - 1 by omega]; exact m2
  ·obtain ⟨e1, e2⟩ := turn_X (xs := xs) (L := L) (b := false) vL h6 (a := a) (c := c) (by omega) (by omega)
   unfold farL
   rw [e1, e2]; exact h3
 ·have m1 := xL_iff.1 h1
  have m2 := xL_iff.1 h2
  have o1 := ok_dn (vL _ m1)
  have o2 := ok_dn (vL _ m2)
  have h6 : 0 ≤ (a : Int) - 1 ∧ (a : Int) - 1 ≤ 6 ∧ 0 ≤ (c : Int) - 1 ∧ (c : Int) - 1 ≤ 6 := by omega
  refine ⟨(a : Int) - 1, (c : Int) - 1, true, h6, has2_iff.2 ⟨?_, ?_⟩, ?_⟩
  ·unfold pr1; rw [show (c : Int) - 1 = ((c + 1 : Nat) : Int) - 2 by omega]; exact m1
  ·unfold pr2
   rw [if_pos rfl, show (a : Int) - 1 + 1 = ((a + 1 : Nat) : Int) - 1 by omega, show (c : Int) - 1 = ((c + 1 : Nat) : Int) - 2 by omega]; exact m2
  ·obtain ⟨e1, e2⟩ := turn_X (xs := xs) (L := L) (b := true) vL h6 (a := a) (c := c) (by omega) (by omega)
   unfold farL
   rw [e1, e2]; exact h3
theorem way_ex {xs : List Int} (hone : One (gX xs)) {M : List Dm} (hM : tilB xs M = true) (n : Nat) : ∀ L : List Dm, tilB xs L = true → farL L M = n → ∃ w, w.length = n ∧ allF L w = some M := by
 induction n with
 | zero =>
  intro L hL hn
  by_cases e : L = M
  ·subst e; exact ⟨[], rfl, rfl⟩
  ·obtain ⟨x, y, b, _, _, h⟩ := step_near hone hL hM e
   rw [hn] at h
   exact absurd h (Nat.succ_ne_zero _)
 | succ n ih =>
  intro L hL hn
  by_cases e : L = M
  ·subst e
   rw [far_self] at hn
   exact absurd hn.symm (Nat.succ_ne_zero _)
  ·obtain ⟨x, y, b, h6, hb, h⟩ := step_near hone hL hM e
   have hp := til_part hL
   rw [hn] at h
   obtain ⟨w, hw, hf⟩ := ih (turn L x y b) (turn_til hp h6 hb hL) (Nat.succ.inj h)
   obtain ⟨c1, c2⟩ := flip_turn hp h6 hb
   refine ⟨(x, y) :: w, by rw [List.length_cons, hw], ?_⟩
   show (if canB L x y then allF (flipL L x y) w else none) = some M
   rw [if_pos c1, c2]; exact hf
end Go.Proofs.YtmajllgfmclcoaaGreatDoor.Hgt
namespace Go.Proofs.YtmajllgfmclcoaaGreatDoor.Euler
def lab : List (Nat × Nat) → Nat → Nat
 | [], v => v
 | e :: es, v => if lab es v = lab es e.2 then lab es e.1 else lab es v
theorem lab_edge : ∀ (es : List (Nat × Nat)) (e : Nat × Nat), e ∈ es → lab es e.1 = lab es e.2
 | d :: es, e, h => by
  simp only [lab]
  rcases List.mem_cons.1 h with rfl | h
  ·simp
  ·rw [lab_edge es e h]
theorem lab_keeps {α : Type} (f : Nat → α) : ∀ (es : List (Nat × Nat)), (∀ e, e ∈ es → f e.1 = f e.2) → ∀ v, f (lab es v) = f v
 | [], _, _ => rfl
 | d :: es, h, v => by
  have ih := lab_keeps f es (fun e he => h e (List.mem_cons_of_mem _ he))
  simp only [lab]
  split
  ·rename_i e
   rw [ih, h d (by simp), ← ih d.2, ← e, ih]
  ·exact ih v
def inc (e : Nat × Nat) (v : Nat) : Bool := (v == e.1) ^^ (v == e.2)
end Go.Proofs.YtmajllgfmclcoaaGreatDoor.Euler
namespace Go.Proofs.YtmajllgfmclcoaaGreatDoor.Euler
def gE (k : Nat) : Nat × Nat := if k < 90 then (10 * (k / 9) + k % 9, 10 * (k / 9) + k % 9 + 1) else (10 * ((k - 90) / 10) + (k - 90) % 10, 10 * ((k - 90) / 10) + (k - 90) % 10 + 10)
def gD (k : Nat) : Nat × Nat :=
 if k < 90 then (if k / 9 = 0 then 81 else 9 * (k / 9 - 1) + k % 9, if k / 9 = 9 then 81 else 9 * (k / 9) + k % 9)
 else (if (k - 90) % 10 = 0 then 81 else 9 * ((k - 90) / 10) + (k - 90) % 10 - 1, if (k - 90) % 10 = 9 then 81 else 9 * ((k - 90) / 10) + (k - 90) % 10)
theorem gE_lt : ∀ k, k < 180 → (gE k).1 < 100 ∧ (gE k).2 < 100 := by decide +kernel
def inR (c : Nat → Bool) (k : Nat) : Bool := c (gE k).1 && c (gE k).2
def eR (c : Nat → Bool) : List Nat := (List.range 180).filter (inR c)
def eO (c : Nat → Bool) : List Nat := (List.range 180).filter (fun k => !inR c k)
end Go.Proofs.YtmajllgfmclcoaaGreatDoor.Euler
