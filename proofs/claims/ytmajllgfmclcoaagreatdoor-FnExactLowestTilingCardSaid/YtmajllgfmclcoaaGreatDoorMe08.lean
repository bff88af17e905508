/- HgtO, HgrP, HgrS in one text. -/
import Derived.Test.YtmajllgfmclcoaaGreatDoorMe07

namespace Go.Proofs.YtmajllgfmclcoaaGreatDoor.Hgt
set_option linter.unusedVariables false
set_option linter.unusedSimpArgs false
open Go.RowKit Go.Proofs.YtmajllgfmclcoaaGreatDoor.Pure Go.Joins
open Go.Proofs.YtmajllgfmclcoaaGreatDoor.Bal (cR bitI hasB_at hasB_out flood100 adj8 outsN cR_ring touchAt)
open Go.Proofs.YtmajllgfmclcoaaGreatDoor.Euler (lab h8 ring oi least least_ex least_iff cnt cnt_less lab_keeps h8_ends)

theorem gX_cR {xs : List Int} (ho : okR xs) {i j : Nat} (hi : i < 10) (hj : j < 10) : gX xs i j = cR xs (10 * j + i) := by
 unfold gX cR
 by_cases q : 1 ≤ i ∧ i ≤ 8 ∧ 1 ≤ j ∧ j ≤ 8
 ·have e := hasB_at ho (u := i - 1) (v := j - 1) (by omega) (by omega)
  rw [show ((i - 1 : Nat) : Int) = (i : Int) - 1 by omega, show ((j - 1 : Nat) : Int) = (j : Int) - 1 by omega] at e
  rw [e]
  have h1 : ring (10 * j + i) = false := by
   unfold ring
   rw [show (10 * j + i) % 10 = i by omega, show (10 * j + i) / 10 = j by omega]
   have a : (i == 0) = false := by simp; omega
   have b : (i == 9) = false := by simp; omega
   have c : (j == 0) = false := by simp; omega
   have d : (j == 9) = false := by simp; omega
   rw [a, b, c, d]; rfl
  rw [h1]
  unfold oi
  rw [show (10 * j + i) % 10 = i by omega, show (10 * j + i) / 10 = j by omega]
  rfl
 ·rw [hasB_out (by omega)]
  have h1 : ring (10 * j + i) = true := by
   unfold ring
   rw [show (10 * j + i) % 10 = i by omega, show (10 * j + i) / 10 = j by omega]
   simp
   omega
  rw [h1]; rfl
theorem cnt_uniq {n : Nat} {p : Nat → Bool} (h : cnt n p = 1) {a b : Nat} (ha : a < n) (hb : b < n) (pa : p a = true) (pb : p b = true) : a = b := by
 refine Classical.byContradiction fun hne => ?_
 have h1 := cnt_less p a pa n ha
 have h2 := cnt_less (fun w => p w && !(w == a)) b (by simp only [pb, Bool.true_and]; simp; exact fun e => hne e.symm) n hb
 omega
theorem no_touch {xs : List Int} (ho : okR xs) (ht : ¬ Bal.Touch xs) (a b : Nat) :
  ¬ (gX xs a b = false ∧ gX xs (a + 1) (b + 1) = false ∧ gX xs (a + 1) b = true ∧ gX xs a (b + 1) = true) ∧ ¬ (gX xs a b = true ∧ gX xs (a + 1) (b + 1) = true ∧ gX xs (a + 1) b = false ∧ gX xs a (b + 1) = false) := by
 have rg : ∀ i j, gX xs i j = true → 1 ≤ i ∧ i ≤ 8 ∧ 1 ≤ j ∧ j ≤ 8 := fun i j h => by have := hasB_iff.1 h; omega
 have bt : ∀ i j, 1 ≤ i → i ≤ 8 → 1 ≤ j → j ≤ 8 → gX xs i j = bitI xs (8 * (j - 1) + (i - 1)) := fun i j h1 h2 h3 h4 => by
  have e := hasB_at ho (u := i - 1) (v := j - 1) (by omega) (by omega)
  rw [show ((i - 1 : Nat) : Int) = (i : Int) - 1 by omega, show ((j - 1 : Nat) : Int) = (j : Int) - 1 by omega] at e
  exact e
 have fin : 1 ≤ a → a ≤ 7 → 1 ≤ b → b ≤ 7 → (gX xs a b = gX xs (a + 1) (b + 1) ∧ gX xs (a + 1) b = gX xs a (b + 1) ∧ gX xs a b ≠ gX xs (a + 1) b) → False := fun h1 h2 h3 h4 ⟨q1, q2, q3⟩ => by
  refine ht ⟨8 * (b - 1) + (a - 1), by omega, by omega, by omega, ?_⟩
  rw [bt a b (by omega) (by omega) (by omega) (by omega), bt (a + 1) (b + 1) (by omega) (by omega) (by omega) (by omega)] at q1
  rw [bt (a + 1) b (by omega) (by omega) (by omega) (by omega), bt a (b + 1) (by omega) (by omega) (by omega) (by omega)] at q2
  rw [bt a b (by omega) (by omega) (by omega) (by omega), bt (a + 1) b (by omega) (by omega) (by omega) (by omega)] at q3
  rw [show 8 * (b + 1 - 1) + (a + 1 - 1) = 8 * (b - 1) + (a - 1) + 9 by omega] at q1
  rw [show 8 * (b - 1) + (a + 1 - 1) = 8 * (b - 1) + (a - 1) + 1 by omega, show 8 * (b + 1 - 1) + (a - 1) = 8 * (b - 1) + (a - 1) + 8 by omega] at q2
  rw [show 8 * (b - 1) + (a + 1 - 1) = 8 * (b - 1) + (a - 1) + 1 by omega] at q3
  unfold touchAt
  rw [q1, q2, beq_self_eq_true, beq_self_eq_true, Bool.true_and, Bool.true_and, ← q1, ← q2]
  simpa using q3
 constructor
 ·rintro ⟨h1, h2, h3, h4⟩
  have r1 := rg _ _ h3
  have r2 := rg _ _ h4
  exact fin (by omega) (by omega) (by omega) (by omega) ⟨h1.trans h2.symm, h3.trans h4.symm, by rw [h1, h3]; simp⟩
 ·rintro ⟨h1, h2, h3, h4⟩
  have r1 := rg _ _ h1
  have r2 := rg _ _ h2
  exact fin (by omega) (by omega) (by omega) (by omega) ⟨h1.trans h2.symm, h3.trans h4.symm, by rw [h1, h3]; simp⟩
theorem one_simple {xs : List Int} (ho : okR xs) (h1 : outsN xs = 1) (ht : ¬ Bal.Touch xs) : One (gX xs) := by
 intro Z h0 hcl d hd
 have hR : ∀ i j, i < 10 → j < 10 → gX xs i j = false → (decide (i < 10) && decide (j < 10) && !gX xs i j) = true := fun i j hi hj hg => by simp [hi, hj, hg]
 have step : ∀ i j i' j', i' < 10 → j' < 10 → gX xs i' j' = false → Z (i, j) → nb (i', j') (i, j) → Z (i', j') := fun i j i' j' hi hj hg hz hn => hcl (i, j) (i', j') hz (hR i' j' hi hj hg) hn
 have hnt := no_touch ho ht
 -- all labels are the ring's
 have hlab : ∀ v, v < 100 → cR xs v = false → lab (h8 (cR xs)) v = lab (h8 (cR xs)) 0 := fun v hv hc => by
  obtain ⟨u, hu, e, hl⟩ := least_ex (h8 (cR xs)) v
  have hkeep := lab_keeps (cR xs) (h8 (cR xs)) (fun e he => by
   obtain ⟨_, _, _, _, c1, c2⟩ := h8_ends he
   rw [c1, c2])
  have hcu : cR xs u = false := by rw [← hkeep u, e, hkeep v, hc]
  have hl0 : least (h8 (cR xs)) 0 = true := least_iff.2 (fun u hu => by omega)
  have e0 := cnt_uniq (p := fun v => !cR xs v && least (h8 (cR xs)) v) h1 (a := u) (b := 0) (by omega) (by omega) (by simp only [hcu, hl]; rfl) (by simp only [cR_ring xs 0 (by omega) rfl, hl0]; rfl)
  rw [← e, e0]
 obtain ⟨seen, hseen⟩ : ∃ seen : Nat → Bool, ∀ v, seen v = true ↔ v < 100 ∧ cR xs v = false ∧ Z (v % 10, v / 10) :=
  ⟨fun v => @decide (v < 100 ∧ cR xs v = false ∧ Z (v % 10, v / 10)) (Classical.propDecidable _), fun v => by simp⟩
 have key := flood100 (c := cR xs) (seen := seen) (a := 0) ((hseen 0).2 ⟨by omega, cR_ring xs 0 (by omega) rfl, h0⟩) (fun v hv => by
  obtain ⟨a, b, _⟩ := (hseen v).1 hv
  exact hlab v a b) (fun u v hu hv hs ha cu cv => by
  obtain ⟨_, _, hz⟩ := (hseen u).1 hs
  refine (hseen v).2 ⟨hv, cv, ?_⟩
  have gu : gX xs (u % 10) (u / 10) = false := by rw [gX_cR ho (by omega) (by omega), show 10 * (u / 10) + u % 10 = u by omega]; exact cu
  have gv : gX xs (v % 10) (v / 10) = false := by rw [gX_cR ho (by omega) (by omega), show 10 * (v / 10) + v % 10 = v by omega]; exact cv
  unfold adj8 at ha
  simp only [Bool.and_eq_true, decide_eq_true_eq] at ha
  have bi1 : u % 10 < 10 ∧ u / 10 < 10 ∧ v % 10 < 10 ∧ v / 10 < 10 := by omega
  generalize u % 10 = i at *
  generalize u / 10 = j at *
  generalize v % 10 = i' at *
  generalize v / 10 = j' at *
  obtain ⟨⟨⟨a1, a2⟩, a3⟩, a4⟩ := ha
  obtain ⟨b1, b2, b3, b4⟩ := bi1
  by_cases ei : i = i'
  ·subst ei
   by_cases ej : j = j'
   ·subst ej; exact hz
   ·exact step i j i j' b3 b4 gv hz (.inr ⟨rfl, by simp only; omega⟩)
  ·by_cases ej : j = j'
   ·subst ej
    exact step i j i' j b3 b4 gv hz (.inl ⟨rfl, by simp only; omega⟩)
   ·-- two cells that touch in a corner: one of the others is of the rest
    by_cases g1 : gX xs i' j = false
    ·have z1 := step i j i' j b3 b2 g1 hz (.inl ⟨rfl, by simp only; omega⟩)
     exact step i' j i' j' b3 b4 gv z1 (.inr ⟨rfl, by simp only; omega⟩)
    ·have g1 : gX xs i' j = true := by cases q : gX xs i' j <;> simp_all
     by_cases g2 : gX xs i j' = false
     ·have z1 := step i j i j' b1 b4 g2 hz (.inr ⟨rfl, by simp only; omega⟩)
      exact step i j' i' j' b3 b4 gv z1 (.inl ⟨rfl, by simp only; omega⟩)
     ·have g2 : gX xs i j' = true := by cases q : gX xs i j' <;> simp_all
      exfalso
      have hi : i' = i + 1 ∨ i = i' + 1 := by omega
      have hj : j' = j + 1 ∨ j = j' + 1 := by omega
      rcases hi with rfl | rfl <;> rcases hj with rfl | rfl
      ·exact (hnt i j).1 ⟨gu, gv, g1, g2⟩
      ·exact (hnt i j').2 ⟨g2, g1, gv, gu⟩
      ·exact (hnt i' j).2 ⟨g1, g2, gu, gv⟩
      ·exact (hnt i' j').1 ⟨gv, gu, g2, g1⟩)
 obtain ⟨di, dj⟩ := d
 simp only [Bool.and_eq_true, decide_eq_true_eq, Bool.not_eq_true'] at hd
 obtain ⟨⟨d1, d2⟩, d3⟩ := hd
 have hc : cR xs (10 * dj + di) = false := by rw [← gX_cR ho d1 d2]; exact d3
 have k := key (10 * dj + di)
 rw [hlab _ (by omega) hc, beq_self_eq_true] at k
 have := ((hseen _).1 k).2.2
 rw [show (10 * dj + di) % 10 = di by omega, show (10 * dj + di) / 10 = dj by omega] at this
 exact this
end Go.Proofs.YtmajllgfmclcoaaGreatDoor.Hgt

namespace Go.Proofs.YtmajllgfmclcoaaGreatDoor.Hgt
set_option linter.unusedVariables false
set_option linter.unusedSimpArgs false
open Go.RowKit Go.Proofs.YtmajllgfmclcoaaGreatDoor.Pure Go.Proofs.YtmajllgfmclcoaaGreatDoor.Flp Go.Joins
open Go.Proofs.YtmajllgfmclcoaaGreatDoor.Bal (cR bitI hasB_at hasB_out nbI sameP leastI leastI_iff piecesN flood64 pe)
open Go.Proofs.YtmajllgfmclcoaaGreatDoor.Euler (lab cnt)

theorem same_symm {xs : List Int} {i j : Nat} (h : sameP xs i j = true) : sameP xs j i = true := by
 unfold sameP at h ⊢; rw [beq_iff_eq] at h ⊢; exact h.symm
theorem same_trans {xs : List Int} {i j k : Nat} (h : sameP xs i j = true) (h2 : sameP xs j k = true) : sameP xs i k = true := by
 unfold sameP at h h2 ⊢; rw [beq_iff_eq] at h h2 ⊢; exact h2.trans h
theorem leastI_ex {xs : List Int} (i : Nat) (hi : i < 64) (hb : bitI xs i = true) : ∃ u, u < 64 ∧ bitI xs u = true ∧ sameP xs u i = true ∧ leastI xs u = true := by
 induction i using Nat.strongRecOn with
 | ind i ih =>
  cases q : leastI xs i with
  | true => exact ⟨i, hi, hb, Bal.sameP_refl xs i, q⟩
  | false =>
   have : ¬ ∀ j, j < i → bitI xs j = true → sameP xs i j = false := fun h => by rw [leastI_iff.2 h] at q; cases q
   obtain ⟨j, hj⟩ := Classical.not_forall.1 this
   obtain ⟨h1, hj⟩ := Classical.not_imp.1 hj
   obtain ⟨h2, hj⟩ := Classical.not_imp.1 hj
   have h3 : sameP xs i j = true := by cases r : sameP xs i j <;> simp_all
   obtain ⟨u, u1, u2, u3, u4⟩ := ih j h1 (by omega) h2
   exact ⟨u, u1, u2, same_trans u3 (same_symm h3), u4⟩
def NbZ (x y x' y' : Int) : Prop := (x = x' ∧ (y' = y + 1 ∨ y = y' + 1)) ∨ (y = y' ∧ (x' = x + 1 ∨ x = x' + 1))
theorem one_piece {xs : List Int} (ho : okR xs) (h1 : piecesN xs = 1) (Z : Int → Int → Prop)
  (hcl : ∀ x y x' y', hasB xs x y = true → Z x y → hasB xs x' y' = true → NbZ x y x' y' → Z x' y')
  {x y : Int} (hxy : hasB xs x y = true) (hz : Z x y) : ∀ x' y', hasB xs x' y' = true → Z x' y' := by
 intro x' y' hx'
 obtain ⟨seen, hseen⟩ : ∃ seen : Nat → Bool, ∀ v, seen v = true ↔ v < 64 ∧ bitI xs v = true ∧ Z ((v % 8 : Nat) : Int) ((v / 8 : Nat) : Int) :=
  ⟨fun v => @decide (v < 64 ∧ bitI xs v = true ∧ Z ((v % 8 : Nat) : Int) ((v / 8 : Nat) : Int)) (Classical.propDecidable _), fun v => by simp⟩
 have has : ∀ v, v < 64 → hasB xs ((v % 8 : Nat) : Int) ((v / 8 : Nat) : Int) = bitI xs v := fun v hv => by
  rw [hasB_at ho (by omega) (by omega), show 8 * (v / 8) + v % 8 = v by omega]
 have cell : ∀ a b : Int, hasB xs a b = true → ∃ v : Nat, v < 64 ∧ bitI xs v = true ∧ ((v % 8 : Nat) : Int) = a ∧ ((v / 8 : Nat) : Int) = b := fun a b h => by
  obtain ⟨_, a0, a7, b0, b7, _⟩ := hasB_iff.1 h
  refine ⟨8 * b.toNat + a.toNat, by omega, ?_, by omega, by omega⟩
  rw [← has _ (by omega)]
  rw [show (((8 * b.toNat + a.toNat) % 8 : Nat) : Int) = a by omega, show (((8 * b.toNat + a.toNat) / 8 : Nat) : Int) = b by omega]
  exact h
 obtain ⟨u, u1, u2, u3, u4⟩ := cell x y hxy
 obtain ⟨v, v1, v2, v3, v4⟩ := cell x' y' hx'
 have all : ∀ i j, i < 64 → j < 64 → bitI xs i = true → bitI xs j = true → sameP xs i j = true := fun i j hi hj bi' bj => by
  obtain ⟨a, a1, a2, a3, a4⟩ := leastI_ex i hi bi'
  obtain ⟨b, b1, b2, b3, b4⟩ := leastI_ex j hj bj
  have e := cnt_uniq (p := fun i => bitI xs i && leastI xs i) h1 a1 b1 (by simp only [a2, a4]; rfl) (by simp only [b2, b4]; rfl)
  subst e
  exact same_trans (same_symm a3) b3
 have key := flood64 (xs := xs) (seen := seen) (a := u) u1 ((hseen u).2 ⟨u1, u2, by rw [u3, u4]; exact hz⟩) (fun i hi hs => by
  obtain ⟨_, b, _⟩ := (hseen i).1 hs
  exact ⟨b, all u i u1 hi u2 b⟩) (fun i j hi hj hs hn hb => by
  obtain ⟨_, b, c⟩ := (hseen i).1 hs
  refine (hseen j).2 ⟨hj, hb, hcl _ _ _ _ ((has i hi).trans b) c ((has j hj).trans hb) ?_⟩
  unfold nbI at hn
  unfold NbZ
  omega) v v1
 rw [v2, all u v u1 v1 u2 v2] at key
 have := ((hseen v).1 key).2.2
 rwa [v3, v4] at this
theorem cell_all {G : Nat → Nat → Bool} {X Y : Cx} (h : Tl G X Y) {Z : Nat → Nat → Prop}
  (hH : ∀ i j, (G i j = true ∨ G i (j + 1) = true) → X i (j + 1) = false → (Z i (j + 1) ↔ Z (i + 1) (j + 1)))
  (hV : ∀ i j, (G i j = true ∨ G (i + 1) j = true) → Y (i + 1) j = false → (Z (i + 1) j ↔ Z (i + 1) (j + 1)))
  {a b : Nat} (hg : G a b = true) : (Z a b ↔ Z (a + 1) b) ∧ (Z a b ↔ Z a (b + 1)) ∧ (Z a b ↔ Z (a + 1) (b + 1)) := by
 have ho := h.out a b hg
 obtain ⟨a, rfl⟩ : ∃ c, a = c + 1 := ⟨a - 1, by omega⟩
 obtain ⟨b, rfl⟩ : ∃ c, b = c + 1 := ⟨b - 1, by omega⟩
 have o := h.one _ _ hg
 have t : X (a + 1) (b + 1) = false → (Z (a + 1) (b + 1) ↔ Z (a + 1 + 1) (b + 1)) := hH (a + 1) b (.inr hg)
 have d : X (a + 1) (b + 1 + 1) = false → (Z (a + 1) (b + 1 + 1) ↔ Z (a + 1 + 1) (b + 1 + 1)) := hH (a + 1) (b + 1) (.inl hg)
 have l : Y (a + 1) (b + 1) = false → (Z (a + 1) (b + 1) ↔ Z (a + 1) (b + 1 + 1)) := hV a (b + 1) (.inr hg)
 have r : Y (a + 1 + 1) (b + 1) = false → (Z (a + 1 + 1) (b + 1) ↔ Z (a + 1 + 1) (b + 1 + 1)) := hV (a + 1) (b + 1) (.inl hg)
 have z1 := bi_or (X (a + 1) (b + 1))
 have z2 := bi_or (X (a + 1) (b + 1 + 1))
 have z3 := bi_or (Y (a + 1) (b + 1))
 have z4 := bi_or (Y (a + 1 + 1) (b + 1))
 cases q1 : X (a + 1) (b + 1) with
 | true =>
  have e : bi true = 1 := rfl
  rw [q1] at o z1
  have d := d (bi_0.1 (by omega))
  have l := l (bi_0.1 (by omega))
  have r := r (bi_0.1 (by omega))
  exact ⟨l.trans (d.trans r.symm), l, l.trans d⟩
 | false =>
  have t := t q1
  cases q2 : X (a + 1) (b + 1 + 1) with
  | true =>
   have e : bi true = 1 := rfl
   rw [q2] at o z2
   have l := l (bi_0.1 (by omega))
   have r := r (bi_0.1 (by omega))
   exact ⟨t, l, t.trans r⟩
  | false =>
   have d := d q2
   cases q3 : Y (a + 1) (b + 1) with
   | true =>
    have e : bi true = 1 := rfl
    rw [q3] at o z3
    have r := r (bi_0.1 (by omega))
    exact ⟨t, t.trans (r.trans d.symm), t.trans r⟩
   | false =>
    have l := l q3
    exact ⟨t, l, l.trans d⟩
def cor (xs : List Int) (i j : Nat) : Prop := ∃ a b, gX xs a b = true ∧ (i = a ∨ i = a + 1) ∧ (j = b ∨ j = b + 1)
theorem gX_has {xs : List Int} {x y : Int} (h : hasB xs x y = true) : ∃ a b : Nat, (a : Int) = x + 1 ∧ (b : Int) = y + 1 ∧ gX xs a b = true := by
 obtain ⟨_, a0, a7, b0, b7, _⟩ := hasB_iff.1 h
 refine ⟨(x + 1).toNat, (y + 1).toNat, by omega, by omega, ?_⟩
 unfold gX
 rw [show (((x + 1).toNat : Nat) : Int) - 1 = x by omega, show (((y + 1).toNat : Nat) : Int) - 1 = y by omega]
 exact h
theorem all_cor {xs : List Int} (ho : okR xs) (h1 : piecesN xs = 1) {X Y : Cx} (h : Tl (gX xs) X Y) {Z : Nat → Nat → Prop}
  (hH : ∀ i j, (gX xs i j = true ∨ gX xs i (j + 1) = true) → X i (j + 1) = false → (Z i (j + 1) ↔ Z (i + 1) (j + 1)))
  (hV : ∀ i j, (gX xs i j = true ∨ gX xs (i + 1) j = true) → Y (i + 1) j = false → (Z (i + 1) j ↔ Z (i + 1) (j + 1)))
  {i j : Nat} (hc : cor xs i j) (hz : Z i j) : ∀ i' j', cor xs i' j' → Z i' j' := by
 have four : ∀ a b, gX xs a b = true → ∀ i j, (i = a ∨ i = a + 1) → (j = b ∨ j = b + 1) → (Z a b ↔ Z i j) := fun a b hg i j h1 h2 => by
  obtain ⟨c1, c2, c3⟩ := cell_all h hH hV hg
  rcases h1 with rfl | rfl <;> rcases h2 with rfl | rfl
  ·exact Iff.rfl
  ·exact c2
  ·exact c1
  ·exact c3
 obtain ⟨a, b, hg, hi, hj⟩ := hc
 have hab : Z a b := (four a b hg i j hi hj).2 hz
 have key := one_piece ho h1 (fun x y => ∀ a b : Nat, (a : Int) = x + 1 → (b : Int) = y + 1 → Z a b) (fun x y x' y' hxy hz' hx' hn a' b' ha' hb' => by
  obtain ⟨a1, b1, e1, e2, g1⟩ := gX_has hxy
  obtain ⟨a2, b2, e3, e4, g2⟩ := gX_has hx'
  have zz := hz' a1 b1 e1 e2
  have ea : a' = a2 := by omega
  have eb : b' = b2 := by omega
  subst ea; subst eb
  unfold NbZ at hn
  have hcom : ∃ i j, (i = a1 ∨ i = a1 + 1) ∧ (j = b1 ∨ j = b1 + 1) ∧ (i = a' ∨ i = a' + 1) ∧ (j = b' ∨ j = b' + 1) := ⟨max a1 a', max b1 b', by omega, by omega, by omega, by omega⟩
  obtain ⟨i, j, m1, m2, m3, m4⟩ := hcom
  exact (four a' b' g2 i j m3 m4).2 ((four a1 b1 g1 i j m1 m2).1 zz)) (x := (a : Int) - 1) (y := (b : Int) - 1) hg (fun a' b' ha hb => by
  have ea : a' = a := by omega
  have eb : b' = b := by omega
  subst ea; subst eb
  exact hab)
 intro i' j' ⟨a', b', g', hi', hj'⟩
 exact (four a' b' g' i' j' hi' hj').1 (key _ _ g' a' b' (by omega) (by omega))
theorem hts_uniq {xs : List Int} (ho : okR xs) (h1 : piecesN xs = 1) {X Y : Cx} (h : Tl (gX xs) X Y) {f g : Fm} (hf : Hts (gX xs) X Y f) (hg : Hts (gX xs) X Y g) {i j i' j' : Nat} (hc : cor xs i j) (hc' : cor xs i' j') : f i' j' - f i j = g i' j' - g i j := by
 have out : ∀ i j, gX xs i j = true → i < 10 ∧ j < 10 := fun i j q => by have := h.out i j q; omega
 have key := all_cor ho h1 h (Z := fun a b => f a b - f i j = g a b - g i j) (fun a b hab hx => by
  have l : a < 10 ∧ b < 10 := by rcases hab with q | q <;> have := h.out _ _ q <;> omega
  have e1 := hf.hor a b l.1 l.2 hab
  have e2 := hg.hor a b l.1 l.2 hab
  constructor <;> intro r <;> omega) (fun a b hab hx => by
  have l : a < 10 ∧ b < 10 := by rcases hab with q | q <;> have := h.out _ _ q <;> omega
  have e1 := hf.ver a b l.1 l.2 hab
  have e2 := hg.ver a b l.1 l.2 hab
  constructor <;> intro r <;> omega) hc (by omega)
 exact key i' j' hc'
end Go.Proofs.YtmajllgfmclcoaaGreatDoor.Hgt

namespace Go.Proofs.YtmajllgfmclcoaaGreatDoor.Hgt
set_option linter.unusedVariables false
set_option linter.unusedSimpArgs false
open Go.RowKit Go.Proofs.YtmajllgfmclcoaaGreatDoor.Pure
open Go.Proofs.YtmajllgfmclcoaaGreatDoor.Bal (piecesN)

def crnB (xs : List Int) (v : Nat) : Bool := gX xs (v % 9) (v / 9) || gX xs (v % 9 + 1) (v / 9) || gX xs (v % 9) (v / 9 + 1) || gX xs (v % 9 + 1) (v / 9 + 1)
theorem crn_iff {xs : List Int} {v : Nat} : crnB xs v = true ↔ cor xs (v % 9 + 1) (v / 9 + 1) := by
 unfold crnB cor
 simp only [Bool.or_eq_true]
 constructor
 ·rintro (((h | h) | h) | h)
  ·exact ⟨_, _, h, .inr rfl, .inr rfl⟩
  ·exact ⟨_, _, h, .inl rfl, .inr rfl⟩
  ·exact ⟨_, _, h, .inr rfl, .inl rfl⟩
  ·exact ⟨_, _, h, .inl rfl, .inl rfl⟩
 ·rintro ⟨a, b, h, h1, h2⟩
  rcases h1 with h1 | h1 <;> rcases h2 with h2 | h2
  ·subst h1; subst h2; exact .inr h
  ·subst h1; obtain rfl : b = v / 9 := by omega
   exact .inl (.inl (.inr h))
  ·subst h2; obtain rfl : a = v % 9 := by omega
   exact .inl (.inr h)
  ·obtain rfl : a = v % 9 := by omega
   obtain rfl : b = v / 9 := by omega
   exact .inl (.inl (.inl h))
def frH (xs : List Int) (X : Cx) (v : Nat) : Bool := (gX xs (v % 9 + 1) (v / 9) || gX xs (v % 9 + 1) (v / 9 + 1)) && !X (v % 9 + 1) (v / 9 + 1)
def frV (xs : List Int) (Y : Cx) (v : Nat) : Bool := (gX xs (v % 9) (v / 9 + 1) || gX xs (v % 9 + 1) (v / 9 + 1)) && !Y (v % 9 + 1) (v / 9 + 1)
def Lk (xs : List Int) (X Y : Cx) (d v w : Nat) : Prop :=
 (d = 0 ∧ v % 9 < 8 ∧ w = v + 1 ∧ frH xs X v = true) ∨ (d = 1 ∧ v / 9 < 8 ∧ w = v + 9 ∧ frV xs Y v = true) ∨ (d = 2 ∧ w % 9 < 8 ∧ v = w + 1 ∧ frH xs X w = true) ∨ (d = 3 ∧ v = w + 9 ∧ frV xs Y w = true)
def es (d v : Nat) : Int := if (v % 9 + v / 9 + d) % 2 = 1 then 1 else -1
theorem es_or (d v : Nat) : es d v = 1 ∨ es d v = -1 := by unfold es; split <;> simp
section
variable {xs : List Int} {X Y : Cx}
theorem fr_H {v : Nat} (h : frH xs X v = true) : (gX xs (v % 9 + 1) (v / 9) = true ∨ gX xs (v % 9 + 1) (v / 9 + 1) = true) ∧ X (v % 9 + 1) (v / 9 + 1) = false := by
 unfold frH at h; simpa [Bool.and_eq_true, Bool.or_eq_true] using h
theorem fr_V {v : Nat} (h : frV xs Y v = true) : (gX xs (v % 9) (v / 9 + 1) = true ∨ gX xs (v % 9 + 1) (v / 9 + 1) = true) ∧ Y (v % 9 + 1) (v / 9 + 1) = false := by
 unfold frV at h; simpa [Bool.and_eq_true, Bool.or_eq_true] using h
theorem gX_lt {i j : Nat} (h : gX xs i j = true) : 1 ≤ i ∧ i ≤ 8 ∧ 1 ≤ j ∧ j ≤ 8 := by
 unfold gX at h
 have := hasB_iff.1 h
 omega
theorem Lk.lt {d v w : Nat} (hv : v < 81) (h : Lk xs X Y d v w) : w < 81 := by
 rcases h with ⟨_, a, rfl, _⟩ | ⟨_, a, rfl, _⟩ | ⟨_, _, e, _⟩ | ⟨_, e, _⟩ <;> omega
theorem Lk.one {d v w w' : Nat} (h : Lk xs X Y d v w) (h' : Lk xs X Y d v w') : w = w' := by
 unfold Lk at h h'; omega
theorem Lk.four {d v w : Nat} (h : Lk xs X Y d v w) : d < 4 := by unfold Lk at h; omega
theorem Lk.crn {d v w : Nat} (h : Lk xs X Y d v w) : crnB xs v = true ∧ crnB xs w = true := by
 have hor : ∀ v, v % 9 < 8 → frH xs X v = true → crnB xs v = true ∧ crnB xs (v + 1) = true := fun v hv hf => by
  obtain ⟨hg, _⟩ := fr_H hf
  have e1 : (v + 1) % 9 = v % 9 + 1 := by omega
  have e2 : (v + 1) / 9 = v / 9 := by omega
  constructor
  ·rcases hg with q | q
   ·exact crn_iff.2 ⟨_, _, q, .inl rfl, .inr rfl⟩
   ·exact crn_iff.2 ⟨_, _, q, .inl rfl, .inl rfl⟩
  ·refine crn_iff.2 ?_
   rw [e1, e2]
   rcases hg with q | q
   ·exact ⟨_, _, q, .inr rfl, .inr rfl⟩
   ·exact ⟨_, _, q, .inr rfl, .inl rfl⟩
 have ver : ∀ v, frV xs Y v = true → crnB xs v = true ∧ crnB xs (v + 9) = true := fun v hf => by
  obtain ⟨hg, _⟩ := fr_V hf
  have e1 : (v + 9) % 9 = v % 9 := by omega
  have e2 : (v + 9) / 9 = v / 9 + 1 := by omega
  constructor
  ·rcases hg with q | q
   ·exact crn_iff.2 ⟨_, _, q, .inr rfl, .inl rfl⟩
   ·exact crn_iff.2 ⟨_, _, q, .inl rfl, .inl rfl⟩
  ·refine crn_iff.2 ?_
   rw [e1, e2]
   rcases hg with q | q
   ·exact ⟨_, _, q, .inr rfl, .inr rfl⟩
   ·exact ⟨_, _, q, .inl rfl, .inr rfl⟩
 rcases h with ⟨_, a, rfl, f⟩ | ⟨_, a, rfl, f⟩ | ⟨_, a, rfl, f⟩ | ⟨_, rfl, f⟩
 ·exact hor v a f
 ·exact ver v f
 ·exact ⟨(hor w a f).2, (hor w a f).1⟩
 ·exact ⟨(ver w f).2, (ver w f).1⟩
def at9 (f : Fm) (v : Nat) : Int := f (v % 9 + 1) (v / 9 + 1)
theorem Lk.step {f : Fm} (hf : Hts (gX xs) X Y f) {d v w : Nat} (h : Lk xs X Y d v w) : at9 f w = at9 f v + es d v := by
 have hor : ∀ v, v % 9 < 8 → frH xs X v = true → at9 f (v + 1) = at9 f v + (if (v % 9 + v / 9) % 2 = 1 then 1 else -1) := fun v hv hq => by
  obtain ⟨hg, hx⟩ := fr_H hq
  have l : v / 9 < 10 := by rcases hg with q | q <;> have := gX_lt q <;> omega
  have e := hf.hor (v % 9 + 1) (v / 9) (by omega) l hg
  unfold at9
  rw [show (v + 1) % 9 = v % 9 + 1 by omega, show (v + 1) / 9 = v / 9 by omega, e]
  unfold wH sg
  rw [hx, show bi false = 0 from rfl]
  split <;> split <;> omega
 have ver : ∀ v, frV xs Y v = true → at9 f (v + 9) = at9 f v + (if (v % 9 + v / 9) % 2 = 0 then 1 else -1) := fun v hq => by
  obtain ⟨hg, hx⟩ := fr_V hq
  have l : v / 9 + 1 < 10 := by rcases hg with q | q <;> have := gX_lt q <;> omega
  have e := hf.ver (v % 9) (v / 9 + 1) (by omega) l hg
  unfold at9
  rw [show (v + 9) % 9 = v % 9 by omega, show (v + 9) / 9 = v / 9 + 1 by omega, e]
  unfold wV sg
  rw [hx, show bi false = 0 from rfl]
  split <;> split <;> omega
 unfold es
 rcases h with ⟨rfl, a, rfl, q⟩ | ⟨rfl, a, rfl, q⟩ | ⟨rfl, a, rfl, q⟩ | ⟨rfl, rfl, q⟩
 ·rw [hor v a q]
  split <;> split <;> omega
 ·rw [ver v q]
  split <;> split <;> omega
 ·rw [hor w a q]
  split <;> split <;> omega
 ·rw [ver w q]
  split <;> split <;> omega
def lc (xs : List Int) : Nat := ((List.range 81).find? (crnB xs)).getD 0
theorem lc_of {c : Nat} (hc : c < 81) (h : crnB xs c = true) (hl : ∀ v, v < c → crnB xs v = false) : lc xs = c := by
 unfold lc
 have e : (List.range 81).find? (crnB xs) = some c := by
  rw [List.find?_eq_some_iff_getElem]
  refine ⟨h, c, by simpa using hc, by simp, fun j hj => ?_⟩
  rw [List.getElem_range, hl j hj]
  rfl
 rw [e]
 rfl
def hv (xs : List Int) (f : Fm) (v : Nat) : Int := at9 f v - at9 f (lc xs)
def hgL (xs : List Int) (f : Fm) : List Int := (List.range 81).map fun v => if crnB xs v then hv xs f v else -1000
structure Sw (xs : List Int) (X Y : Cx) (F : Nat → Int) (h : List Int) (q : List Nat) (k n : Nat) : Prop where
 hl : h.length = 81
 ql : ∀ v ∈ q, v < 81
 qn : q.Nodup
 q0 : q[0]? = some (lc xs)
 yes : ∀ v, v ∈ q → h[v]? = some (F v)
 no : ∀ v, v < 81 → v ∉ q → h[v]? = some (-1000)
 val : ∀ (i v : Nat), q[i]? = some v → -(i : Int) ≤ F v ∧ F v ≤ i
 cr : ∀ v ∈ q, crnB xs v = true
 clo : ∀ (i d v w : Nat), q[i]? = some v → (i < k ∨ (i = k ∧ d < n)) → Lk xs X Y d v w → w ∈ q
 kq : k ≤ q.length
variable {F : Nat → Int} {h : List Int} {q : List Nat} {k n : Nat}
theorem Sw.len (s : Sw xs X Y F h q k n) : q.length ≤ 81 := by
 have h1 := List.Nodup.length_le_of_subset s.qn (l₂ := List.range 81) (fun x hx => List.mem_range.2 (s.ql x hx))
 rwa [List.length_range] at h1
theorem Sw.is (s : Sw xs X Y F h q k n) {v : Nat} (hv : v < 81) {x : Int} (hx : h[v]? = some x) : x = -1000 ↔ v ∉ q := by
 constructor
 ·intro e hm
  rw [s.yes v hm] at hx
  obtain ⟨i, hi⟩ := List.getElem?_of_mem hm
  have l := s.len
  have hi' := List.getElem?_eq_some_iff.1 hi
  obtain ⟨il, _⟩ := hi'
  have := s.val i v hi
  injection hx with hx
  omega
 ·intro hm
  rw [s.no v hv hm] at hx
  injection hx with hx
  exact hx.symm
theorem Sw.start (hc : lc xs < 81) (hcr : crnB xs (lc xs) = true) (h0 : F (lc xs) = 0) : Sw xs X Y F ((List.replicate 81 (-1000 : Int)).set (lc xs) 0) [lc xs] 0 0 where
 hl := by simp
 ql := fun v hv => by rw [List.mem_singleton.1 hv]; exact hc
 qn := by simp
 q0 := rfl
 yes := fun v hv => by
  rw [List.mem_singleton.1 hv, List.getElem?_set_self (by simpa using hc), h0]
 no := fun v hv hm => by
  rw [List.getElem?_set_ne (fun e => hm (List.mem_singleton.2 e.symm)), List.getElem?_replicate, if_pos hv]
 val := fun i v hi => by
  have : i = 0 ∧ v = lc xs := by
   cases i with
   | zero => simp at hi; exact ⟨rfl, hi.symm⟩
   | succ i => simp at hi
  obtain ⟨rfl, rfl⟩ := this
  rw [h0]; omega
 cr := fun v hv => by rw [List.mem_singleton.1 hv]; exact hcr
 clo := fun i d v w hi hk hl => by omega
 kq := by simp
theorem Sw.skip (s : Sw xs X Y F h q k n) {v : Nat} (hv : q[k]? = some v) (hw : ∀ w, Lk xs X Y n v w → w ∈ q) : Sw xs X Y F h q k (n + 1) :=
 ⟨s.hl, s.ql, s.qn, s.q0, s.yes, s.no, s.val, s.cr, fun i d u w hi hk hl => by
   by_cases e : i = k ∧ d = n
   ·obtain ⟨rfl, rfl⟩ := e
    rw [hv] at hi
    injection hi with hi
    subst hi
    exact hw w hl
   ·exact s.clo i d u w hi (by omega) hl, s.kq⟩
theorem Sw.add (s : Sw xs X Y F h q k n) {v w : Nat} (hF : ∀ d v w, Lk xs X Y d v w → F w = F v + es d v) (hv : q[k]? = some v) (hl : Lk xs X Y n v w) (hm : w ∉ q) :
  Sw xs X Y F (h.set w (F v + es n v)) (q ++ [w]) k (n + 1) := by
 have vl := s.ql v (List.mem_of_getElem? hv)
 have wl := hl.lt vl
 have hk : k < q.length := (List.getElem?_eq_some_iff.1 hv).1
 have old : ∀ i u, (q ++ [w])[i]? = some u → (i < q.length ∧ q[i]? = some u) ∨ (i = q.length ∧ u = w) := fun i u hi => by
  by_cases e : i < q.length
  ·rw [List.getElem?_append_left e] at hi
   exact .inl ⟨e, hi⟩
  ·rw [List.getElem?_append_right (by omega)] at hi
   have : i - q.length = 0 ∧ u = w := by
    cases r : i - q.length with
    | zero => rw [r] at hi; simp at hi; exact ⟨rfl, hi.symm⟩
    | succ j => rw [r] at hi; simp at hi
   exact .inr ⟨by omega, this.2⟩
 refine ⟨?_, ?_, ?_, ?_, ?_, ?_, ?_, ?_, ?_, ?_⟩
 ·rw [List.length_set]; exact s.hl
 ·intro u hu
  rcases List.mem_append.1 hu with hu | hu
  ·exact s.ql u hu
  ·rw [List.mem_singleton.1 hu]; exact wl
 ·rw [List.nodup_append]
  refine ⟨s.qn, by simp, fun a ha b hb e => hm ?_⟩
  rw [← List.mem_singleton.1 hb, ← e]
  exact ha
 ·rw [List.getElem?_append_left (by omega)]; exact s.q0
 ·intro u hu
  by_cases e : u = w
  ·subst e
   rw [List.getElem?_set_self (by rw [s.hl]; exact wl), hF n v u hl]
  ·rcases List.mem_append.1 hu with hu | hu
   ·rw [List.getElem?_set_ne (fun r => e r.symm)]
    exact s.yes u hu
   ·exact absurd (List.mem_singleton.1 hu) e
 ·intro u hu hn
  rw [List.getElem?_set_ne (fun r => hn (by rw [← r]; simp))]
  exact s.no u hu (fun r => hn (List.mem_append_left _ r))
 ·intro i u hi
  rcases old i u hi with ⟨e, hi⟩ | ⟨e, rfl⟩
  ·exact s.val i u hi
  ·have a := s.val k v hv
   have b := hF n v u hl
   rcases es_or n v with c | c <;> omega
 ·intro u hu
  rcases List.mem_append.1 hu with hu | hu
  ·exact s.cr u hu
  ·rw [List.mem_singleton.1 hu]; exact hl.crn.2
 ·intro i d u x hi hc hx
  rcases old i u hi with ⟨e, hi⟩ | ⟨e, rfl⟩
  ·by_cases r : i = k ∧ d = n
   ·obtain ⟨rfl, rfl⟩ := r
    rw [hv] at hi
    injection hi with hi
    subst hi
    rw [hl.one hx]
    simp
   ·exact List.mem_append_left _ (s.clo i d u x hi (by omega) hx)
  ·omega
 ·rw [List.length_append]
  have := s.kq
  omega
theorem Sw.next (s : Sw xs X Y F h q k 4) (hk : k < q.length) : Sw xs X Y F h q (k + 1) 0 :=
 ⟨s.hl, s.ql, s.qn, s.q0, s.yes, s.no, s.val, s.cr, fun i d v w hi hc hl => s.clo i d v w hi (by have := hl.four; omega) hl, hk⟩
theorem Sw.all (ho : okR xs) (h1 : piecesN xs = 1) (ht : Tl (gX xs) X Y) (s : Sw xs X Y F h q q.length 0) (hcr : crnB xs (lc xs) = true) : ∀ v, v < 81 → (v ∈ q ↔ crnB xs v = true) := by
 have clo : ∀ d v w, v ∈ q → Lk xs X Y d v w → w ∈ q := fun d v w hv hl => by
  obtain ⟨i, hi⟩ := List.getElem?_of_mem hv
  exact s.clo i d v w hi (.inl (List.getElem?_eq_some_iff.1 hi).1) hl
 have l1 : ∀ i j, gX xs i j = true → 1 ≤ i ∧ i ≤ 8 ∧ 1 ≤ j ∧ j ≤ 8 := fun i j => gX_lt
 have key := all_cor ho h1 ht (Z := fun i j => 9 * (j - 1) + (i - 1) ∈ q) (fun i j hg hx => by
  have l : 1 ≤ i ∧ i ≤ 8 ∧ j ≤ 8 := by rcases hg with r | r <;> have := gX_lt r <;> omega
  have e : frH xs X (9 * j + (i - 1)) = true := by
   unfold frH
   rw [show (9 * j + (i - 1)) % 9 + 1 = i by omega, show (9 * j + (i - 1)) / 9 = j by omega, hx]
   rcases hg with r | r <;> rw [r] <;> simp
  have l1 : Lk xs X Y 0 (9 * j + (i - 1)) (9 * j + i) := .inl ⟨rfl, by omega, by omega, e⟩
  have l2 : Lk xs X Y 2 (9 * j + i) (9 * j + (i - 1)) := .inr (.inr (.inl ⟨rfl, by omega, by omega, e⟩))
  have e1 : 9 * (j + 1 - 1) + (i + 1 - 1) = 9 * j + i := by omega
  have e2 : 9 * (j + 1 - 1) + (i - 1) = 9 * j + (i - 1) := by omega
  simp only [e1, e2]
  exact ⟨fun r => clo _ _ _ r l1, fun r => clo _ _ _ r l2⟩) (fun i j hg hx => by
  have l : i ≤ 8 ∧ 1 ≤ j ∧ j ≤ 8 := by rcases hg with r | r <;> have := gX_lt r <;> omega
  have e : frV xs Y (9 * (j - 1) + i) = true := by
   unfold frV
   rw [show (9 * (j - 1) + i) % 9 = i by omega, show (9 * (j - 1) + i) / 9 + 1 = j by omega, hx]
   rcases hg with r | r <;> rw [r] <;> simp
  have l1 : Lk xs X Y 1 (9 * (j - 1) + i) (9 * j + i) := .inr (.inl ⟨rfl, by omega, by omega, e⟩)
  have l2 : Lk xs X Y 3 (9 * j + i) (9 * (j - 1) + i) := .inr (.inr (.inr ⟨rfl, by omega, e⟩))
  have e1 : 9 * (j + 1 - 1) + (i + 1 - 1) = 9 * j + i := by omega
  have e2 : 9 * (j - 1) + (i + 1 - 1) = 9 * (j - 1) + i := by omega
  simp only [e1, e2]
  exact ⟨fun r => clo _ _ _ r l1, fun r => clo _ _ _ r l2⟩) (i := lc xs % 9 + 1) (j := lc xs / 9 + 1) (crn_iff.1 hcr) (by
  have e : 9 * (lc xs / 9 + 1 - 1) + (lc xs % 9 + 1 - 1) = lc xs := by omega
  simp only [e]
  exact List.mem_of_getElem? s.q0)
 exact fun v hv => ⟨s.cr v, fun hb => by
  have r := key _ _ (crn_iff.1 hb)
  have e : 9 * (v / 9 + 1 - 1) + (v % 9 + 1 - 1) = v := by omega
  simp only [e] at r
  exact r⟩
theorem Sw.fin (ho : okR xs) (h1 : piecesN xs = 1) (ht : Tl (gX xs) X Y) {f : Fm} (s : Sw xs X Y (hv xs f) h q q.length 0) (hc : lc xs < 81) (hcr : crnB xs (lc xs) = true) : h = hgL xs f := by
 have mem := s.all ho h1 ht hcr
 refine List.ext_getElem? (fun v => ?_)
 by_cases hv : v < 81
 ·unfold hgL
  rw [List.getElem?_map, List.getElem?_range hv]
  show h[v]? = some (if crnB xs v then Hgt.hv xs f v else -1000)
  cases hb : crnB xs v with
  | true => rw [s.yes v ((mem v hv).2 hb)]; rfl
  | false => rw [s.no v hv (fun r => by rw [(mem v hv).1 r] at hb; cases hb)]; rfl
 ·rw [List.getElem?_eq_none (by rw [s.hl]; omega), List.getElem?_eq_none (by unfold hgL; simp; omega)]
end
end Go.Proofs.YtmajllgfmclcoaaGreatDoor.Hgt
