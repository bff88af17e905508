/- HgtO, HgrP in one text. -/
import Derived.Test.YtieophdbhnpncaaMp14
import Derived.Test.YtieophdbhnpncaaMp17

/- A region without holes that touches itself at no corner: its rest is one piece, by sides; how much a flip changes, and that no way of flips is shorter, pure: no program here. -/
namespace Go.Proofs.Ytieophdbhnpncaa.Hgt
set_option linter.unusedVariables false
set_option linter.unusedSimpArgs false
open Go.RowKit Go.Proofs.Ytieophdbhnpncaa.Base Go.Proofs.Ytieophdbhnpncaa.Pure Go.Proofs.Ytieophdbhnpncaa.Cell Go.Proofs.Ytieophdbhnpncaa.Dom Go.Proofs.Ytieophdbhnpncaa.Dms Go.Proofs.Ytieophdbhnpncaa.Til Go.Proofs.Ytieophdbhnpncaa.Grd Go.Proofs.Ytieophdbhnpncaa.Flp Go.Joins
open Go.Proofs.Ytieophdbhnpncaa.Bal (cR bitI hasB_at hasB_out flood100 adj8 outsN cR_ring touchAt)
open Go.Proofs.Ytieophdbhnpncaa.Euler (lab h8 ring oi least least_ex least_iff cnt cnt_less lab_keeps h8_ends)

theorem gX_cR {xs : List Int} (ho : okR xs) {i j : Nat} (hi : i < 10) (hj : j < 10) : gX xs i j = cR xs (10 * j + i) := by
  unfold gX cR
  by_cases q : 1 ≤ i ∧ i ≤ 8 ∧ 1 ≤ j ∧ j ≤ 8
  · have e := hasB_at ho (u := i - 1) (v := j - 1) (by omega) (by omega)
    rw [show ((i - 1 : Nat) : Int) = (i : Int) - 1 by omega, show ((j - 1 : Nat) : Int) = (j : Int) - 1 by omega] at e
    rw [e]
    have h1 : ring (10 * j + i) = false := by
      unfold ring
      rw [show (10 * j + i) % 10 = i by omega, show (10 * j + i) / 10 = j by omega]
      have a : (i == 0) = false := by simp; omega
      have b : (i == 9) = false := by simp; omega
      have c : (j == 0) = false := by simp; omega
      have d : (j == 9) = false := by simp; omega
      rw [a, b, c, d]; rfl
    rw [h1]
    unfold oi
    rw [show (10 * j + i) % 10 = i by omega, show (10 * j + i) / 10 = j by omega]
    rfl
  · rw [hasB_out (by omega)]
    have h1 : ring (10 * j + i) = true := by
      unfold ring
      rw [show (10 * j + i) % 10 = i by omega, show (10 * j + i) / 10 = j by omega]
      simp
      omega
    rw [h1]; rfl
theorem cnt_uniq {n : Nat} {p : Nat → Bool} (h : cnt n p = 1) {a b : Nat} (ha : a < n) (hb : b < n) (pa : p a = true) (pb : p b = true) : a = b := by
  refine Classical.byContradiction fun hne => ?_
  have h1 := cnt_less p a pa n ha
  have h2 := cnt_less (fun w => p w && !(w == a)) b (by simp only [pb, Bool.true_and]; simp; exact fun e => hne e.symm) n hb
  omega
/-- no corner where the region touches itself. -/
theorem no_touch {xs : List Int} (ho : okR xs) (ht : ¬ Bal.Touch xs) (a b : Nat) :
    ¬ (gX xs a b = false ∧ gX xs (a + 1) (b + 1) = false ∧ gX xs (a + 1) b = true ∧ gX xs a (b + 1) = true) ∧ ¬ (gX xs a b = true ∧ gX xs (a + 1) (b + 1) = true ∧ gX xs (a + 1) b = false ∧ gX xs a (b + 1) = false) := by
  have rg : ∀ i j, gX xs i j = true → 1 ≤ i ∧ i ≤ 8 ∧ 1 ≤ j ∧ j ≤ 8 := fun i j h => by have := hasB_iff.1 h; omega
  have bt : ∀ i j, 1 ≤ i → i ≤ 8 → 1 ≤ j → j ≤ 8 → gX xs i j = bitI xs (8 * (j - 1) + (i - 1)) := fun i j h1 h2 h3 h4 => by
    have e := hasB_at ho (u := i - 1) (v := j - 1) (by omega) (by omega)
    rw [show ((i - 1 : Nat) : Int) = (i : Int) - 1 by omega, show ((j - 1 : Nat) : Int) = (j : Int) - 1 by omega] at e
    exact e
  have fin : 1 ≤ a → a ≤ 7 → 1 ≤ b → b ≤ 7 → (gX xs a b = gX xs (a + 1) (b + 1) ∧ gX xs (a + 1) b = gX xs a (b + 1) ∧ gX xs a b ≠ gX xs (a + 1) b) → False := fun h1 h2 h3 h4 ⟨q1, q2, q3⟩ => by
    refine ht ⟨8 * (b - 1) + (a - 1), by omega, by omega, by omega, ?_⟩
    rw [bt a b (by omega) (by omega) (by omega) (by omega), bt (a + 1) (b + 1) (by omega) (by omega) (by omega) (by omega)] at q1
    rw [bt (a + 1) b (by omega) (by omega) (by omega) (by omega), bt a (b + 1) (by omega) (by omega) (by omega) (by omega)] at q2
    rw [bt a b (by omega) (by omega) (by omega) (by omega), bt (a + 1) b (by omega) (by omega) (by omega) (by omega)] at q3
    rw [show 8 * (b + 1 - 1) + (a + 1 - 1) = 8 * (b - 1) + (a - 1) + 9 by omega] at q1
    rw [show 8 * (b - 1) + (a + 1 - 1) = 8 * (b - 1) + (a - 1) + 1 by omega, show 8 * (b + 1 - 1) + (a - 1) = 8 * (b - 1) + (a - 1) + 8 by omega] at q2
    rw [show 8 * (b - 1) + (a + 1 - 1) = 8 * (b - 1) + (a - 1) + 1 by omega] at q3
    unfold touchAt
    rw [q1, q2, beq_self_eq_true, beq_self_eq_true, Bool.true_and, Bool.true_and, ← q1, ← q2]
    simpa using q3
  constructor
  · rintro ⟨h1, h2, h3, h4⟩
    have r1 := rg _ _ h3
    have r2 := rg _ _ h4
    exact fin (by omega) (by omega) (by omega) (by omega) ⟨h1.trans h2.symm, h3.trans h4.symm, by rw [h1, h3]; simp⟩
  · rintro ⟨h1, h2, h3, h4⟩
    have r1 := rg _ _ h1
    have r2 := rg _ _ h2
    exact fin (by omega) (by omega) (by omega) (by omega) ⟨h1.trans h2.symm, h3.trans h4.symm, by rw [h1, h3]; simp⟩
/-- the rest of a region without holes that touches itself nowhere is one piece. -/
theorem one_simple {xs : List Int} (ho : okR xs) (h1 : outsN xs = 1) (ht : ¬ Bal.Touch xs) : One (gX xs) := by
  intro Z h0 hcl d hd
  have hR : ∀ i j, i < 10 → j < 10 → gX xs i j = false → (decide (i < 10) && decide (j < 10) && !gX xs i j) = true := fun i j hi hj hg => by simp [hi, hj, hg]
  have step : ∀ i j i' j', i' < 10 → j' < 10 → gX xs i' j' = false → Z (i, j) → nb (i', j') (i, j) → Z (i', j') := fun i j i' j' hi hj hg hz hn => hcl (i, j) (i', j') hz (hR i' j' hi hj hg) hn
  have hnt := no_touch ho ht
  -- all labels are the ring's
  have hlab : ∀ v, v < 100 → cR xs v = false → lab (h8 (cR xs)) v = lab (h8 (cR xs)) 0 := fun v hv hc => by
    obtain ⟨u, hu, e, hl⟩ := least_ex (h8 (cR xs)) v
    have hkeep := lab_keeps (cR xs) (h8 (cR xs)) (fun e he => by
      obtain ⟨_, _, _, _, c1, c2⟩ := h8_ends he
      rw [c1, c2])
    have hcu : cR xs u = false := by rw [← hkeep u, e, hkeep v, hc]
    have hl0 : least (h8 (cR xs)) 0 = true := least_iff.2 (fun u hu => by omega)
    have e0 := cnt_uniq (p := fun v => !cR xs v && least (h8 (cR xs)) v) h1 (a := u) (b := 0) (by omega) (by omega) (by simp only [hcu, hl]; rfl) (by simp only [cR_ring xs 0 (by omega) rfl, hl0]; rfl)
    rw [← e, e0]
  obtain ⟨seen, hseen⟩ : ∃ seen : Nat → Bool, ∀ v, seen v = true ↔ v < 100 ∧ cR xs v = false ∧ Z (v % 10, v / 10) :=
    ⟨fun v => @decide (v < 100 ∧ cR xs v = false ∧ Z (v % 10, v / 10)) (Classical.propDecidable _), fun v => by simp⟩
  have key := flood100 (c := cR xs) (seen := seen) (a := 0) ((hseen 0).2 ⟨by omega, cR_ring xs 0 (by omega) rfl, h0⟩) (fun v hv => by
    obtain ⟨a, b, _⟩ := (hseen v).1 hv
    exact hlab v a b) (fun u v hu hv hs ha cu cv => by
    obtain ⟨_, _, hz⟩ := (hseen u).1 hs
    refine (hseen v).2 ⟨hv, cv, ?_⟩
    have gu : gX xs (u % 10) (u / 10) = false := by rw [gX_cR ho (by omega) (by omega), show 10 * (u / 10) + u % 10 = u by omega]; exact cu
    have gv : gX xs (v % 10) (v / 10) = false := by rw [gX_cR ho (by omega) (by omega), show 10 * (v / 10) + v % 10 = v by omega]; exact cv
    unfold adj8 at ha
    simp only [Bool.and_eq_true, decide_eq_true_eq] at ha
    have bi1 : u % 10 < 10 ∧ u / 10 < 10 ∧ v % 10 < 10 ∧ v / 10 < 10 := by omega
    generalize u % 10 = i at *
    generalize u / 10 = j at *
    generalize v % 10 = i' at *
    generalize v / 10 = j' at *
    obtain ⟨⟨⟨a1, a2⟩, a3⟩, a4⟩ := ha
    obtain ⟨b1, b2, b3, b4⟩ := bi1
    by_cases ei : i = i'
    · subst ei
      by_cases ej : j = j'
      · subst ej; exact hz
      · exact step i j i j' b3 b4 gv hz (.inr ⟨rfl, by simp only; omega⟩)
    · by_cases ej : j = j'
      · subst ej
        exact step i j i' j b3 b4 gv hz (.inl ⟨rfl, by simp only; omega⟩)
      · -- two cells that touch in a corner: one of the others is of the rest
        by_cases g1 : gX xs i' j = false
        · have z1 := step i j i' j b3 b2 g1 hz (.inl ⟨rfl, by simp only; omega⟩)
          exact step i' j i' j' b3 b4 gv z1 (.inr ⟨rfl, by simp only; omega⟩)
        · have g1 : gX xs i' j = true := by cases q : gX xs i' j <;> simp_all
          by_cases g2 : gX xs i j' = false
          · have z1 := step i j i j' b1 b4 g2 hz (.inr ⟨rfl, by simp only; omega⟩)
            exact step i j' i' j' b3 b4 gv z1 (.inl ⟨rfl, by simp only; omega⟩)
          · have g2 : gX xs i j' = true := by cases q : gX xs i j' <;> simp_all
            exfalso
            have hi : i' = i + 1 ∨ i = i' + 1 := by omega
            have hj : j' = j + 1 ∨ j = j' + 1 := by omega
            rcases hi with rfl | rfl <;> rcases hj with rfl | rfl
            · exact (hnt i j).1 ⟨gu, gv, g1, g2⟩
            · exact (hnt i j').2 ⟨g2, g1, gv, gu⟩
            · exact (hnt i' j).2 ⟨g1, g2, gu, gv⟩
            · exact (hnt i' j').1 ⟨gv, gu, g2, g1⟩)
  obtain ⟨di, dj⟩ := d
  simp only [Bool.and_eq_true, decide_eq_true_eq, Bool.not_eq_true'] at hd
  obtain ⟨⟨d1, d2⟩, d3⟩ := hd
  have hc : cR xs (10 * dj + di) = false := by rw [← gX_cR ho d1 d2]; exact d3
  have k := key (10 * dj + di)
  rw [hlab _ (by omega) hc, beq_self_eq_true] at k
  have := ((hseen _).1 k).2.2
  rw [show (10 * dj + di) % 10 = di by omega, show (10 * dj + di) / 10 = dj by omega] at this
  exact this
/-- a flip changes how far two tilings are apart by one. -/
theorem turn_far {xs : List Int} {L M : List Dm} {x y : Int} {b : Bool} (hL : tilB xs L = true) (hM : tilB xs M = true) (h6 : 0 ≤ x ∧ x ≤ 6 ∧ 0 ≤ y ∧ y ≤ 6) (hb : has2 L x y b = true) :
    farL (turn L x y b) M = farL L M + 1 ∨ farL (turn L x y b) M + 1 = farL L M := by
  have tL := tl_of hL
  have tM := tl_of hM
  have vL := part_valid (til_part hL)
  obtain ⟨a, ha⟩ : ∃ a : Nat, (a : Int) = x + 1 := ⟨(x + 1).toNat, by omega⟩
  obtain ⟨c, hc⟩ : ∃ c : Nat, (c : Int) = y + 1 := ⟨(y + 1).toNat, by omega⟩
  obtain ⟨e1, e2⟩ := turn_X (xs := xs) (L := L) (b := b) vL h6 ha hc
  obtain ⟨m1, m2⟩ := has2_iff.1 hb
  have hy : yL L (a + 1) c = (!b) ∧ yL L (a + 1) (c + 1) = (!b) := by
    cases b with
    | false =>
      refine ⟨yL_iff.2 ?_, yL_iff.2 ?_⟩
      · unfold pr1 at m1; rw [show ((a + 1 : Nat) : Int) - 2 = x by omega, show (c : Int) - 1 = y by omega]; exact m1
      · unfold pr2 at m2; rw [if_neg (by simp)] at m2; rw [show ((a + 1 : Nat) : Int) - 2 = x by omega, show ((c + 1 : Nat) : Int) - 1 = y + 1 by omega]; exact m2
    | true =>
      refine pair_X tL (xL_iff.2 ?_) (xL_iff.2 ?_)
      · unfold pr1 at m1; rw [show (a : Int) - 1 = x by omega, show ((c + 1 : Nat) : Int) - 2 = y by omega]; exact m1
      · unfold pr2 at m2; rw [if_pos rfl] at m2; rw [show ((a + 1 : Nat) : Int) - 1 = x + 1 by omega, show ((c + 1 : Nat) : Int) - 2 = y by omega]; exact m2
  have e := fun i j hi hj => flip_dif (X := xL L) (Y := yL L) (X' := xL M) (Y' := yL M) (!b) b (by simp) hy.1 hy.2 (by omega) (by omega) i j hi hj (fun i hi => dif_H tL tM hi (by omega))
  have hst := far_set (E := dif (xL L) (yL L) (xL M) (yL M)) (E' := dif (flX (xL L) a c (!b)) (flY (yL L) a c b) (xL M) (yL M)) (a := a + 1) (b := c + 1) (by omega) (by omega) (fun i j hi hj hne => by
    rw [e i j hi hj, setE_ne (fun k => hne (by rw [k.1, k.2]))])
  rw [e (a + 1) (c + 1) (by omega) (by omega), setE_at] at hst
  unfold farL
  rw [e1, e2]
  have hs : sg (a + 1) (c + 1) * (bi b - bi (!b)) = 1 ∨ sg (a + 1) (c + 1) * (bi b - bi (!b)) = -1 := by
    rcases sg_one (a + 1) (c + 1) with q | q <;> rw [q] <;> cases b <;> simp [bi]
  generalize sg (a + 1) (c + 1) * (bi b - bi (!b)) = k at hst hs
  generalize dif (xL L) (yL L) (xL M) (yL M) (a + 1) (c + 1) = z at hst
  clear e e1 e2
  omega
/-- no way of flips is shorter. -/
theorem way_least {xs : List Int} {M : List Dm} (hM : tilB xs M = true) : ∀ (w : List (Int × Int)) (L : List Dm), tilB xs L = true → allF L w = some M → farL L M ≤ w.length := by
  intro w
  induction w with
  | nil =>
    intro L hL h
    have e : L = M := by injection h
    subst e
    rw [far_self]; exact Nat.le_refl _
  | cons c w ih =>
    intro L hL h
    have h' : (if canB L c.1 c.2 then allF (flipL L c.1 c.2) w else none) = some M := h
    by_cases hc : canB L c.1 c.2 = true
    · rw [if_pos hc] at h'
      obtain ⟨h6, b, hb⟩ := turn_of (xs := xs) (L := L) hc
      have hp := til_part hL
      obtain ⟨_, e⟩ := flip_turn hp h6 hb
      rw [e] at h'
      have i := ih _ (turn_til hp h6 hb hL) h'
      have k := turn_far hL hM h6 hb
      rw [List.length_cons]
      omega
    · rw [if_neg hc] at h'; cases h'
end Go.Proofs.Ytieophdbhnpncaa.Hgt

/- Heights of a simple region's tiling, pure: a region that is one piece is reached from cell to cell; its corners are reached along free sides; a search along them finds them all: no program here. -/
namespace Go.Proofs.Ytieophdbhnpncaa.Hgt
set_option linter.unusedVariables false
set_option linter.unusedSimpArgs false
open Go.RowKit Go.Proofs.Ytieophdbhnpncaa.Base Go.Proofs.Ytieophdbhnpncaa.Pure Go.Proofs.Ytieophdbhnpncaa.Cell Go.Proofs.Ytieophdbhnpncaa.Dom Go.Proofs.Ytieophdbhnpncaa.Dms Go.Proofs.Ytieophdbhnpncaa.Til Go.Proofs.Ytieophdbhnpncaa.Grd Go.Proofs.Ytieophdbhnpncaa.Flp Go.Joins
open Go.Proofs.Ytieophdbhnpncaa.Bal (cR bitI hasB_at hasB_out nbI sameP leastI leastI_iff piecesN flood64 pe)
open Go.Proofs.Ytieophdbhnpncaa.Euler (lab cnt)

theorem same_symm {xs : List Int} {i j : Nat} (h : sameP xs i j = true) : sameP xs j i = true := by
  unfold sameP at h ⊢; rw [beq_iff_eq] at h ⊢; exact h.symm
theorem same_trans {xs : List Int} {i j k : Nat} (h : sameP xs i j = true) (h2 : sameP xs j k = true) : sameP xs i k = true := by
  unfold sameP at h h2 ⊢; rw [beq_iff_eq] at h h2 ⊢; exact h2.trans h
theorem leastI_ex {xs : List Int} (i : Nat) (hi : i < 64) (hb : bitI xs i = true) : ∃ u, u < 64 ∧ bitI xs u = true ∧ sameP xs u i = true ∧ leastI xs u = true := by
  induction i using Nat.strongRecOn with
  | ind i ih =>
    cases q : leastI xs i with
    | true => exact ⟨i, hi, hb, Bal.sameP_refl xs i, q⟩
    | false =>
      have : ¬ ∀ j, j < i → bitI xs j = true → sameP xs i j = false := fun h => by rw [leastI_iff.2 h] at q; cases q
      obtain ⟨j, hj⟩ := Classical.not_forall.1 this
      obtain ⟨h1, hj⟩ := Classical.not_imp.1 hj
      obtain ⟨h2, hj⟩ := Classical.not_imp.1 hj
      have h3 : sameP xs i j = true := by cases r : sameP xs i j <;> simp_all
      obtain ⟨u, u1, u2, u3, u4⟩ := ih j h1 (by omega) h2
      exact ⟨u, u1, u2, same_trans u3 (same_symm h3), u4⟩
/-- from cell to cell. -/
def NbZ (x y x' y' : Int) : Prop := (x = x' ∧ (y' = y + 1 ∨ y = y' + 1)) ∨ (y = y' ∧ (x' = x + 1 ∨ x = x' + 1))
theorem one_piece {xs : List Int} (ho : okR xs) (h1 : piecesN xs = 1) (Z : Int → Int → Prop)
    (hcl : ∀ x y x' y', hasB xs x y = true → Z x y → hasB xs x' y' = true → NbZ x y x' y' → Z x' y')
    {x y : Int} (hxy : hasB xs x y = true) (hz : Z x y) : ∀ x' y', hasB xs x' y' = true → Z x' y' := by
  intro x' y' hx'
  obtain ⟨seen, hseen⟩ : ∃ seen : Nat → Bool, ∀ v, seen v = true ↔ v < 64 ∧ bitI xs v = true ∧ Z ((v % 8 : Nat) : Int) ((v / 8 : Nat) : Int) :=
    ⟨fun v => @decide (v < 64 ∧ bitI xs v = true ∧ Z ((v % 8 : Nat) : Int) ((v / 8 : Nat) : Int)) (Classical.propDecidable _), fun v => by simp⟩
  have has : ∀ v, v < 64 → hasB xs ((v % 8 : Nat) : Int) ((v / 8 : Nat) : Int) = bitI xs v := fun v hv => by
    rw [hasB_at ho (by omega) (by omega), show 8 * (v / 8) + v % 8 = v by omega]
  have cell : ∀ a b : Int, hasB xs a b = true → ∃ v : Nat, v < 64 ∧ bitI xs v = true ∧ ((v % 8 : Nat) : Int) = a ∧ ((v / 8 : Nat) : Int) = b := fun a b h => by
    obtain ⟨_, a0, a7, b0, b7, _⟩ := hasB_iff.1 h
    refine ⟨8 * b.toNat + a.toNat, by omega, ?_, by omega, by omega⟩
    rw [← has _ (by omega)]
    rw [show (((8 * b.toNat + a.toNat) % 8 : Nat) : Int) = a by omega, show (((8 * b.toNat + a.toNat) / 8 : Nat) : Int) = b by omega]
    exact h
  obtain ⟨u, u1, u2, u3, u4⟩ := cell x y hxy
  obtain ⟨v, v1, v2, v3, v4⟩ := cell x' y' hx'
  have all : ∀ i j, i < 64 → j < 64 → bitI xs i = true → bitI xs j = true → sameP xs i j = true := fun i j hi hj bi' bj => by
    obtain ⟨a, a1, a2, a3, a4⟩ := leastI_ex i hi bi'
    obtain ⟨b, b1, b2, b3, b4⟩ := leastI_ex j hj bj
    have e := cnt_uniq (p := fun i => bitI xs i && leastI xs i) h1 a1 b1 (by simp only [a2, a4]; rfl) (by simp only [b2, b4]; rfl)
    subst e
    exact same_trans (same_symm a3) b3
  have key := flood64 (xs := xs) (seen := seen) (a := u) u1 ((hseen u).2 ⟨u1, u2, by rw [u3, u4]; exact hz⟩) (fun i hi hs => by
    obtain ⟨_, b, _⟩ := (hseen i).1 hs
    exact ⟨b, all u i u1 hi u2 b⟩) (fun i j hi hj hs hn hb => by
    obtain ⟨_, b, c⟩ := (hseen i).1 hs
    refine (hseen j).2 ⟨hj, hb, hcl _ _ _ _ ((has i hi).trans b) c ((has j hj).trans hb) ?_⟩
    unfold nbI at hn
    unfold NbZ
    omega) v v1
  rw [v2, all u v u1 v1 u2 v2] at key
  have := ((hseen v).1 key).2.2
  rwa [v3, v4] at this
/-- three sides of a covered cell are free: they join its four corners. -/
theorem cell_all {G : Nat → Nat → Bool} {X Y : Cx} (h : Tl G X Y) {Z : Nat → Nat → Prop}
    (hH : ∀ i j, (G i j = true ∨ G i (j + 1) = true) → X i (j + 1) = false → (Z i (j + 1) ↔ Z (i + 1) (j + 1)))
    (hV : ∀ i j, (G i j = true ∨ G (i + 1) j = true) → Y (i + 1) j = false → (Z (i + 1) j ↔ Z (i + 1) (j + 1)))
    {a b : Nat} (hg : G a b = true) : (Z a b ↔ Z (a + 1) b) ∧ (Z a b ↔ Z a (b + 1)) ∧ (Z a b ↔ Z (a + 1) (b + 1)) := by
  have ho := h.out a b hg
  obtain ⟨a, rfl⟩ : ∃ c, a = c + 1 := ⟨a - 1, by omega⟩
  obtain ⟨b, rfl⟩ : ∃ c, b = c + 1 := ⟨b - 1, by omega⟩
  have o := h.one _ _ hg
  have t : X (a + 1) (b + 1) = false → (Z (a + 1) (b + 1) ↔ Z (a + 1 + 1) (b + 1)) := hH (a + 1) b (.inr hg)
  have d : X (a + 1) (b + 1 + 1) = false → (Z (a + 1) (b + 1 + 1) ↔ Z (a + 1 + 1) (b + 1 + 1)) := hH (a + 1) (b + 1) (.inl hg)
  have l : Y (a + 1) (b + 1) = false → (Z (a + 1) (b + 1) ↔ Z (a + 1) (b + 1 + 1)) := hV a (b + 1) (.inr hg)
  have r : Y (a + 1 + 1) (b + 1) = false → (Z (a + 1 + 1) (b + 1) ↔ Z (a + 1 + 1) (b + 1 + 1)) := hV (a + 1) (b + 1) (.inl hg)
  have z1 := bi_or (X (a + 1) (b + 1))
  have z2 := bi_or (X (a + 1) (b + 1 + 1))
  have z3 := bi_or (Y (a + 1) (b + 1))
  have z4 := bi_or (Y (a + 1 + 1) (b + 1))
  cases q1 : X (a + 1) (b + 1) with
  | true =>
    have e : bi true = 1 := rfl
    rw [q1] at o z1
    have d := d (bi_0.1 (by omega))
    have l := l (bi_0.1 (by omega))
    have r := r (bi_0.1 (by omega))
    exact ⟨l.trans (d.trans r.symm), l, l.trans d⟩
  | false =>
    have t := t q1
    cases q2 : X (a + 1) (b + 1 + 1) with
    | true =>
      have e : bi true = 1 := rfl
      rw [q2] at o z2
      have l := l (bi_0.1 (by omega))
      have r := r (bi_0.1 (by omega))
      exact ⟨t, l, t.trans r⟩
    | false =>
      have d := d q2
      cases q3 : Y (a + 1) (b + 1) with
      | true =>
        have e : bi true = 1 := rfl
        rw [q3] at o z3
        have r := r (bi_0.1 (by omega))
        exact ⟨t, t.trans (r.trans d.symm), t.trans r⟩
      | false =>
        have l := l q3
        exact ⟨t, l, l.trans d⟩
/-- the corners of a region's cells. -/
def cor (xs : List Int) (i j : Nat) : Prop := ∃ a b, gX xs a b = true ∧ (i = a ∨ i = a + 1) ∧ (j = b ∨ j = b + 1)
theorem gX_has {xs : List Int} {x y : Int} (h : hasB xs x y = true) : ∃ a b : Nat, (a : Int) = x + 1 ∧ (b : Int) = y + 1 ∧ gX xs a b = true := by
  obtain ⟨_, a0, a7, b0, b7, _⟩ := hasB_iff.1 h
  refine ⟨(x + 1).toNat, (y + 1).toNat, by omega, by omega, ?_⟩
  unfold gX
  rw [show (((x + 1).toNat : Nat) : Int) - 1 = x by omega, show (((y + 1).toNat : Nat) : Int) - 1 = y by omega]
  exact h
/-- what holds at one corner of a region of one piece, and is kept along free sides, holds at all. -/
theorem all_cor {xs : List Int} (ho : okR xs) (h1 : piecesN xs = 1) {X Y : Cx} (h : Tl (gX xs) X Y) {Z : Nat → Nat → Prop}
    (hH : ∀ i j, (gX xs i j = true ∨ gX xs i (j + 1) = true) → X i (j + 1) = false → (Z i (j + 1) ↔ Z (i + 1) (j + 1)))
    (hV : ∀ i j, (gX xs i j = true ∨ gX xs (i + 1) j = true) → Y (i + 1) j = false → (Z (i + 1) j ↔ Z (i + 1) (j + 1)))
    {i j : Nat} (hc : cor xs i j) (hz : Z i j) : ∀ i' j', cor xs i' j' → Z i' j' := by
  have four : ∀ a b, gX xs a b = true → ∀ i j, (i = a ∨ i = a + 1) → (j = b ∨ j = b + 1) → (Z a b ↔ Z i j) := fun a b hg i j h1 h2 => by
    obtain ⟨c1, c2, c3⟩ := cell_all h hH hV hg
    rcases h1 with rfl | rfl <;> rcases h2 with rfl | rfl
    · exact Iff.rfl
    · exact c2
    · exact c1
    · exact c3
  obtain ⟨a, b, hg, hi, hj⟩ := hc
  have hab : Z a b := (four a b hg i j hi hj).2 hz
  have key := one_piece ho h1 (fun x y => ∀ a b : Nat, (a : Int) = x + 1 → (b : Int) = y + 1 → Z a b) (fun x y x' y' hxy hz' hx' hn a' b' ha' hb' => by
    obtain ⟨a1, b1, e1, e2, g1⟩ := gX_has hxy
    obtain ⟨a2, b2, e3, e4, g2⟩ := gX_has hx'
    have zz := hz' a1 b1 e1 e2
    have ea : a' = a2 := by omega
    have eb : b' = b2 := by omega
    subst ea; subst eb
    unfold NbZ at hn
    have hcom : ∃ i j, (i = a1 ∨ i = a1 + 1) ∧ (j = b1 ∨ j = b1 + 1) ∧ (i = a' ∨ i = a' + 1) ∧ (j = b' ∨ j = b' + 1) := ⟨max a1 a', max b1 b', by omega, by omega, by omega, by omega⟩
    obtain ⟨i, j, m1, m2, m3, m4⟩ := hcom
    exact (four a' b' g2 i j m3 m4).2 ((four a1 b1 g1 i j m1 m2).1 zz)) (x := (a : Int) - 1) (y := (b : Int) - 1) hg (fun a' b' ha hb => by
    have ea : a' = a := by omega
    have eb : b' = b := by omega
    subst ea; subst eb
    exact hab)
  intro i' j' ⟨a', b', g', hi', hj'⟩
  exact (four a' b' g' i' j' hi' hj').1 (key _ _ g' a' b' (by omega) (by omega))
/-- heights are told up to one number. -/
theorem hts_uniq {xs : List Int} (ho : okR xs) (h1 : piecesN xs = 1) {X Y : Cx} (h : Tl (gX xs) X Y) {f g : Fm} (hf : Hts (gX xs) X Y f) (hg : Hts (gX xs) X Y g) {i j i' j' : Nat} (hc : cor xs i j) (hc' : cor xs i' j') : f i' j' - f i j = g i' j' - g i j := by
  have out : ∀ i j, gX xs i j = true → i < 10 ∧ j < 10 := fun i j q => by have := h.out i j q; omega
  have key := all_cor ho h1 h (Z := fun a b => f a b - f i j = g a b - g i j) (fun a b hab hx => by
    have l : a < 10 ∧ b < 10 := by rcases hab with q | q <;> have := h.out _ _ q <;> omega
    have e1 := hf.hor a b l.1 l.2 hab
    have e2 := hg.hor a b l.1 l.2 hab
    constructor <;> intro r <;> omega) (fun a b hab hx => by
    have l : a < 10 ∧ b < 10 := by rcases hab with q | q <;> have := h.out _ _ q <;> omega
    have e1 := hf.ver a b l.1 l.2 hab
    have e2 := hg.ver a b l.1 l.2 hab
    constructor <;> intro r <;> omega) hc (by omega)
  exact key i' j' hc'
end Go.Proofs.Ytieophdbhnpncaa.Hgt
