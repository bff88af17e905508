/- HgrP, HgrS, HgrT, HgrF, Edg, Sid, HgrW in one text. -/
import Derived.Test.YtmajllgfmclcoaaGreatDoorMd07
import Derived.Test.YtmajllgfmclcoaaGreatDoorMd00
import Derived.Test.YtmajllgfmclcoaaGreatDoorMd01
set_option linter.unusedVariables false
set_option linter.unusedSimpArgs false
namespace Go.Proofs.YtmajllgfmclcoaaGreatDoor.Hgt
open Go.RowKit Go.Proofs.YtmajllgfmclcoaaGreatDoor.Pure Flp Go.Joins
open Bal (cR bitI hasB_at hasB_out nbI sameP leastI leastI_iff piecesN flood64 pe)
open Euler (lab cnt)
theorem same_symm {xs : List Int} {i j : Nat} (h : sameP xs i j = true) : sameP xs j i = true := by
 unfold sameP at h ⊢; rw [beq_iff_eq] at h ⊢; exact h.symm
theorem same_trans {xs : List Int} {i j k : Nat} (h : sameP xs i j = true) (h2 : sameP xs j k = true) : sameP xs i k = true := by
 unfold sameP at h h2 ⊢; rw [beq_iff_eq] at h h2 ⊢; exact h2.trans h
theorem leastI_ex {xs : List Int} (i : Nat) (hi : i < 64) (hb : bitI xs i = true) : ∃ u, u < 64 ∧ bitI xs u = true ∧ sameP xs u i = true ∧ leastI xs u = true := by
 induction i using Nat.strongRecOn with
 | ind i ih =>
  cases q : leastI xs i with
  | true => exact ⟨i, hi, hb, Bal.sameP_refl xs i, q⟩
  | false =>
   have : ¬ ∀ j, j < i → bitI xs j = true → sameP xs i j = false := fun h => by rw [leastI_iff.2 h] at q; cases q
   obtain ⟨j, hj⟩ := Classical.not_forall.1 this
   obtain ⟨h1, hj⟩ := Classical.not_imp.1 hj
   obtain ⟨h2, hj⟩ := Classical.not_imp.1 hj
   have h3 : sameP xs i j = true := by cases r : sameP xs i j <;> simp_all
   obtain ⟨u, u1, u2, u3, u4⟩ := ih j h1 (by omega) h2
   exact ⟨u, u1, u2, same_trans u3 (same_symm h3), u4⟩
def NbZ (x y x' y' : Int) : Prop := (x = x' ∧ (y' = y + 1 ∨ y = y' + 1)) ∨ (y = y' ∧ (x' = x + 1 ∨ x = x' + 1))
theorem one_piece {xs : List Int} (ho : okR xs) (h1 : piecesN xs = 1) (Z : Int → Int → Prop)
  (hcl : ∀ x y x' y', hasB xs x y = true → Z x y → hasB xs x' y' = true → NbZ x y x' y' → Z x' y')
  {x y : Int} (hxy : hasB xs x y = true) (hz : Z x y) : ∀ x' y', hasB xs x' y' = true → Z x' y' := by
 intro x' y' hx'
 obtain ⟨seen, hseen⟩ : ∃ seen : Nat → Bool, ∀ v, seen v = true ↔ v < 64 ∧ bitI xs v = true ∧ Z ((v % 8 : Nat) : Int) ((v / 8 : Nat) : Int) :=
  ⟨fun v => @decide (v < 64 ∧ bitI xs v = true ∧ Z ((v % 8 : Nat) : Int) ((v / 8 : Nat) : Int)) (Classical.propDecidable _), fun v => by simp⟩
 have has : ∀ v, v < 64 → hasB xs ((v % 8 : Nat) : Int) ((v / 8 : Nat) : Int) = bitI xs v := fun v hv => by
  rw [hasB_at ho (by omega) (by omega), show 8 * (v / 8) + v % 8 = v by omega]
 have cell : ∀ a b : Int, hasB xs a b = true → ∃ v : Nat, v < 64 ∧ bitI xs v = true ∧ ((v % 8 : Nat) : Int) = a ∧ ((v / 8 : Nat) : Int) = b := fun a b h => by
  obtain ⟨_, a0, a7, b0, b7, _⟩ := hasB_iff.1 h
  refine ⟨8 * b.toNat + a.toNat, by omega, ?_, by omega, by omega⟩
  rw [← has _ (by omega)]
  rw [show (((8 * b.toNat + a.toNat) % 8 : Nat) : Int) = a by omega, show (((8 * b.toNat + a.toNat) / 8 : Nat) : Int) = b by omega]
  exact h
 obtain ⟨u, u1, u2, u3, u4⟩ := cell x y hxy
 obtain ⟨v, v1, v2, v3, v4⟩ := cell x' y' hx'
 have all : ∀ i j, i < 64 → j < 64 → bitI xs i = true → bitI xs j = true → sameP xs i j = true := fun i j hi hj bi' bj => by
  obtain ⟨a, a1, a2, a3, a4⟩ := leastI_ex i hi bi'
  obtain ⟨b, b1, b2, b3, b4⟩ := leastI_ex j hj bj
  have e := cnt_uniq (p := fun i => bitI xs i && leastI xs i) h1 a1 b1 (by simp only [a2, a4]; rfl) (by simp only [b2, b4]; rfl)
  subst e
  exact same_trans (same_symm a3) b3
 have key := flood64 (xs := xs) (seen := seen) (a := u) u1 ((hseen u).2 ⟨u1, u2, by rw [u3, u4]; exact hz⟩) (fun i hi hs => by
  obtain ⟨_, b, _⟩ := (hseen i).1 hs
  exact ⟨b, all u i u1 hi u2 b⟩) (fun i j hi hj hs hn hb => by
  obtain ⟨_, b, c⟩ := (hseen i).1 hs
  refine (hseen j).2 ⟨hj, hb, hcl _ _ _ _ ((has i hi).trans b) c ((has j hj).trans hb) ?_⟩
  unfold nbI at hn
  unfold NbZ
  omega) v v1
 rw [v2, all u v u1 v1 u2 v2] at key
 have := ((hseen v).1 key).2.2
 rwa [v3, v4] at this
theorem cell_all {G : Nat → Nat → Bool} {X Y : Cx} (h : Tl G X Y) {Z : Nat → Nat → Prop}
  (hH : ∀ i j, (G i j = true ∨ G i (j + 1) = true) → X i (j + 1) = false → (Z i (j + 1) ↔ Z (i + 1) (j + 1)))
  (hV : ∀ i j, (G i j = true ∨ G (i + 1) j = true) → Y (i + 1) j = false → (Z (i + 1) j ↔ Z (i + 1) (j + 1)))
  {a b : Nat} (hg : G a b = true) : (Z a b ↔ Z (a + 1) b) ∧ (Z a b ↔ Z a (b + 1)) ∧ (Z a b ↔ Z (a + 1) (b + 1)) := by
 have ho := h.out a b hg
 obtain ⟨a, rfl⟩ : ∃ c, a = c + 1 := ⟨a - 1, by omega⟩
 obtain ⟨b, rfl⟩ : ∃ c, b = c + 1 := ⟨b - 1, by omega⟩
 have o := h.one _ _ hg
 have t : X (a + 1) (b + 1) = false → (Z (a + 1) (b + 1) ↔ Z (a + 1 + 1) (b + 1)) := hH (a + 1) b (.inr hg)
 have d : X (a + 1) (b + 1 + 1) = false → (Z (a + 1) (b + 1 + 1) ↔ Z (a + 1 + 1) (b + 1 + 1)) := hH (a + 1) (b + 1) (.inl hg)
 have l : Y (a + 1) (b + 1) = false → (Z (a + 1) (b + 1) ↔ Z (a + 1) (b + 1 + 1)) := hV a (b + 1) (.inr hg)
 have r : Y (a + 1 + 1) (b + 1) = false → (Z (a + 1 + 1) (b + 1) ↔ Z (a + 1 + 1) (b + 1 + 1)) := hV (a + 1) (b + 1) (.inl hg)
 have z1 := bi_or (X (a + 1) (b + 1))
 have z2 := bi_or (X (a + 1) (b + 1 + 1))
 have z3 := bi_or (Y (a + 1) (b + 1))
 have z4 := bi_or (Y (a + 1 + 1) (b + 1))
 cases q1 : X (a + 1) (b + 1) with
 | true =>
  have e : bi true = 1 := rfl
  rw [q1] at o z1
  have d := d (bi_0.1 (by omega))
  have l := l (bi_0.1 (by omega))
  have r := r (bi_0.1 (by omega))
  exact ⟨l.trans (d.trans r.symm), l, l.trans d⟩
 | false =>
  have t := t q1
  cases q2 : X (a + 1) (b + 1 + 1) with
  | true =>
   have e : bi true = 1 := rfl
   rw [q2] at o z2
   have l := l (bi_0.1 (by omega))
   have r := r (bi_0.1 (by omega))
   exact ⟨t, l, t.trans r⟩
  | false =>
   have d := d q2
   cases q3 : Y (a + 1) (b + 1) with
   | true =>
    have e : bi true = 1 := rfl
    rw [q3] at o z3
    have r := r (bi_0.1 (by omega))
    exact ⟨t, t.trans (r.trans d.symm), t.trans r⟩
   | false =>
    have l := l q3
    exact ⟨t, l, l.trans d⟩
def cor (xs : List Int) (i j : Nat) : Prop := ∃ a b, gX xs a b = true ∧ (i = a ∨ i = a + 1) ∧ (j = b ∨ j = b + 1)
theorem gX_has {xs : List Int} {x y : Int} (h : hasB xs x y = true) : ∃ a b : Nat, (a : Int) = x + 1 ∧ (b : Int) = y + 1 ∧ gX xs a b = true := by
 obtain ⟨_, a0, a7, b0, b7, _⟩ := hasB_iff.1 h
 refine ⟨(x + 1).toNat, (y + 1).toNat, by omega, by omega, ?_⟩
 unfold gX
 rw [show (((x + 1).toNat : Nat) : Int) - 1 = x by omega, show (((y + 1).toNat : Nat) : Int) - 1 = y by omega]
 exact h
theorem all_cor {xs : List Int} (ho : okR xs) (h1 : piecesN xs = 1) {X Y : Cx} (h : Tl (gX xs) X Y) {Z : Nat → Nat → Prop}
  (hH : ∀ i j, (gX xs i j = true ∨ gX xs i (j + 1) = true) → X i (j + 1) = false → (Z i (j + 1) ↔ Z (i + 1) (j + 1)))
  (hV : ∀ i j, (gX xs i j = true ∨ gX xs (i + 1) j = true) → Y (i + 1) j = false → (Z (i + 1) j ↔ Z (i + 1) (j + 1)))
  {i j : Nat} (hc : cor xs i j) (hz : Z i j) : ∀ i' j', cor xs i' j' → Z i' j' := by
 have four : ∀ a b, gX xs a b = true → ∀ i j, (i = a ∨ i = a + 1) → (j = b ∨ j = b + 1) → (Z a b ↔ Z i j) := fun a b hg i j h1 h2 => by
  obtain ⟨c1, c2, c3⟩ := cell_all h hH hV hg
  rcases h1 with rfl | rfl <;> rcases h2 with rfl | rfl
  ·exact Iff.rfl
  ·exact c2
  ·exact c1
  ·exact c3
 obtain ⟨a, b, hg, hi, hj⟩ := hc
 have hab : Z a b := (four a b hg i j hi hj).2 hz
 have key := one_piece ho h1 (fun x y => ∀ a b : Nat, (a : Int) = x + 1 → (b : Int) = y + 1 → Z a b) (fun x y x' y' hxy hz' hx' hn a' b' ha' hb' => by
  obtain ⟨a1, b1, e1, e2, g1⟩ := gX_has hxy
  obtain ⟨a2, b2, e3, e4, g2⟩ := gX_has hx'
  have zz := hz' a1 b1 e1 e2
  have ea : a' = a2 := by omega
  have eb : b' = b2 := by omega
  subst ea; subst eb
  unfold NbZ at hn
  have hcom : ∃ i j, (i = a1 ∨ i = a1 + 1) ∧ (j = b1 ∨ j = b1 + 1) ∧ (i = a' ∨ i = a' + 1) ∧ (j = b' ∨ j = b' + 1) := ⟨max a1 a', max b1 b', by omega, by omega, by omega, by omega⟩
  obtain ⟨i, j, m1, m2, m3, m4⟩ := hcom
  exact (four a' b' g2 i j m3 m4).2 ((four a1 b1 g1 i j m1 m2).1 zz)) (x := (a : Int) - 1) (y := (b : Int) - 1) hg (fun a' b' ha hb => by
  have ea : a' = a := by omega
  have eb : b' = b := by omega
  subst ea; subst eb
  exact hab)
 intro i' j' ⟨a', b', g', hi', hj'⟩
 exact (four a' b' g' i' j' hi' hj').1 (key _ _ g' a' b' (by omega) (by omega))
theorem hts_uniq {xs : List Int} (ho : okR xs) (h1 : piecesN xs = 1) {X Y : Cx} (h : Tl (gX xs) X Y) {f g : Fm} (hf : Hts (gX xs) X Y f) (hg : Hts (gX xs) X Y g) {i j i' j' : Nat} (hc : cor xs i j) (hc' : cor xs i' j') : f i' j' - f i j = g i' j' - g i j := by
 have out : ∀ i j, gX xs i j = true → i < 10 ∧ j < 10 := fun i j q => by have := h.out i j q; omega
 have key := all_cor ho h1 h (Z := fun a b => f a b - f i j = g a b - g i j) (fun a b hab hx => by
  have l : a < 10 ∧ b < 10 := by rcases hab with q | q <;> have := h.out _ _ q <;> omega
  have e1 := hf.hor a b l.1 l.2 hab
  have e2 := hg.hor a b l.1 l.2 hab
  constructor <;> intro r <;> omega) (fun a b hab hx => by
  have l : a < 10 ∧ b < 10 := by rcases hab with q | q <;> have := h.out _ _ q <;> omega
  have e1 := hf.ver a b l.1 l.2 hab
  have e2 := hg.ver a b l.1 l.2 hab
  constructor <;> intro r <;> omega) hc (by omega)
 exact key i' j' hc'
end Go.Proofs.YtmajllgfmclcoaaGreatDoor.Hgt
namespace Go.Proofs.YtmajllgfmclcoaaGreatDoor.Hgt
open Go.RowKit Go.Proofs.YtmajllgfmclcoaaGreatDoor.Pure
open Bal (piecesN)
def crnB (xs : List Int) (v : Nat) : Bool := gX xs (v % 9) (v / 9) || gX xs (v % 9 + 1) (v / 9) || gX xs (v % 9) (v / 9 + 1) || gX xs (v % 9 + 1) (v / 9 + 1)
theorem crn_iff {xs : List Int} {v : Nat} : crnB xs v = true ↔ cor xs (v % 9 + 1) (v / 9 + 1) := by
 unfold crnB cor
 simp only [Bool.or_eq_true]
 constructor
 ·rintro (((h | h) | h) | h)
  ·exact ⟨_, _, h, .inr rfl, .inr rfl⟩
  ·exact ⟨_, _, h, .inl rfl, .inr rfl⟩
  ·exact ⟨_, _, h, .inr rfl, .inl rfl⟩
  ·exact ⟨_, _, h, .inl rfl, .inl rfl⟩
 ·rintro ⟨a, b, h, h1, h2⟩
  rcases h1 with h1 | h1 <;> rcases h2 with h2 | h2
  ·subst h1; subst h2; exact .inr h
  ·subst h1; obtain rfl : b = v / 9 := by omega
   exact .inl (.inl (.inr h))
  ·subst h2; obtain rfl : a = v % 9 := by omega
   exact .inl (.inr h)
  ·obtain rfl : a = v % 9 := by omega
   obtain rfl : b = v / 9 := by omega
   exact .inl (.inl (.inl h))
def frH (xs : List Int) (X : Cx) (v : Nat) : Bool := (gX xs (v % 9 + 1) (v / 9) || gX xs (v % 9 + 1) (v / 9 + 1)) && !X (v % 9 + 1) (v / 9 + 1)
def frV (xs : List Int) (Y : Cx) (v : Nat) : Bool := (gX xs (v % 9) (v / 9 + 1) || gX xs (v % 9 + 1) (v / 9 + 1)) && !Y (v % 9 + 1) (v / 9 + 1)
def Lk (xs : List Int) (X Y : Cx) (d v w : Nat) : Prop :=
 (d = 0 ∧ v % 9 < 8 ∧ w = v + 1 ∧ frH xs X v = true) ∨ (d = 1 ∧ v / 9 < 8 ∧ w = v + 9 ∧ frV xs Y v = true) ∨ (d = 2 ∧ w % 9 < 8 ∧ v = w + 1 ∧ frH xs X w = true) ∨ (d = 3 ∧ v = w + 9 ∧ frV xs Y w = true)
def es (d v : Nat) : Int := if (v % 9 + v / 9 + d) % 2 = 1 then 1 else -1
theorem es_or (d v : Nat) : es d v = 1 ∨ es d v = -1 := by unfold es; split <;> simp
section
variable {xs : List Int} {X Y : Cx}
theorem fr_H {v : Nat} (h : frH xs X v = true) : (gX xs (v % 9 + 1) (v / 9) = true ∨ gX xs (v % 9 + 1) (v / 9 + 1) = true) ∧ X (v % 9 + 1) (v / 9 + 1) = false := by
 unfold frH at h; simpa [Bool.and_eq_true, Bool.or_eq_true] using h
theorem fr_V {v : Nat} (h : frV xs Y v = true) : (gX xs (v % 9) (v / 9 + 1) = true ∨ gX xs (v % 9 + 1) (v / 9 + 1) = true) ∧ Y (v % 9 + 1) (v / 9 + 1) = false := by
 unfold frV at h; simpa [Bool.and_eq_true, Bool.or_eq_true] using h
theorem gX_lt {i j : Nat} (h : gX xs i j = true) : 1 ≤ i ∧ i ≤ 8 ∧ 1 ≤ j ∧ j ≤ 8 := by
 unfold gX at h
 have := hasB_iff.1 h
 omega
theorem Lk.lt {d v w : Nat} (hv : v < 81) (h : Lk xs X Y d v w) : w < 81 := by
 rcases h with ⟨_, a, rfl, _⟩ | ⟨_, a, rfl, _⟩ | ⟨_, _, e, _⟩ | ⟨_, e, _⟩ <;> omega
theorem Lk.crn {d v w : Nat} (h : Lk xs X Y d v w) : crnB xs v = true ∧ crnB xs w = true := by
 have hor : ∀ v, v % 9 < 8 → frH xs X v = true → crnB xs v = true ∧ crnB xs (v + 1) = true := fun v hv hf => by
  obtain ⟨hg, _⟩ := fr_H hf
  have e1 : (v + 1) % 9 = v % 9 + 1 := by omega
  have e2 : (v + 1) / 9 = v / 9 := by omega
  constructor
  ·rcases hg with q | q
   ·exact crn_iff.2 ⟨_, _, q, .inl rfl, .inr rfl⟩
   ·exact crn_iff.2 ⟨_, _, q, .inl rfl, .inl rfl⟩
  ·refine crn_iff.2 ?_
   rw [e1, e2]
   rcases hg with q | q
   ·exact ⟨_, _, q, .inr rfl, .inr rfl⟩
   ·exact ⟨_, _, q, .inr rfl, .inl rfl⟩
 have ver : ∀ v, frV xs Y v = true → crnB xs v = true ∧ crnB xs (v + 9) = true := fun v hf => by
  obtain ⟨hg, _⟩ := fr_V hf
  have e1 : (v + 9) % 9 = v % 9 := by omega
  have e2 : (v + 9) / 9 = v / 9 + 1 := by omega
  constructor
  ·rcases hg with q | q
   ·exact crn_iff.2 ⟨_, _, q, .inr rfl, .inl rfl⟩
   ·exact crn_iff.2 ⟨_, _, q, .inl rfl, .inl rfl⟩
  ·refine crn_iff.2 ?_
   rw [e1, e2]
   rcases hg with q | q
   ·exact ⟨_, _, q, .inr rfl, .inr rfl⟩
   ·exact ⟨_, _, q, .inl rfl, .inr rfl⟩
 rcases h with ⟨_, a, rfl, f⟩ | ⟨_, a, rfl, f⟩ | ⟨_, a, rfl, f⟩ | ⟨_, rfl, f⟩
 ·exact hor v a f
 ·exact ver v f
 ·exact ⟨(hor w a f).2, (hor w a f).1⟩
 ·exact ⟨(ver w f).2, (ver w f).1⟩
def at9 (f : Fm) (v : Nat) : Int := f (v % 9 + 1) (v / 9 + 1)
theorem Lk.step {f : Fm} (hf : Hts (gX xs) X Y f) {d v w : Nat} (h : Lk xs X Y d v w) : at9 f w = at9 f v + es d v := by
 have hor : ∀ v, v % 9 < 8 → frH xs X v = true → at9 f (v + 1) = at9 f v + (if (v % 9 + v / 9) % 2 = 1 then 1 else -1) := fun v hv hq => by
  obtain ⟨hg, hx⟩ := fr_H hq
  have l : v / 9 < 10 := by rcases hg with q | q <;> have := gX_lt q <;> omega
  have e := hf.hor (v % 9 + 1) (v / 9) (by omega) l hg
  unfold at9
  rw [show (v + 1) % 9 = v % 9 + 1 by omega, show (v + 1) / 9 = v / 9 by omega, e]
  unfold wH sg
  rw [hx, show bi false = 0 from rfl]
  split <;> split <;> omega
 have ver : ∀ v, frV xs Y v = true → at9 f (v + 9) = at9 f v + (if (v % 9 + v / 9) % 2 = 0 then 1 else -1) := fun v hq => by
  obtain ⟨hg, hx⟩ := fr_V hq
  have l : v / 9 + 1 < 10 := by rcases hg with q | q <;> have := gX_lt q <;> omega
  have e := hf.ver (v % 9) (v / 9 + 1) (by omega) l hg
  unfold at9
  rw [show (v + 9) % 9 = v % 9 by omega, show (v + 9) / 9 = v / 9 + 1 by omega, e]
  unfold wV sg
  rw [hx, show bi false = 0 from rfl]
  split <;> split <;> omega
 unfold es
 rcases h with ⟨rfl, a, rfl, q⟩ | ⟨rfl, a, rfl, q⟩ | ⟨rfl, a, rfl, q⟩ | ⟨rfl, rfl, q⟩
 ·rw [hor v a q]
  split <;> split <;> omega
 ·rw [ver v q]
  split <;> split <;> omega
 ·rw [hor w a q]
  split <;> split <;> omega
 ·rw [ver w q]
  split <;> split <;> omega
def lc (xs : List Int) : Nat := ((List.range 81).find? (crnB xs)).getD 0
theorem lc_of {c : Nat} (hc : c < 81) (h : crnB xs c = true) (hl : ∀ v, v < c → crnB xs v = false) : lc xs = c := by
 unfold lc
 have e : (List.range 81).find? (crnB xs) = some c := by
  rw [List.find?_eq_some_iff_getElem]
  refine ⟨h, c, by simpa using hc, by simp, fun j hj => ?_⟩
  rw [List.getElem_range, hl j hj]
  rfl
 rw [e]
 rfl
def hv (xs : List Int) (f : Fm) (v : Nat) : Int := at9 f v - at9 f (lc xs)
def hgL (xs : List Int) (f : Fm) : List Int := (List.range 81).map fun v => if crnB xs v then hv xs f v else -1000
variable {F : Nat → Int} {h : List Int} {q : List Nat} {k n : Nat}
end
end Go.Proofs.YtmajllgfmclcoaaGreatDoor.Hgt
namespace Go.Proofs.YtmajllgfmclcoaaGreatDoor.Hgt
open Go.RowKit Go.Proofs.YtmajllgfmclcoaaGreatDoor.Pure Dms Til Go.Joins
open Bal (piecesN outsN)
structure Row9 (xs : List Int) (L : List Dm) (hs : List Int) : Prop where
 ok : okR xs
 one : piecesN xs = 1
 til : tilB xs L = true
 lcl : lc xs < 81
 lcc : crnB xs (lc xs) = true
 f : ∃ f, Hts (gX xs) (xL L) (yL L) f ∧ hs = hgL xs f ∧ ∀ v, v < 81 → crnB xs v = true → -80 ≤ hv xs f v ∧ hv xs f v ≤ 80
theorem row_at (xs : List Int) (f : Fm) {v : Nat} (hv : v < 81) : (hgL xs f)[v]? = some (if crnB xs v then Hgt.hv xs f v else -1000) := by
 unfold hgL
 rw [List.getElem?_map, List.getElem?_range hv]
 rfl
theorem row_len (xs : List Int) (f : Fm) : (hgL xs f).length = 81 := by unfold hgL; simp
theorem row_uniq {xs : List Int} {L : List Dm} {h h' : List Int} (r : Row9 xs L h) (r' : Row9 xs L h') : h = h' := by
 obtain ⟨f, hf, e, _⟩ := r.f
 obtain ⟨g, hg, e', _⟩ := r'.f
 rw [e, e']
 unfold hgL
 refine List.map_congr_left (fun v hv => ?_)
 cases hb : crnB xs v with
 | false => rfl
 | true =>
  show Hgt.hv xs f v = Hgt.hv xs g v
  exact hts_uniq r.ok r.one (tl_of r.til) hf hg (crn_iff.1 r.lcc) (crn_iff.1 hb)
def gapA (d : Dm) : Nat := if d.2.2 then 9 * (d.2.1 + 1).toNat + d.1.toNat else 9 * d.2.1.toNat + (d.1 + 1).toNat
def gapB (d : Dm) : Nat := if d.2.2 then 9 * (d.2.1 + 1).toNat + d.1.toNat + 1 else 9 * (d.2.1.toNat + 1) + (d.1 + 1).toNat
theorem gap_dn {xs : List Int} {L : List Dm} {h : List Int} (r : Row9 xs L h) {x y : Int} (h1 : hasB xs x y = true) (h2 : hasB xs x (y + 1) = true) :
  ∃ u v : Int, h[9 * (y + 1).toNat + x.toNat]? = some u ∧ h[9 * (y + 1).toNat + x.toNat + 1]? = some v ∧ (-80 ≤ u ∧ u ≤ 80) ∧ (-80 ≤ v ∧ v ≤ 80) ∧ ((u - v = 3 ∨ v - u = 3) ↔ ((x, y, true) : Dm) ∈ L) := by
 obtain ⟨f, hf, rfl, bd⟩ := r.f
 obtain ⟨a, b, ea, eb, g1⟩ := gX_has h1
 obtain ⟨a', b', ea', eb', g2⟩ := gX_has h2
 obtain rfl : a' = a := by omega
 obtain rfl : b' = b + 1 := by omega
 have l1 := gX_lt g1
 have l2 := gX_lt g2
 have i1 : 9 * (y + 1).toNat + x.toNat = 9 * b + (a' - 1) := by omega
 have c1 : crnB xs (9 * b + (a' - 1)) = true := crn_iff.2 ⟨_, _, g2, .inl (by omega), .inl (by omega)⟩
 have c2 : crnB xs (9 * b + a') = true := crn_iff.2 ⟨_, _, g2, .inr (by omega), .inl (by omega)⟩
 rw [i1, show 9 * b + (a' - 1) + 1 = 9 * b + a' by omega, row_at xs f (by omega), row_at xs f (by omega), c1, c2]
 refine ⟨_, _, rfl, rfl, bd _ (by omega) c1, bd _ (by omega) c2, ?_⟩
 have e := hf.hor a' b (by omega) (by omega) (.inl g1)
 have x1 : at9 f (9 * b + a') = f (a' + 1) (b + 1) := by
  unfold at9
  rw [show (9 * b + a') % 9 = a' by omega, show (9 * b + a') / 9 = b by omega]
 have x2 : at9 f (9 * b + (a' - 1)) = f a' (b + 1) := by
  unfold at9
  rw [show (9 * b + (a' - 1)) % 9 + 1 = a' by omega, show (9 * b + (a' - 1)) / 9 = b by omega]
 have m : xL L a' (b + 1) = true ↔ ((x, y, true) : Dm) ∈ L := by
  rw [xL_iff, show (a' : Int) - 1 = x by omega, show ((b + 1 : Nat) : Int) - 2 = y by omega]
 rw [← m]
 show (hv xs f _ - hv xs f _ = 3 ∨ hv xs f _ - hv xs f _ = 3) ↔ _
 unfold hv
 rw [x1, x2, e]
 unfold wH
 rcases sg_one a' (b + 1) with q | q <;> rw [q] <;> cases xL L a' (b + 1) <;> simp only [bi, if_pos, if_neg] <;> constructor <;> intro z <;> simp_all <;> omega
theorem gap_rt {xs : List Int} {L : List Dm} {h : List Int} (r : Row9 xs L h) {x y : Int} (h1 : hasB xs x y = true) (h2 : hasB xs (x + 1) y = true) :
  ∃ u v : Int, h[9 * y.toNat + (x + 1).toNat]? = some u ∧ h[9 * (y + 1).toNat + (x + 1).toNat]? = some v ∧ (-80 ≤ u ∧ u ≤ 80) ∧ (-80 ≤ v ∧ v ≤ 80) ∧ ((u - v = 3 ∨ v - u = 3) ↔ ((x, y, false) : Dm) ∈ L) := by
 obtain ⟨f, hf, rfl, bd⟩ := r.f
 obtain ⟨a, b, ea, eb, g1⟩ := gX_has h1
 obtain ⟨a', b', ea', eb', g2⟩ := gX_has h2
 obtain rfl : a' = a + 1 := by omega
 obtain rfl : b' = b := by omega
 have l1 := gX_lt g1
 have l2 := gX_lt g2
 have i1 : 9 * y.toNat + (x + 1).toNat = 9 * (b' - 1) + a := by omega
 have i2 : 9 * (y + 1).toNat + (x + 1).toNat = 9 * b' + a := by omega
 have c1 : crnB xs (9 * (b' - 1) + a) = true := crn_iff.2 ⟨_, _, g2, .inl (by omega), .inl (by omega)⟩
 have c2 : crnB xs (9 * b' + a) = true := crn_iff.2 ⟨_, _, g2, .inl (by omega), .inr (by omega)⟩
 rw [i1, i2, row_at xs f (by omega), row_at xs f (by omega), c1, c2]
 refine ⟨_, _, rfl, rfl, bd _ (by omega) c1, bd _ (by omega) c2, ?_⟩
 have e := hf.ver a b' (by omega) (by omega) (.inl g1)
 have x1 : at9 f (9 * b' + a) = f (a + 1) (b' + 1) := by
  unfold at9
  rw [show (9 * b' + a) % 9 = a by omega, show (9 * b' + a) / 9 = b' by omega]
 have x2 : at9 f (9 * (b' - 1) + a) = f (a + 1) b' := by
  unfold at9
  rw [show (9 * (b' - 1) + a) % 9 = a by omega, show (9 * (b' - 1) + a) / 9 + 1 = b' by omega]
 have m : yL L (a + 1) b' = true ↔ ((x, y, false) : Dm) ∈ L := by
  rw [yL_iff, show ((a + 1 : Nat) : Int) - 2 = x by omega, show (b' : Int) - 1 = y by omega]
 rw [← m]
 show (hv xs f _ - hv xs f _ = 3 ∨ hv xs f _ - hv xs f _ = 3) ↔ _
 unfold hv
 rw [x1, x2, e]
 unfold wV
 rcases sg_one (a + 1) b' with q | q <;> rw [q] <;> cases yL L (a + 1) b' <;> simp only [bi, if_pos, if_neg] <;> constructor <;> intro z <;> simp_all <;> omega
end Go.Proofs.YtmajllgfmclcoaaGreatDoor.Hgt
namespace Go.Proofs.YtmajllgfmclcoaaGreatDoor.Hgt
open Go.RowKit Go.Proofs.YtmajllgfmclcoaaGreatDoor.Pure Dom Dms Til Grd Flp Go.Joins
open Bal (piecesN outsN)
theorem wrap_small {x : Int} (h : -1000000 ≤ x ∧ x ≤ 1000000) : wrap64 x = x := by unfold wrap64; omega
def gap (hs : List Int) (d : Dm) : Prop := ∃ u v : Int, hs[gapA d]? = some u ∧ hs[gapB d]? = some v ∧ (wrap64 (u - v) = 3 ∨ wrap64 (v - u) = 3)
theorem tf_of {xs : List Int} {M : List Dm} {hs : List Int} (r : Row9 xs M hs) {C : List Dm}
  (hC : ∀ e : Dm, okM e = true → (e ∈ C ↔ hasB xs e.1 e.2.1 = true ∧ hasB xs (sx e.1 e.2.2) (sy e.2.1 e.2.2) = true ∧ gap hs e)) : sortM C = M := by
 have hp := til_part r.til
 have hv := part_valid hp
 refine sortM_of (part_inc hp) (fun e => ?_)
 have main : okM e = true → hasB xs e.1 e.2.1 = true → hasB xs (sx e.1 e.2.2) (sy e.2.1 e.2.2) = true → (gap hs e ↔ e ∈ M) := fun ho h1 h2 => by
  obtain ⟨x, y, b⟩ := e
  cases b with
  | true =>
   have o := ok_dn ho
   have e2 : sy y true = y + 1 := by unfold sy; rw [if_pos rfl]; exact wrap_in (by omega) (by omega)
   have e1 : sx x true = x := by unfold sx; rw [if_pos rfl]
   simp only at h1 h2
   rw [e1, e2] at h2
   obtain ⟨u, v, a1, a2, b1, b2, key⟩ := gap_dn r h1 h2
   rw [← key]
   unfold gap gapA gapB
   simp only [if_pos]
   constructor
   ·rintro ⟨u', v', c1, c2, c3⟩
    rw [a1] at c1
    rw [a2] at c2
    injection c1 with c1
    injection c2 with c2
    subst c1
    subst c2
    rwa [wrap_small (by omega), wrap_small (by omega)] at c3
   ·intro h
    refine ⟨u, v, a1, a2, ?_⟩
    rwa [wrap_small (by omega), wrap_small (by omega)]
  | false =>
   have o := ok_rt ho
   have e1 : sx x false = x + 1 := by unfold sx; rw [if_neg (by simp)]; exact wrap_in (by omega) (by omega)
   have e2 : sy y false = y := by unfold sy; rw [if_neg (by simp)]
   simp only at h1 h2
   rw [e1, e2] at h2
   obtain ⟨u, v, a1, a2, b1, b2, key⟩ := gap_rt r h1 h2
   rw [← key]
   unfold gap gapA gapB
   simp only [Bool.false_eq_true, if_false]
   rw [show 9 * (y.toNat + 1) + (x + 1).toNat = 9 * (y + 1).toNat + (x + 1).toNat by omega]
   constructor
   ·rintro ⟨u', v', c1, c2, c3⟩
    rw [a1] at c1
    rw [a2] at c2
    injection c1 with c1
    injection c2 with c2
    subst c1
    subst c2
    rwa [wrap_small (by omega), wrap_small (by omega)] at c3
   ·intro h
    refine ⟨u, v, a1, a2, ?_⟩
    rwa [wrap_small (by omega), wrap_small (by omega)]
 constructor
 ·intro hm
  have ho := hv e hm
  have h1 : hasB xs e.1 e.2.1 = true := part_in hp hm (cov_of ho (.inl ⟨rfl, rfl⟩))
  have h2 : hasB xs (sx e.1 e.2.2) (sy e.2.1 e.2.2) = true := part_in hp hm (cov_of ho (.inr ⟨rfl, rfl⟩))
  exact ⟨(hC e ho).2 ⟨h1, h2, (main ho h1 h2).2 hm⟩, ho⟩
 ·rintro ⟨hm, ho⟩
  obtain ⟨h1, h2, h3⟩ := (hC e ho).1 hm
  exact (main ho h1 h2).1 h3
def sumH (hs : List Int) (k : Nat) : Int := (hs.take k).foldl (fun s h => if h = -1000 then s else wrap64 (s + h)) 0
theorem sumH_step {hs : List Int} {k : Nat} (hk : k < hs.length) : sumH hs (k + 1) = if hs[k] = -1000 then sumH hs k else wrap64 (sumH hs k + hs[k]) := by
 unfold sumH
 rw [List.take_succ_eq_append_getElem hk, List.foldl_append]
 rfl
def sumI : List Int → Int
 | [] => 0
 | h :: t => (if h = -1000 then 0 else h) + sumI t
theorem sumI_app (a b : List Int) : sumI (a ++ b) = sumI a + sumI b := by
 induction a with
 | nil => simp [sumI]
 | cons x t ih => simp only [List.cons_append, sumI, ih]; omega
theorem sumI_bd {a : List Int} (h : ∀ x ∈ a, x = -1000 ∨ (-80 ≤ x ∧ x ≤ 80)) : -80 * (a.length : Int) ≤ sumI a ∧ sumI a ≤ 80 * (a.length : Int) := by
 induction a with
 | nil => simp [sumI]
 | cons x t ih =>
  have := ih (fun y hy => h y (List.mem_cons_of_mem _ hy))
  have hx := h x (List.mem_cons_self ..)
  simp only [sumI, List.length_cons]
  split <;> omega
theorem sumH_I {hs : List Int} (hl : hs.length ≤ 1000) (h : ∀ x ∈ hs, x = -1000 ∨ (-80 ≤ x ∧ x ≤ 80)) : ∀ k, k ≤ hs.length → sumH hs k = sumI (hs.take k)
 | 0, _ => by simp [sumH, sumI]
 | k + 1, hk => by
  have hk' : k < hs.length := hk
  rw [sumH_step hk', sumH_I hl h k (by omega), List.take_succ_eq_append_getElem hk', sumI_app]
  have b := sumI_bd (a := hs.take k) (fun x hx => h x (List.mem_of_mem_take hx))
  rw [List.length_take, Nat.min_eq_left (by omega)] at b
  have hx := h hs[k] (List.getElem_mem hk')
  simp only [sumI]
  split
  ·omega
  ·rw [wrap_small (by omega)]; omega
theorem Row9.bd {xs : List Int} {L : List Dm} {h : List Int} (r : Row9 xs L h) : ∀ x ∈ h, x = -1000 ∨ (-80 ≤ x ∧ x ≤ 80) := by
 obtain ⟨f, _, rfl, b⟩ := r.f
 intro x hx
 unfold hgL at hx
 obtain ⟨v, hv, rfl⟩ := List.mem_map.1 hx
 have hv := List.mem_range.1 hv
 cases q : crnB xs v with
 | false => exact .inl rfl
 | true => exact .inr (b v hv q)
theorem Row9.len {xs : List Int} {L : List Dm} {h : List Int} (r : Row9 xs L h) : h.length = 81 := by
 obtain ⟨f, _, rfl, _⟩ := r.f
 exact row_len xs f
end Go.Proofs.YtmajllgfmclcoaaGreatDoor.Hgt
namespace Go.Proofs.YtmajllgfmclcoaaGreatDoor.Hgt
open Go.RowKit Go.Joins
def sgnE (s : Int) : Int := if s % 2 = 0 then 1 else -1
def stepE (ax ay bx by' : Int) : Int :=
 if 0 ≤ ax ∧ ax ≤ 8 ∧ 0 ≤ ay ∧ ay ≤ 8 ∧ 0 ≤ bx ∧ bx ≤ 8 ∧ 0 ≤ by' ∧ by' ≤ 8 then
  if bx = ax + 1 ∧ by' = ay then sgnE (ax + (ay - 1))
  else if ax = bx + 1 ∧ by' = ay then sgnE (bx + by')
  else if bx = ax ∧ by' = ay + 1 then sgnE (ax + ay)
  else if bx = ax ∧ ay = by' + 1 then sgnE (ax - 1 + by')
  else 0
 else 0
theorem step_out {ax ay bx by' : Int} (h : ¬ (0 ≤ ax ∧ ax ≤ 8 ∧ 0 ≤ ay ∧ ay ≤ 8 ∧ 0 ≤ bx ∧ bx ≤ 8 ∧ 0 ≤ by' ∧ by' ≤ 8)) : stepE ax ay bx by' = 0 := by unfold stepE; rw [if_neg h]
end Go.Proofs.YtmajllgfmclcoaaGreatDoor.Hgt
namespace Go.Proofs.YtmajllgfmclcoaaGreatDoor.Hgt
open Go.RowKit Go.Joins
def loE (a b : Int) : Int := if b < a then b else a
section
variable {w W W' : World} {m n u v : Int}
end
end Go.Proofs.YtmajllgfmclcoaaGreatDoor.Hgt
namespace Go.Proofs.YtmajllgfmclcoaaGreatDoor.Hgt
open Go.RowKit Go.Proofs.YtmajllgfmclcoaaGreatDoor.Pure Dms Go.Joins
def dX (d : Nat) : Int := if d = 0 then 1 else if d = 2 then -1 else 0
def dY (d : Nat) : Int := if d = 1 then 1 else if d = 3 then -1 else 0
def sdX (ax ay bx by' : Int) : Int := if ay = by' then loE ax bx else loE ax bx - 1
def sdY (ax ay bx by' : Int) : Int := if ay = by' then loE ay by' - 1 else loE ay by'
def sdM (ax ay bx by' : Int) : Dm := (sdX ax ay bx by', sdY ax ay bx by', decide (ay = by'))
theorem way_link {xs : List Int} {L : List Dm} {d v : Nat} (hv : v < 81) (hd : d < 4) {ax ay bx by' : Int} (e1 : ax = ((v % 9 : Nat) : Int)) (e2 : ay = ((v / 9 : Nat) : Int)) (e3 : bx = ax + dX d) (e4 : by' = ay + dY d) :
  (stepE ax ay bx by' = 0 ∧ ∀ w, ¬ Lk xs (xL L) (yL L) d v w) ∨
  (stepE ax ay bx by' = es d v ∧ (0 ≤ bx ∧ bx ≤ 8 ∧ 0 ≤ by' ∧ by' ≤ 8) ∧ ∃ w : Nat, w < 81 ∧ (w : Int) = by' * 9 + bx ∧ (∀ w', Lk xs (xL L) (yL L) d v w' → w' = w) ∧
   (Lk xs (xL L) (yL L) d v w ↔ (hasB xs (sdX ax ay bx by') (sdY ax ay bx by') = true ∨ hasB xs (loE ax bx) (loE ay by') = true) ∧ sdM ax ay bx by' ∉ L)) := by
 have fh : ∀ u : Nat, frH xs (xL L) u = true ↔ (hasB xs ((u % 9 : Nat) : Int) (((u / 9 : Nat) : Int) - 1) = true ∨ hasB xs ((u % 9 : Nat) : Int) ((u / 9 : Nat) : Int) = true) ∧ ((((u % 9 : Nat) : Int), ((u / 9 : Nat) : Int) - 1, true) : Dm) ∉ L := fun u => by
  unfold frH xL gX
  simp only [Bool.and_eq_true, Bool.or_eq_true, Bool.not_eq_true', decide_eq_false_iff_not]
  rw [show ((u % 9 + 1 : Nat) : Int) - 1 = ((u % 9 : Nat) : Int) by omega, show ((u / 9 + 1 : Nat) : Int) - 1 = ((u / 9 : Nat) : Int) by omega, show ((u / 9 + 1 : Nat) : Int) - 2 = ((u / 9 : Nat) : Int) - 1 by omega]
 have fv : ∀ u : Nat, frV xs (yL L) u = true ↔ (hasB xs (((u % 9 : Nat) : Int) - 1) ((u / 9 : Nat) : Int) = true ∨ hasB xs ((u % 9 : Nat) : Int) ((u / 9 : Nat) : Int) = true) ∧ ((((u % 9 : Nat) : Int) - 1, ((u / 9 : Nat) : Int), false) : Dm) ∉ L := fun u => by
  unfold frV yL gX
  simp only [Bool.and_eq_true, Bool.or_eq_true, Bool.not_eq_true', decide_eq_false_iff_not]
  rw [show ((u % 9 + 1 : Nat) : Int) - 1 = ((u % 9 : Nat) : Int) by omega, show ((u / 9 + 1 : Nat) : Int) - 1 = ((u / 9 : Nat) : Int) by omega, show ((u % 9 + 1 : Nat) : Int) - 2 = ((u % 9 : Nat) : Int) - 1 by omega]
 have h4 : d = 0 ∨ d = 1 ∨ d = 2 ∨ d = 3 := by omega
 unfold sdM sdX sdY
 rcases h4 with rfl | rfl | rfl | rfl
 ·have d1 : bx = ax + 1 := e3
  have d2 : by' = ay := by rw [e4]; show ay + 0 = ay; omega
  subst d2
  by_cases q : v % 9 < 8
  ·right
   refine ⟨?_, by omega, v + 1, by omega, by omega, fun w' h => by unfold Lk at h; omega, ?_⟩
   ·unfold stepE es sgnE
    rw [if_pos (by omega), if_pos (by omega)]
    split <;> split <;> omega
   ·unfold Lk
    rw [if_pos rfl, if_pos rfl]
    have l1 : loE ax bx = ax := by unfold loE; rw [if_neg (by omega)]
    have l2 : loE by' by' = by' := by unfold loE; simp
    rw [l1, l2, decide_eq_true (rfl : by' = by'), e1, e2, ← fh v]
    constructor
    ·rintro (⟨_, _, _, h⟩ | h | h | h)
     ·exact h
     all_goals omega
    ·exact fun h => .inl ⟨rfl, q, rfl, h⟩
  ·left
   refine ⟨?_, fun w h => by unfold Lk at h; omega⟩
   unfold stepE
   rw [if_neg (by omega)]
 ·have d1 : bx = ax := by rw [e3]; show ax + 0 = ax; omega
  have d2 : by' = ay + 1 := e4
  subst d1
  by_cases q : v / 9 < 8
  ·right
   refine ⟨?_, by omega, v + 9, by omega, by omega, fun w' h => by unfold Lk at h; omega, ?_⟩
   ·unfold stepE es sgnE
    rw [if_pos (by omega), if_neg (by omega), if_neg (by omega), if_pos (by omega)]
    split <;> split <;> omega
   ·unfold Lk
    rw [if_neg (by omega), if_neg (by omega)]
    have l1 : loE bx bx = bx := by unfold loE; simp
    have l2 : loE ay by' = ay := by unfold loE; rw [if_neg (by omega)]
    rw [l1, l2, decide_eq_false (by omega : ¬ ay = by'), e1, e2, ← fv v]
    constructor
    ·rintro (h | ⟨_, _, _, h⟩ | h | h)
     ·omega
     ·exact h
     all_goals omega
    ·exact fun h => .inr (.inl ⟨rfl, q, rfl, h⟩)
  ·left
   refine ⟨?_, fun w h => by unfold Lk at h; omega⟩
   unfold stepE
   rw [if_neg (by omega)]
 ·have d1 : bx = ax - 1 := by rw [e3]; show ax + -1 = ax - 1; omega
  have d2 : by' = ay := by rw [e4]; show ay + 0 = ay; omega
  subst d2
  by_cases q : 1 ≤ v % 9
  ·right
   refine ⟨?_, by omega, v - 1, by omega, by omega, fun w' h => by unfold Lk at h; omega, ?_⟩
   ·unfold stepE es sgnE
    rw [if_pos (by omega), if_neg (by omega), if_pos (by omega)]
    split <;> split <;> omega
   ·unfold Lk
    rw [if_pos rfl, if_pos rfl]
    have l1 : loE ax bx = (((v - 1) % 9 : Nat) : Int) := by unfold loE; rw [if_pos (by omega)]; omega
    have l2 : loE by' by' = (((v - 1) / 9 : Nat) : Int) := by unfold loE; simp; omega
    rw [l1, l2, decide_eq_true (rfl : by' = by'), ← fh (v - 1)]
    constructor
    ·rintro (h | h | ⟨_, _, _, h⟩ | h)
     ·omega
     ·omega
     ·exact h
     ·omega
    ·exact fun h => .inr (.inr (.inl ⟨rfl, by omega, by omega, h⟩))
  ·left
   refine ⟨?_, fun w h => by unfold Lk at h; omega⟩
   unfold stepE
   rw [if_neg (by omega)]
 ·have d1 : bx = ax := by rw [e3]; show ax + 0 = ax; omega
  have d2 : by' = ay - 1 := by rw [e4]; show ay + -1 = ay - 1; omega
  subst d1
  by_cases q : 1 ≤ v / 9
  ·right
   refine ⟨?_, by omega, v - 9, by omega, by omega, fun w' h => by unfold Lk at h; omega, ?_⟩
   ·unfold stepE es sgnE
    rw [if_pos (by omega), if_neg (by omega), if_neg (by omega), if_neg (by omega), if_pos (by omega)]
    split <;> split <;> omega
   ·unfold Lk
    rw [if_neg (by omega), if_neg (by omega)]
    have l1 : loE bx bx = (((v - 9) % 9 : Nat) : Int) := by unfold loE; simp; omega
    have l2 : loE ay by' = (((v - 9) / 9 : Nat) : Int) := by unfold loE; rw [if_pos (by omega)]; omega
    rw [l1, l2, decide_eq_false (by omega : ¬ ay = by'), ← fv (v - 9)]
    constructor
    ·rintro (h | h | h | ⟨_, _, h⟩)
     ·omega
     ·omega
     ·omega
     ·exact h
    ·exact fun h => .inr (.inr (.inr ⟨rfl, by omega, h⟩))
  ·left
   refine ⟨?_, fun w h => by unfold Lk at h; omega⟩
   unfold stepE
   rw [if_neg (by omega)]
end Go.Proofs.YtmajllgfmclcoaaGreatDoor.Hgt
