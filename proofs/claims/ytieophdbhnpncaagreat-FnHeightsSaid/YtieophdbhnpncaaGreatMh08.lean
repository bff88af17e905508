/- BalN, BalT, HgtO, HgrP, HgrS in one text. -/
import Derived.Test.YtieophdbhnpncaaGreatMh07

namespace Go.Proofs.YtieophdbhnpncaaGreat.Bal
set_option linter.unusedVariables false
open Go.Proofs.YtieophdbhnpncaaGreat.Pure Go.Proofs.YtieophdbhnpncaaGreat.Euler

theorem cR_has {xs : List Int} (ho : okR xs) {v : Nat} (hv : v < 100) : cR xs v = hasB xs (((v % 10 : Nat) : Int) - 1) (((v / 10 : Nat) : Int) - 1) := by
 rw [Bool.eq_iff_iff, hasB_iff]
 constructor
 ·intro h
  have h2 := h
  unfold cR at h
  simp only [Bool.and_eq_true, Bool.not_eq_true'] at h
  obtain ⟨r, b⟩ := h
  unfold ring at r
  simp only [Bool.or_eq_false_iff, beq_eq_false_iff_ne, ne_eq] at r
  refine ⟨ho, by omega, by omega, by omega, by omega, ?_⟩
  unfold bitI oi at b
  rw [show (8 * (v / 10 - 1) + (v % 10 - 1)) / 8 = (((v / 10 : Nat) : Int) - 1).toNat by omega, show (8 * (v / 10 - 1) + (v % 10 - 1)) % 8 = (((v % 10 : Nat) : Int) - 1).toNat by omega] at b
  exact b
 ·rintro ⟨_, x0, x7, y0, y7, b⟩
  unfold cR
  have r : ring v = false := by
   unfold ring
   simp only [Bool.or_eq_false_iff, beq_eq_false_iff_ne, ne_eq]
   omega
  rw [r]
  unfold bitI oi
  rw [show (8 * (v / 10 - 1) + (v % 10 - 1)) / 8 = (((v / 10 : Nat) : Int) - 1).toNat by omega, show (8 * (v / 10 - 1) + (v % 10 - 1)) % 8 = (((v % 10 : Nat) : Int) - 1).toNat by omega, b]
  rfl
theorem cnt_io {xs : List Int} {p : Nat → Bool} (h : ∀ v, v < 100 → p v = true → cR xs v = true) : cnt 100 p = cnt 64 (fun i => p (io i)) := by
 refine Nat.le_antisymm (cnt_inj _ _ _ _ oi ?_ ?_) (cnt_inj _ _ _ _ io ?_ ?_)
 ·intro v hv hp
  obtain ⟨l, e, _⟩ := cR_in hv (h v hv hp)
  exact ⟨l, by rw [e]; exact hp⟩
 ·intro u v hu hv h1 h2 e
  obtain ⟨_, e1, _⟩ := cR_in hu (h u hu h1)
  obtain ⟨_, e2, _⟩ := cR_in hv (h v hv h2)
  rw [← e1, ← e2, e]
 ·intro i hi hp; exact ⟨(io_lt hi).1, hp⟩
 ·intro i j _ _ _ _ e
  rw [← oi_io i, ← oi_io j, e]
def leastI (xs : List Int) (i : Nat) : Bool := (List.range i).all (fun j => !(bitI xs j && sameP xs i j))
theorem leastI_iff {xs : List Int} {i : Nat} : leastI xs i = true ↔ ∀ j, j < i → bitI xs j = true → sameP xs i j = false := by
 unfold leastI
 rw [List.all_eq_true]
 constructor
 ·intro h j hj hb
  have := h j (List.mem_range.2 hj)
  rw [hb] at this
  simpa using this
 ·intro h j hj
  cases hb : bitI xs j
  ·rfl
  ·rw [h j (List.mem_range.1 hj) hb]; rfl
theorem least_io {xs : List Int} {i : Nat} (hi : i < 64) (hb : bitI xs i = true) : least (pe xs) (io i) = leastI xs i := by
 have kc : ∀ v, cR xs (lab (pe xs) v) = cR xs v := lab_keeps (cR xs) (pe xs) (fun e he => by
  obtain ⟨a, b, ha, hb, rfl, _, b1, b2⟩ := pe_ends he
  show cR xs (io a) = cR xs (io b)
  rw [cR_io xs ha, cR_io xs hb, b1, b2])
 rw [Bool.eq_iff_iff, least_iff, leastI_iff]
 constructor
 ·intro h j hj hbj
  have := h (io j) (io_mono hj)
  unfold sameP
  rw [beq_eq_false_iff_ne]
  exact this
 ·intro h u hu e
  have hu1 : u < 100 := Nat.lt_trans hu (io_lt hi).1
  have c1 : cR xs u = true := by rw [← kc u, e, kc, cR_io xs hi, hb]
  obtain ⟨l, e1, b1⟩ := cR_in hu1 c1
  have lt : oi u < i := by
   rcases Nat.lt_trichotomy (oi u) i with q | q | q
   ·exact q
   ·rw [← e1, q] at hu; omega
   ·have := io_mono q; rw [e1] at this; omega
  have := h (oi u) lt b1
  unfold sameP at this
  rw [beq_eq_false_iff_ne, e1] at this
  exact this e
def piecesN (xs : List Int) : Nat := cnt 64 (fun i => bitI xs i && leastI xs i)
def outsN (xs : List Int) : Nat := cnt 100 (fun v => !cR xs v && least (h8 (cR xs)) v)
theorem outs_pos (xs : List Int) : 1 ≤ outsN xs := by
 unfold outsN
 rw [cnt_less _ 0 (by rw [cR_ring xs 0 (by omega) rfl]; rfl) 100 (by omega)]
 omega
end Go.Proofs.YtieophdbhnpncaaGreat.Bal

namespace Go.Proofs.YtieophdbhnpncaaGreat.Bal
set_option linter.unusedVariables false
open Go.Proofs.YtieophdbhnpncaaGreat.Pure

def cellI (i : Nat) : Int × Int := (((i % 8 : Nat) : Int), ((i / 8 : Nat) : Int))
theorem cellI_inj {i j : Nat} (h : cellI i = cellI j) : i = j := by
 unfold cellI at h
 have h1 := congrArg Prod.fst h
 have h2 := congrArg Prod.snd h
 simp only at h1 h2
 omega
theorem piece_first {xs : List Int} {a : Nat} (ha : a < 64) (hb : bitI xs a = true) : ∃ m, m < 64 ∧ (pieceTo xs a 64)[0]? = some (cellI m) ∧ (m = a ↔ leastI xs a = true) := by
 have e : (pieceTo xs a 64)[0]? = ((List.range 64).find? fun j => bitI xs j && sameP xs a j).map cellI := by
  unfold pieceTo
  rw [List.getElem?_map, ← List.head?_eq_getElem?, List.head?_filter]
  rfl
 cases hf : (List.range 64).find? fun j => bitI xs j && sameP xs a j with
 | none =>
  have := List.find?_eq_none.1 hf a (List.mem_range.2 ha)
  rw [hb, sameP_refl] at this
  exact absurd rfl this
 | some m =>
  obtain ⟨p, hm, hl⟩ := List.find?_range_eq_some.1 hf
  refine ⟨m, List.mem_range.1 hm, by rw [e, hf]; rfl, ?_⟩
  rw [leastI_iff]
  constructor
  ·rintro rfl j hj hbj
   have := hl j hj
   rw [hbj] at this
   simpa using this
  ·intro h
   rcases Nat.lt_trichotomy m a with q | q | q
   ·simp only [Bool.and_eq_true] at p
    rw [h m q p.1] at p
    exact absurd p.2 (by simp)
   ·exact q
   ·have := hl a q
    rw [hb, sameP_refl] at this
    exact absurd this (by simp)
theorem hasB_at {xs : List Int} (ho : okR xs) {u v : Nat} (hu : u < 8) (hv : v < 8) : hasB xs (u : Int) (v : Int) = bitI xs (8 * v + u) := by
 rw [Bool.eq_iff_iff, hasB_iff]
 unfold bitI
 rw [show (8 * v + u) / 8 = v by omega, show (8 * v + u) % 8 = u by omega]
 constructor
 ·rintro ⟨_, _, _, _, _, b⟩; simpa using b
 ·intro b; exact ⟨ho, by omega, by omega, by omega, by omega, by simpa using b⟩
theorem hasB_out {xs : List Int} {u v : Int} (h : ¬ (0 ≤ u ∧ u ≤ 7 ∧ 0 ≤ v ∧ v ≤ 7)) : hasB xs u v = false := by
 cases k : hasB xs u v
 ·rfl
 ·exact absurd (by obtain ⟨_, a, b, c, d, _⟩ := hasB_iff.1 k; exact ⟨a, b, c, d⟩) h
def touchAt (xs : List Int) (i : Nat) : Bool := (bitI xs i == bitI xs (i + 9)) && (bitI xs (i + 1) == bitI xs (i + 8)) && (bitI xs i != bitI xs (i + 1))
def Touch (xs : List Int) : Prop := ∃ i, i < 64 ∧ i % 8 < 7 ∧ i / 8 < 7 ∧ touchAt xs i = true
end Go.Proofs.YtieophdbhnpncaaGreat.Bal

namespace Go.Proofs.YtieophdbhnpncaaGreat.Hgt
set_option linter.unusedVariables false
set_option linter.unusedSimpArgs false
open Go.RowKit Go.Proofs.YtieophdbhnpncaaGreat.Pure Go.Joins
open Go.Proofs.YtieophdbhnpncaaGreat.Bal (cR bitI hasB_at hasB_out flood100 adj8 outsN cR_ring touchAt)
open Go.Proofs.YtieophdbhnpncaaGreat.Euler (lab h8 ring oi least least_ex least_iff cnt cnt_less lab_keeps h8_ends)

theorem gX_cR {xs : List Int} (ho : okR xs) {i j : Nat} (hi : i < 10) (hj : j < 10) : gX xs i j = cR xs (10 * j + i) := by
 unfold gX cR
 by_cases q : 1 ≤ i ∧ i ≤ 8 ∧ 1 ≤ j ∧ j ≤ 8
 ·have e := hasB_at ho (u := i - 1) (v := j - 1) (by omega) (by omega)
  rw [show ((i - 1 : Nat) : Int) = (i : Int) - 1 by omega, show ((j - 1 : Nat) : Int) = (j : Int) - 1 by omega] at e
  rw [e]
  have h1 : ring (10 * j + i) = false := by
   unfold ring
   rw [show (10 * j + i) % 10 = i by omega, show (10 * j + i) / 10 = j by omega]
   have a : (i == 0) = false := by simp; omega
   have b : (i == 9) = false := by simp; omega
   have c : (j == 0) = false := by simp; omega
   have d : (j == 9) = false := by simp; omega
   rw [a, b, c, d]; rfl
  rw [h1]
  unfold oi
  rw [show (10 * j + i) % 10 = i by omega, show (10 * j + i) / 10 = j by omega]
  rfl
 ·rw [hasB_out (by omega)]
  have h1 : ring (10 * j + i) = true := by
   unfold ring
   rw [show (10 * j + i) % 10 = i by omega, show (10 * j + i) / 10 = j by omega]
   simp
   omega
  rw [h1]; rfl
theorem cnt_uniq {n : Nat} {p : Nat → Bool} (h : cnt n p = 1) {a b : Nat} (ha : a < n) (hb : b < n) (pa : p a = true) (pb : p b = true) : a = b := by
 refine Classical.byContradiction fun hne => ?_
 have h1 := cnt_less p a pa n ha
 have h2 := cnt_less (fun w => p w && !(w == a)) b (by simp only [pb, Bool.true_and]; simp; exact fun e => hne e.symm) n hb
 omega
theorem no_touch {xs : List Int} (ho : okR xs) (ht : ¬ Bal.Touch xs) (a b : Nat) :
  ¬ (gX xs a b = false ∧ gX xs (a + 1) (b + 1) = false ∧ gX xs (a + 1) b = true ∧ gX xs a (b + 1) = true) ∧ ¬ (gX xs a b = true ∧ gX xs (a + 1) (b + 1) = true ∧ gX xs (a + 1) b = false ∧ gX xs a (b + 1) = false) := by
 have rg : ∀ i j, gX xs i j = true → 1 ≤ i ∧ i ≤ 8 ∧ 1 ≤ j ∧ j ≤ 8 := fun i j h => by have := hasB_iff.1 h; omega
 have bt : ∀ i j, 1 ≤ i → i ≤ 8 → 1 ≤ j → j ≤ 8 → gX xs i j = bitI xs (8 * (j - 1) + (i - 1)) := fun i j h1 h2 h3 h4 => by
  have e := hasB_at ho (u := i - 1) (v := j - 1) (by omega) (by omega)
  rw [show ((i - 1 : Nat) : Int) = (i : Int) - 1 by omega, show ((j - 1 : Nat) : Int) = (j : Int) - 1 by omega] at e
  exact e
 have fin : 1 ≤ a → a ≤ 7 → 1 ≤ b → b ≤ 7 → (gX xs a b = gX xs (a + 1) (b + 1) ∧ gX xs (a + 1) b = gX xs a (b + 1) ∧ gX xs a b ≠ gX xs (a + 1) b) → False := fun h1 h2 h3 h4 ⟨q1, q2, q3⟩ => by
  refine ht ⟨8 * (b - 1) + (a - 1), by omega, by omega, by omega, ?_⟩
  rw [bt a b (by omega) (by omega) (by omega) (by omega), bt (a + 1) (b + 1) (by omega) (by omega) (by omega) (by omega)] at q1
  rw [bt (a + 1) b (by omega) (by omega) (by omega) (by omega), bt a (b + 1) (by omega) (by omega) (by omega) (by omega)] at q2
  rw [bt a b (by omega) (by omega) (by omega) (by omega), bt (a + 1) b (by omega) (by omega) (by omega) (by omega)] at q3
  rw [show 8 * (b + 1 - 1) + (a + 1 - 1) = 8 * (b - 1) + (a - 1) + 9 by omega] at q1
  rw [show 8 * (b - 1) + (a + 1 - 1) = 8 * (b - 1) + (a - 1) + 1 by omega, show 8 * (b + 1 - 1) + (a - 1) = 8 * (b - 1) + (a - 1) + 8 by omega] at q2
  rw [show 8 * (b - 1) + (a + 1 - 1) = 8 * (b - 1) + (a - 1) + 1 by omega] at q3
  unfold touchAt
  rw [q1, q2, beq_self_eq_true, beq_self_eq_true, Bool.true_and, Bool.true_and, ← q1, ← q2]
  simpa using q3
 constructor
 ·rintro ⟨h1, h2, h3, h4⟩
  have r1 := rg _ _ h3
  have r2 := rg _ _ h4
  exact fin (by omega) (by omega) (by omega) (by omega) ⟨h1.trans h2.symm, h3.trans h4.symm, by rw [h1, h3]; simp⟩
 ·rintro ⟨h1, h2, h3, h4⟩
  have r1 := rg _ _ h1
  have r2 := rg _ _ h2
  exact fin (by omega) (by omega) (by omega) (by omega) ⟨h1.trans h2.symm, h3.trans h4.symm, by rw [h1, h3]; simp⟩
theorem one_simple {xs : List Int} (ho : okR xs) (h1 : outsN xs = 1) (ht : ¬ Bal.Touch xs) : One (gX xs) := by
 intro Z h0 hcl d hd
 have hR : ∀ i j, i < 10 → j < 10 → gX xs i j = false → (decide (i < 10) && decide (j < 10) && !gX xs i j) = true := fun i j hi hj hg => by simp [hi, hj, hg]
 have step : ∀ i j i' j', i' < 10 → j' < 10 → gX xs i' j' = false → Z (i, j) → nb (i', j') (i, j) → Z (i', j') := fun i j i' j' hi hj hg hz hn => hcl (i, j) (i', j') hz (hR i' j' hi hj hg) hn
 have hnt := no_touch ho ht
 -- all labels are the ring's
 have hlab : ∀ v, v < 100 → cR xs v = false → lab (h8 (cR xs)) v = lab (h8 (cR xs)) 0 := fun v hv hc => by
  obtain ⟨u, hu, e, hl⟩ := least_ex (h8 (cR xs)) v
  have hkeep := lab_keeps (cR xs) (h8 (cR xs)) (fun e he => by
   obtain ⟨_, _, _, _, c1, c2⟩ := h8_ends he
   rw [c1, c2])
  have hcu : cR xs u = false := by rw [← hkeep u, e, hkeep v, hc]
  have hl0 : least (h8 (cR xs)) 0 = true := least_iff.2 (fun u hu => by omega)
  have e0 := cnt_uniq (p := fun v => !cR xs v && least (h8 (cR xs)) v) h1 (a := u) (b := 0) (by omega) (by omega) (by simp only [hcu, hl]; rfl) (by simp only [cR_ring xs 0 (by omega) rfl, hl0]; rfl)
  rw [← e, e0]
 obtain ⟨seen, hseen⟩ : ∃ seen : Nat → Bool, ∀ v, seen v = true ↔ v < 100 ∧ cR xs v = false ∧ Z (v % 10, v / 10) :=
  ⟨fun v => @decide (v < 100 ∧ cR xs v = false ∧ Z (v % 10, v / 10)) (Classical.propDecidable _), fun v => by simp⟩
 have key := flood100 (c := cR xs) (seen := seen) (a := 0) ((hseen 0).2 ⟨by omega, cR_ring xs 0 (by omega) rfl, h0⟩) (fun v hv => by
  obtain ⟨a, b, _⟩ := (hseen v).1 hv
  exact hlab v a b) (fun u v hu hv hs ha cu cv => by
  obtain ⟨_, _, hz⟩ := (hseen u).1 hs
  refine (hseen v).2 ⟨hv, cv, ?_⟩
  have gu : gX xs (u % 10) (u / 10) = false := by rw [gX_cR ho (by omega) (by omega), show 10 * (u / 10) + u % 10 = u by omega]; exact cu
  have gv : gX xs (v % 10) (v / 10) = false := by rw [gX_cR ho (by omega) (by omega), show 10 * (v / 10) + v % 10 = v by omega]; exact cv
  unfold adj8 at ha
  simp only [Bool.and_eq_true, decide_eq_true_eq] at ha
  have bi1 : u % 10 < 10 ∧ u / 10 < 10 ∧ v % 10 < 10 ∧ v / 10 < 10 := by omega
  generalize u % 10 = i at *
  generalize u / 10 = j at *
  generalize v % 10 = i' at *
  generalize v / 10 = j' at *
  obtain ⟨⟨⟨a1, a2⟩, a3⟩, a4⟩ := ha
  obtain ⟨b1, b2, b3, b4⟩ := bi1
  by_cases ei : i = i'
  ·subst ei
   by_cases ej : j = j'
   ·subst ej; exact hz
   ·exact step i j i j' b3 b4 gv hz (.inr ⟨rfl, by simp only; omega⟩)
  ·by_cases ej : j = j'
   ·subst ej
    exact step i j i' j b3 b4 gv hz (.inl ⟨rfl, by simp only; omega⟩)
   ·-- two cells that touch in a corner: one of the others is of the rest
    by_cases g1 : gX xs i' j = false
    ·have z1 := step i j i' j b3 b2 g1 hz (.inl ⟨rfl, by simp only; omega⟩)
     exact step i' j i' j' b3 b4 gv z1 (.inr ⟨rfl, by simp only; omega⟩)
    ·have g1 : gX xs i' j = true := by cases q : gX xs i' j <;> simp_all
     by_cases g2 : gX xs i j' = false
     ·have z1 := step i j i j' b1 b4 g2 hz (.inr ⟨rfl, by simp only; omega⟩)
      exact step i j' i' j' b3 b4 gv z1 (.inl ⟨rfl, by simp only; omega⟩)
     ·have g2 : gX xs i j' = true := by cases q : gX xs i j' <;> simp_all
      exfalso
      have hi : i' = i + 1 ∨ i = i' + 1 := by omega
      have hj : j' = j + 1 ∨ j = j' + 1 := by omega
      rcases hi with rfl | rfl <;> rcases hj with rfl | rfl
      ·exact (hnt i j).1 ⟨gu, gv, g1, g2⟩
      ·exact (hnt i j').2 ⟨g2, g1, gv, gu⟩
      ·exact (hnt i' j).2 ⟨g1, g2, gu, gv⟩
      ·exact (hnt i' j').1 ⟨gv, gu, g2, g1⟩)
 obtain ⟨di, dj⟩ := d
 simp only [Bool.and_eq_true, decide_eq_true_eq, Bool.not_eq_true'] at hd
 obtain ⟨⟨d1, d2⟩, d3⟩ := hd
 have hc : cR xs (10 * dj + di) = false := by rw [← gX_cR ho d1 d2]; exact d3
 have k := key (10 * dj + di)
 rw [hlab _ (by omega) hc, beq_self_eq_true] at k
 have := ((hseen _).1 k).2.2
 rw [show (10 * dj + di) % 10 = di by omega, show (10 * dj + di) / 10 = dj by omega] at this
 exact this
end Go.Proofs.YtieophdbhnpncaaGreat.Hgt

namespace Go.Proofs.YtieophdbhnpncaaGreat.Hgt
set_option linter.unusedVariables false
set_option linter.unusedSimpArgs false
open Go.RowKit Go.Proofs.YtieophdbhnpncaaGreat.Pure Go.Proofs.YtieophdbhnpncaaGreat.Flp Go.Joins
open Go.Proofs.YtieophdbhnpncaaGreat.Bal (cR bitI hasB_at hasB_out nbI sameP leastI leastI_iff piecesN flood64 pe)
open Go.Proofs.YtieophdbhnpncaaGreat.Euler (lab cnt)

theorem same_symm {xs : List Int} {i j : Nat} (h : sameP xs i j = true) : sameP xs j i = true := by
 unfold sameP at h ⊢; rw [beq_iff_eq] at h ⊢; exact h.symm
theorem same_trans {xs : List Int} {i j k : Nat} (h : sameP xs i j = true) (h2 : sameP xs j k = true) : sameP xs i k = true := by
 unfold sameP at h h2 ⊢; rw [beq_iff_eq] at h h2 ⊢; exact h2.trans h
theorem leastI_ex {xs : List Int} (i : Nat) (hi : i < 64) (hb : bitI xs i = true) : ∃ u, u < 64 ∧ bitI xs u = true ∧ sameP xs u i = true ∧ leastI xs u = true := by
 induction i using Nat.strongRecOn with
 | ind i ih =>
  cases q : leastI xs i with
  | true => exact ⟨i, hi, hb, Bal.sameP_refl xs i, q⟩
  | false =>
   have : ¬ ∀ j, j < i → bitI xs j = true → sameP xs i j = false := fun h => by rw [leastI_iff.2 h] at q; cases q
   obtain ⟨j, hj⟩ := Classical.not_forall.1 this
   obtain ⟨h1, hj⟩ := Classical.not_imp.1 hj
   obtain ⟨h2, hj⟩ := Classical.not_imp.1 hj
   have h3 : sameP xs i j = true := by cases r : sameP xs i j <;> simp_all
   obtain ⟨u, u1, u2, u3, u4⟩ := ih j h1 (by omega) h2
   exact ⟨u, u1, u2, same_trans u3 (same_symm h3), u4⟩
def NbZ (x y x' y' : Int) : Prop := (x = x' ∧ (y' = y + 1 ∨ y = y' + 1)) ∨ (y = y' ∧ (x' = x + 1 ∨ x = x' + 1))
theorem one_piece {xs : List Int} (ho : okR xs) (h1 : piecesN xs = 1) (Z : Int → Int → Prop)
  (hcl : ∀ x y x' y', hasB xs x y = true → Z x y → hasB xs x' y' = true → NbZ x y x' y' → Z x' y')
  {x y : Int} (hxy : hasB xs x y = true) (hz : Z x y) : ∀ x' y', hasB xs x' y' = true → Z x' y' := by
 intro x' y' hx'
 obtain ⟨seen, hseen⟩ : ∃ seen : Nat → Bool, ∀ v, seen v = true ↔ v < 64 ∧ bitI xs v = true ∧ Z ((v % 8 : Nat) : Int) ((v / 8 : Nat) : Int) :=
  ⟨fun v => @decide (v < 64 ∧ bitI xs v = true ∧ Z ((v % 8 : Nat) : Int) ((v / 8 : Nat) : Int)) (Classical.propDecidable _), fun v => by simp⟩
 have has : ∀ v, v < 64 → hasB xs ((v % 8 : Nat) : Int) ((v / 8 : Nat) : Int) = bitI xs v := fun v hv => by
  rw [hasB_at ho (by omega) (by omega), show 8 * (v / 8) + v % 8 = v by omega]
 have cell : ∀ a b : Int, hasB xs a b = true → ∃ v : Nat, v < 64 ∧ bitI xs v = true ∧ ((v % 8 : Nat) : Int) = a ∧ ((v / 8 : Nat) : Int) = b := fun a b h => by
  obtain ⟨_, a0, a7, b0, b7, _⟩ := hasB_iff.1 h
  refine ⟨8 * b.toNat + a.toNat, by omega, ?_, by omega, by omega⟩
  rw [← has _ (by omega)]
  rw [show (((8 * b.toNat + a.toNat) % 8 : Nat) : Int) = a by omega, show (((8 * b.toNat + a.toNat) / 8 : Nat) : Int) = b by omega]
  exact h
 obtain ⟨u, u1, u2, u3, u4⟩ := cell x y hxy
 obtain ⟨v, v1, v2, v3, v4⟩ := cell x' y' hx'
 have all : ∀ i j, i < 64 → j < 64 → bitI xs i = true → bitI xs j = true → sameP xs i j = true := fun i j hi hj bi' bj => by
  obtain ⟨a, a1, a2, a3, a4⟩ := leastI_ex i hi bi'
  obtain ⟨b, b1, b2, b3, b4⟩ := leastI_ex j hj bj
  have e := cnt_uniq (p := fun i => bitI xs i && leastI xs i) h1 a1 b1 (by simp only [a2, a4]; rfl) (by simp only [b2, b4]; rfl)
  subst e
  exact same_trans (same_symm a3) b3
 have key := flood64 (xs := xs) (seen := seen) (a := u) u1 ((hseen u).2 ⟨u1, u2, by rw [u3, u4]; exact hz⟩) (fun i hi hs => by
  obtain ⟨_, b, _⟩ := (hseen i).1 hs
  exact ⟨b, all u i u1 hi u2 b⟩) (fun i j hi hj hs hn hb => by
  obtain ⟨_, b, c⟩ := (hseen i).1 hs
  refine (hseen j).2 ⟨hj, hb, hcl _ _ _ _ ((has i hi).trans b) c ((has j hj).trans hb) ?_⟩
  unfold nbI at hn
  unfold NbZ
  omega) v v1
 rw [v2, all u v u1 v1 u2 v2] at key
 have := ((hseen v).1 key).2.2
 rwa [v3, v4] at this
theorem cell_all {G : Nat → Nat → Bool} {X Y : Cx} (h : Tl G X Y) {Z : Nat → Nat → Prop}
  (hH : ∀ i j, (G i j = true ∨ G i (j + 1) = true) → X i (j + 1) = false → (Z i (j + 1) ↔ Z (i + 1) (j + 1)))
  (hV : ∀ i j, (G i j = true ∨ G (i + 1) j = true) → Y (i + 1) j = false → (Z (i + 1) j ↔ Z (i + 1) (j + 1)))
  {a b : Nat} (hg : G a b = true) : (Z a b ↔ Z (a + 1) b) ∧ (Z a b ↔ Z a (b + 1)) ∧ (Z a b ↔ Z (a + 1) (b + 1)) := by
 have ho := h.out a b hg
 obtain ⟨a, rfl⟩ : ∃ c, a = c + 1 := ⟨a - 1, by omega⟩
 obtain ⟨b, rfl⟩ : ∃ c, b = c + 1 := ⟨b - 1, by omega⟩
 have o := h.one _ _ hg
 have t : X (a + 1) (b + 1) = false → (Z (a + 1) (b + 1) ↔ Z (a + 1 + 1) (b + 1)) := hH (a + 1) b (.inr hg)
 have d : X (a + 1) (b + 1 + 1) = false → (Z (a + 1) (b + 1 + 1) ↔ Z (a + 1 + 1) (b + 1 + 1)) := hH (a + 1) (b + 1) (.inl hg)
 have l : Y (a + 1) (b + 1) = false → (Z (a + 1) (b + 1) ↔ Z (a + 1) (b + 1 + 1)) := hV a (b + 1) (.inr hg)
 have r : Y (a + 1 + 1) (b + 1) = false → (Z (a + 1 + 1) (b + 1) ↔ Z (a + 1 + 1) (b + 1 + 1)) := hV (a + 1) (b + 1) (.inl hg)
 have z1 := bi_or (X (a + 1) (b + 1))
 have z2 := bi_or (X (a + 1) (b + 1 + 1))
 have z3 := bi_or (Y (a + 1) (b + 1))
 have z4 := bi_or (Y (a + 1 + 1) (b + 1))
 cases q1 : X (a + 1) (b + 1) with
 | true =>
  have e : bi true = 1 := rfl
  rw [q1] at o z1
  have d := d (bi_0.1 (by omega))
  have l := l (bi_0.1 (by omega))
  have r := r (bi_0.1 (by omega))
  exact ⟨l.trans (d.trans r.symm), l, l.trans d⟩
 | false =>
  have t := t q1
  cases q2 : X (a + 1) (b + 1 + 1) with
  | true =>
   have e : bi true = 1 := rfl
   rw [q2] at o z2
   have l := l (bi_0.1 (by omega))
   have r := r (bi_0.1 (by omega))
   exact ⟨t, l, t.trans r⟩
  | false =>
   have d := d q2
   cases q3 : Y (a + 1) (b + 1) with
   | true =>
    have e : bi true = 1 := rfl
    rw [q3] at o z3
    have r := r (bi_0.1 (by omega))
    exact ⟨t, t.trans (r.trans d.symm), t.trans r⟩
   | false =>
    have l := l q3
    exact ⟨t, l, l.trans d⟩
def cor (xs : List Int) (i j : Nat) : Prop := ∃ a b, gX xs a b = true ∧ (i = a ∨ i = a + 1) ∧ (j = b ∨ j = b + 1)
theorem gX_has {xs : List Int} {x y : Int} (h : hasB xs x y = true) : ∃ a b : Nat, (a : Int) = x + 1 ∧ (b : Int) = y + 1 ∧ gX xs a b = true := by
 obtain ⟨_, a0, a7, b0, b7, _⟩ := hasB_iff.1 h
 refine ⟨(x + 1).toNat, (y + 1).toNat, by omega, by omega, ?_⟩
 unfold gX
 rw [show (((x + 1).toNat : Nat) : Int) - 1 = x by omega, show (((y + 1).toNat : Nat) : Int) - 1 = y by omega]
 exact h
theorem all_cor {xs : List Int} (ho : okR xs) (h1 : piecesN xs = 1) {X Y : Cx} (h : Tl (gX xs) X Y) {Z : Nat → Nat → Prop}
  (hH : ∀ i j, (gX xs i j = true ∨ gX xs i (j + 1) = true) → X i (j + 1) = false → (Z i (j + 1) ↔ Z (i + 1) (j + 1)))
  (hV : ∀ i j, (gX xs i j = true ∨ gX xs (i + 1) j = true) → Y (i + 1) j = false → (Z (i + 1) j ↔ Z (i + 1) (j + 1)))
  {i j : Nat} (hc : cor xs i j) (hz : Z i j) : ∀ i' j', cor xs i' j' → Z i' j' := by
 have four : ∀ a b, gX xs a b = true → ∀ i j, (i = a ∨ i = a + 1) → (j = b ∨ j = b + 1) → (Z a b ↔ Z i j) := fun a b hg i j h1 h2 => by
  obtain ⟨c1, c2, c3⟩ := cell_all h hH hV hg
  rcases h1 with rfl | rfl <;> rcases h2 with rfl | rfl
  ·exact Iff.rfl
  ·exact c2
  ·exact c1
  ·exact c3
 obtain ⟨a, b, hg, hi, hj⟩ := hc
 have hab : Z a b := (four a b hg i j hi hj).2 hz
 have key := one_piece ho h1 (fun x y => ∀ a b : Nat, (a : Int) = x + 1 → (b : Int) = y + 1 → Z a b) (fun x y x' y' hxy hz' hx' hn a' b' ha' hb' => by
  obtain ⟨a1, b1, e1, e2, g1⟩ := gX_has hxy
  obtain ⟨a2, b2, e3, e4, g2⟩ := gX_has hx'
  have zz := hz' a1 b1 e1 e2
  have ea : a' = a2 := by omega
  have eb : b' = b2 := by omega
  subst ea; subst eb
  unfold NbZ at hn
  have hcom : ∃ i j, (i = a1 ∨ i = a1 + 1) ∧ (j = b1 ∨ j = b1 + 1) ∧ (i = a' ∨ i = a' + 1) ∧ (j = b' ∨ j = b' + 1) := ⟨max a1 a', max b1 b', by omega, by omega, by omega, by omega⟩
  obtain ⟨i, j, m1, m2, m3, m4⟩ := hcom
  exact (four a' b' g2 i j m3 m4).2 ((four a1 b1 g1 i j m1 m2).1 zz)) (x := (a : Int) - 1) (y := (b : Int) - 1) hg (fun a' b' ha hb => by
  have ea : a' = a := by omega
  have eb : b' = b := by omega
  subst ea; subst eb
  exact hab)
 intro i' j' ⟨a', b', g', hi', hj'⟩
 exact (four a' b' g' i' j' hi' hj').1 (key _ _ g' a' b' (by omega) (by omega))
theorem hts_uniq {xs : List Int} (ho : okR xs) (h1 : piecesN xs = 1) {X Y : Cx} (h : Tl (gX xs) X Y) {f g : Fm} (hf : Hts (gX xs) X Y f) (hg : Hts (gX xs) X Y g) {i j i' j' : Nat} (hc : cor xs i j) (hc' : cor xs i' j') : f i' j' - f i j = g i' j' - g i j := by
 have out : ∀ i j, gX xs i j = true → i < 10 ∧ j < 10 := fun i j q => by have := h.out i j q; omega
 have key := all_cor ho h1 h (Z := fun a b => f a b - f i j = g a b - g i j) (fun a b hab hx => by
  have l : a < 10 ∧ b < 10 := by rcases hab with q | q <;> have := h.out _ _ q <;> omega
  have e1 := hf.hor a b l.1 l.2 hab
  have e2 := hg.hor a b l.1 l.2 hab
  constructor <;> intro r <;> omega) (fun a b hab hx => by
  have l : a < 10 ∧ b < 10 := by rcases hab with q | q <;> have := h.out _ _ q <;> omega
  have e1 := hf.ver a b l.1 l.2 hab
  have e2 := hg.ver a b l.1 l.2 hab
  constructor <;> intro r <;> omega) hc (by omega)
 exact key i' j' hc'
end Go.Proofs.YtieophdbhnpncaaGreat.Hgt

namespace Go.Proofs.YtieophdbhnpncaaGreat.Hgt
set_option linter.unusedVariables false
set_option linter.unusedSimpArgs false
open Go.RowKit Go.Proofs.YtieophdbhnpncaaGreat.Pure
open Go.Proofs.YtieophdbhnpncaaGreat.Bal (piecesN)

def crnB (xs : List Int) (v : Nat) : Bool := gX xs (v % 9) (v / 9) || gX xs (v % 9 + 1) (v / 9) || gX xs (v % 9) (v / 9 + 1) || gX xs (v % 9 + 1) (v / 9 + 1)
theorem crn_iff {xs : List Int} {v : Nat} : crnB xs v = true ↔ cor xs (v % 9 + 1) (v / 9 + 1) := by
 unfold crnB cor
 simp only [Bool.or_eq_true]
 constructor
 ·rintro (((h | h) | h) | h)
  ·exact ⟨_, _, h, .inr rfl, .inr rfl⟩
  ·exact ⟨_, _, h, .inl rfl, .inr rfl⟩
  ·exact ⟨_, _, h, .inr rfl, .inl rfl⟩
  ·exact ⟨_, _, h, .inl rfl, .inl rfl⟩
 ·rintro ⟨a, b, h, h1, h2⟩
  rcases h1 with h1 | h1 <;> rcases h2 with h2 | h2
  ·subst h1; subst h2; exact .inr h
  ·subst h1; obtain rfl : b = v / 9 := by omega
   exact .inl (.inl (.inr h))
  ·subst h2; obtain rfl : a = v % 9 := by omega
   exact .inl (.inr h)
  ·obtain rfl : a = v % 9 := by omega
   obtain rfl : b = v / 9 := by omega
   exact .inl (.inl (.inl h))
def frH (xs : List Int) (X : Cx) (v : Nat) : Bool := (gX xs (v % 9 + 1) (v / 9) || gX xs (v % 9 + 1) (v / 9 + 1)) && !X (v % 9 + 1) (v / 9 + 1)
def frV (xs : List Int) (Y : Cx) (v : Nat) : Bool := (gX xs (v % 9) (v / 9 + 1) || gX xs (v % 9 + 1) (v / 9 + 1)) && !Y (v % 9 + 1) (v / 9 + 1)
def Lk (xs : List Int) (X Y : Cx) (d v w : Nat) : Prop :=
 (d = 0 ∧ v % 9 < 8 ∧ w = v + 1 ∧ frH xs X v = true) ∨ (d = 1 ∧ v / 9 < 8 ∧ w = v + 9 ∧ frV xs Y v = true) ∨ (d = 2 ∧ w % 9 < 8 ∧ v = w + 1 ∧ frH xs X w = true) ∨ (d = 3 ∧ v = w + 9 ∧ frV xs Y w = true)
def es (d v : Nat) : Int := if (v % 9 + v / 9 + d) % 2 = 1 then 1 else -1
theorem es_or (d v : Nat) : es d v = 1 ∨ es d v = -1 := by unfold es; split <;> simp
section
variable {xs : List Int} {X Y : Cx}
theorem fr_H {v : Nat} (h : frH xs X v = true) : (gX xs (v % 9 + 1) (v / 9) = true ∨ gX xs (v % 9 + 1) (v / 9 + 1) = true) ∧ X (v % 9 + 1) (v / 9 + 1) = false := by
 unfold frH at h; simpa [Bool.and_eq_true, Bool.or_eq_true] using h
theorem fr_V {v : Nat} (h : frV xs Y v = true) : (gX xs (v % 9) (v / 9 + 1) = true ∨ gX xs (v % 9 + 1) (v / 9 + 1) = true) ∧ Y (v % 9 + 1) (v / 9 + 1) = false := by
 unfold frV at h; simpa [Bool.and_eq_true, Bool.or_eq_true] using h
theorem gX_lt {i j : Nat} (h : gX xs i j = true) : 1 ≤ i ∧ i ≤ 8 ∧ 1 ≤ j ∧ j ≤ 8 := by
 unfold gX at h
 have := hasB_iff.1 h
 omega
theorem Lk.lt {d v w : Nat} (hv : v < 81) (h : Lk xs X Y d v w) : w < 81 := by
 rcases h with ⟨_, a, rfl, _⟩ | ⟨_, a, rfl, _⟩ | ⟨_, _, e, _⟩ | ⟨_, e, _⟩ <;> omega
theorem Lk.crn {d v w : Nat} (h : Lk xs X Y d v w) : crnB xs v = true ∧ crnB xs w = true := by
 have hor : ∀ v, v % 9 < 8 → frH xs X v = true → crnB xs v = true ∧ crnB xs (v + 1) = true := fun v hv hf => by
  obtain ⟨hg, _⟩ := fr_H hf
  have e1 : (v + 1) % 9 = v % 9 + 1 := by omega
  have e2 : (v + 1) / 9 = v / 9 := by omega
  constructor
  ·rcases hg with q | q
   ·exact crn_iff.2 ⟨_, _, q, .inl rfl, .inr rfl⟩
   ·exact crn_iff.2 ⟨_, _, q, .inl rfl, .inl rfl⟩
  ·refine crn_iff.2 ?_
   rw [e1, e2]
   rcases hg with q | q
   ·exact ⟨_, _, q, .inr rfl, .inr rfl⟩
   ·exact ⟨_, _, q, .inr rfl, .inl rfl⟩
 have ver : ∀ v, frV xs Y v = true → crnB xs v = true ∧ crnB xs (v + 9) = true := fun v hf => by
  obtain ⟨hg, _⟩ := fr_V hf
  have e1 : (v + 9) % 9 = v % 9 := by omega
  have e2 : (v + 9) / 9 = v / 9 + 1 := by omega
  constructor
  ·rcases hg with q | q
   ·exact crn_iff.2 ⟨_, _, q, .inr rfl, .inl rfl⟩
   ·exact crn_iff.2 ⟨_, _, q, .inl rfl, .inl rfl⟩
  ·refine crn_iff.2 ?_
   rw [e1, e2]
   rcases hg with q | q
   ·exact ⟨_, _, q, .inr rfl, .inr rfl⟩
   ·exact ⟨_, _, q, .inl rfl, .inr rfl⟩
 rcases h with ⟨_, a, rfl, f⟩ | ⟨_, a, rfl, f⟩ | ⟨_, a, rfl, f⟩ | ⟨_, rfl, f⟩
 ·exact hor v a f
 ·exact ver v f
 ·exact ⟨(hor w a f).2, (hor w a f).1⟩
 ·exact ⟨(ver w f).2, (ver w f).1⟩
def at9 (f : Fm) (v : Nat) : Int := f (v % 9 + 1) (v / 9 + 1)
theorem Lk.step {f : Fm} (hf : Hts (gX xs) X Y f) {d v w : Nat} (h : Lk xs X Y d v w) : at9 f w = at9 f v + es d v := by
 have hor : ∀ v, v % 9 < 8 → frH xs X v = true → at9 f (v + 1) = at9 f v + (if (v % 9 + v / 9) % 2 = 1 then 1 else -1) := fun v hv hq => by
  obtain ⟨hg, hx⟩ := fr_H hq
  have l : v / 9 < 10 := by rcases hg with q | q <;> have := gX_lt q <;> omega
  have e := hf.hor (v % 9 + 1) (v / 9) (by omega) l hg
  unfold at9
  rw [show (v + 1) % 9 = v % 9 + 1 by omega, show (v + 1) / 9 = v / 9 by omega, e]
  unfold wH sg
  rw [hx, show bi false = 0 from rfl]
  split <;> split <;> omega
 have ver : ∀ v, frV xs Y v = true → at9 f (v + 9) = at9 f v + (if (v % 9 + v / 9) % 2 = 0 then 1 else -1) := fun v hq => by
  obtain ⟨hg, hx⟩ := fr_V hq
  have l : v / 9 + 1 < 10 := by rcases hg with q | q <;> have := gX_lt q <;> omega
  have e := hf.ver (v % 9) (v / 9 + 1) (by omega) l hg
  unfold at9
  rw [show (v + 9) % 9 = v % 9 by omega, show (v + 9) / 9 = v / 9 + 1 by omega, e]
  unfold wV sg
  rw [hx, show bi false = 0 from rfl]
  split <;> split <;> omega
 unfold es
 rcases h with ⟨rfl, a, rfl, q⟩ | ⟨rfl, a, rfl, q⟩ | ⟨rfl, a, rfl, q⟩ | ⟨rfl, rfl, q⟩
 ·rw [hor v a q]
  split <;> split <;> omega
 ·rw [ver v q]
  split <;> split <;> omega
 ·rw [hor w a q]
  split <;> split <;> omega
 ·rw [ver w q]
  split <;> split <;> omega
def lc (xs : List Int) : Nat := ((List.range 81).find? (crnB xs)).getD 0
theorem lc_of {c : Nat} (hc : c < 81) (h : crnB xs c = true) (hl : ∀ v, v < c → crnB xs v = false) : lc xs = c := by
 unfold lc
 have e : (List.range 81).find? (crnB xs) = some c := by
  rw [List.find?_eq_some_iff_getElem]
  refine ⟨h, c, by simpa using hc, by simp, fun j hj => ?_⟩
  rw [List.getElem_range, hl j hj]
  rfl
 rw [e]
 rfl
def hv (xs : List Int) (f : Fm) (v : Nat) : Int := at9 f v - at9 f (lc xs)
def hgL (xs : List Int) (f : Fm) : List Int := (List.range 81).map fun v => if crnB xs v then hv xs f v else -1000
variable {F : Nat → Int} {h : List Int} {q : List Nat} {k n : Nat}
end
end Go.Proofs.YtieophdbhnpncaaGreat.Hgt
