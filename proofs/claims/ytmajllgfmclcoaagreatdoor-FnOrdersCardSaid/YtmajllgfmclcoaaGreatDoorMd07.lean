/- EulerC, EulerN, BalP, BalN, BalT, HgtO in one text. -/
import Derived.Test.YtmajllgfmclcoaaGreatDoorMd06
import Derived.Test.YtmajllgfmclcoaaGreatDoorMd02
set_option linter.unusedVariables false
set_option linter.unusedSimpArgs false
namespace Go.Proofs.YtmajllgfmclcoaaGreatDoor.Euler
def cnt : Nat → (Nat → Bool) → Nat
 | 0, _ => 0
 | n + 1, p => cnt n p + (p n).toNat
theorem cnt_same : ∀ (n : Nat) {p q : Nat → Bool}, (∀ v, v < n → p v = q v) → cnt n p = cnt n q
 | 0, _, _, _ => rfl
 | n + 1, p, q, h => by simp only [cnt]; rw [cnt_same n (fun v hv => h v (by omega)), h n (by omega)]
theorem cnt_less (q : Nat → Bool) (a : Nat) (hq : q a = true) : ∀ m, a < m → cnt m q = cnt m (fun w => q w && !(w == a)) + 1
 | 0, h => absurd h (by omega)
 | m + 1, h => by
  simp only [cnt]
  by_cases e : m = a
  ·subst e
   rw [cnt_same m (p := q) (q := fun w => q w && !(w == m)) (fun v hv => by
    have : (v == m) = false := by simp; omega
    rw [this]; simp)]
   rw [hq, beq_self_eq_true]; rfl
  ·have e0 : (q m && !(m == a)).toNat = (q m).toNat := by
    have : (m == a) = false := by simpa using e
    rw [this]; simp
   rw [cnt_less q a hq m (by omega)]
   omega
theorem cnt_inj : ∀ (n : Nat) (p : Nat → Bool) (m : Nat) (q : Nat → Bool) (f : Nat → Nat), (∀ v, v < n → p v = true → f v < m ∧ q (f v) = true) → (∀ u v, u < n → v < n → p u = true → p v = true → f u = f v → u = v) → cnt n p ≤ cnt m q
 | 0, _, _, _, _, _, _ => Nat.zero_le _
 | n + 1, p, m, q, f, h1, h2 => by
  simp only [cnt]
  cases hp : p n
  ·exact cnt_inj n p m q f (fun v hv => h1 v (by omega)) (fun u v hu hv => h2 u v (by omega) (by omega))
  ·rw [cnt_less q (f n) (h1 n (by omega) hp).2 m (h1 n (by omega) hp).1]
   refine Nat.succ_le_succ (cnt_inj n p m _ f (fun v hv hpv => ⟨(h1 v (by omega) hpv).1, ?_⟩) (fun u v hu hv => h2 u v (by omega) (by omega)))
   have : f v ≠ f n := fun e => by have := h2 v n (by omega) (by omega) hpv hp e; omega
   simp [(h1 v (by omega) hpv).2, this]
def ring (v : Nat) : Bool := v % 10 == 0 || v % 10 == 9 || v / 10 == 0 || v / 10 == 9
def cor (s : Nat) : Nat := 10 * (s / 9) + s % 9
def touch (v s : Nat) : Bool := if s = 81 then ring v else v == cor s || v == cor s + 1 || v == cor s + 10 || v == cor s + 11
def phi (v : Nat) : Nat := 9 * min (v / 10) 8 + min (v % 10) 8
def n8 (k : Nat) : Nat × Nat := (k / 4, k / 4 + (if k % 4 = 0 then 1 else if k % 4 = 1 then 10 else if k % 4 = 2 then 11 else 9))
def ok8 (k : Nat) : Bool := if k % 4 = 0 then !(k / 4 % 10 == 9) else if k % 4 = 1 then decide (k / 4 < 90) else if k % 4 = 2 then decide (k / 4 < 90) && !(k / 4 % 10 == 9) else decide (k / 4 < 90) && !(k / 4 % 10 == 0)
def out8 (c : Nat → Bool) (k : Nat) : Bool := ok8 k && (!c (n8 k).1 && !c (n8 k).2)
def h8 (c : Nat → Bool) : List (Nat × Nat) := ((List.range 400).filter (out8 c)).map n8
def atV (v : Nat) : List (Nat × Nat) := ((List.range 180).filter (fun k => inc (gE k) v)).map gD
theorem t_around : ∀ v, v < 100 → ∀ s, s < 82 → touch v s = true → lab (atV v) s = lab (atV v) (phi v) := by decide +kernel
theorem n8_lt : ∀ k, k < 400 → ok8 k = true → (n8 k).1 < 100 ∧ (n8 k).2 < 100 := by decide +kernel
theorem t_cor : ∀ s, s < 81 → cor s + 11 < 100 ∧ cor s % 10 ≠ 9 := by decide +kernel
theorem h8_same {c : Nat → Bool} {k : Nat} (hk : k < 400) (ho : ok8 k = true) (h1 : c (n8 k).1 = false) (h2 : c (n8 k).2 = false) : lab (h8 c) (n8 k).1 = lab (h8 c) (n8 k).2 :=
 lab_edge _ _ (List.mem_map_of_mem (List.mem_filter.2 ⟨List.mem_range.2 hk, by simp [out8, ho, h1, h2]⟩))
theorem h8_ends {c : Nat → Bool} {e : Nat × Nat} (h : e ∈ h8 c) : ∃ k, k < 400 ∧ ok8 k = true ∧ n8 k = e ∧ c e.1 = false ∧ c e.2 = false := by
 obtain ⟨k, hk, rfl⟩ := List.mem_map.1 h
 obtain ⟨h1, h2⟩ := List.mem_filter.1 hk
 simp only [out8, Bool.and_eq_true, Bool.not_eq_true'] at h2
 exact ⟨k, List.mem_range.1 h1, h2.1, rfl, h2.2.1, h2.2.2⟩
theorem side {c : Nat → Bool} {v : Nat} (hv : v < 100) (h9 : v % 10 ≠ 9) (h1 : c v = false) (h2 : c (v + 1) = false) : lab (h8 c) v = lab (h8 c) (v + 1) := by
 have e : n8 (4 * v) = (v, v + 1) := by unfold n8; rw [if_pos (by omega), show 4 * v / 4 = v by omega]
 have := h8_same (c := c) (k := 4 * v) (by omega) (by unfold ok8; rw [if_pos (by omega), show 4 * v / 4 = v by omega]; simpa using h9) (by rw [e]; exact h1) (by rw [e]; exact h2)
 rwa [e] at this
theorem below8 {c : Nat → Bool} {v : Nat} (hv : v < 90) (h1 : c v = false) (h2 : c (v + 10) = false) : lab (h8 c) v = lab (h8 c) (v + 10) := by
 have e : n8 (4 * v + 1) = (v, v + 10) := by unfold n8; rw [if_neg (by omega), if_pos (by omega), show (4 * v + 1) / 4 = v by omega]
 have := h8_same (c := c) (k := 4 * v + 1) (by omega) (by unfold ok8; rw [if_neg (by omega), if_pos (by omega), show (4 * v + 1) / 4 = v by omega]; simpa using hv) (by rw [e]; exact h1) (by rw [e]; exact h2)
 rwa [e] at this
theorem down8 {c : Nat → Bool} {v : Nat} (hv : v < 90) (h9 : v % 10 ≠ 9) (h1 : c v = false) (h2 : c (v + 11) = false) : lab (h8 c) v = lab (h8 c) (v + 11) := by
 have e : n8 (4 * v + 2) = (v, v + 11) := by unfold n8; rw [if_neg (by omega), if_neg (by omega), if_pos (by omega), show (4 * v + 2) / 4 = v by omega]
 have := h8_same (c := c) (k := 4 * v + 2) (by omega) (by unfold ok8; rw [if_neg (by omega), if_neg (by omega), if_pos (by omega), show (4 * v + 2) / 4 = v by omega]; simp [hv, h9]) (by rw [e]; exact h1) (by rw [e]; exact h2)
 rwa [e] at this
theorem back8 {c : Nat → Bool} {v : Nat} (hv : v < 90) (h9 : v % 10 ≠ 0) (h1 : c v = false) (h2 : c (v + 9) = false) : lab (h8 c) v = lab (h8 c) (v + 9) := by
 have e : n8 (4 * v + 3) = (v, v + 9) := by unfold n8; rw [if_neg (by omega), if_neg (by omega), if_neg (by omega), show (4 * v + 3) / 4 = v by omega]
 have := h8_same (c := c) (k := 4 * v + 3) (by omega) (by unfold ok8; rw [if_neg (by omega), if_neg (by omega), if_neg (by omega), show (4 * v + 3) / 4 = v by omega]; simp [hv, h9]) (by rw [e]; exact h1) (by rw [e]; exact h2)
 rwa [e] at this
theorem four {v s : Nat} (hs : s < 81) (h : touch v s = true) : v = cor s ∨ v = cor s + 1 ∨ v = cor s + 10 ∨ v = cor s + 11 := by
 unfold touch at h
 rw [if_neg (by omega)] at h
 simpa [or_assoc] using h
theorem corners {c : Nat → Bool} {s p q : Nat} (hs : s < 81) (hp : touch p s = true) (hq : touch q s = true) (h1 : c p = false) (h2 : c q = false) : lab (h8 c) p = lab (h8 c) q := by
 obtain ⟨l1, l2⟩ := t_cor s hs
 generalize hd : cor s = d at l1 l2
 have a := four hs hp
 have b := four hs hq
 rw [hd] at a b
 have e1 : ∀ h1 h2, lab (h8 c) d = lab (h8 c) (d + 1) := fun h1 h2 => side (c := c) (v := d) (by omega) l2 h1 h2
 have e2 : ∀ h1 h2, lab (h8 c) d = lab (h8 c) (d + 10) := fun h1 h2 => below8 (c := c) (v := d) (by omega) h1 h2
 have e3 : ∀ h1 h2, lab (h8 c) d = lab (h8 c) (d + 11) := fun h1 h2 => down8 (c := c) (v := d) (by omega) l2 h1 h2
 have e4 : ∀ h1 h2, lab (h8 c) (d + 1) = lab (h8 c) (d + 10) := fun h1 h2 => back8 (c := c) (v := d + 1) (by omega) (by omega) h1 h2
 have e5 : ∀ h1 h2, lab (h8 c) (d + 1) = lab (h8 c) (d + 11) := fun h1 h2 => below8 (c := c) (v := d + 1) (by omega) h1 h2
 have e6 : ∀ h1 h2, lab (h8 c) (d + 10) = lab (h8 c) (d + 11) := fun h1 h2 => side (c := c) (v := d + 10) (by omega) (by omega) h1 h2
 rcases a with rfl | rfl | rfl | rfl <;> rcases b with rfl | rfl | rfl | rfl <;>
  first | rfl | exact e1 h1 h2 | exact e2 h1 h2 | exact e3 h1 h2 | exact e4 h1 h2 | exact e5 h1 h2 | exact e6 h1 h2 | exact (e1 h2 h1).symm | exact (e2 h2 h1).symm | exact (e3 h2 h1).symm | exact (e4 h2 h1).symm | exact (e5 h2 h1).symm | exact (e6 h2 h1).symm
theorem around {c : Nat → Bool} {v s : Nat} (hv : v < 100) (hs : s < 82) (h : touch v s = true) (hc : c v = false) : lab ((eO c).reverse.map gD) s = lab ((eO c).reverse.map gD) (phi v) := by
 have k := lab_keeps (lab ((eO c).reverse.map gD)) (atV v) (fun e he => by
  obtain ⟨k, hk, rfl⟩ := List.mem_map.1 he
  obtain ⟨h1, h2⟩ := List.mem_filter.1 hk
  refine lab_edge _ _ (List.mem_map_of_mem (List.mem_reverse.2 (List.mem_filter.2 ⟨h1, ?_⟩)))
  unfold inR
  unfold inc at h2
  by_cases a : v = (gE k).1
  ·rw [← a, hc]; rfl
  ·have a' : (v == (gE k).1) = false := by simpa using a
   rw [a'] at h2
   have b : v = (gE k).2 := by simpa using h2
   rw [← b, hc]; simp)
 rw [← k s, ← k (phi v), t_around v hv s hs h]
def least (es : List (Nat × Nat)) (v : Nat) : Bool := (List.range v).all (fun u => !(lab es u == lab es v))
theorem least_iff {es : List (Nat × Nat)} {v : Nat} : least es v = true ↔ ∀ u, u < v → lab es u ≠ lab es v := by
 unfold least
 rw [List.all_eq_true]
 constructor
 ·intro h u hu
  have := h u (List.mem_range.2 hu)
  simpa using this
 ·intro h u hu
  have := h u (List.mem_range.1 hu)
  simpa using this
theorem least_ex (es : List (Nat × Nat)) (v : Nat) : ∃ u, u ≤ v ∧ lab es u = lab es v ∧ least es u = true := by
 induction v using Nat.strongRecOn with
 | ind v ih =>
  cases h : least es v
  ·have : ∃ u, u < v ∧ lab es u = lab es v := by
    refine Classical.byContradiction (fun k => ?_)
    rw [least_iff.2 (fun u hu e => k ⟨u, hu, e⟩)] at h
    cases h
   obtain ⟨u, hu, e⟩ := this
   obtain ⟨z, hz, e2, e3⟩ := ih u hu
   exact ⟨z, by omega, e2.trans e, e3⟩
  ·exact ⟨v, Nat.le_refl _, rfl, h⟩
theorem flood {es : List (Nat × Nat)} {seen : Nat → Bool} {a : Nat} (ha : seen a = true) (hin : ∀ v, seen v = true → lab es v = lab es a) (hrest : ∀ e, e ∈ es → seen e.1 = seen e.2) (v : Nat) : seen v = (lab es v == lab es a) := by
 have k := lab_keeps seen es hrest
 cases h : seen v
 ·symm
  rw [beq_eq_false_iff_ne]
  intro q
  have := k v
  rw [q, k a, ha, h] at this
  cases this
 ·rw [hin v h, beq_self_eq_true]
def io (i : Nat) : Nat := 10 * (i / 8 + 1) + (i % 8 + 1)
def oi (v : Nat) : Nat := 8 * (v / 10 - 1) + (v % 10 - 1)
theorem oi_io (i : Nat) : oi (io i) = i := by unfold oi io; omega
theorem io_oi {v : Nat} (h : ring v = false) : io (oi v) = v := by
 unfold ring at h
 simp only [Bool.or_eq_false_iff, beq_eq_false_iff_ne, ne_eq] at h
 unfold oi io; omega
theorem io_lt {i : Nat} (h : i < 64) : io i < 100 ∧ ring (io i) = false := by
 refine ⟨by unfold io; omega, ?_⟩
 unfold ring io
 simp only [Bool.or_eq_false_iff, beq_eq_false_iff_ne, ne_eq]
 omega
theorem io_mono {i j : Nat} : i < j → io i < io j := by unfold io; omega
theorem oi_lt {v : Nat} (hv : v < 100) (h : ring v = false) : oi v < 64 := by
 unfold ring at h
 simp only [Bool.or_eq_false_iff, beq_eq_false_iff_ne, ne_eq] at h
 unfold oi; omega
end Go.Proofs.YtmajllgfmclcoaaGreatDoor.Euler
namespace Go.Proofs.YtmajllgfmclcoaaGreatDoor.Euler
theorem cnt_add (p : Nat → Bool) (n : Nat) : ∀ m, cnt (n + m) p = cnt n p + cnt m (fun v => p (n + v))
 | 0 => rfl
 | m + 1 => by rw [← Nat.add_assoc]; simp only [cnt]; rw [cnt_add p n m]; omega
theorem filter_cnt (p : Nat → Bool) : ∀ n, ((List.range n).filter p).length = cnt n p
 | 0 => rfl
 | n + 1 => by
  rw [List.range_succ, List.filter_append, List.length_append, filter_cnt p n]
  simp only [cnt, List.filter_cons, List.filter_nil]
  cases p n <;> rfl
end Go.Proofs.YtmajllgfmclcoaaGreatDoor.Euler
namespace Go.Proofs.YtmajllgfmclcoaaGreatDoor.Bal
open Go.Proofs.YtmajllgfmclcoaaGreatDoor.Pure Euler
def bitI (xs : List Int) (j : Nat) : Bool := bitB (rowD xs (j / 8)) (j % 8)
def cR (xs : List Int) (v : Nat) : Bool := !ring v && bitI xs (oi v)
theorem cR_ring (xs : List Int) (v : Nat) (hv : v < 100) (h : ring v = true) : cR xs v = false := by unfold cR; rw [h]; rfl
theorem cR_io (xs : List Int) {i : Nat} (h : i < 64) : cR xs (io i) = bitI xs i := by unfold cR; rw [(io_lt h).2, oi_io]; rfl
theorem cR_in {xs : List Int} {v : Nat} (hv : v < 100) (h : cR xs v = true) : oi v < 64 ∧ io (oi v) = v ∧ bitI xs (oi v) = true := by
 unfold cR at h
 simp only [Bool.and_eq_true, Bool.not_eq_true'] at h
 exact ⟨oi_lt hv h.1, io_oi h.1, h.2⟩
def nbI (i j : Nat) : Prop := (i / 8 = j / 8 ∧ (i = j + 1 ∨ j = i + 1)) ∨ i = j + 8 ∨ j = i + 8
theorem nbI.symm {i j : Nat} (h : nbI i j) : nbI j i := by unfold nbI at h ⊢; omega
def pe (xs : List Int) : List (Nat × Nat) := (eR (cR xs)).map gE
theorem pe_mem {xs : List Int} {k : Nat} (hk : k < 180) (h1 : cR xs (gE k).1 = true) (h2 : cR xs (gE k).2 = true) : gE k ∈ pe xs :=
 List.mem_map_of_mem (List.mem_filter.2 ⟨List.mem_range.2 hk, by unfold inR; rw [h1, h2]; rfl⟩)
theorem pe_join1 {xs : List Int} {i j : Nat} (hi : i < 64) (hj : j < 64) (h : (i / 8 = j / 8 ∧ j = i + 1) ∨ j = i + 8) (h1 : bitI xs i = true) (h2 : bitI xs j = true) : (io i, io j) ∈ pe xs := by
 have c1 := (cR_io xs hi).trans h1
 have c2 := (cR_io xs hj).trans h2
 rcases h with ⟨a, b⟩ | b
 ·have e : gE (9 * (i / 8 + 1) + (i % 8 + 1)) = (io i, io j) := by
   unfold gE io
   rw [if_pos (by omega)]
   exact Prod.ext (by simp only; omega) (by simp only; omega)
  have := pe_mem (xs := xs) (k := 9 * (i / 8 + 1) + (i % 8 + 1)) (by omega) (by rw [e]; exact c1) (by rw [e]; exact c2)
  rwa [e] at this
 ·have e : gE (90 + io i) = (io i, io j) := by
   unfold gE io
   rw [if_neg (by omega)]
   exact Prod.ext (by simp only; omega) (by simp only; omega)
  have l := (io_lt hi).1
  have l2 := (io_lt hj).1
  have := pe_mem (xs := xs) (k := 90 + io i) (by unfold io at l2 ⊢; omega) (by rw [e]; exact c1) (by rw [e]; exact c2)
  rwa [e] at this
theorem pe_join {xs : List Int} {i j : Nat} (hi : i < 64) (hj : j < 64) (h : nbI i j) (h1 : bitI xs i = true) (h2 : bitI xs j = true) : lab (pe xs) (io i) = lab (pe xs) (io j) := by
 unfold nbI at h
 by_cases a : i < j
 ·exact lab_edge _ _ (pe_join1 hi hj (by omega) h1 h2)
 ·exact (lab_edge _ _ (pe_join1 hj hi (by omega) h2 h1)).symm
theorem gE_nb : ∀ k, k < 180 → ring (gE k).1 = false → ring (gE k).2 = false → (oi (gE k).1 / 8 = oi (gE k).2 / 8 ∧ oi (gE k).2 = oi (gE k).1 + 1) ∨ oi (gE k).2 = oi (gE k).1 + 8 := by decide +kernel
theorem pe_ends {xs : List Int} {e : Nat × Nat} (h : e ∈ pe xs) : ∃ i j, i < 64 ∧ j < 64 ∧ e = (io i, io j) ∧ nbI i j ∧ bitI xs i = true ∧ bitI xs j = true := by
 obtain ⟨k, hk, rfl⟩ := List.mem_map.1 h
 obtain ⟨h1, h2⟩ := List.mem_filter.1 hk
 have hk := List.mem_range.1 h1
 simp only [inR, Bool.and_eq_true] at h2
 have l := gE_lt k hk
 obtain ⟨a1, b1, c1⟩ := cR_in l.1 h2.1
 obtain ⟨a2, b2, c2⟩ := cR_in l.2 h2.2
 have r1 : ring (gE k).1 = false := by have := (io_lt a1).2; rwa [b1] at this
 have r2 : ring (gE k).2 = false := by have := (io_lt a2).2; rwa [b2] at this
 have q := gE_nb k hk r1 r2
 exact ⟨_, _, a1, a2, by rw [b1, b2], by unfold nbI; omega, c1, c2⟩
def sameP (xs : List Int) (i j : Nat) : Bool := lab (pe xs) (io j) == lab (pe xs) (io i)
theorem sameP_refl (xs : List Int) (i : Nat) : sameP xs i i = true := by unfold sameP; rw [beq_self_eq_true]
theorem flood64 {xs : List Int} {seen : Nat → Bool} {a : Nat} (ha : a < 64) (hs : seen a = true) (hin : ∀ i, i < 64 → seen i = true → bitI xs i = true ∧ sameP xs a i = true)
  (hrest : ∀ i j, i < 64 → j < 64 → seen i = true → nbI i j → bitI xs j = true → seen j = true) (i : Nat) (hi : i < 64) : seen i = (bitI xs i && sameP xs a i) := by
 have hba := (hin a ha hs).1
 have q := flood (es := pe xs) (seen := fun v => cR xs v && decide (v < 100) && seen (oi v)) (a := io a)
  (by show (cR xs (io a) && decide (io a < 100) && seen (oi (io a))) = true; rw [cR_io xs ha, oi_io, hba, hs, decide_eq_true (io_lt ha).1]; rfl)
  (fun v hv => by
   simp only [Bool.and_eq_true, decide_eq_true_eq] at hv
   obtain ⟨l, e, b⟩ := cR_in hv.1.2 hv.1.1
   have := (hin _ l hv.2).2
   unfold sameP at this
   rw [beq_iff_eq, e] at this
   exact this)
  (fun e he => by
   obtain ⟨i, j, hi, hj, rfl, hn, b1, b2⟩ := pe_ends he
   show (cR xs (io i) && decide (io i < 100) && seen (oi (io i))) = (cR xs (io j) && decide (io j < 100) && seen (oi (io j)))
   rw [cR_io xs hi, cR_io xs hj, b1, b2, oi_io, oi_io, decide_eq_true (io_lt hi).1, decide_eq_true (io_lt hj).1, Bool.eq_iff_iff]
   simp only [Bool.true_and]
   exact ⟨fun h => hrest i j hi hj h hn b2, fun h => hrest j i hj hi h hn.symm b1⟩) (io i)
 cases hb : bitI xs i
 ·cases hsi : seen i
  ·rfl
  ·rw [(hin i hi hsi).1] at hb; cases hb
 ·have q2 : (cR xs (io i) && decide (io i < 100) && seen (oi (io i))) = sameP xs a i := q
  rw [cR_io xs hi, hb, oi_io, decide_eq_true (io_lt hi).1] at q2
  simpa using q2
def pieceTo (xs : List Int) (a k : Nat) : List (Int × Int) := ((List.range k).filter fun j => bitI xs j && sameP xs a j).map fun j => (((j % 8 : Nat) : Int), ((j / 8 : Nat) : Int))
theorem pieceTo_yes {xs : List Int} {a k : Nat} (h : (bitI xs k && sameP xs a k) = true) : pieceTo xs a (k + 1) = pieceTo xs a k ++ [(((k % 8 : Nat) : Int), ((k / 8 : Nat) : Int))] := by
 unfold pieceTo; rw [List.range_succ, List.filter_append, List.map_append]; simp [h]
theorem pieceTo_no {xs : List Int} {a k : Nat} (h : (bitI xs k && sameP xs a k) = false) : pieceTo xs a (k + 1) = pieceTo xs a k := by
 unfold pieceTo; rw [List.range_succ, List.filter_append, List.map_append]; simp [h]
theorem pieceTo_length (xs : List Int) (a k : Nat) : (pieceTo xs a k).length ≤ k := by
 unfold pieceTo; rw [List.length_map]; exact Nat.le_trans (List.length_filter_le _ _) (by rw [List.length_range]; exact Nat.le_refl _)
def adj8 (u v : Nat) : Bool := decide (u / 10 ≤ v / 10 + 1) && decide (v / 10 ≤ u / 10 + 1) && decide (u % 10 ≤ v % 10 + 1) && decide (v % 10 ≤ u % 10 + 1)
theorem adj_touch : ∀ u, u < 100 → ∀ v, v < 100 → adj8 u v = true → 9 * min (min (u / 10) (v / 10)) 8 + min (min (u % 10) (v % 10)) 8 < 81 ∧ touch u (9 * min (min (u / 10) (v / 10)) 8 + min (min (u % 10) (v % 10)) 8) = true ∧ touch v (9 * min (min (u / 10) (v / 10)) 8 + min (min (u % 10) (v % 10)) 8) = true := by decide +kernel
theorem join8 {c : Nat → Bool} {u v : Nat} (hu : u < 100) (hv : v < 100) (h : adj8 u v = true) (h1 : c u = false) (h2 : c v = false) : lab (h8 c) u = lab (h8 c) v := by
 obtain ⟨a, b, d⟩ := adj_touch u hu v hv h
 exact corners a b d h1 h2
theorem n8_adj : ∀ k, k < 400 → ok8 k = true → adj8 (n8 k).1 (n8 k).2 = true ∧ adj8 (n8 k).2 (n8 k).1 = true := by decide +kernel
theorem flood100 {c : Nat → Bool} {seen : Nat → Bool} {a : Nat} (hs : seen a = true) (hin : ∀ v, seen v = true → lab (h8 c) v = lab (h8 c) a)
  (hrest : ∀ u v, u < 100 → v < 100 → seen u = true → adj8 u v = true → c u = false → c v = false → seen v = true) (v : Nat) : seen v = (lab (h8 c) v == lab (h8 c) a) :=
 flood hs hin (fun e he => by
  obtain ⟨k, hk, ho, rfl, c1, c2⟩ := h8_ends he
  have l := n8_lt k hk ho
  have t := n8_adj k hk ho
  rw [Bool.eq_iff_iff]
  exact ⟨fun h => hrest _ _ l.1 l.2 h t.1 c1 c2, fun h => hrest _ _ l.2 l.1 h t.2 c2 c1⟩) v
end Go.Proofs.YtmajllgfmclcoaaGreatDoor.Bal
namespace Go.Proofs.YtmajllgfmclcoaaGreatDoor.Bal
open Go.Proofs.YtmajllgfmclcoaaGreatDoor.Pure Euler
theorem cR_has {xs : List Int} (ho : okR xs) {v : Nat} (hv : v < 100) : cR xs v = hasB xs (((v % 10 : Nat) : Int) - 1) (((v / 10 : Nat) : Int) - 1) := by
 rw [Bool.eq_iff_iff, hasB_iff]
 constructor
 ·intro h
  have h2 := h
  unfold cR at h
  simp only [Bool.and_eq_true, Bool.not_eq_true'] at h
  obtain ⟨r, b⟩ := h
  unfold ring at r
  simp only [Bool.or_eq_false_iff, beq_eq_false_iff_ne, ne_eq] at r
  refine ⟨ho, by omega, by omega, by omega, by omega, ?_⟩
  unfold bitI oi at b
  rw [show (8 * (v / 10 - 1) + (v % 10 - 1)) / 8 = (((v / 10 : Nat) : Int) - 1).toNat by omega, show (8 * (v / 10 - 1) + (v % 10 - 1)) % 8 = (((v % 10 : Nat) : Int) - 1).toNat by omega] at b
  exact b
 ·rintro ⟨_, x0, x7, y0, y7, b⟩
  unfold cR
  have r : ring v = false := by
   unfold ring
   simp only [Bool.or_eq_false_iff, beq_eq_false_iff_ne, ne_eq]
   omega
  rw [r]
  unfold bitI oi
  rw [show (8 * (v / 10 - 1) + (v % 10 - 1)) / 8 = (((v / 10 : Nat) : Int) - 1).toNat by omega, show (8 * (v / 10 - 1) + (v % 10 - 1)) % 8 = (((v % 10 : Nat) : Int) - 1).toNat by omega, b]
  rfl
theorem cnt_io {xs : List Int} {p : Nat → Bool} (h : ∀ v, v < 100 → p v = true → cR xs v = true) : cnt 100 p = cnt 64 (fun i => p (io i)) := by
 refine Nat.le_antisymm (cnt_inj _ _ _ _ oi ?_ ?_) (cnt_inj _ _ _ _ io ?_ ?_)
 ·intro v hv hp
  obtain ⟨l, e, _⟩ := cR_in hv (h v hv hp)
  exact ⟨l, by rw [e]; exact hp⟩
 ·intro u v hu hv h1 h2 e
  obtain ⟨_, e1, _⟩ := cR_in hu (h u hu h1)
  obtain ⟨_, e2, _⟩ := cR_in hv (h v hv h2)
  rw [← e1, ← e2, e]
 ·intro i hi hp; exact ⟨(io_lt hi).1, hp⟩
 ·intro i j _ _ _ _ e
  rw [← oi_io i, ← oi_io j, e]
def leastI (xs : List Int) (i : Nat) : Bool := (List.range i).all (fun j => !(bitI xs j && sameP xs i j))
theorem leastI_iff {xs : List Int} {i : Nat} : leastI xs i = true ↔ ∀ j, j < i → bitI xs j = true → sameP xs i j = false := by
 unfold leastI
 rw [List.all_eq_true]
 constructor
 ·intro h j hj hb
  have := h j (List.mem_range.2 hj)
  rw [hb] at this
  simpa using this
 ·intro h j hj
  cases hb : bitI xs j
  ·rfl
  ·rw [h j (List.mem_range.1 hj) hb]; rfl
theorem least_io {xs : List Int} {i : Nat} (hi : i < 64) (hb : bitI xs i = true) : least (pe xs) (io i) = leastI xs i := by
 have kc : ∀ v, cR xs (lab (pe xs) v) = cR xs v := lab_keeps (cR xs) (pe xs) (fun e he => by
  obtain ⟨a, b, ha, hb, rfl, _, b1, b2⟩ := pe_ends he
  show cR xs (io a) = cR xs (io b)
  rw [cR_io xs ha, cR_io xs hb, b1, b2])
 rw [Bool.eq_iff_iff, least_iff, leastI_iff]
 constructor
 ·intro h j hj hbj
  have := h (io j) (io_mono hj)
  unfold sameP
  rw [beq_eq_false_iff_ne]
  exact this
 ·intro h u hu e
  have hu1 : u < 100 := Nat.lt_trans hu (io_lt hi).1
  have c1 : cR xs u = true := by rw [← kc u, e, kc, cR_io xs hi, hb]
  obtain ⟨l, e1, b1⟩ := cR_in hu1 c1
  have lt : oi u < i := by
   rcases Nat.lt_trichotomy (oi u) i with q | q | q
   ·exact q
   ·rw [← e1, q] at hu; omega
   ·have := io_mono q; rw [e1] at this; omega
  have := h (oi u) lt b1
  unfold sameP at this
  rw [beq_eq_false_iff_ne, e1] at this
  exact this e
def piecesN (xs : List Int) : Nat := cnt 64 (fun i => bitI xs i && leastI xs i)
def outsN (xs : List Int) : Nat := cnt 100 (fun v => !cR xs v && least (h8 (cR xs)) v)
theorem outs_pos (xs : List Int) : 1 ≤ outsN xs := by
 unfold outsN
 rw [cnt_less _ 0 (by rw [cR_ring xs 0 (by omega) rfl]; rfl) 100 (by omega)]
 omega
end Go.Proofs.YtmajllgfmclcoaaGreatDoor.Bal
namespace Go.Proofs.YtmajllgfmclcoaaGreatDoor.Bal
open Go.Proofs.YtmajllgfmclcoaaGreatDoor.Pure
def cellI (i : Nat) : Int × Int := (((i % 8 : Nat) : Int), ((i / 8 : Nat) : Int))
theorem cellI_inj {i j : Nat} (h : cellI i = cellI j) : i = j := by
 unfold cellI at h
 have h1 := congrArg Prod.fst h
 have h2 := congrArg Prod.snd h
 simp only at h1 h2
 omega
theorem piece_first {xs : List Int} {a : Nat} (ha : a < 64) (hb : bitI xs a = true) : ∃ m, m < 64 ∧ (pieceTo xs a 64)[0]? = some (cellI m) ∧ (m = a ↔ leastI xs a = true) := by
 have e : (pieceTo xs a 64)[0]? = ((List.range 64).find? fun j => bitI xs j && sameP xs a j).map cellI := by
  unfold pieceTo
  rw [List.getElem?_map, ← List.head?_eq_getElem?, List.head?_filter]
  rfl
 cases hf : (List.range 64).find? fun j => bitI xs j && sameP xs a j with
 | none =>
  have := List.find?_eq_none.1 hf a (List.mem_range.2 ha)
  rw [hb, sameP_refl] at this
  exact absurd rfl this
 | some m =>
  obtain ⟨p, hm, hl⟩ := List.find?_range_eq_some.1 hf
  refine ⟨m, List.mem_range.1 hm, by rw [e, hf]; rfl, ?_⟩
  rw [leastI_iff]
  constructor
  ·rintro rfl j hj hbj
   have := hl j hj
   rw [hbj] at this
   simpa using this
  ·intro h
   rcases Nat.lt_trichotomy m a with q | q | q
   ·simp only [Bool.and_eq_true] at p
    rw [h m q p.1] at p
    exact absurd p.2 (by simp)
   ·exact q
   ·have := hl a q
    rw [hb, sameP_refl] at this
    exact absurd this (by simp)
theorem hasB_at {xs : List Int} (ho : okR xs) {u v : Nat} (hu : u < 8) (hv : v < 8) : hasB xs (u : Int) (v : Int) = bitI xs (8 * v + u) := by
 rw [Bool.eq_iff_iff, hasB_iff]
 unfold bitI
 rw [show (8 * v + u) / 8 = v by omega, show (8 * v + u) % 8 = u by omega]
 constructor
 ·rintro ⟨_, _, _, _, _, b⟩; simpa using b
 ·intro b; exact ⟨ho, by omega, by omega, by omega, by omega, by simpa using b⟩
theorem hasB_out {xs : List Int} {u v : Int} (h : ¬ (0 ≤ u ∧ u ≤ 7 ∧ 0 ≤ v ∧ v ≤ 7)) : hasB xs u v = false := by
 cases k : hasB xs u v
 ·rfl
 ·exact absurd (by obtain ⟨_, a, b, c, d, _⟩ := hasB_iff.1 k; exact ⟨a, b, c, d⟩) h
def touchAt (xs : List Int) (i : Nat) : Bool := (bitI xs i == bitI xs (i + 9)) && (bitI xs (i + 1) == bitI xs (i + 8)) && (bitI xs i != bitI xs (i + 1))
def Touch (xs : List Int) : Prop := ∃ i, i < 64 ∧ i % 8 < 7 ∧ i / 8 < 7 ∧ touchAt xs i = true
end Go.Proofs.YtmajllgfmclcoaaGreatDoor.Bal
namespace Go.Proofs.YtmajllgfmclcoaaGreatDoor.Hgt
open Go.RowKit Go.Proofs.YtmajllgfmclcoaaGreatDoor.Pure Dms Til Grd Flp Go.Joins
open Bal (cR bitI hasB_at hasB_out flood100 adj8 outsN cR_ring touchAt)
open Euler (lab h8 ring oi least least_ex least_iff cnt cnt_less lab_keeps h8_ends)
theorem gX_cR {xs : List Int} (ho : okR xs) {i j : Nat} (hi : i < 10) (hj : j < 10) : gX xs i j = cR xs (10 * j + i) := by
 unfold gX cR
 by_cases q : 1 ≤ i ∧ i ≤ 8 ∧ 1 ≤ j ∧ j ≤ 8
 ·have e := hasB_at ho (u := i - 1) (v := j - 1) (by omega) (by omega)
  rw [show ((i - 1 : Nat) : Int) = (i : Int) - 1 by omega, show ((j - 1 : Nat) : Int) = (j : Int) - 1 by omega] at e
  rw [e]
  have h1 : ring (10 * j + i) = false := by
   unfold ring
   rw [show (10 * j + i) % 10 = i by omega, show (10 * j + i) / 10 = j by omega]
   have a : (i == 0) = false := by simp; omega
   have b : (i == 9) = false := by simp; omega
   have c : (j == 0) = false := by simp; omega
   have d : (j == 9) = false := by simp; omega
   rw [a, b, c, d]; rfl
  rw [h1]
  unfold oi
  rw [show (10 * j + i) % 10 = i by omega, show (10 * j + i) / 10 = j by omega]
  rfl
 ·rw [hasB_out (by omega)]
  have h1 : ring (10 * j + i) = true := by
   unfold ring
   rw [show (10 * j + i) % 10 = i by omega, show (10 * j + i) / 10 = j by omega]
   simp
   omega
  rw [h1]; rfl
theorem cnt_uniq {n : Nat} {p : Nat → Bool} (h : cnt n p = 1) {a b : Nat} (ha : a < n) (hb : b < n) (pa : p a = true) (pb : p b = true) : a = b := by
 refine Classical.byContradiction fun hne => ?_
 have h1 := cnt_less p a pa n ha
 have h2 := cnt_less (fun w => p w && !(w == a)) b (by simp only [pb, Bool.true_and]; simp; exact fun e => hne e.symm) n hb
 omega
theorem no_touch {xs : List Int} (ho : okR xs) (ht : ¬ Bal.Touch xs) (a b : Nat) :
  ¬ (gX xs a b = false ∧ gX xs (a + 1) (b + 1) = false ∧ gX xs (a + 1) b = true ∧ gX xs a (b + 1) = true) ∧ ¬ (gX xs a b = true ∧ gX xs (a + 1) (b + 1) = true ∧ gX xs (a + 1) b = false ∧ gX xs a (b + 1) = false) := by
 have rg : ∀ i j, gX xs i j = true → 1 ≤ i ∧ i ≤ 8 ∧ 1 ≤ j ∧ j ≤ 8 := fun i j h => by have := hasB_iff.1 h; omega
 have bt : ∀ i j, 1 ≤ i → i ≤ 8 → 1 ≤ j → j ≤ 8 → gX xs i j = bitI xs (8 * (j - 1) + (i - 1)) := fun i j h1 h2 h3 h4 => by
  have e := hasB_at ho (u := i - 1) (v := j - 1) (by omega) (by omega)
  rw [show ((i - 1 : Nat) : Int) = (i : Int) - 1 by omega, show ((j - 1 : Nat) : Int) = (j : Int) - 1 by omega] at e
  exact e
 have fin : 1 ≤ a → a ≤ 7 → 1 ≤ b → b ≤ 7 → (gX xs a b = gX xs (a + 1) (b + 1) ∧ gX xs (a + 1) b = gX xs a (b + 1) ∧ gX xs a b ≠ gX xs (a + 1) b) → False := fun h1 h2 h3 h4 ⟨q1, q2, q3⟩ => by
  refine ht ⟨8 * (b - 1) + (a - 1), by omega, by omega, by omega, ?_⟩
  rw [bt a b (by omega) (by omega) (by omega) (by omega), bt (a + 1) (b + 1) (by omega) (by omega) (by omega) (by omega)] at q1
  rw [bt (a + 1) b (by omega) (by omega) (by omega) (by omega), bt a (b + 1) (by omega) (by omega) (by omega) (by omega)] at q2
  rw [bt a b (by omega) (by omega) (by omega) (by omega), bt (a + 1) b (by omega) (by omega) (by omega) (by omega)] at q3
  rw [show 8 * (b + 1 - 1) + (a + 1 - 1) = 8 * (b - 1) + (a - 1) + 9 by omega] at q1
  rw [show 8 * (b - 1) + (a + 1 - 1) = 8 * (b - 1) + (a - 1) + 1 by omega, show 8 * (b + 1 - 1) + (a - 1) = 8 * (b - 1) + (a - 1) + 8 by omega] at q2
  rw [show 8 * (b - 1) + (a + 1 - 1) = 8 * (b - 1) + (a - 1) + 1 by omega] at q3
  unfold touchAt
  rw [q1, q2, beq_self_eq_true, beq_self_eq_true, Bool.true_and, Bool.true_and, ← q1, ← q2]
  simpa using q3
 constructor
 ·rintro ⟨h1, h2, h3, h4⟩
  have r1 := rg _ _ h3
  have r2 := rg _ _ h4
  exact fin (by omega) (by omega) (by omega) (by omega) ⟨h1.trans h2.symm, h3.trans h4.symm, by rw [h1, h3]; simp⟩
 ·rintro ⟨h1, h2, h3, h4⟩
  have r1 := rg _ _ h1
  have r2 := rg _ _ h2
  exact fin (by omega) (by omega) (by omega) (by omega) ⟨h1.trans h2.symm, h3.trans h4.symm, by rw [h1, h3]; simp⟩
theorem one_simple {xs : List Int} (ho : okR xs) (h1 : outsN xs = 1) (ht : ¬ Bal.Touch xs) : One (gX xs) := by
 intro Z h0 hcl d hd
 have hR : ∀ i j, i < 10 → j < 10 → gX xs i j = false → (decide (i < 10) && decide (j < 10) && !gX xs i j) = true := fun i j hi hj hg => by simp [hi, hj, hg]
 have step : ∀ i j i' j', i' < 10 → j' < 10 → gX xs i' j' = false → Z (i, j) → nb (i', j') (i, j) → Z (i', j') := fun i j i' j' hi hj hg hz hn => hcl (i, j) (i', j') hz (hR i' j' hi hj hg) hn
 have hnt := no_touch ho ht
 -- all labels are the ring's
 have hlab : ∀ v, v < 100 → cR xs v = false → lab (h8 (cR xs)) v = lab (h8 (cR xs)) 0 := fun v hv hc => by
  obtain ⟨u, hu, e, hl⟩ := least_ex (h8 (cR xs)) v
  have hkeep := lab_keeps (cR xs) (h8 (cR xs)) (fun e he => by
   obtain ⟨_, _, _, _, c1, c2⟩ := h8_ends he
   rw [c1, c2])
  have hcu : cR xs u = false := by rw [← hkeep u, e, hkeep v, hc]
  have hl0 : least (h8 (cR xs)) 0 = true := least_iff.2 (fun u hu => by omega)
  have e0 := cnt_uniq (p := fun v => !cR xs v && least (h8 (cR xs)) v) h1 (a := u) (b := 0) (by omega) (by omega) (by simp only [hcu, hl]; rfl) (by simp only [cR_ring xs 0 (by omega) rfl, hl0]; rfl)
  rw [← e, e0]
 obtain ⟨seen, hseen⟩ : ∃ seen : Nat → Bool, ∀ v, seen v = true ↔ v < 100 ∧ cR xs v = false ∧ Z (v % 10, v / 10) :=
  ⟨fun v => @decide (v < 100 ∧ cR xs v = false ∧ Z (v % 10, v / 10)) (Classical.propDecidable _), fun v => by simp⟩
 have key := flood100 (c := cR xs) (seen := seen) (a := 0) ((hseen 0).2 ⟨by omega, cR_ring xs 0 (by omega) rfl, h0⟩) (fun v hv => by
  obtain ⟨a, b, _⟩ := (hseen v).1 hv
  exact hlab v a b) (fun u v hu hv hs ha cu cv => by
  obtain ⟨_, _, hz⟩ := (hseen u).1 hs
  refine (hseen v).2 ⟨hv, cv, ?_⟩
  have gu : gX xs (u % 10) (u / 10) = false := by rw [gX_cR ho (by omega) (by omega), show 10 * (u / 10) + u % 10 = u by omega]; exact cu
  have gv : gX xs (v % 10) (v / 10) = false := by rw [gX_cR ho (by omega) (by omega), show 10 * (v / 10) + v % 10 = v by omega]; exact cv
  unfold adj8 at ha
  simp only [Bool.and_eq_true, decide_eq_true_eq] at ha
  have bi1 : u % 10 < 10 ∧ u / 10 < 10 ∧ v % 10 < 10 ∧ v / 10 < 10 := by omega
  generalize u % 10 = i at *
  generalize u / 10 = j at *
  generalize v % 10 = i' at *
  generalize v / 10 = j' at *
  obtain ⟨⟨⟨a1, a2⟩, a3⟩, a4⟩ := ha
  obtain ⟨b1, b2, b3, b4⟩ := bi1
  by_cases ei : i = i'
  ·subst ei
   by_cases ej : j = j'
   ·subst ej; exact hz
   ·exact step i j i j' b3 b4 gv hz (.inr ⟨rfl, by simp only; omega⟩)
  ·by_cases ej : j = j'
   ·subst ej
    exact step i j i' j b3 b4 gv hz (.inl ⟨rfl, by simp only; omega⟩)
   ·-- two cells that touch in a corner: one of the others is of the rest
    by_cases g1 : gX xs i' j = false
    ·have z1 := step i j i' j b3 b2 g1 hz (.inl ⟨rfl, by simp only; omega⟩)
     exact step i' j i' j' b3 b4 gv z1 (.inr ⟨rfl, by simp only; omega⟩)
    ·have g1 : gX xs i' j = true := by cases q : gX xs i' j <;> simp_all
     by_cases g2 : gX xs i j' = false
     ·have z1 := step i j i j' b1 b4 g2 hz (.inr ⟨rfl, by simp only; omega⟩)
      exact step i j' i' j' b3 b4 gv z1 (.inl ⟨rfl, by simp only; omega⟩)
     ·have g2 : gX xs i j' = true := by cases q : gX xs i j' <;> simp_all
      exfalso
      have hi : i' = i + 1 ∨ i = i' + 1 := by omega
      have hj : j' = j + 1 ∨ j = j' + 1 := by omega
      rcases hi with rfl | rfl <;> rcases hj with rfl | rfl
      ·exact (hnt i j).1 ⟨gu, gv, g1, g2⟩
      ·exact (hnt i j').2 ⟨g2, g1, gv, gu⟩
      ·exact (hnt i' j).2 ⟨g1, g2, gu, gv⟩
      ·exact (hnt i' j').1 ⟨gv, gu, g2, g1⟩)
 obtain ⟨di, dj⟩ := d
 simp only [Bool.and_eq_true, decide_eq_true_eq, Bool.not_eq_true'] at hd
 obtain ⟨⟨d1, d2⟩, d3⟩ := hd
 have hc : cR xs (10 * dj + di) = false := by rw [← gX_cR ho d1 d2]; exact d3
 have k := key (10 * dj + di)
 rw [hlab _ (by omega) hc, beq_self_eq_true] at k
 have := ((hseen _).1 k).2.2
 rw [show (10 * dj + di) % 10 = di by omega, show (10 * dj + di) / 10 = dj by omega] at this
 exact this
theorem turn_far {xs : List Int} {L M : List Dm} {x y : Int} {b : Bool} (hL : tilB xs L = true) (hM : tilB xs M = true) (h6 : 0 ≤ x ∧ x ≤ 6 ∧ 0 ≤ y ∧ y ≤ 6) (hb : has2 L x y b = true) :
  farL (turn L x y b) M = farL L M + 1 ∨ farL (turn L x y b) M + 1 = farL L M := by
 have tL := tl_of hL
 have tM := tl_of hM
 have vL := part_valid (til_part hL)
 obtain ⟨a, ha⟩ : ∃ a : Nat, (a : Int) = x + 1 := ⟨(x + 1).toNat, by omega⟩
 obtain ⟨c, hc⟩ : ∃ c : Nat, (c : Int) = y + 1 := ⟨(y + 1).toNat, by omega⟩
 obtain ⟨e1, e2⟩ := turn_X (xs := xs) (L := L) (b := b) vL h6 ha hc
 obtain ⟨m1, m2⟩ := has2_iff.1 hb
 have hy : yL L (a + 1) c = (!b) ∧ yL L (a + 1) (c + 1) = (!b) := by
  cases b with
  | false =>
   refine ⟨yL_iff.2 ?_, yL_iff.2 ?_⟩
   ·unfold pr1 at m1; rw [show ((a + 1 : Nat) : Int) - 2 = x by omega, show (c : Int) - 1 = y by omega]; exact m1
   ·unfold pr2 at m2; rw [if_neg (by simp)] at m2; rw [show ((a + 1 : Nat) : Int) - 2 = x by omega, show ((c + 1 : Nat) : Int) - 1 = y + 1 by omega]; exact m2
  | true =>
   refine pair_X tL (xL_iff.2 ?_) (xL_iff.2 ?_)
   ·unfold pr1 at m1; rw [show (a : Int) - 1 = x by omega, show ((c + 1 : Nat) : Int) - 2 = y by omega]; exact m1
   ·unfold pr2 at m2; rw [if_pos rfl] at m2; rw [show ((a + 1 : Nat) : Int) - 1 = x + 1 by omega, show ((c + 1 : Nat) : Int) - 2 = y by omega]; exact m2
 have e := fun i j hi hj => flip_dif (X := xL L) (Y := yL L) (X' := xL M) (Y' := yL M) (!b) b (by simp) hy.1 hy.2 (by omega) (by omega) i j hi hj (fun i hi => dif_H tL tM hi (by omega))
 have hst := far_set (E := dif (xL L) (yL L) (xL M) (yL M)) (E' := dif (flX (xL L) a c (!b)) (flY (yL L) a c b) (xL M) (yL M)) (a := a + 1) (b := c + 1) (by omega) (by omega) (fun i j hi hj hne => by
  rw [e i j hi hj, setE_ne (fun k => hne (by rw [k.1, k.2]))])
 rw [e (a + 1) (c + 1) (by omega) (by omega), setE_at] at hst
 unfold farL
 rw [e1, e2]
 have hs : sg (a + 1) (c + 1) * (bi b - bi (!b)) = 1 ∨ sg (a + 1) (c + 1) * (bi b - bi (!b)) = -1 := by
  rcases sg_one (a + 1) (c + 1) with q | q <;> rw [q] <;> cases b <;> simp [bi]
 generalize sg (a + 1) (c + 1) * (bi b - bi (!b)) = k at hst hs
 generalize dif (xL L) (yL L) (xL M) (yL M) (a + 1) (c + 1) = z at hst
 clear e e1 e2
 omega
theorem way_least {xs : List Int} {M : List Dm} (hM : tilB xs M = true) : ∀ (w : List (Int × Int)) (L : List Dm), tilB xs L = true → allF L w = some M → farL L M ≤ w.length := by
 intro w
 induction w with
 | nil =>
  intro L hL h
  have e : L = M := by injection h
  subst e
  rw [far_self]; exact Nat.le_refl _
 | cons c w ih =>
  intro L hL h
  have h' : (if canB L c.1 c.2 then allF (flipL L c.1 c.2) w else none) = some M := h
  by_cases hc : canB L c.1 c.2 = true
  ·rw [if_pos hc] at h'
   obtain ⟨h6, b, hb⟩ := turn_of (xs := xs) (L := L) hc
   have hp := til_part hL
   obtain ⟨_, e⟩ := flip_turn hp h6 hb
   rw [e] at h'
   have i := ih _ (turn_til hp h6 hb hL) h'
   have k := turn_far hL hM h6 hb
   rw [List.length_cons]
   omega
  ·rw [if_neg hc] at h'; cases h'
end Go.Proofs.YtmajllgfmclcoaaGreatDoor.Hgt
