/- HgtL, Euler, EulerG, EulerC, EulerN, BalP, BalN, BalT in one text. -/
import Derived.Test.YtmajllgfmclcoaaGreatDoorMe06
import Derived.Test.YtmajllgfmclcoaaGreatDoorMe02

namespace Go.Proofs.YtmajllgfmclcoaaGreatDoor.Hgt
set_option linter.unusedVariables false
set_option linter.unusedSimpArgs false
open Go.RowKit Go.Proofs.YtmajllgfmclcoaaGreatDoor.Pure Go.Proofs.YtmajllgfmclcoaaGreatDoor.Cell Go.Proofs.YtmajllgfmclcoaaGreatDoor.Dom Go.Proofs.YtmajllgfmclcoaaGreatDoor.Dms Go.Proofs.YtmajllgfmclcoaaGreatDoor.Til Go.Proofs.YtmajllgfmclcoaaGreatDoor.Grd Go.Proofs.YtmajllgfmclcoaaGreatDoor.Flp Go.Joins

def xL (L : List Dm) : Cx := fun i j => decide ((((i : Int) - 1, (j : Int) - 2, true) : Dm) ∈ L)
def yL (L : List Dm) : Cx := fun i j => decide ((((i : Int) - 2, (j : Int) - 1, false) : Dm) ∈ L)
def gX (xs : List Int) (i j : Nat) : Bool := hasB xs ((i : Int) - 1) ((j : Int) - 1)
theorem xL_iff {L : List Dm} {i j : Nat} : xL L i j = true ↔ (((i : Int) - 1, (j : Int) - 2, true) : Dm) ∈ L := by unfold xL; rw [decide_eq_true_eq]
theorem yL_iff {L : List Dm} {i j : Nat} : yL L i j = true ↔ (((i : Int) - 2, (j : Int) - 1, false) : Dm) ∈ L := by unfold yL; rw [decide_eq_true_eq]
theorem ok_dn {x y : Int} (h : okM (x, y, true) = true) : 0 ≤ x ∧ x ≤ 7 ∧ 0 ≤ y ∧ y ≤ 6 := by
 unfold okM domB at h
 rw [Bool.and_eq_true, okB_iff, okB_iff] at h
 obtain ⟨h1, h2⟩ := h
 unfold Ok at h1 h2
 simp only at h1 h2
 unfold sx sy at h2
 rw [if_pos rfl, if_pos rfl, wrap_in (by omega) (by omega)] at h2
 omega
theorem ok_rt {x y : Int} (h : okM (x, y, false) = true) : 0 ≤ x ∧ x ≤ 6 ∧ 0 ≤ y ∧ y ≤ 7 := by
 unfold okM domB at h
 rw [Bool.and_eq_true, okB_iff, okB_iff] at h
 obtain ⟨h1, h2⟩ := h
 unfold Ok at h1 h2
 simp only at h1 h2
 unfold sx sy at h2
 rw [if_neg (by simp), if_neg (by simp), wrap_in (by omega) (by omega)] at h2
 omega
theorem cov_dn {x y : Int} (h : okM (x, y, true) = true) : covM (x, y, true) x y = true ∧ covM (x, y, true) x (y + 1) = true := by
 have := ok_dn h
 refine ⟨cov_of h (.inl ⟨rfl, rfl⟩), cov_of h (.inr ⟨?_, ?_⟩)⟩
 ·unfold sx; rw [if_pos rfl]
 ·unfold sy; rw [if_pos rfl]; exact (wrap_in (by omega) (by omega)).symm
theorem cov_rt {x y : Int} (h : okM (x, y, false) = true) : covM (x, y, false) x y = true ∧ covM (x, y, false) (x + 1) y = true := by
 have := ok_rt h
 refine ⟨cov_of h (.inl ⟨rfl, rfl⟩), cov_of h (.inr ⟨?_, ?_⟩)⟩
 ·unfold sx; rw [if_neg (by simp)]; exact (wrap_in (by omega) (by omega)).symm
 ·unfold sy; rw [if_neg (by simp)]
theorem cov_who {d : Dm} {x y : Int} (h : covM d x y = true) : d = (x, y, true) ∨ d = (x, y, false) ∨ d = (x, y - 1, true) ∨ d = (x - 1, y, false) := by
 obtain ⟨ho, h⟩ := cov_two h
 obtain ⟨a, b, c⟩ := d
 simp only at h
 cases c with
 | true =>
  have := ok_dn ho
  unfold sx sy at h
  rw [if_pos rfl, if_pos rfl, wrap_in (by omega) (by omega)] at h
  rcases h with ⟨rfl, rfl⟩ | ⟨rfl, rfl⟩
  ·exact .inl rfl
  ·right; right; left
   rw [show b + 1 - 1 = b by omega]
 | false =>
  have := ok_rt ho
  unfold sx sy at h
  rw [if_neg (by simp), if_neg (by simp), wrap_in (by omega) (by omega)] at h
  rcases h with ⟨rfl, rfl⟩ | ⟨rfl, rfl⟩
  ·exact .inr (.inl rfl)
  ·right; right; right
   rw [show a + 1 - 1 = a by omega]
theorem one_of {p q r s : Bool} (h : p = true ∨ q = true ∨ r = true ∨ s = true) (h1 : p = true → q = true → False) (h2 : p = true → r = true → False) (h3 : p = true → s = true → False) (h4 : q = true → r = true → False) (h5 : q = true → s = true → False) (h6 : r = true → s = true → False) : bi p + bi q + bi r + bi s = 1 := by
 cases p <;> cases q <;> cases r <;> cases s <;> simp_all [bi]
theorem tl_of {xs : List Int} {L : List Dm} (ht : tilB xs L = true) : Tl (gX xs) (xL L) (yL L) := by
 have hp : partB xs L = true := by unfold tilB at ht; rw [Bool.and_eq_true] at ht; exact ht.1
 have hv := part_valid hp
 have hdj := part_dj hp
 have hall : ∀ x y, hasB xs x y = true → anyM L x y = true := fun x y hxy => by
  rw [tilB_part hp, decide_eq_true_eq] at ht
  have hn : unc L (cellsR xs) = [] := List.eq_nil_of_length_eq_zero ht
  cases q : anyM L x y with
  | true => rfl
  | false =>
   have : (x, y) ∈ unc L (cellsR xs) := by
    unfold unc
    exact List.mem_filter.2 ⟨mem_cells.2 hxy, by simp [q]⟩
   rw [hn] at this; cases this
 refine ⟨fun i => ?_, fun j => ?_, fun i j h => ?_, fun i j h => ?_, fun i j h => ?_, fun i j h => ?_⟩
 ·cases q : xL L i 0 with
  | false => rfl
  | true => have := ok_dn (hv _ (xL_iff.1 q)); omega
 ·cases q : yL L 0 j with
  | false => rfl
  | true => have := ok_rt (hv _ (yL_iff.1 q)); omega
 ·have hm := xL_iff.1 h
  obtain ⟨c1, c2⟩ := cov_dn (hv _ hm)
  have k1 := part_in hp hm c1
  have k2 := part_in hp hm c2
  refine ⟨?_, ?_⟩
  ·show hasB xs ((i : Int) - 1) ((j : Int) - 1) = true
   rw [← k1]; congr 1; omega
  ·show hasB xs ((i : Int) - 1) (((j + 1 : Nat) : Int) - 1) = true
   rw [← k2]; congr 1; omega
 ·have hm := yL_iff.1 h
  obtain ⟨c1, c2⟩ := cov_rt (hv _ hm)
  have k1 := part_in hp hm c1
  have k2 := part_in hp hm c2
  refine ⟨?_, ?_⟩
  ·show hasB xs ((i : Int) - 1) ((j : Int) - 1) = true
   rw [← k1]; congr 1; omega
  ·show hasB xs (((i + 1 : Nat) : Int) - 1) ((j : Int) - 1) = true
   rw [← k2]; congr 1; omega
 ·-- each cell once
  have hc := hall _ _ h
  unfold anyM at hc
  rw [List.any_eq_true] at hc
  obtain ⟨d, hd, hc⟩ := hc
  obtain ⟨x, hx⟩ : ∃ x : Int, x = (i : Int) - 1 := ⟨_, rfl⟩
  obtain ⟨y, hy⟩ : ∃ y : Int, y = (j : Int) - 1 := ⟨_, rfl⟩
  rw [← hx, ← hy] at hc
  have e1 : xL L i j = decide (((x, y - 1, true) : Dm) ∈ L) := by unfold xL; rw [hx, hy, show (j : Int) - 1 - 1 = (j : Int) - 2 by omega]
  have e2 : yL L (i + 1) j = decide (((x, y, false) : Dm) ∈ L) := by unfold yL; rw [hx, hy, show ((i + 1 : Nat) : Int) - 2 = (i : Int) - 1 by omega]
  have e3 : xL L i (j + 1) = decide (((x, y, true) : Dm) ∈ L) := by unfold xL; rw [hx, hy, show ((j + 1 : Nat) : Int) - 2 = (j : Int) - 1 by omega]
  have e4 : yL L i j = decide (((x - 1, y, false) : Dm) ∈ L) := by unfold yL; rw [hx, hy, show (i : Int) - 1 - 1 = (i : Int) - 2 by omega]
  rw [e1, e2, e3, e4]
  have k1 : ((x, y - 1, true) : Dm) ∈ L → covM (x, y - 1, true) x y = true := fun m => by have := (cov_dn (hv _ m)).2; rwa [show y - 1 + 1 = y by omega] at this
  have k2 : ((x, y, false) : Dm) ∈ L → covM (x, y, false) x y = true := fun m => (cov_rt (hv _ m)).1
  have k3 : ((x, y, true) : Dm) ∈ L → covM (x, y, true) x y = true := fun m => (cov_dn (hv _ m)).1
  have k4 : ((x - 1, y, false) : Dm) ∈ L → covM (x - 1, y, false) x y = true := fun m => by have := (cov_rt (hv _ m)).2; rwa [show x - 1 + 1 = x by omega] at this
  have two : ∀ {d e : Dm}, d ∈ L → e ∈ L → covM d x y = true → covM e x y = true → d = e := fun h1 h2 h3 h4 => hdj _ h1 _ h2 x y h3 h4
  refine one_of ?_ (fun p q => ?_) (fun p q => ?_) (fun p q => ?_) (fun p q => ?_) (fun p q => ?_) (fun p q => ?_)
  ·rcases cov_who hc with rfl | rfl | rfl | rfl
   ·exact .inr (.inr (.inl (decide_eq_true hd)))
   ·exact .inr (.inl (decide_eq_true hd))
   ·exact .inl (decide_eq_true hd)
   ·exact .inr (.inr (.inr (decide_eq_true hd)))
  all_goals
   have p := of_decide_eq_true p
   have q := of_decide_eq_true q
  ·have := two p q (k1 p) (k2 q); simp at this
  ·have := two p q (k1 p) (k3 q); simp at this; omega
  ·have := two p q (k1 p) (k4 q); simp at this
  ·have := two p q (k2 p) (k3 q); simp at this
  ·have := two p q (k2 p) (k4 q); simp at this; omega
  ·have := two p q (k3 p) (k4 q); simp at this
 ·have := hasB_iff.1 h
  omega
theorem turn_X {xs : List Int} {L : List Dm} {x y : Int} {b : Bool} (hv : ∀ d ∈ L, okM d = true) (h6 : 0 ≤ x ∧ x ≤ 6 ∧ 0 ≤ y ∧ y ≤ 6) {a c : Nat} (ha : (a : Int) = x + 1) (hc : (c : Int) = y + 1) :
  xL (turn L x y b) = flX (xL L) a c (!b) ∧ yL (turn L x y b) = flY (yL L) a c b := by
 have dm : ∀ (p q r s : Int) (b c : Bool), ((p, q, b) : Dm) = (r, s, c) ↔ p = r ∧ q = s ∧ b = c := fun p q r s b c => by rw [Prod.mk.injEq, Prod.mk.injEq]
 constructor
 ·funext i j
  unfold flX
  rw [Bool.eq_iff_iff, xL_iff, mem_turn h6 hv, mem_oth]
  have hC : ((i = a ∨ i = a + 1) ∧ j = c + 1) ↔ (((i : Int) - 1 = x ∧ (j : Int) - 2 = y) ∨ ((i : Int) - 1 = x + 1 ∧ (j : Int) - 2 = y)) := by omega
  unfold pr1 pr2
  cases b with
  | false =>
   simp only [Bool.not_false, if_true, Bool.false_eq_true, Bool.true_eq_false, if_false, dm, ne_eq, and_true, and_false, not_false_eq_true]
   by_cases q : (i = a ∨ i = a + 1) ∧ j = c + 1
   ·rw [if_pos q]
    have q := hC.1 q
    exact ⟨fun _ => rfl, fun _ => q.elim .inl (fun r => .inr (.inl r))⟩
   ·rw [if_neg q, xL_iff]
    have q := fun r => q (hC.2 r)
    exact ⟨fun r => r.elim (fun u => absurd (.inl u) q) (fun r => r.elim (fun u => absurd (.inr u) q) id), fun r => .inr (.inr r)⟩
  | true =>
   simp only [Bool.not_true, if_true, Bool.false_eq_true, if_false, dm, ne_eq, and_true, and_false, not_false_eq_true, Bool.true_eq_false, false_or]
   by_cases q : (i = a ∨ i = a + 1) ∧ j = c + 1
   ·rw [if_pos q]
    have q := hC.1 q
    refine ⟨fun r => ?_, fun r => by cases r⟩
    rcases q with q | q
    ·exact absurd q r.2.1
    ·exact absurd q r.2.2
   ·rw [if_neg q, xL_iff]
    have q := fun r => q (hC.2 r)
    exact ⟨fun r => r.1, fun r => ⟨r, fun u => q (.inl u), fun u => q (.inr u)⟩⟩
 ·funext i j
  unfold flY
  rw [Bool.eq_iff_iff, yL_iff, mem_turn h6 hv, mem_oth]
  have hC : (i = a + 1 ∧ (j = c ∨ j = c + 1)) ↔ (((i : Int) - 2 = x ∧ (j : Int) - 1 = y) ∨ ((i : Int) - 2 = x ∧ (j : Int) - 1 = y + 1)) := by omega
  unfold pr1 pr2
  cases b with
  | true =>
   simp only [Bool.not_true, if_true, Bool.false_eq_true, if_false, dm, ne_eq, and_true, and_false, not_false_eq_true]
   by_cases q : i = a + 1 ∧ (j = c ∨ j = c + 1)
   ·rw [if_pos q]
    have q := hC.1 q
    exact ⟨fun _ => rfl, fun _ => q.elim .inl (fun r => .inr (.inl r))⟩
   ·rw [if_neg q, yL_iff]
    have q := fun r => q (hC.2 r)
    exact ⟨fun r => r.elim (fun u => absurd (.inl u) q) (fun r => r.elim (fun u => absurd (.inr u) q) id), fun r => .inr (.inr r)⟩
  | false =>
   simp only [Bool.not_false, if_true, Bool.false_eq_true, if_false, dm, ne_eq, and_true, and_false, not_false_eq_true, Bool.false_eq_true, false_or]
   by_cases q : i = a + 1 ∧ (j = c ∨ j = c + 1)
   ·rw [if_pos q]
    have q := hC.1 q
    refine ⟨fun r => ?_, fun r => by cases r⟩
    rcases q with q | q
    ·exact absurd q r.2.1
    ·exact absurd q r.2.2
   ·rw [if_neg q, yL_iff]
    have q := fun r => q (hC.2 r)
    exact ⟨fun r => r.1, fun r => ⟨r, fun u => q (.inl u), fun u => q (.inr u)⟩⟩
theorem til_part {xs : List Int} {L : List Dm} (h : tilB xs L = true) : partB xs L = true := by unfold tilB at h; rw [Bool.and_eq_true] at h; exact h.1
end Go.Proofs.YtmajllgfmclcoaaGreatDoor.Hgt

namespace Go.Proofs.YtmajllgfmclcoaaGreatDoor.Euler

def lab : List (Nat × Nat) → Nat → Nat
 | [], v => v
 | e :: es, v => if lab es v = lab es e.2 then lab es e.1 else lab es v
theorem lab_edge : ∀ (es : List (Nat × Nat)) (e : Nat × Nat), e ∈ es → lab es e.1 = lab es e.2
 | d :: es, e, h => by
  simp only [lab]
  rcases List.mem_cons.1 h with rfl | h
  ·simp
  ·rw [lab_edge es e h]
theorem lab_keeps {α : Type} (f : Nat → α) : ∀ (es : List (Nat × Nat)), (∀ e, e ∈ es → f e.1 = f e.2) → ∀ v, f (lab es v) = f v
 | [], _, _ => rfl
 | d :: es, h, v => by
  have ih := lab_keeps f es (fun e he => h e (List.mem_cons_of_mem _ he))
  simp only [lab]
  split
  ·rename_i e
   rw [ih, h d (by simp), ← ih d.2, ← e, ih]
  ·exact ih v
def inc (e : Nat × Nat) (v : Nat) : Bool := (v == e.1) ^^ (v == e.2)
end Go.Proofs.YtmajllgfmclcoaaGreatDoor.Euler

namespace Go.Proofs.YtmajllgfmclcoaaGreatDoor.Euler
set_option linter.unusedVariables false

def gE (k : Nat) : Nat × Nat := if k < 90 then (10 * (k / 9) + k % 9, 10 * (k / 9) + k % 9 + 1) else (10 * ((k - 90) / 10) + (k - 90) % 10, 10 * ((k - 90) / 10) + (k - 90) % 10 + 10)
def gD (k : Nat) : Nat × Nat :=
 if k < 90 then (if k / 9 = 0 then 81 else 9 * (k / 9 - 1) + k % 9, if k / 9 = 9 then 81 else 9 * (k / 9) + k % 9)
 else (if (k - 90) % 10 = 0 then 81 else 9 * ((k - 90) / 10) + (k - 90) % 10 - 1, if (k - 90) % 10 = 9 then 81 else 9 * ((k - 90) / 10) + (k - 90) % 10)
theorem gE_lt : ∀ k, k < 180 → (gE k).1 < 100 ∧ (gE k).2 < 100 := by decide +kernel
def inR (c : Nat → Bool) (k : Nat) : Bool := c (gE k).1 && c (gE k).2
def eR (c : Nat → Bool) : List Nat := (List.range 180).filter (inR c)
def eO (c : Nat → Bool) : List Nat := (List.range 180).filter (fun k => !inR c k)
end Go.Proofs.YtmajllgfmclcoaaGreatDoor.Euler

namespace Go.Proofs.YtmajllgfmclcoaaGreatDoor.Euler
set_option linter.unusedVariables false

def cnt : Nat → (Nat → Bool) → Nat
 | 0, _ => 0
 | n + 1, p => cnt n p + (p n).toNat
theorem cnt_same : ∀ (n : Nat) {p q : Nat → Bool}, (∀ v, v < n → p v = q v) → cnt n p = cnt n q
 | 0, _, _, _ => rfl
 | n + 1, p, q, h => by simp only [cnt]; rw [cnt_same n (fun v hv => h v (by omega)), h n (by omega)]
theorem cnt_less (q : Nat → Bool) (a : Nat) (hq : q a = true) : ∀ m, a < m → cnt m q = cnt m (fun w => q w && !(w == a)) + 1
 | 0, h => absurd h (by omega)
 | m + 1, h => by
  simp only [cnt]
  by_cases e : m = a
  ·subst e
   rw [cnt_same m (p := q) (q := fun w => q w && !(w == m)) (fun v hv => by
    have : (v == m) = false := by simp; omega
    rw [this]; simp)]
   rw [hq, beq_self_eq_true]; rfl
  ·have e0 : (q m && !(m == a)).toNat = (q m).toNat := by
    have : (m == a) = false := by simpa using e
    rw [this]; simp
   rw [cnt_less q a hq m (by omega)]
   omega
theorem cnt_inj : ∀ (n : Nat) (p : Nat → Bool) (m : Nat) (q : Nat → Bool) (f : Nat → Nat), (∀ v, v < n → p v = true → f v < m ∧ q (f v) = true) → (∀ u v, u < n → v < n → p u = true → p v = true → f u = f v → u = v) → cnt n p ≤ cnt m q
 | 0, _, _, _, _, _, _ => Nat.zero_le _
 | n + 1, p, m, q, f, h1, h2 => by
  simp only [cnt]
  cases hp : p n
  ·exact cnt_inj n p m q f (fun v hv => h1 v (by omega)) (fun u v hu hv => h2 u v (by omega) (by omega))
  ·rw [cnt_less q (f n) (h1 n (by omega) hp).2 m (h1 n (by omega) hp).1]
   refine Nat.succ_le_succ (cnt_inj n p m _ f (fun v hv hpv => ⟨(h1 v (by omega) hpv).1, ?_⟩) (fun u v hu hv => h2 u v (by omega) (by omega)))
   have : f v ≠ f n := fun e => by have := h2 v n (by omega) (by omega) hpv hp e; omega
   simp [(h1 v (by omega) hpv).2, this]
def ring (v : Nat) : Bool := v % 10 == 0 || v % 10 == 9 || v / 10 == 0 || v / 10 == 9
def cor (s : Nat) : Nat := 10 * (s / 9) + s % 9
def touch (v s : Nat) : Bool := if s = 81 then ring v else v == cor s || v == cor s + 1 || v == cor s + 10 || v == cor s + 11
def phi (v : Nat) : Nat := 9 * min (v / 10) 8 + min (v % 10) 8
def n8 (k : Nat) : Nat × Nat := (k / 4, k / 4 + (if k % 4 = 0 then 1 else if k % 4 = 1 then 10 else if k % 4 = 2 then 11 else 9))
def ok8 (k : Nat) : Bool := if k % 4 = 0 then !(k / 4 % 10 == 9) else if k % 4 = 1 then decide (k / 4 < 90) else if k % 4 = 2 then decide (k / 4 < 90) && !(k / 4 % 10 == 9) else decide (k / 4 < 90) && !(k / 4 % 10 == 0)
def out8 (c : Nat → Bool) (k : Nat) : Bool := ok8 k && (!c (n8 k).1 && !c (n8 k).2)
def h8 (c : Nat → Bool) : List (Nat × Nat) := ((List.range 400).filter (out8 c)).map n8
def atV (v : Nat) : List (Nat × Nat) := ((List.range 180).filter (fun k => inc (gE k) v)).map gD
theorem t_around : ∀ v, v < 100 → ∀ s, s < 82 → touch v s = true → lab (atV v) s = lab (atV v) (phi v) := by decide +kernel
theorem n8_lt : ∀ k, k < 400 → ok8 k = true → (n8 k).1 < 100 ∧ (n8 k).2 < 100 := by decide +kernel
theorem t_cor : ∀ s, s < 81 → cor s + 11 < 100 ∧ cor s % 10 ≠ 9 := by decide +kernel
theorem h8_same {c : Nat → Bool} {k : Nat} (hk : k < 400) (ho : ok8 k = true) (h1 : c (n8 k).1 = false) (h2 : c (n8 k).2 = false) : lab (h8 c) (n8 k).1 = lab (h8 c) (n8 k).2 :=
 lab_edge _ _ (List.mem_map_of_mem (List.mem_filter.2 ⟨List.mem_range.2 hk, by simp [out8, ho, h1, h2]⟩))
theorem h8_ends {c : Nat → Bool} {e : Nat × Nat} (h : e ∈ h8 c) : ∃ k, k < 400 ∧ ok8 k = true ∧ n8 k = e ∧ c e.1 = false ∧ c e.2 = false := by
 obtain ⟨k, hk, rfl⟩ := List.mem_map.1 h
 obtain ⟨h1, h2⟩ := List.mem_filter.1 hk
 simp only [out8, Bool.and_eq_true, Bool.not_eq_true'] at h2
 exact ⟨k, List.mem_range.1 h1, h2.1, rfl, h2.2.1, h2.2.2⟩
theorem side {c : Nat → Bool} {v : Nat} (hv : v < 100) (h9 : v % 10 ≠ 9) (h1 : c v = false) (h2 : c (v + 1) = false) : lab (h8 c) v = lab (h8 c) (v + 1) := by
 have e : n8 (4 * v) = (v, v + 1) := by unfold n8; rw [if_pos (by omega), show 4 * v / 4 = v by omega]
 have := h8_same (c := c) (k := 4 * v) (by omega) (by unfold ok8; rw [if_pos (by omega), show 4 * v / 4 = v by omega]; simpa using h9) (by rw [e]; exact h1) (by rw [e]; exact h2)
 rwa [e] at this
theorem below8 {c : Nat → Bool} {v : Nat} (hv : v < 90) (h1 : c v = false) (h2 : c (v + 10) = false) : lab (h8 c) v = lab (h8 c) (v + 10) := by
 have e : n8 (4 * v + 1) = (v, v + 10) := by unfold n8; rw [if_neg (by omega), if_pos (by omega), show (4 * v + 1) / 4 = v by omega]
 have := h8_same (c := c) (k := 4 * v + 1) (by omega) (by unfold ok8; rw [if_neg (by omega), if_pos (by omega), show (4 * v + 1) / 4 = v by omega]; simpa using hv) (by rw [e]; exact h1) (by rw [e]; exact h2)
 rwa [e] at this
theorem down8 {c : Nat → Bool} {v : Nat} (hv : v < 90) (h9 : v % 10 ≠ 9) (h1 : c v = false) (h2 : c (v + 11) = false) : lab (h8 c) v = lab (h8 c) (v + 11) := by
 have e : n8 (4 * v + 2) = (v, v + 11) := by unfold n8; rw [if_neg (by omega), if_neg (by omega), if_pos (by omega), show (4 * v + 2) / 4 = v by omega]
 have := h8_same (c := c) (k := 4 * v + 2) (by omega) (by unfold ok8; rw [if_neg (by omega), if_neg (by omega), if_pos (by omega), show (4 * v + 2) / 4 = v by omega]; simp [hv, h9]) (by rw [e]; exact h1) (by rw [e]; exact h2)
 rwa [e] at this
theorem back8 {c : Nat → Bool} {v : Nat} (hv : v < 90) (h9 : v % 10 ≠ 0) (h1 : c v = false) (h2 : c (v + 9) = false) : lab (h8 c) v = lab (h8 c) (v + 9) := by
 have e : n8 (4 * v + 3) = (v, v + 9) := by unfold n8; rw [if_neg (by omega), if_neg (by omega), if_neg (by omega), show (4 * v + 3) / 4 = v by omega]
 have := h8_same (c := c) (k := 4 * v + 3) (by omega) (by unfold ok8; rw [if_neg (by omega), if_neg (by omega), if_neg (by omega), show (4 * v + 3) / 4 = v by omega]; simp [hv, h9]) (by rw [e]; exact h1) (by rw [e]; exact h2)
 rwa [e] at this
theorem four {v s : Nat} (hs : s < 81) (h : touch v s = true) : v = cor s ∨ v = cor s + 1 ∨ v = cor s + 10 ∨ v = cor s + 11 := by
 unfold touch at h
 rw [if_neg (by omega)] at h
 simpa [or_assoc] using h
theorem corners {c : Nat → Bool} {s p q : Nat} (hs : s < 81) (hp : touch p s = true) (hq : touch q s = true) (h1 : c p = false) (h2 : c q = false) : lab (h8 c) p = lab (h8 c) q := by
 obtain ⟨l1, l2⟩ := t_cor s hs
 generalize hd : cor s = d at l1 l2
 have a := four hs hp
 have b := four hs hq
 rw [hd] at a b
 have e1 : ∀ h1 h2, lab (h8 c) d = lab (h8 c) (d + 1) := fun h1 h2 => side (c := c) (v := d) (by omega) l2 h1 h2
 have e2 : ∀ h1 h2, lab (h8 c) d = lab (h8 c) (d + 10) := fun h1 h2 => below8 (c := c) (v := d) (by omega) h1 h2
 have e3 : ∀ h1 h2, lab (h8 c) d = lab (h8 c) (d + 11) := fun h1 h2 => down8 (c := c) (v := d) (by omega) l2 h1 h2
 have e4 : ∀ h1 h2, lab (h8 c) (d + 1) = lab (h8 c) (d + 10) := fun h1 h2 => back8 (c := c) (v := d + 1) (by omega) (by omega) h1 h2
 have e5 : ∀ h1 h2, lab (h8 c) (d + 1) = lab (h8 c) (d + 11) := fun h1 h2 => below8 (c := c) (v := d + 1) (by omega) h1 h2
 have e6 : ∀ h1 h2, lab (h8 c) (d + 10) = lab (h8 c) (d + 11) := fun h1 h2 => side (c := c) (v := d + 10) (by omega) (by omega) h1 h2
 rcases a with rfl | rfl | rfl | rfl <;> rcases b with rfl | rfl | rfl | rfl <;>
  first | rfl | exact e1 h1 h2 | exact e2 h1 h2 | exact e3 h1 h2 | exact e4 h1 h2 | exact e5 h1 h2 | exact e6 h1 h2 | exact (e1 h2 h1).symm | exact (e2 h2 h1).symm | exact (e3 h2 h1).symm | exact (e4 h2 h1).symm | exact (e5 h2 h1).symm | exact (e6 h2 h1).symm
theorem around {c : Nat → Bool} {v s : Nat} (hv : v < 100) (hs : s < 82) (h : touch v s = true) (hc : c v = false) : lab ((eO c).reverse.map gD) s = lab ((eO c).reverse.map gD) (phi v) := by
 have k := lab_keeps (lab ((eO c).reverse.map gD)) (atV v) (fun e he => by
  obtain ⟨k, hk, rfl⟩ := List.mem_map.1 he
  obtain ⟨h1, h2⟩ := List.mem_filter.1 hk
  refine lab_edge _ _ (List.mem_map_of_mem (List.mem_reverse.2 (List.mem_filter.2 ⟨h1, ?_⟩)))
  unfold inR
  unfold inc at h2
  by_cases a : v = (gE k).1
  ·rw [← a, hc]; rfl
  ·have a' : (v == (gE k).1) = false := by simpa using a
   rw [a'] at h2
   have b : v = (gE k).2 := by simpa using h2
   rw [← b, hc]; simp)
 rw [← k s, ← k (phi v), t_around v hv s hs h]
def least (es : List (Nat × Nat)) (v : Nat) : Bool := (List.range v).all (fun u => !(lab es u == lab es v))
theorem least_iff {es : List (Nat × Nat)} {v : Nat} : least es v = true ↔ ∀ u, u < v → lab es u ≠ lab es v := by
 unfold least
 rw [List.all_eq_true]
 constructor
 ·intro h u hu
  have := h u (List.mem_range.2 hu)
  simpa using this
 ·intro h u hu
  have := h u (List.mem_range.1 hu)
  simpa using this
theorem least_ex (es : List (Nat × Nat)) (v : Nat) : ∃ u, u ≤ v ∧ lab es u = lab es v ∧ least es u = true := by
 induction v using Nat.strongRecOn with
 | ind v ih =>
  cases h : least es v
  ·have : ∃ u, u < v ∧ lab es u = lab es v := by
    refine Classical.byContradiction (fun k => ?_)
    rw [least_iff.2 (fun u hu e => k ⟨u, hu, e⟩)] at h
    cases h
   obtain ⟨u, hu, e⟩ := this
   obtain ⟨z, hz, e2, e3⟩ := ih u hu
   exact ⟨z, by omega, e2.trans e, e3⟩
  ·exact ⟨v, Nat.le_refl _, rfl, h⟩
theorem flood {es : List (Nat × Nat)} {seen : Nat → Bool} {a : Nat} (ha : seen a = true) (hin : ∀ v, seen v = true → lab es v = lab es a) (hrest : ∀ e, e ∈ es → seen e.1 = seen e.2) (v : Nat) : seen v = (lab es v == lab es a) := by
 have k := lab_keeps seen es hrest
 cases h : seen v
 ·symm
  rw [beq_eq_false_iff_ne]
  intro q
  have := k v
  rw [q, k a, ha, h] at this
  cases this
 ·rw [hin v h, beq_self_eq_true]
def io (i : Nat) : Nat := 10 * (i / 8 + 1) + (i % 8 + 1)
def oi (v : Nat) : Nat := 8 * (v / 10 - 1) + (v % 10 - 1)
theorem oi_io (i : Nat) : oi (io i) = i := by unfold oi io; omega
theorem io_oi {v : Nat} (h : ring v = false) : io (oi v) = v := by
 unfold ring at h
 simp only [Bool.or_eq_false_iff, beq_eq_false_iff_ne, ne_eq] at h
 unfold oi io; omega
theorem io_lt {i : Nat} (h : i < 64) : io i < 100 ∧ ring (io i) = false := by
 refine ⟨by unfold io; omega, ?_⟩
 unfold ring io
 simp only [Bool.or_eq_false_iff, beq_eq_false_iff_ne, ne_eq]
 omega
theorem io_mono {i j : Nat} : i < j → io i < io j := by unfold io; omega
theorem oi_lt {v : Nat} (hv : v < 100) (h : ring v = false) : oi v < 64 := by
 unfold ring at h
 simp only [Bool.or_eq_false_iff, beq_eq_false_iff_ne, ne_eq] at h
 unfold oi; omega
end Go.Proofs.YtmajllgfmclcoaaGreatDoor.Euler

namespace Go.Proofs.YtmajllgfmclcoaaGreatDoor.Euler
set_option linter.unusedVariables false

theorem cnt_add (p : Nat → Bool) (n : Nat) : ∀ m, cnt (n + m) p = cnt n p + cnt m (fun v => p (n + v))
 | 0 => rfl
 | m + 1 => by rw [← Nat.add_assoc]; simp only [cnt]; rw [cnt_add p n m]; omega
theorem filter_cnt (p : Nat → Bool) : ∀ n, ((List.range n).filter p).length = cnt n p
 | 0 => rfl
 | n + 1 => by
  rw [List.range_succ, List.filter_append, List.length_append, filter_cnt p n]
  simp only [cnt, List.filter_cons, List.filter_nil]
  cases p n <;> rfl
end Go.Proofs.YtmajllgfmclcoaaGreatDoor.Euler

namespace Go.Proofs.YtmajllgfmclcoaaGreatDoor.Bal
set_option linter.unusedVariables false
open Go.Proofs.YtmajllgfmclcoaaGreatDoor.Pure Go.Proofs.YtmajllgfmclcoaaGreatDoor.Euler

def bitI (xs : List Int) (j : Nat) : Bool := bitB (rowD xs (j / 8)) (j % 8)
def cR (xs : List Int) (v : Nat) : Bool := !ring v && bitI xs (oi v)
theorem cR_ring (xs : List Int) (v : Nat) (hv : v < 100) (h : ring v = true) : cR xs v = false := by unfold cR; rw [h]; rfl
theorem cR_io (xs : List Int) {i : Nat} (h : i < 64) : cR xs (io i) = bitI xs i := by unfold cR; rw [(io_lt h).2, oi_io]; rfl
theorem cR_in {xs : List Int} {v : Nat} (hv : v < 100) (h : cR xs v = true) : oi v < 64 ∧ io (oi v) = v ∧ bitI xs (oi v) = true := by
 unfold cR at h
 simp only [Bool.and_eq_true, Bool.not_eq_true'] at h
 exact ⟨oi_lt hv h.1, io_oi h.1, h.2⟩
def nbI (i j : Nat) : Prop := (i / 8 = j / 8 ∧ (i = j + 1 ∨ j = i + 1)) ∨ i = j + 8 ∨ j = i + 8
theorem nbI.symm {i j : Nat} (h : nbI i j) : nbI j i := by unfold nbI at h ⊢; omega
def pe (xs : List Int) : List (Nat × Nat) := (eR (cR xs)).map gE
theorem pe_mem {xs : List Int} {k : Nat} (hk : k < 180) (h1 : cR xs (gE k).1 = true) (h2 : cR xs (gE k).2 = true) : gE k ∈ pe xs :=
 List.mem_map_of_mem (List.mem_filter.2 ⟨List.mem_range.2 hk, by unfold inR; rw [h1, h2]; rfl⟩)
theorem pe_join1 {xs : List Int} {i j : Nat} (hi : i < 64) (hj : j < 64) (h : (i / 8 = j / 8 ∧ j = i + 1) ∨ j = i + 8) (h1 : bitI xs i = true) (h2 : bitI xs j = true) : (io i, io j) ∈ pe xs := by
 have c1 := (cR_io xs hi).trans h1
 have c2 := (cR_io xs hj).trans h2
 rcases h with ⟨a, b⟩ | b
 ·have e : gE (9 * (i / 8 + 1) + (i % 8 + 1)) = (io i, io j) := by
   unfold gE io
   rw [if_pos (by omega)]
   exact Prod.ext (by simp only; omega) (by simp only; omega)
  have := pe_mem (xs := xs) (k := 9 * (i / 8 + 1) + (i % 8 + 1)) (by omega) (by rw [e]; exact c1) (by rw [e]; exact c2)
  rwa [e] at this
 ·have e : gE (90 + io i) = (io i, io j) := by
   unfold gE io
   rw [if_neg (by omega)]
   exact Prod.ext (by simp only; omega) (by simp only; omega)
  have l := (io_lt hi).1
  have l2 := (io_lt hj).1
  have := pe_mem (xs := xs) (k := 90 + io i) (by unfold io at l2 ⊢; omega) (by rw [e]; exact c1) (by rw [e]; exact c2)
  rwa [e] at this
theorem pe_join {xs : List Int} {i j : Nat} (hi : i < 64) (hj : j < 64) (h : nbI i j) (h1 : bitI xs i = true) (h2 : bitI xs j = true) : lab (pe xs) (io i) = lab (pe xs) (io j) := by
 unfold nbI at h
 by_cases a : i < j
 ·exact lab_edge _ _ (pe_join1 hi hj (by omega) h1 h2)
 ·exact (lab_edge _ _ (pe_join1 hj hi (by omega) h2 h1)).symm
theorem gE_nb : ∀ k, k < 180 → ring (gE k).1 = false → ring (gE k).2 = false → (oi (gE k).1 / 8 = oi (gE k).2 / 8 ∧ oi (gE k).2 = oi (gE k).1 + 1) ∨ oi (gE k).2 = oi (gE k).1 + 8 := by decide +kernel
theorem pe_ends {xs : List Int} {e : Nat × Nat} (h : e ∈ pe xs) : ∃ i j, i < 64 ∧ j < 64 ∧ e = (io i, io j) ∧ nbI i j ∧ bitI xs i = true ∧ bitI xs j = true := by
 obtain ⟨k, hk, rfl⟩ := List.mem_map.1 h
 obtain ⟨h1, h2⟩ := List.mem_filter.1 hk
 have hk := List.mem_range.1 h1
 simp only [inR, Bool.and_eq_true] at h2
 have l := gE_lt k hk
 obtain ⟨a1, b1, c1⟩ := cR_in l.1 h2.1
 obtain ⟨a2, b2, c2⟩ := cR_in l.2 h2.2
 have r1 : ring (gE k).1 = false := by have := (io_lt a1).2; rwa [b1] at this
 have r2 : ring (gE k).2 = false := by have := (io_lt a2).2; rwa [b2] at this
 have q := gE_nb k hk r1 r2
 exact ⟨_, _, a1, a2, by rw [b1, b2], by unfold nbI; omega, c1, c2⟩
def sameP (xs : List Int) (i j : Nat) : Bool := lab (pe xs) (io j) == lab (pe xs) (io i)
theorem sameP_refl (xs : List Int) (i : Nat) : sameP xs i i = true := by unfold sameP; rw [beq_self_eq_true]
theorem flood64 {xs : List Int} {seen : Nat → Bool} {a : Nat} (ha : a < 64) (hs : seen a = true) (hin : ∀ i, i < 64 → seen i = true → bitI xs i = true ∧ sameP xs a i = true)
  (hrest : ∀ i j, i < 64 → j < 64 → seen i = true → nbI i j → bitI xs j = true → seen j = true) (i : Nat) (hi : i < 64) : seen i = (bitI xs i && sameP xs a i) := by
 have hba := (hin a ha hs).1
 have q := flood (es := pe xs) (seen := fun v => cR xs v && decide (v < 100) && seen (oi v)) (a := io a)
  (by show (cR xs (io a) && decide (io a < 100) && seen (oi (io a))) = true; rw [cR_io xs ha, oi_io, hba, hs, decide_eq_true (io_lt ha).1]; rfl)
  (fun v hv => by
   simp only [Bool.and_eq_true, decide_eq_true_eq] at hv
   obtain ⟨l, e, b⟩ := cR_in hv.1.2 hv.1.1
   have := (hin _ l hv.2).2
   unfold sameP at this
   rw [beq_iff_eq, e] at this
   exact this)
  (fun e he => by
   obtain ⟨i, j, hi, hj, rfl, hn, b1, b2⟩ := pe_ends he
   show (cR xs (io i) && decide (io i < 100) && seen (oi (io i))) = (cR xs (io j) && decide (io j < 100) && seen (oi (io j)))
   rw [cR_io xs hi, cR_io xs hj, b1, b2, oi_io, oi_io, decide_eq_true (io_lt hi).1, decide_eq_true (io_lt hj).1, Bool.eq_iff_iff]
   simp only [Bool.true_and]
   exact ⟨fun h => hrest i j hi hj h hn b2, fun h => hrest j i hj hi h hn.symm b1⟩) (io i)
 cases hb : bitI xs i
 ·cases hsi : seen i
  ·rfl
  ·rw [(hin i hi hsi).1] at hb; cases hb
 ·have q2 : (cR xs (io i) && decide (io i < 100) && seen (oi (io i))) = sameP xs a i := q
  rw [cR_io xs hi, hb, oi_io, decide_eq_true (io_lt hi).1] at q2
  simpa using q2
def pieceTo (xs : List Int) (a k : Nat) : List (Int × Int) := ((List.range k).filter fun j => bitI xs j && sameP xs a j).map fun j => (((j % 8 : Nat) : Int), ((j / 8 : Nat) : Int))
theorem pieceTo_yes {xs : List Int} {a k : Nat} (h : (bitI xs k && sameP xs a k) = true) : pieceTo xs a (k + 1) = pieceTo xs a k ++ [(((k % 8 : Nat) : Int), ((k / 8 : Nat) : Int))] := by
 unfold pieceTo; rw [List.range_succ, List.filter_append, List.map_append]; simp [h]
theorem pieceTo_no {xs : List Int} {a k : Nat} (h : (bitI xs k && sameP xs a k) = false) : pieceTo xs a (k + 1) = pieceTo xs a k := by
 unfold pieceTo; rw [List.range_succ, List.filter_append, List.map_append]; simp [h]
theorem pieceTo_length (xs : List Int) (a k : Nat) : (pieceTo xs a k).length ≤ k := by
 unfold pieceTo; rw [List.length_map]; exact Nat.le_trans (List.length_filter_le _ _) (by rw [List.length_range]; exact Nat.le_refl _)
def adj8 (u v : Nat) : Bool := decide (u / 10 ≤ v / 10 + 1) && decide (v / 10 ≤ u / 10 + 1) && decide (u % 10 ≤ v % 10 + 1) && decide (v % 10 ≤ u % 10 + 1)
theorem adj_touch : ∀ u, u < 100 → ∀ v, v < 100 → adj8 u v = true → 9 * min (min (u / 10) (v / 10)) 8 + min (min (u % 10) (v % 10)) 8 < 81 ∧ touch u (9 * min (min (u / 10) (v / 10)) 8 + min (min (u % 10) (v % 10)) 8) = true ∧ touch v (9 * min (min (u / 10) (v / 10)) 8 + min (min (u % 10) (v % 10)) 8) = true := by decide +kernel
theorem join8 {c : Nat → Bool} {u v : Nat} (hu : u < 100) (hv : v < 100) (h : adj8 u v = true) (h1 : c u = false) (h2 : c v = false) : lab (h8 c) u = lab (h8 c) v := by
 obtain ⟨a, b, d⟩ := adj_touch u hu v hv h
 exact corners a b d h1 h2
theorem n8_adj : ∀ k, k < 400 → ok8 k = true → adj8 (n8 k).1 (n8 k).2 = true ∧ adj8 (n8 k).2 (n8 k).1 = true := by decide +kernel
theorem flood100 {c : Nat → Bool} {seen : Nat → Bool} {a : Nat} (hs : seen a = true) (hin : ∀ v, seen v = true → lab (h8 c) v = lab (h8 c) a)
  (hrest : ∀ u v, u < 100 → v < 100 → seen u = true → adj8 u v = true → c u = false → c v = false → seen v = true) (v : Nat) : seen v = (lab (h8 c) v == lab (h8 c) a) :=
 flood hs hin (fun e he => by
  obtain ⟨k, hk, ho, rfl, c1, c2⟩ := h8_ends he
  have l := n8_lt k hk ho
  have t := n8_adj k hk ho
  rw [Bool.eq_iff_iff]
  exact ⟨fun h => hrest _ _ l.1 l.2 h t.1 c1 c2, fun h => hrest _ _ l.2 l.1 h t.2 c2 c1⟩) v
end Go.Proofs.YtmajllgfmclcoaaGreatDoor.Bal

namespace Go.Proofs.YtmajllgfmclcoaaGreatDoor.Bal
set_option linter.unusedVariables false
open Go.Proofs.YtmajllgfmclcoaaGreatDoor.Pure Go.Proofs.YtmajllgfmclcoaaGreatDoor.Euler

theorem cR_has {xs : List Int} (ho : okR xs) {v : Nat} (hv : v < 100) : cR xs v = hasB xs (((v % 10 : Nat) : Int) - 1) (((v / 10 : Nat) : Int) - 1) := by
 rw [Bool.eq_iff_iff, hasB_iff]
 constructor
 ·intro h
  have h2 := h
  unfold cR at h
  simp only [Bool.and_eq_true, Bool.not_eq_true'] at h
  obtain ⟨r, b⟩ := h
  unfold ring at r
  simp only [Bool.or_eq_false_iff, beq_eq_false_iff_ne, ne_eq] at r
  refine ⟨ho, by omega, by omega, by omega, by omega, ?_⟩
  unfold bitI oi at b
  rw [show (8 * (v / 10 - 1) + (v % 10 - 1)) / 8 = (((v / 10 : Nat) : Int) - 1).toNat by omega, show (8 * (v / 10 - 1) + (v % 10 - 1)) % 8 = (((v % 10 : Nat) : Int) - 1).toNat by omega] at b
  exact b
 ·rintro ⟨_, x0, x7, y0, y7, b⟩
  unfold cR
  have r : ring v = false := by
   unfold ring
   simp only [Bool.or_eq_false_iff, beq_eq_false_iff_ne, ne_eq]
   omega
  rw [r]
  unfold bitI oi
  rw [show (8 * (v / 10 - 1) + (v % 10 - 1)) / 8 = (((v / 10 : Nat) : Int) - 1).toNat by omega, show (8 * (v / 10 - 1) + (v % 10 - 1)) % 8 = (((v % 10 : Nat) : Int) - 1).toNat by omega, b]
  rfl
theorem cnt_io {xs : List Int} {p : Nat → Bool} (h : ∀ v, v < 100 → p v = true → cR xs v = true) : cnt 100 p = cnt 64 (fun i => p (io i)) := by
 refine Nat.le_antisymm (cnt_inj _ _ _ _ oi ?_ ?_) (cnt_inj _ _ _ _ io ?_ ?_)
 ·intro v hv hp
  obtain ⟨l, e, _⟩ := cR_in hv (h v hv hp)
  exact ⟨l, by rw [e]; exact hp⟩
 ·intro u v hu hv h1 h2 e
  obtain ⟨_, e1, _⟩ := cR_in hu (h u hu h1)
  obtain ⟨_, e2, _⟩ := cR_in hv (h v hv h2)
  rw [← e1, ← e2, e]
 ·intro i hi hp; exact ⟨(io_lt hi).1, hp⟩
 ·intro i j _ _ _ _ e
  rw [← oi_io i, ← oi_io j, e]
def leastI (xs : List Int) (i : Nat) : Bool := (List.range i).all (fun j => !(bitI xs j && sameP xs i j))
theorem leastI_iff {xs : List Int} {i : Nat} : leastI xs i = true ↔ ∀ j, j < i → bitI xs j = true → sameP xs i j = false := by
 unfold leastI
 rw [List.all_eq_true]
 constructor
 ·intro h j hj hb
  have := h j (List.mem_range.2 hj)
  rw [hb] at this
  simpa using this
 ·intro h j hj
  cases hb : bitI xs j
  ·rfl
  ·rw [h j (List.mem_range.1 hj) hb]; rfl
theorem least_io {xs : List Int} {i : Nat} (hi : i < 64) (hb : bitI xs i = true) : least (pe xs) (io i) = leastI xs i := by
 have kc : ∀ v, cR xs (lab (pe xs) v) = cR xs v := lab_keeps (cR xs) (pe xs) (fun e he => by
  obtain ⟨a, b, ha, hb, rfl, _, b1, b2⟩ := pe_ends he
  show cR xs (io a) = cR xs (io b)
  rw [cR_io xs ha, cR_io xs hb, b1, b2])
 rw [Bool.eq_iff_iff, least_iff, leastI_iff]
 constructor
 ·intro h j hj hbj
  have := h (io j) (io_mono hj)
  unfold sameP
  rw [beq_eq_false_iff_ne]
  exact this
 ·intro h u hu e
  have hu1 : u < 100 := Nat.lt_trans hu (io_lt hi).1
  have c1 : cR xs u = true := by rw [← kc u, e, kc, cR_io xs hi, hb]
  obtain ⟨l, e1, b1⟩ := cR_in hu1 c1
  have lt : oi u < i := by
   rcases Nat.lt_trichotomy (oi u) i with q | q | q
   ·exact q
   ·rw [← e1, q] at hu; omega
   ·have := io_mono q; rw [e1] at this; omega
  have := h (oi u) lt b1
  unfold sameP at this
  rw [beq_eq_false_iff_ne, e1] at this
  exact this e
def piecesN (xs : List Int) : Nat := cnt 64 (fun i => bitI xs i && leastI xs i)
def outsN (xs : List Int) : Nat := cnt 100 (fun v => !cR xs v && least (h8 (cR xs)) v)
theorem outs_pos (xs : List Int) : 1 ≤ outsN xs := by
 unfold outsN
 rw [cnt_less _ 0 (by rw [cR_ring xs 0 (by omega) rfl]; rfl) 100 (by omega)]
 omega
end Go.Proofs.YtmajllgfmclcoaaGreatDoor.Bal

namespace Go.Proofs.YtmajllgfmclcoaaGreatDoor.Bal
set_option linter.unusedVariables false
open Go.Proofs.YtmajllgfmclcoaaGreatDoor.Pure

def cellI (i : Nat) : Int × Int := (((i % 8 : Nat) : Int), ((i / 8 : Nat) : Int))
theorem cellI_inj {i j : Nat} (h : cellI i = cellI j) : i = j := by
 unfold cellI at h
 have h1 := congrArg Prod.fst h
 have h2 := congrArg Prod.snd h
 simp only at h1 h2
 omega
theorem piece_first {xs : List Int} {a : Nat} (ha : a < 64) (hb : bitI xs a = true) : ∃ m, m < 64 ∧ (pieceTo xs a 64)[0]? = some (cellI m) ∧ (m = a ↔ leastI xs a = true) := by
 have e : (pieceTo xs a 64)[0]? = ((List.range 64).find? fun j => bitI xs j && sameP xs a j).map cellI := by
  unfold pieceTo
  rw [List.getElem?_map, ← List.head?_eq_getElem?, List.head?_filter]
  rfl
 cases hf : (List.range 64).find? fun j => bitI xs j && sameP xs a j with
 | none =>
  have := List.find?_eq_none.1 hf a (List.mem_range.2 ha)
  rw [hb, sameP_refl] at this
  exact absurd rfl this
 | some m =>
  obtain ⟨p, hm, hl⟩ := List.find?_range_eq_some.1 hf
  refine ⟨m, List.mem_range.1 hm, by rw [e, hf]; rfl, ?_⟩
  rw [leastI_iff]
  constructor
  ·rintro rfl j hj hbj
   have := hl j hj
   rw [hbj] at this
   simpa using this
  ·intro h
   rcases Nat.lt_trichotomy m a with q | q | q
   ·simp only [Bool.and_eq_true] at p
    rw [h m q p.1] at p
    exact absurd p.2 (by simp)
   ·exact q
   ·have := hl a q
    rw [hb, sameP_refl] at this
    exact absurd this (by simp)
theorem hasB_at {xs : List Int} (ho : okR xs) {u v : Nat} (hu : u < 8) (hv : v < 8) : hasB xs (u : Int) (v : Int) = bitI xs (8 * v + u) := by
 rw [Bool.eq_iff_iff, hasB_iff]
 unfold bitI
 rw [show (8 * v + u) / 8 = v by omega, show (8 * v + u) % 8 = u by omega]
 constructor
 ·rintro ⟨_, _, _, _, _, b⟩; simpa using b
 ·intro b; exact ⟨ho, by omega, by omega, by omega, by omega, by simpa using b⟩
theorem hasB_out {xs : List Int} {u v : Int} (h : ¬ (0 ≤ u ∧ u ≤ 7 ∧ 0 ≤ v ∧ v ≤ 7)) : hasB xs u v = false := by
 cases k : hasB xs u v
 ·rfl
 ·exact absurd (by obtain ⟨_, a, b, c, d, _⟩ := hasB_iff.1 k; exact ⟨a, b, c, d⟩) h
def touchAt (xs : List Int) (i : Nat) : Bool := (bitI xs i == bitI xs (i + 9)) && (bitI xs (i + 1) == bitI xs (i + 8)) && (bitI xs i != bitI xs (i + 1))
def Touch (xs : List Int) : Prop := ∃ i, i < 64 ∧ i % 8 < 7 ∧ i / 8 < 7 ∧ touchAt xs i = true
end Go.Proofs.YtmajllgfmclcoaaGreatDoor.Bal
