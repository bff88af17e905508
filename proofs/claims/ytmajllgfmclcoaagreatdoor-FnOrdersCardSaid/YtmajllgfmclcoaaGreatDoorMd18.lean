/- JnA, HgrA, HgrD, IntE in one text. -/
import Derived.Test.YtmajllgfmclcoaaGreatDoorMd17
import Derived.Test.YtmajllgfmclcoaaGreatDoorMd09
import Derived.Test.YtmajllgfmclcoaaGreatDoorMd00
set_option linter.unusedVariables false
set_option linter.unusedSimpArgs false
namespace Go.Proofs.YtmajllgfmclcoaaGreatDoor.Hgt
open Go.RowKit Dms Til Grd Flp Go.Joins
open Flo (simB)
section
variable {G : Nat → Nat → Bool} {X Y X' Y' : Cx}
theorem nearer2 (h : Tl G X Y) (h' : Tl G X' Y') (hone : One G) {t : Int} (ht : t = 1 ∨ t = -1) (hex : ∃ i j, i ≤ 10 ∧ j ≤ 10 ∧ 0 < t * dif X Y X' Y' i j) :
  ∃ a b, a ≤ 8 ∧ b ≤ 8 ∧ 0 < t * dif X Y X' Y' (a + 1) (b + 1) ∧ ((Y (a + 1) b = true ∧ Y (a + 1) (b + 1) = true ∧ ∀ i j, i ≤ 10 → j ≤ 10 → dif (flX X a b true) (flY Y a b false) X' Y' i j = setE (dif X Y X' Y') (a + 1) (b + 1) (-t) i j) ∨
   (X a (b + 1) = true ∧ X (a + 1) (b + 1) = true ∧ ∀ i j, i ≤ 10 → j ≤ 10 → dif (flX X a b false) (flY Y a b true) X' Y' i j = setE (dif X Y X' Y') (a + 1) (b + 1) (-t) i j)) := by
 obtain ⟨f, hf⟩ := h.heights hone
 obtain ⟨i, j, hi, hj, h0, hpk⟩ := peak (dif X Y X' Y') f t hex
 obtain ⟨a, b, rfl, rfl, ha, hb, g1, g2, g3, g4⟩ := inner h h' hone hi hj (fun q => by rw [q, Int.mul_zero] at h0; omega)
 refine ⟨a, b, ha, hb, h0, ?_⟩
 have dH := fun i j (hi : i < 10) (hj : j ≤ 10) => dif_H h h' (i := i) (j := j) hi hj
 have hrow : ∀ i, i < 10 → dif X Y X' Y' (i + 1) 0 = dif X Y X' Y' i 0 + eH X X' i 0 := fun i hi => dH i 0 hi (by omega)
 have l1 := dH a (b + 1) (by omega) (by omega)
 have r1 := dH (a + 1) (b + 1) (by omega) (by omega)
 have u1 := dif_V X Y X' Y' (a + 1) b
 have d1 := dif_V X Y X' Y' (a + 1) (b + 1)
 have l2 := hf.hor a b (by omega) (by omega) (.inl g1)
 have r2 := hf.hor (a + 1) b (by omega) (by omega) (.inl g2)
 have u2 := hf.ver a b (by omega) (by omega) (.inl g1)
 have d2 := hf.ver a (b + 1) (by omega) (by omega) (.inl g3)
 obtain ⟨pl1, pl2⟩ := hpk a (b + 1) (by omega) (by omega)
 obtain ⟨pr1, pr2⟩ := hpk (a + 1 + 1) (b + 1) (by omega) (by omega)
 obtain ⟨pu1, pu2⟩ := hpk (a + 1) b (by omega) (by omega)
 obtain ⟨pd1, pd2⟩ := hpk (a + 1) (b + 1 + 1) (by omega) (by omega)
 unfold wH at l2 r2
 unfold wV at u2 d2
 have sl : sg a (b + 1) = - sg (a + 1) (b + 1) := by have := sg_r a (b + 1); omega
 have su : sg (a + 1) b = - sg (a + 1) (b + 1) := by have := sg_d (a + 1) b; omega
 rw [sl] at l1 l2
 rw [su] at u1 u2
 have hs := sg_one (a + 1) (b + 1)
 have fin : ∀ (p q : Bool), q = !p → Y (a + 1) b = p → Y (a + 1) (b + 1) = p → sg (a + 1) (b + 1) * (bi q - bi p) = - t → ∀ i j, i ≤ 10 → j ≤ 10 → dif (flX X a b p) (flY Y a b q) X' Y' i j = setE (dif X Y X' Y') (a + 1) (b + 1) (-t) i j := fun p q hpq e1 e2 e3 i j hi hj => by
  rw [flip_dif (X' := X') (Y' := Y') p q hpq e1 e2 ha hb i j hi hj hrow, e3]
 by_cases hu : t = sg (a + 1) (b + 1)
 ·left
  have k1 : bi (Y (a + 1) b) = 1 := up1 hs hu u1 u2 (bi_or _) (bi_or _) pu1 pu2
  have k2 : bi (Y (a + 1) (b + 1)) = 1 := dn1 hs hu d1 d2 (bi_or _) (bi_or _) pd1 pd2
  have m1 := bi_1.1 k1
  have m2 := bi_1.1 k2
  refine ⟨m1, m2, fin true false rfl m1 m2 ?_⟩
  show sg (a + 1) (b + 1) * (0 - 1) = - t
  rw [hu]; exact Int.mul_neg_one _
 ·right
  have hu : t = - sg (a + 1) (b + 1) := by
   clear l1 r1 u1 d1 l2 r2 u2 d2 pl1 pl2 pr1 pr2 pu1 pu2 pd1 pd2 hpk h0 fin
   omega
  have k1 : bi (X a (b + 1)) = 1 := lf1 hs hu l1 l2 (bi_or _) (bi_or _) pl1 pl2
  have k2 : bi (X (a + 1) (b + 1)) = 1 := rg1 hs hu r1 r2 (bi_or _) (bi_or _) pr1 pr2
  have m1 := bi_1.1 k1
  have m2 := bi_1.1 k2
  obtain ⟨n1, n2⟩ := pair_X h m1 m2
  refine ⟨m1, m2, fin false true rfl n1 n2 ?_⟩
  show sg (a + 1) (b + 1) * (1 - 0) = - t
  rw [hu, Int.neg_neg]; exact Int.mul_one _
end
def difL (L M : List Dm) : Fm := dif (xL L) (yL L) (xL M) (yL M)
theorem step_near2 {xs : List Int} {L M : List Dm} (hone : One (gX xs)) (hL : tilB xs L = true) (hM : tilB xs M = true) {t : Int} (ht : t = 1 ∨ t = -1) (hex : ∃ i j, i ≤ 10 ∧ j ≤ 10 ∧ 0 < t * difL L M i j) :
  ∃ x y b a c, (0 ≤ x ∧ x ≤ 6 ∧ 0 ≤ y ∧ y ≤ 6) ∧ has2 L x y b = true ∧ a ≤ 10 ∧ c ≤ 10 ∧ 0 < t * difL L M a c ∧ ∀ i j, i ≤ 10 → j ≤ 10 → difL (turn L x y b) M i j = setE (difL L M) a c (-t) i j := by
 have tL := tl_of hL
 have tM := tl_of hM
 have vL := part_valid (til_part hL)
 obtain ⟨a, c, ha, hc, h0, h⟩ := nearer2 tL tM hone ht hex
 rcases h with ⟨h1, h2, h3⟩ | ⟨h1, h2, h3⟩
 ·have m1 := yL_iff.1 h1
  have m2 := yL_iff.1 h2
  have o1 := ok_rt (vL _ m1)
  have o2 := ok_rt (vL _ m2)
  have h6 : 0 ≤ (a : Int) - 1 ∧ (a : Int) - 1 ≤ 6 ∧ 0 ≤ (c : Int) - 1 ∧ (c : Int) - 1 ≤ 6 := by omega
  refine ⟨(a : Int) - 1, (c : Int) - 1, false, a + 1, c + 1, h6, has2_iff.2 ⟨?_, ?_⟩, by omega, by omega, h0, ?_⟩
  ·unfold pr1; rw [show (a : Int) - 1 = ((a + 1 : Nat) : Int) - 2 by omega]; exact m1
  ·unfold pr2
   rw [if_neg (by simp), show (a : Int) - 1 = ((a + 1 : Nat) : Int) - 2 by omega, show (c : Int) - 1 + 1 = ((c + 1 : Nat) : Int) - 1 by omega]; exact m2
  ·obtain ⟨e1, e2⟩ := turn_X (xs := xs) (L := L) (b := false) vL h6 (a := a) (c := c) (by omega) (by omega)
   unfold difL
   rw [e1, e2]; exact h3
 ·have m1 := xL_iff.1 h1
  have m2 := xL_iff.1 h2
  have o1 := ok_dn (vL _ m1)
  have o2 := ok_dn (vL _ m2)
  have h6 : 0 ≤ (a : Int) - 1 ∧ (a : Int) - 1 ≤ 6 ∧ 0 ≤ (c : Int) - 1 ∧ (c : Int) - 1 ≤ 6 := by omega
  refine ⟨(a : Int) - 1, (c : Int) - 1, true, a + 1, c + 1, h6, has2_iff.2 ⟨?_, ?_⟩, by omega, by omega, h0, ?_⟩
  ·unfold pr1; rw [show (c : Int) - 1 = ((c + 1 : Nat) : Int) - 2 by omega]; exact m1
  ·unfold pr2
   rw [if_pos rfl, show (a : Int) - 1 + 1 = ((a + 1 : Nat) : Int) - 1 by omega, show (c : Int) - 1 = ((c + 1 : Nat) : Int) - 2 by omega]; exact m2
  ·obtain ⟨e1, e2⟩ := turn_X (xs := xs) (L := L) (b := true) vL h6 (a := a) (c := c) (by omega) (by omega)
   unfold difL
   rw [e1, e2]; exact h3
theorem sum_zero : ∀ (l : List Nat), l.sum = 0 → ∀ x ∈ l, x = 0
 | [], _, x, h => by cases h
 | y :: r, h, x, hx => by
  rw [List.sum_cons] at h
  rcases List.mem_cons.1 hx with rfl | hx
  ·omega
  ·exact sum_zero r (by omega) x hx
def prt (t : Int) (E : Fm) : Fm := fun i j => if 0 < t * E i j then E i j else 0
theorem less2 {t e : Int} (ht : t = 1 ∨ t = -1) (h0 : 0 < t * e) : (if 0 < t * (e + -t) then e + -t else 0).natAbs + 1 = e.natAbs := by
 rcases ht with rfl | rfl <;> split <;> omega
theorem join_ex {xs : List Int} (hone : One (gX xs)) {M : List Dm} (hM : tilB xs M = true) {t : Int} (ht : t = 1 ∨ t = -1) (n : Nat) : ∀ L : List Dm, tilB xs L = true → far (prt t (difL L M)) = n →
  ∃ N, tilB xs N = true ∧ ∀ i j, i ≤ 10 → j ≤ 10 → difL N M i j = if 0 < t * difL L M i j then 0 else difL L M i j := by
 induction n with
 | zero =>
  intro L hL hn
  by_cases hex : ∃ i j, i ≤ 10 ∧ j ≤ 10 ∧ 0 < t * difL L M i j
  ·obtain ⟨x, y, b, a, c, h6, hb, ha, hc, h0, he⟩ := step_near2 hone hL hM ht hex
   exfalso
   have hk : far (prt t (difL L M)) = 0 := hn
   unfold far at hk
   have hz := (sum_zero _ hk) (prt t (difL L M) a c).natAbs (List.mem_map.2 ⟨11 * c + a, List.mem_range.2 (by omega), by rw [show (11 * c + a) % 11 = a by omega, show (11 * c + a) / 11 = c by omega]⟩)
   unfold prt at hz
   rw [if_pos h0] at hz
   have : difL L M a c = 0 := by omega
   rw [this, Int.mul_zero] at h0
   omega
  ·exact ⟨L, hL, fun i j hi hj => by rw [if_neg (fun q => hex ⟨i, j, hi, hj, q⟩)]⟩
 | succ n ih =>
  intro L hL hn
  by_cases hex : ∃ i j, i ≤ 10 ∧ j ≤ 10 ∧ 0 < t * difL L M i j
  ·obtain ⟨x, y, b, a, c, h6, hb, ha, hc, h0, he⟩ := step_near2 hone hL hM ht hex
   have hp := til_part hL
   have hfs := far_set (E := prt t (difL L M)) (E' := prt t (difL (turn L x y b) M)) ha hc (fun i j hi hj hne => by
    unfold prt
    rw [he i j hi hj, setE_ne (fun k => hne (by rw [k.1, k.2]))])
   have e1 : prt t (difL (turn L x y b) M) a c = if 0 < t * (difL L M a c + -t) then difL L M a c + -t else 0 := by
    unfold prt
    rw [he a c ha hc, setE_at]
   have e2 : prt t (difL L M) a c = difL L M a c := if_pos h0
   have e3 := less2 ht h0
   rw [e1, e2, hn] at hfs
   obtain ⟨N, hN, hd⟩ := ih (turn L x y b) (turn_til hp h6 hb hL) (by omega)
   refine ⟨N, hN, fun i j hi hj => ?_⟩
   rw [hd i j hi hj, he i j hi hj]
   by_cases q : i = a ∧ j = c
   ·obtain ⟨rfl, rfl⟩ := q
    rw [setE_at, if_pos h0]
    clear hfs e1 e2 e3 he hd
    generalize difL L M i j = e at h0
    rcases ht with rfl | rfl <;> split <;> omega
   ·rw [setE_ne q]
  ·exact ⟨L, hL, fun i j hi hj => by rw [if_neg (fun q => hex ⟨i, j, hi, hj, q⟩)]⟩
end Go.Proofs.YtmajllgfmclcoaaGreatDoor.Hgt
namespace Go.Proofs.YtmajllgfmclcoaaGreatDoor.Hgt
open Go.RowKit Go.Proofs.YtmajllgfmclcoaaGreatDoor.Pure Dms Til Grd Flp Go.Joins
theorem at_ix {xs : List Int} {L : List Dm} (h : partB xs L = true) {k : Nat} (hk : k < L.length) {x y : Int} (hc : covM L[k] x y = true) : atI L x y = (k : Int) := by
 obtain ⟨h1, h2⟩ := part_at h hk
 rcases (cov_two hc).2 with ⟨rfl, rfl⟩ | ⟨rfl, rfl⟩
 ·exact h1
 ·exact h2
theorem at_til {xs : List Int} {L : List Dm} (ht : tilB xs L = true) (x y : Int) :
  (hasB xs x y = false ∧ atI L x y = -1) ∨ (hasB xs x y = true ∧ ∃ k, ∃ hk : k < L.length, covM L[k] x y = true ∧ atI L x y = (k : Int)) := by
 have hp := til_part ht
 cases q : anyM L x y with
 | true =>
  right
  unfold anyM at q
  obtain ⟨d, hd, hc⟩ := List.any_eq_true.1 q
  obtain ⟨k, hk, rfl⟩ := List.getElem_of_mem hd
  exact ⟨part_in hp hd hc, k, hk, hc, at_ix hp hk hc⟩
 | false =>
  left
  refine ⟨?_, ?_⟩
  ·cases r : hasB xs x y with
   | false => rfl
   | true =>
    rw [tilB_part hp, decide_eq_true_eq] at ht
    have hn : unc L (cellsR xs) = [] := List.eq_nil_of_length_eq_zero ht
    have : (x, y) ∈ unc L (cellsR xs) := by
     unfold unc
     exact List.mem_filter.2 ⟨mem_cells.2 r, by simp [q]⟩
    rw [hn] at this; cases this
  ·unfold atI
   rw [atN_none.2 q]
def oX (m : Int) (b : Bool) : Int := if b then m else m + 1
def oY (n : Int) (b : Bool) : Int := if b then n + 1 else n
theorem cov_both {m n : Int} {b : Bool} (h : okM (m, n, b) = true) : covM (m, n, b) m n = true ∧ covM (m, n, b) (oX m b) (oY n b) = true := by
 cases b with
 | true => exact cov_dn h
 | false => exact cov_rt h
theorem cov_back {d : Dm} {m n : Int} {b : Bool} (h1 : covM d m n = true) (h2 : covM d (oX m b) (oY n b) = true) : d = (m, n, b) := by
 have e1 := cov_who h1
 have e2 := cov_who h2
 obtain ⟨a, c, e⟩ := d
 cases b <;> cases e <;> simp [oX, oY] at e1 e2 ⊢ <;> omega
theorem around {xs : List Int} {L : List Dm} (ht : tilB xs L = true) (m n : Int) (b : Bool) :
  atI L m n ≠ atI L (oX m b) (oY n b) ↔ (hasB xs m n = true ∨ hasB xs (oX m b) (oY n b) = true) ∧ (m, n, b) ∉ L := by
 have hp := til_part ht
 have hin : (m, n, b) ∈ L → hasB xs m n = true ∧ hasB xs (oX m b) (oY n b) = true ∧ atI L m n = atI L (oX m b) (oY n b) := fun hm => by
  obtain ⟨c1, c2⟩ := cov_both (part_valid hp _ hm)
  obtain ⟨k, hk, e⟩ := List.getElem_of_mem hm
  refine ⟨part_in hp hm c1, part_in hp hm c2, ?_⟩
  rw [at_ix hp hk (by rw [e]; exact c1), at_ix hp hk (by rw [e]; exact c2)]
 rcases at_til ht m n with ⟨a1, a2⟩ | ⟨a1, i, hi, a2, a3⟩ <;> rcases at_til ht (oX m b) (oY n b) with ⟨b1, b2⟩ | ⟨b1, j, hj, b2, b3⟩
 ·rw [a1, a2, b1, b2]; simp
 ·rw [a1, a2, b1, b3]
  refine ⟨fun _ => ⟨.inr rfl, fun hm => ?_⟩, fun _ => by omega⟩
  have := (hin hm).1
  rw [a1] at this; cases this
 ·rw [a1, a3, b1, b2]
  refine ⟨fun _ => ⟨.inl rfl, fun hm => ?_⟩, fun _ => by omega⟩
  have := (hin hm).2.1
  rw [b1] at this; cases this
 ·refine ⟨fun hne => ⟨.inl a1, fun hm => hne (hin hm).2.2⟩, fun hm he => hm.2 ?_⟩
  rw [a3, b3] at he
  obtain rfl : i = j := by omega
  rw [← cov_back a2 b2]
  exact List.getElem_mem hi
def clX (px py qx qy : Int) : Int := if px < qx then px else if qx < px then qx else if py < qy then px else qx - 1
def clY (px py qx qy : Int) : Int := if px < qx then py - 1 else if qx < px then qy else if py < qy then py else qy
theorem cl_free {xs : List Int} {L : List Dm} (ht : tilB xs L = true) {d : Nat} (hd : d < 4) {px py qx qy : Int} (e3 : qx = px + dX d) (e4 : qy = py + dY d) :
  (atI L (clX px py qx qy) (clY px py qx qy) ≠ atI L (clX qx qy px py) (clY qx qy px py)) ↔
   (hasB xs (sdX px py qx qy) (sdY px py qx qy) = true ∨ hasB xs (loE px qx) (loE py qy) = true) ∧ sdM px py qx qy ∉ L := by
 have h4 : d = 0 ∨ d = 1 ∨ d = 2 ∨ d = 3 := by omega
 have hA := around ht (sdX px py qx qy) (sdY px py qx qy) (decide (py = qy))
 unfold sdM
 rcases h4 with rfl | rfl | rfl | rfl
 ·obtain rfl : qx = px + 1 := e3
  obtain rfl : py = qy := by rw [e4]; show py = py + 0; omega
  have c1 : clX px py (px + 1) py = px := by unfold clX; rw [if_pos (by omega)]
  have c2 : clY px py (px + 1) py = py - 1 := by unfold clY; rw [if_pos (by omega)]
  have c3 : clX (px + 1) py px py = px := by unfold clX; rw [if_neg (by omega), if_pos (by omega)]
  have c4 : clY (px + 1) py px py = py := by unfold clY; rw [if_neg (by omega), if_pos (by omega)]
  have s1 : sdX px py (px + 1) py = px := by unfold sdX loE; rw [if_pos rfl, if_neg (by omega)]
  have s2 : sdY px py (px + 1) py = py - 1 := by unfold sdY loE; rw [if_pos rfl, if_neg (by omega)]
  have l1 : loE px (px + 1) = px := by unfold loE; rw [if_neg (by omega)]
  have l2 : loE py py = py := by unfold loE; rw [if_neg (by omega)]
  rw [s1, s2, decide_eq_true (rfl : py = py)] at hA
  have o1 : oX px true = px := rfl
  have o2 : oY (py - 1) true = py := by show py - 1 + 1 = py; omega
  rw [o1, o2] at hA
  rw [c1, c2, c3, c4, s1, s2, l1, l2, decide_eq_true (rfl : py = py)]
  exact hA
 ·obtain rfl : qx = px := by rw [e3]; show px + 0 = px; omega
  obtain rfl : qy = py + 1 := e4
  have c1 : clX qx py qx (py + 1) = qx := by unfold clX; rw [if_neg (by omega), if_neg (by omega), if_pos (by omega)]
  have c2 : clY qx py qx (py + 1) = py := by unfold clY; rw [if_neg (by omega), if_neg (by omega), if_pos (by omega)]
  have c3 : clX qx (py + 1) qx py = qx - 1 := by unfold clX; rw [if_neg (by omega), if_neg (by omega), if_neg (by omega)]
  have c4 : clY qx (py + 1) qx py = py := by unfold clY; rw [if_neg (by omega), if_neg (by omega), if_neg (by omega)]
  have s1 : sdX qx py qx (py + 1) = qx - 1 := by unfold sdX loE; rw [if_neg (by omega), if_neg (by omega)]
  have s2 : sdY qx py qx (py + 1) = py := by unfold sdY loE; rw [if_neg (by omega), if_neg (by omega)]
  have l1 : loE qx qx = qx := by unfold loE; rw [if_neg (by omega)]
  have l2 : loE py (py + 1) = py := by unfold loE; rw [if_neg (by omega)]
  have hb : decide (py = py + 1) = false := decide_eq_false (by omega)
  rw [s1, s2, hb] at hA
  have o1 : oX (qx - 1) false = qx := by show qx - 1 + 1 = qx; omega
  have o2 : oY py false = py := rfl
  rw [o1, o2] at hA
  rw [c1, c2, c3, c4, s1, s2, l1, l2, hb, ← hA]
  exact ne_comm
 ·obtain rfl : qx = px - 1 := e3
  obtain rfl : py = qy := by rw [e4]; show py = py + 0; omega
  have c1 : clX px py (px - 1) py = px - 1 := by unfold clX; rw [if_neg (by omega), if_pos (by omega)]
  have c2 : clY px py (px - 1) py = py := by unfold clY; rw [if_neg (by omega), if_pos (by omega)]
  have c3 : clX (px - 1) py px py = px - 1 := by unfold clX; rw [if_pos (by omega)]
  have c4 : clY (px - 1) py px py = py - 1 := by unfold clY; rw [if_pos (by omega)]
  have s1 : sdX px py (px - 1) py = px - 1 := by unfold sdX loE; rw [if_pos rfl, if_pos (by omega)]
  have s2 : sdY px py (px - 1) py = py - 1 := by unfold sdY loE; rw [if_pos rfl, if_neg (by omega)]
  have l1 : loE px (px - 1) = px - 1 := by unfold loE; rw [if_pos (by omega)]
  have l2 : loE py py = py := by unfold loE; rw [if_neg (by omega)]
  rw [s1, s2, decide_eq_true (rfl : py = py)] at hA
  have o1 : oX (px - 1) true = px - 1 := rfl
  have o2 : oY (py - 1) true = py := by show py - 1 + 1 = py; omega
  rw [o1, o2] at hA
  rw [c1, c2, c3, c4, s1, s2, l1, l2, decide_eq_true (rfl : py = py), ← hA]
  exact ne_comm
 ·obtain rfl : qx = px := by rw [e3]; show px + 0 = px; omega
  obtain rfl : qy = py - 1 := e4
  have c1 : clX qx py qx (py - 1) = qx - 1 := by unfold clX; rw [if_neg (by omega), if_neg (by omega), if_neg (by omega)]
  have c2 : clY qx py qx (py - 1) = py - 1 := by unfold clY; rw [if_neg (by omega), if_neg (by omega), if_neg (by omega)]
  have c3 : clX qx (py - 1) qx py = qx := by unfold clX; rw [if_neg (by omega), if_neg (by omega), if_pos (by omega)]
  have c4 : clY qx (py - 1) qx py = py - 1 := by unfold clY; rw [if_neg (by omega), if_neg (by omega), if_pos (by omega)]
  have s1 : sdX qx py qx (py - 1) = qx - 1 := by unfold sdX loE; rw [if_neg (by omega), if_neg (by omega)]
  have s2 : sdY qx py qx (py - 1) = py - 1 := by unfold sdY loE; rw [if_neg (by omega), if_pos (by omega)]
  have l1 : loE qx qx = qx := by unfold loE; rw [if_neg (by omega)]
  have l2 : loE py (py - 1) = py - 1 := by unfold loE; rw [if_pos (by omega)]
  have hb : decide (py = py - 1) = false := decide_eq_false (by omega)
  rw [s1, s2, hb] at hA
  have o1 : oX (qx - 1) false = qx := by show qx - 1 + 1 = qx; omega
  have o2 : oY (py - 1) false = py - 1 := rfl
  rw [o1, o2] at hA
  rw [c1, c2, c3, c4, s1, s2, l1, l2, hb]
  exact hA
end Go.Proofs.YtmajllgfmclcoaaGreatDoor.Hgt
namespace Go.Proofs.YtmajllgfmclcoaaGreatDoor.Hgt
open Go.RowKit Go.Proofs.YtmajllgfmclcoaaGreatDoor.Pure Dms Til Go.Joins
open Bal (piecesN outsN)
def St (h : List Int) (v : Nat) : Prop := ∃ x, h[v]? = some x ∧ x ≠ -1000
def unH (h : List Int) : Nat := h.count (-1000)
theorem st_not {h : List Int} {v : Nat} (hv : v < h.length) : ¬ St h v ↔ h[v]? = some (-1000) := by
 constructor
 ·intro q
  refine Classical.byContradiction fun r => q ⟨h[v], List.getElem?_eq_getElem hv, fun e => r ?_⟩
  rw [List.getElem?_eq_getElem hv, e]
 ·rintro e ⟨x, hx, hne⟩
  rw [e] at hx
  injection hx with hx
  exact hne hx.symm
theorem un_set {h : List Int} {w : Nat} {y : Int} (hw : h[w]? = some (-1000)) (hy : y ≠ -1000) : unH (h.set w y) + 1 = unH h := by
 obtain ⟨hl, e⟩ := List.getElem?_eq_some_iff.1 hw
 unfold unH
 rw [List.count_set hl, e]
 have hp : 0 < List.count (-1000 : Int) h := List.count_pos_iff.2 (e ▸ List.getElem_mem hl)
 have hy2 : (y == (-1000 : Int)) = false := by simpa using hy
 rw [hy2]
 simp
 omega
structure Hs (xs : List Int) (F : Nat → Int) (h : List Int) : Prop where
 len : h.length = 81
 val : ∀ v x, h[v]? = some x → x = -1000 ∨ (x = F v ∧ crnB xs v = true ∧ (unH h : Int) - 80 ≤ x ∧ x ≤ 80 - (unH h : Int))
section
variable {xs : List Int} {X Y : Cx} {F : Nat → Int} {h h' h1 h2 : List Int} {p w : Nat}
theorem Hs.at (s : Hs xs F h) {v : Nat} (hv : v < 81) : ∃ x, h[v]? = some x ∧ (-1000 ≤ x ∧ x ≤ 81) ∧ (x = -1000 ↔ ¬ St h v) ∧ (St h v → x = F v) := by
 have hl : v < h.length := by rw [s.len]; exact hv
 have e : h[v]? = some h[v] := List.getElem?_eq_getElem hl
 refine ⟨h[v], e, ?_, ?_, ?_⟩
 ·rcases s.val v _ e with r | r <;> omega
 ·rw [st_not hl, e]
  constructor
  ·intro r; rw [r]
  ·intro r; injection r
 ·rintro ⟨x, hx, hne⟩
  rw [e] at hx
  injection hx with hx
  rcases s.val v _ e with r | r
  ·exact absurd (hx.symm.trans r) hne
  ·exact r.1
theorem Hs.put (s : Hs xs F h) (hF : ∀ d v w, Lk xs X Y d v w → F w = F v + es d v) {d : Nat} (hp : St h p) (hl : Lk xs X Y d p w) (hw : h[w]? = some (-1000)) : Hs xs F (h.set w (F w)) := by
 obtain ⟨x, hx, hne⟩ := hp
 have e := hF d p w hl
 rcases s.val p x hx with r | ⟨rfl, _, r1, r2⟩
 ·exact absurd r hne
 have hw81 : w < 81 := by have := (List.getElem?_eq_some_iff.1 hw).1; rw [s.len] at this; exact this
 have hu : unH (h.set w (F w)) + 1 = unH h := un_set hw (by rcases es_or d p with c | c <;> omega)
 refine ⟨by rw [List.length_set]; exact s.len, fun v y hy => ?_⟩
 by_cases q : v = w
 ·subst q
  rw [List.getElem?_set_self (by rw [s.len]; exact hw81)] at hy
  injection hy with hy
  right
  refine ⟨hy.symm, hl.crn.2, ?_, ?_⟩ <;> rcases es_or d p with c | c <;> omega
 ·rw [List.getElem?_set_ne (fun r => q r.symm)] at hy
  rcases s.val v y hy with r | ⟨r1, r2, r3, r4⟩
  ·exact .inl r
  ·right; refine ⟨r1, r2, ?_, ?_⟩ <;> omega
theorem st_put {y : Int} (hw : w < h.length) (hy : y ≠ -1000) {v : Nat} : St (h.set w y) v ↔ v = w ∨ St h v := by
 unfold St
 by_cases q : v = w
 ·subst q
  rw [List.getElem?_set_self hw]
  simp [hy]
 ·rw [List.getElem?_set_ne (fun r => q r.symm)]
  simp [q]
structure Sx (xs : List Int) (X Y : Cx) (F : Nat → Int) (h h' : List Int) (p : Nat) : Prop where
 hs : Hs xs F h'
 ext : ∀ v, St h v → h'[v]? = h[v]?
 un : unH h' ≤ unH h
 clo : ∀ d v w, (v = p ∨ (¬ St h v ∧ St h' v)) → Lk xs X Y d v w → St h' w
structure Mi (xs : List Int) (X Y : Cx) (F : Nat → Int) (h h' : List Int) (p : Nat) (done : List Nat) : Prop where
 hs : Hs xs F h'
 ext : ∀ v, St h v → h'[v]? = h[v]?
 un : unH h' ≤ unH h
 new : ∀ d v w, v ≠ p → ¬ St h v → St h' v → Lk xs X Y d v w → St h' w
 own : ∀ d w, w ∈ done → Lk xs X Y d p w → St h' w
 st : St h p
theorem st_ext {hh h2 : List Int} (e : ∀ v, St hh v → h2[v]? = hh[v]?) {v : Nat} (s : St hh v) : St h2 v := by
 have := e v s
 obtain ⟨x, hx, hne⟩ := s
 exact ⟨x, this.trans hx, hne⟩
theorem Mi.start (s : Hs xs F h) (hp : St h p) : Mi xs X Y F h h p [] :=
 ⟨s, fun _ _ => rfl, Nat.le_refl _, fun d v w _ a b => absurd b a, fun d w hm => by simp at hm, hp⟩
theorem Mi.skip {done : List Nat} (s : Mi xs X Y F h h' p done) (hw : ∀ d, Lk xs X Y d p w → St h' w) : Mi xs X Y F h h' p (done ++ [w]) :=
 ⟨s.hs, s.ext, s.un, s.new, fun d u hm hl => by
  rcases List.mem_append.1 hm with hm | hm
  ·exact s.own d u hm hl
  ·rw [List.mem_singleton.1 hm] at hl ⊢; exact hw d hl, s.st⟩
theorem Mi.here {done : List Nat} (s : Mi xs X Y F h h' p done) : St h' p := st_ext s.ext s.st
theorem Mi.call {done : List Nat} (s : Mi xs X Y F h h' p done) (hF : ∀ d v w, Lk xs X Y d v w → F w = F v + es d v) {d : Nat} (hl : Lk xs X Y d p w) (hw : h'[w]? = some (-1000))
  (c : Sx xs X Y F (h'.set w (F w)) h2 w) : Mi xs X Y F h h2 p (done ++ [w]) := by
 have hwl : w < h'.length := (List.getElem?_eq_some_iff.1 hw).1
 have hne : F w ≠ -1000 := by
  obtain ⟨x, hx, hne⟩ := s.here
  rcases s.hs.val p x hx with r | ⟨r, _, r1, r2⟩
  ·exact absurd r hne
  ·have := hF d p w hl
   rcases es_or d p with c | c <;> omega
 have put : ∀ v, St (h'.set w (F w)) v ↔ v = w ∨ St h' v := fun v => st_put hwl hne
 have hnw : ¬ St h' w := (st_not hwl).2 hw
 have keep : ∀ v, St h' v → St h2 v := fun v hv => st_ext c.ext ((put v).2 (.inr hv))
 refine ⟨c.hs, fun v hv => ?_, ?_, fun dd v u h1 h3 h4 h5 => ?_, fun dd u hm hk => ?_, s.st⟩
 ·have h1 : St h' v := st_ext s.ext hv
  rw [c.ext v ((put v).2 (.inr h1)), List.getElem?_set_ne (fun e => hnw (by rw [e]; exact h1))]
  exact s.ext v hv
 ·have := c.un
  have := s.un
  have := un_set hw hne
  omega
 ·by_cases q : St h' v
  ·exact keep u (s.new dd v u h1 h3 q h5)
  ·by_cases r : v = w
   ·exact c.clo dd v u (.inl r) h5
   ·exact c.clo dd v u (.inr ⟨fun z => ((put v).1 z).elim r q, h4⟩) h5
 ·rcases List.mem_append.1 hm with hm | hm
  ·exact keep u (s.own dd u hm hk)
  ·rw [List.mem_singleton.1 hm]
   exact st_ext c.ext ((put w).2 (.inl rfl))
theorem Mi.done {done : List Nat} (s : Mi xs X Y F h h' p done) (hd : ∀ d w, Lk xs X Y d p w → w ∈ done) : Sx xs X Y F h h' p :=
 ⟨s.hs, s.ext, s.un, fun d v w hv hl => by
  by_cases q : v = p
  ·subst q; exact s.own d w (hd d w hl) hl
  ·rcases hv with e | ⟨a, b⟩
   ·exact absurd e q
   ·exact s.new d v w q a b hl⟩
theorem clo_all (ho : okR xs) (h1 : piecesN xs = 1) (ht : Tl (gX xs) X Y) (Z : Nat → Prop) (clo : ∀ d v w, Z v → Lk xs X Y d v w → Z w) (z0 : Z (lc xs)) (hcr : crnB xs (lc xs) = true) : ∀ v, crnB xs v = true → Z v := by
 have key := all_cor ho h1 ht (Z := fun i j => Z (9 * (j - 1) + (i - 1))) (fun i j hg hx => by
  have l : 1 ≤ i ∧ i ≤ 8 ∧ j ≤ 8 := by rcases hg with r | r <;> have := gX_lt r <;> omega
  have e : frH xs X (9 * j + (i - 1)) = true := by
   unfold frH
   rw [show (9 * j + (i - 1)) % 9 + 1 = i by omega, show (9 * j + (i - 1)) / 9 = j by omega, hx]
   rcases hg with r | r <;> rw [r] <;> simp
  have l1 : Lk xs X Y 0 (9 * j + (i - 1)) (9 * j + i) := .inl ⟨rfl, by omega, by omega, e⟩
  have l2 : Lk xs X Y 2 (9 * j + i) (9 * j + (i - 1)) := .inr (.inr (.inl ⟨rfl, by omega, by omega, e⟩))
  have e1 : 9 * (j + 1 - 1) + (i + 1 - 1) = 9 * j + i := by omega
  have e2 : 9 * (j + 1 - 1) + (i - 1) = 9 * j + (i - 1) := by omega
  simp only [e1, e2]
  exact ⟨fun r => clo _ _ _ r l1, fun r => clo _ _ _ r l2⟩) (fun i j hg hx => by
  have l : i ≤ 8 ∧ 1 ≤ j ∧ j ≤ 8 := by rcases hg with r | r <;> have := gX_lt r <;> omega
  have e : frV xs Y (9 * (j - 1) + i) = true := by
   unfold frV
   rw [show (9 * (j - 1) + i) % 9 = i by omega, show (9 * (j - 1) + i) / 9 + 1 = j by omega, hx]
   rcases hg with r | r <;> rw [r] <;> simp
  have l1 : Lk xs X Y 1 (9 * (j - 1) + i) (9 * j + i) := .inr (.inl ⟨rfl, by omega, by omega, e⟩)
  have l2 : Lk xs X Y 3 (9 * j + i) (9 * (j - 1) + i) := .inr (.inr (.inr ⟨rfl, by omega, e⟩))
  have e1 : 9 * (j + 1 - 1) + (i + 1 - 1) = 9 * j + i := by omega
  have e2 : 9 * (j - 1) + (i + 1 - 1) = 9 * (j - 1) + i := by omega
  simp only [e1, e2]
  exact ⟨fun r => clo _ _ _ r l1, fun r => clo _ _ _ r l2⟩) (i := lc xs % 9 + 1) (j := lc xs / 9 + 1) (crn_iff.1 hcr) (by
  have e : 9 * (lc xs / 9 + 1 - 1) + (lc xs % 9 + 1 - 1) = lc xs := by omega
  simp only [e]
  exact z0)
 intro v hb
 have r := key _ _ (crn_iff.1 hb)
 have e : 9 * (v / 9 + 1 - 1) + (v % 9 + 1 - 1) = v := by omega
 simp only [e] at r
 exact r
def row0 (xs : List Int) : List Int := (List.replicate 81 (-1000 : Int)).set (lc xs) 0
theorem row0_st (hc : lc xs < 81) {v : Nat} : St (row0 xs) v ↔ v = lc xs := by
 unfold row0
 rw [st_put (by simpa using hc) (by omega)]
 constructor
 ·rintro (r | ⟨x, hx, hne⟩)
  ·exact r
  ·rw [List.getElem?_replicate] at hx
   split at hx
   ·injection hx with hx; exact absurd hx.symm hne
   ·cases hx
 ·exact .inl
theorem row0_un (hc : lc xs < 81) : unH (row0 xs) = 80 := by
 have := un_set (h := List.replicate 81 (-1000 : Int)) (w := lc xs) (y := 0) (by rw [List.getElem?_replicate, if_pos hc]) (by omega)
 unfold row0
 have e : unH (List.replicate 81 (-1000 : Int)) = 81 := by unfold unH; exact List.count_replicate_self
 omega
theorem row0_hs (hc : lc xs < 81) (hcr : crnB xs (lc xs) = true) (h0 : F (lc xs) = 0) : Hs xs F (row0 xs) := by
 refine ⟨by unfold row0; simp, fun v x hx => ?_⟩
 rw [row0_un hc]
 by_cases q : v = lc xs
 ·subst q
  unfold row0 at hx
  rw [List.getElem?_set_self (by simpa using hc)] at hx
  injection hx with hx
  exact .inr ⟨by omega, hcr, by omega, by omega⟩
 ·left
  unfold row0 at hx
  rw [List.getElem?_set_ne (fun r => q r.symm), List.getElem?_replicate] at hx
  split at hx
  ·injection hx with hx; exact hx.symm
  ·cases hx
theorem Sx.row {L : List Dm} {f : Fm} (ho : okR xs) (h1 : piecesN xs = 1) (ht : tilB xs L = true) (hf : Hts (gX xs) (xL L) (yL L) f) (hc : lc xs < 81) (hcr : crnB xs (lc xs) = true)
  (s : Sx xs (xL L) (yL L) (hv xs f) (row0 xs) h' (lc xs)) : Row9 xs L h' := by
 have hall := clo_all ho h1 (tl_of ht) (Z := St h') (fun d v w hz hl => by
  by_cases q : v = lc xs
  ·exact s.clo d v w (.inl q) hl
  ·exact s.clo d v w (.inr ⟨fun r => q ((row0_st hc).1 r), hz⟩) hl) (st_ext s.ext ((row0_st hc).2 rfl)) hcr
 have bd : ∀ v, v < 81 → crnB xs v = true → ∃ x, h'[v]? = some x ∧ x = hv xs f v ∧ -80 ≤ x ∧ x ≤ 80 := fun v hv' hb => by
  obtain ⟨x, hx, hne⟩ := hall v hb
  rcases s.hs.val v x hx with r | ⟨r, _, r1, r2⟩
  ·exact absurd r hne
  ·exact ⟨x, hx, r, by omega, by omega⟩
 refine ⟨ho, h1, ht, hc, hcr, f, hf, List.ext_getElem? (fun v => ?_), fun v hv' hb => ?_⟩
 ·by_cases hv' : v < 81
  ·rw [row_at xs f hv']
   cases hb : crnB xs v with
   | true =>
    obtain ⟨x, hx, e, _⟩ := bd v hv' hb
    rw [hx, e]; rfl
   | false =>
    have hl : v < h'.length := by rw [s.hs.len]; exact hv'
    rw [List.getElem?_eq_getElem hl]
    rcases s.hs.val v _ (List.getElem?_eq_getElem hl) with r | ⟨_, r, _⟩
    ·rw [r]; rfl
    ·rw [hb] at r; cases r
  ·rw [List.getElem?_eq_none (by rw [s.hs.len]; omega), List.getElem?_eq_none (by rw [row_len]; omega)]
 ·obtain ⟨x, hx, rfl, b1, b2⟩ := bd v hv' hb
  exact ⟨b1, b2⟩
end
def inC (c : Int × Int) : Bool := decide (0 ≤ c.1 ∧ c.1 < 9 ∧ 0 ≤ c.2 ∧ c.2 < 9)
def ends4 (x y : Int) : List (Int × Int) := [(x, y - 1), (x - 1, y), (x + 1, y), (x, y + 1)]
def endsP (x y : Int) : List (Int × Int) := (ends4 x y).filter inC
def pl9 (c : Int × Int) : Nat := 9 * c.2.toNat + c.1.toNat
theorem inC_iff {c : Int × Int} : inC c = true ↔ 0 ≤ c.1 ∧ c.1 < 9 ∧ 0 ≤ c.2 ∧ c.2 < 9 := by unfold inC; rw [decide_eq_true_eq]
theorem ends_le (x y : Int) : (endsP x y).length ≤ 4 := by unfold endsP; exact List.length_filter_le _ _
theorem ends_dir {x y : Int} {c : Int × Int} (h : c ∈ endsP x y) : (0 ≤ c.1 ∧ c.1 < 9 ∧ 0 ≤ c.2 ∧ c.2 < 9) ∧ ∃ d, d < 4 ∧ c.1 = x + dX d ∧ c.2 = y + dY d := by
 unfold endsP at h
 obtain ⟨h1, h2⟩ := List.mem_filter.1 h
 refine ⟨inC_iff.1 h2, ?_⟩
 unfold ends4 at h1
 simp only [List.mem_cons, List.not_mem_nil, or_false] at h1
 rcases h1 with rfl | rfl | rfl | rfl
 ·exact ⟨3, by omega, by show x = x + 0; omega, by show y - 1 = y + -1; omega⟩
 ·exact ⟨2, by omega, by show x - 1 = x + -1; omega, by show y = y + 0; omega⟩
 ·exact ⟨0, by omega, rfl, by show y = y + 0; omega⟩
 ·exact ⟨1, by omega, by show x = x + 0; omega, rfl⟩
theorem ends_all {xs : List Int} {X Y : Cx} {d v w : Nat} (hv : v < 81) (h : Lk xs X Y d v w) : w ∈ (endsP ((v % 9 : Nat) : Int) ((v / 9 : Nat) : Int)).map pl9 := by
 have hw := h.lt hv
 refine List.mem_map.2 ⟨(((w % 9 : Nat) : Int), ((w / 9 : Nat) : Int)), ?_, by unfold pl9; simp only; omega⟩
 unfold endsP
 refine List.mem_filter.2 ⟨?_, inC_iff.2 (by simp only; omega)⟩
 unfold ends4
 simp only [List.mem_cons, List.not_mem_nil, or_false, Prod.mk.injEq]
 unfold Lk at h
 omega
theorem end_link {xs : List Int} {L : List Dm} (ht : tilB xs L = true) {v : Nat} (hv : v < 81) {x y : Int} (ex : x = ((v % 9 : Nat) : Int)) (ey : y = ((v / 9 : Nat) : Int)) {c : Int × Int} (hc : c ∈ endsP x y) :
  pl9 c < 81 ∧ ((pl9 c : Nat) : Int) = c.2 * 9 + c.1 ∧ ∃ d,
   (∀ d', Lk xs (xL L) (yL L) d' v (pl9 c) → atI L (clX x y c.1 c.2) (clY x y c.1 c.2) ≠ atI L (clX c.1 c.2 x y) (clY c.1 c.2 x y)) ∧
   (atI L (clX x y c.1 c.2) (clY x y c.1 c.2) ≠ atI L (clX c.1 c.2 x y) (clY c.1 c.2 x y) → Lk xs (xL L) (yL L) d v (pl9 c)) ∧ stepE x y c.1 c.2 = es d v := by
 obtain ⟨hin, d, hd, e3, e4⟩ := ends_dir hc
 have hp : pl9 c < 81 := by unfold pl9; omega
 have hpe : ((pl9 c : Nat) : Int) = c.2 * 9 + c.1 := by unfold pl9; omega
 refine ⟨hp, hpe, d, ?_⟩
 have hfree := cl_free ht hd e3 e4
 rcases way_link (xs := xs) (L := L) hv hd ex ey e3 e4 with ⟨h0, hno⟩ | ⟨hs, _, w, hw, ew, h1, h2⟩
 ·exfalso
  have h4 : d = 0 ∨ d = 1 ∨ d = 2 ∨ d = 3 := by omega
  unfold stepE sgnE at h0
  rw [if_pos (by omega)] at h0
  rcases h4 with rfl | rfl | rfl | rfl
  ·have a : c.1 = x + 1 := e3
   have b : c.2 = y := by rw [e4]; show y + 0 = y; omega
   rw [if_pos ⟨a, b⟩] at h0
   split at h0 <;> omega
  ·have a : c.1 = x := by rw [e3]; show x + 0 = x; omega
   have b : c.2 = y + 1 := e4
   rw [if_neg (by omega), if_neg (by omega), if_pos ⟨a, b⟩] at h0
   split at h0 <;> omega
  ·have a : c.1 = x - 1 := e3
   have b : c.2 = y := by rw [e4]; show y + 0 = y; omega
   rw [if_neg (by omega), if_pos (by omega)] at h0
   split at h0 <;> omega
  ·have a : c.1 = x := by rw [e3]; show x + 0 = x; omega
   have b : c.2 = y - 1 := e4
   rw [if_neg (by omega), if_neg (by omega), if_neg (by omega), if_pos (by omega)] at h0
   split at h0 <;> omega
 ·obtain rfl : w = pl9 c := by omega
  refine ⟨fun d' hl => ?_, fun hne => h2.2 (hfree.1 hne), hs⟩
  have hdd : d' = d := by
   have h4 : d = 0 ∨ d = 1 ∨ d = 2 ∨ d = 3 := by omega
   rcases h4 with rfl | rfl | rfl | rfl
   ·have a : c.1 = x + 1 := e3
    have b : c.2 = y := by rw [e4]; show y + 0 = y; omega
    unfold Lk at hl; omega
   ·have a : c.1 = x := by rw [e3]; show x + 0 = x; omega
    have b : c.2 = y + 1 := e4
    unfold Lk at hl; omega
   ·have a : c.1 = x - 1 := e3
    have b : c.2 = y := by rw [e4]; show y + 0 = y; omega
    unfold Lk at hl; omega
   ·have a : c.1 = x := by rw [e3]; show x + 0 = x; omega
    have b : c.2 = y - 1 := e4
    unfold Lk at hl; omega
  rw [hdd] at hl
  exact hfree.2 (h2.1 hl)
end Go.Proofs.YtmajllgfmclcoaaGreatDoor.Hgt
namespace Go.Proofs.YtmajllgfmclcoaaGreatDoor.Hgt
open Go.RowKit Go.Joins
theorem same_take {xs ys : List Int} {k : Nat} (h : xs.take k = ys.take k) (hk : k < xs.length) (hk' : k < ys.length) (e : xs[k] = ys[k]) : xs.take (k + 1) = ys.take (k + 1) := by
 rw [List.take_succ_eq_append_getElem hk, List.take_succ_eq_append_getElem hk', h, e]
end Go.Proofs.YtmajllgfmclcoaaGreatDoor.Hgt
