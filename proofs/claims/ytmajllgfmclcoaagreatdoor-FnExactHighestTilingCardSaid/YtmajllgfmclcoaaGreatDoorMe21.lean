/- HgrZ, JnA, HgrA in one text. -/
import Derived.Test.YtmajllgfmclcoaaGreatDoorMe09
import Derived.Test.YtmajllgfmclcoaaGreatDoorMe20

namespace Go.Proofs.YtmajllgfmclcoaaGreatDoor.Hgt
set_option linter.unusedVariables false
set_option linter.unusedSimpArgs false
open Go.RowKit Go.Proofs.YtmajllgfmclcoaaGreatDoor.Pure Go.Proofs.YtmajllgfmclcoaaGreatDoor.Dms Go.Proofs.YtmajllgfmclcoaaGreatDoor.Til Go.Joins
open Go.Proofs.YtmajllgfmclcoaaGreatDoor.Flo (simB touchB_iff holN pcsN)
open Go.Proofs.YtmajllgfmclcoaaGreatDoor.Bal (piecesN outsN outs_pos)

theorem crn_any {xs : List Int} {v : Nat} : crnB xs v = true ↔ ∃ i : Nat, i < 4 ∧ hasB xs (((v % 9 : Nat) : Int) - ((i % 2 : Nat) : Int)) (((v / 9 : Nat) : Int) - ((i / 2 : Nat) : Int)) = true := by
 unfold crnB gX
 simp only [Bool.or_eq_true]
 rw [show ((v % 9 + 1 : Nat) : Int) - 1 = ((v % 9 : Nat) : Int) by omega, show ((v / 9 + 1 : Nat) : Int) - 1 = ((v / 9 : Nat) : Int) by omega]
 have z : ((0 % 2 : Nat) : Int) = 0 ∧ ((0 / 2 : Nat) : Int) = 0 ∧ ((1 % 2 : Nat) : Int) = 1 ∧ ((1 / 2 : Nat) : Int) = 0 ∧ ((2 % 2 : Nat) : Int) = 0 ∧ ((2 / 2 : Nat) : Int) = 1 ∧ ((3 % 2 : Nat) : Int) = 1 ∧ ((3 / 2 : Nat) : Int) = 1 := by decide
 obtain ⟨z1, z2, z3, z4, z5, z6, z7, z8⟩ := z
 constructor
 ·rintro (((h | h) | h) | h)
  ·exact ⟨3, by omega, by rw [z7]; exact h⟩
  ·exact ⟨2, by omega, by rw [z5, z6, Int.sub_zero]; exact h⟩
  ·exact ⟨1, by omega, by rw [z3, z4, Int.sub_zero]; exact h⟩
  ·exact ⟨0, by omega, by rw [z1, Int.sub_zero, Int.sub_zero]; exact h⟩
 ·rintro ⟨i, hi, h⟩
  have h4 : i = 0 ∨ i = 1 ∨ i = 2 ∨ i = 3 := by omega
  rcases h4 with rfl | rfl | rfl | rfl
  ·rw [z1, Int.sub_zero, Int.sub_zero] at h; exact .inr h
  ·rw [z3, z4, Int.sub_zero] at h; exact .inl (.inr h)
  ·rw [z5, z6, Int.sub_zero] at h; exact .inl (.inl (.inr h))
  ·rw [z7] at h; exact .inl (.inl (.inl h))
theorem sim_parts {xs : List Int} (h : simB xs = true) : okR xs ∧ piecesN xs = 1 ∧ One (gX xs) := by
 unfold simB at h
 obtain ⟨ok, h1, h0, ht⟩ := of_decide_eq_true h
 unfold pcsN at h1
 rw [if_pos ok] at h1
 have ho : outsN xs = 1 := by
  unfold holN at h0
  rw [if_pos ok] at h0
  have := outs_pos xs
  omega
 exact ⟨ok, h1, one_simple ok ho (fun t => by rw [touchB_iff.2 t] at ht; cases ht)⟩
theorem lc_ex {xs : List Int} {x y : Int} (h : hasB xs x y = true) : lc xs < 81 ∧ crnB xs (lc xs) = true ∧ ∀ v, v < lc xs → crnB xs v = false := by
 obtain ⟨a, b, ea, eb, g⟩ := gX_has h
 have l := gX_lt g
 have c : crnB xs (9 * (b - 1) + (a - 1)) = true := crn_iff.2 ⟨_, _, g, .inl (by omega), .inl (by omega)⟩
 unfold lc
 cases q : (List.range 81).find? (crnB xs) with
 | none =>
  have := List.find?_eq_none.1 q (9 * (b - 1) + (a - 1)) (List.mem_range.2 (by omega))
  rw [c] at this
  simp at this
 | some m =>
  obtain ⟨h1, i, hi, e, hl⟩ := List.find?_eq_some_iff_getElem.1 q
  rw [List.getElem_range] at e
  rw [List.length_range] at hi
  subst e
  refine ⟨hi, h1, fun v hv => ?_⟩
  have := hl v hv
  rw [List.getElem_range] at this
  simpa using this
theorem hts_ex {xs : List Int} {L : List Dm} (h : simB xs = true) (ht : tilB xs L = true) : ∃ f, Hts (gX xs) (xL L) (yL L) f := (tl_of ht).heights (sim_parts h).2.2
theorem Sw.at9 {xs : List Int} {X Y : Cx} {F : Nat → Int} {h : List Int} {q : List Nat} {k n : Nat} (s : Sw xs X Y F h q k n) {v : Nat} (hv : v < 81) : ∃ x, h[v]? = some x ∧ (-1000 ≤ x ∧ x ≤ 81) ∧ (x = -1000 ↔ v ∉ q) ∧ (v ∈ q → x = F v) := by
 have hl : v < h.length := by rw [s.hl]; exact hv
 have e : h[v]? = some h[v] := List.getElem?_eq_getElem hl
 refine ⟨h[v], e, ?_, s.is hv e, fun hm => ?_⟩
 ·by_cases hm : v ∈ q
  ·have := s.yes v hm
   rw [e] at this
   injection this with this
   obtain ⟨i, hi⟩ := List.getElem?_of_mem hm
   have l := s.len
   have il := (List.getElem?_eq_some_iff.1 hi).1
   have := s.val i v hi
   omega
  ·have := s.no v hv hm
   rw [e] at this
   injection this with this
   omega
 ·have := s.yes v hm
  rw [e] at this
  injection this
theorem hv_step {xs : List Int} {L : List Dm} {f : Fm} (hf : Hts (gX xs) (xL L) (yL L) f) : ∀ d v w, Lk xs (xL L) (yL L) d v w → hv xs f w = hv xs f v + es d v := fun d v w h => by
 have := h.step hf
 unfold hv
 omega
theorem hv_zero (xs : List Int) (f : Fm) : hv xs f (lc xs) = 0 := by unfold hv; omega
theorem Sw.way {xs : List Int} {L : List Dm} {F : Nat → Int} {h : List Int} {q : List Nat} {k n v : Nat} (hF : ∀ d v w, Lk xs (xL L) (yL L) d v w → F w = F v + es d v) (s : Sw xs (xL L) (yL L) F h q k n) (hv : q[k]? = some v) (hn : n < 4)
  {ax ay bx by' : Int} (e1 : ax = ((v % 9 : Nat) : Int)) (e2 : ay = ((v / 9 : Nat) : Int)) (e3 : bx = ax + dX n) (e4 : by' = ay + dY n) :
  (stepE ax ay bx by' = 0 → Sw xs (xL L) (yL L) F h q k (n + 1)) ∧
  (stepE ax ay bx by' ≠ 0 → (0 ≤ bx ∧ bx ≤ 8 ∧ 0 ≤ by' ∧ by' ≤ 8) ∧ ∃ w : Nat, w < 81 ∧ (w : Int) = by' * 9 + bx ∧
   (w ∈ q → Sw xs (xL L) (yL L) F h q k (n + 1)) ∧
   (hasB xs (sdX ax ay bx by') (sdY ax ay bx by') = false → hasB xs (loE ax bx) (loE ay by') = false → Sw xs (xL L) (yL L) F h q k (n + 1)) ∧
   (sdM ax ay bx by' ∈ L → Sw xs (xL L) (yL L) F h q k (n + 1)) ∧
   (w ∉ q → (hasB xs (sdX ax ay bx by') (sdY ax ay bx by') = true ∨ hasB xs (loE ax bx) (loE ay by') = true) → sdM ax ay bx by' ∉ L →
    Sw xs (xL L) (yL L) F (h.set w (F v + stepE ax ay bx by')) (q ++ [w]) k (n + 1) ∧ F w = F v + stepE ax ay bx by')) := by
 have vl := s.ql v (List.mem_of_getElem? hv)
 rcases way_link (xs := xs) (L := L) vl hn e1 e2 e3 e4 with ⟨h0, hno⟩ | ⟨hs, hin, w, hw, ew, h1, h2⟩
 ·exact ⟨fun _ => s.skip hv (fun w h => absurd h (hno w)), fun h => absurd h0 h⟩
 ·refine ⟨fun h0 => ?_, fun _ => ⟨hin, w, hw, ew, fun hm => s.skip hv (fun w' h => by rw [h1 w' h]; exact hm), fun f1 f2 => s.skip hv (fun w' h => ?_), fun hm => s.skip hv (fun w' h => ?_), fun hm hc hd => ?_⟩⟩
  ·rw [hs] at h0
   rcases es_or n v with c | c <;> omega
  ·rw [h1 w' h] at h
   have := (h2.1 h).1
   rw [f1, f2] at this
   simp at this
  ·rw [h1 w' h] at h
   exact absurd hm (h2.1 h).2
  ·have l := h2.2 ⟨hc, hd⟩
   rw [hs]
   exact ⟨s.add hF hv l hm, hF n v w l⟩
theorem cnt_none : ∀ n, Euler.cnt n (fun _ => false) = 0
 | 0 => rfl
 | n + 1 => by simp only [Euler.cnt]; rw [cnt_none n]; rfl
theorem cell_ex {xs : List Int} (ok : okR xs) (h1 : piecesN xs = 1) : ∃ x y, hasB xs x y = true := by
 refine Classical.byContradiction fun hno => ?_
 have e : piecesN xs = Euler.cnt 64 (fun _ => false) := by
  unfold piecesN
  refine Euler.cnt_same 64 (fun v hv => ?_)
  have : Bal.bitI xs v = false := by
   have hb := Bal.hasB_at ok (u := v % 8) (v := v / 8) (by omega) (by omega)
   rw [show 8 * (v / 8) + v % 8 = v by omega] at hb
   cases q : Bal.bitI xs v with
   | false => rfl
   | true => rw [q] at hb; exact absurd ⟨_, _, hb⟩ hno
  rw [this]; rfl
 rw [e, cnt_none] at h1
 cases h1
end Go.Proofs.YtmajllgfmclcoaaGreatDoor.Hgt

namespace Go.Proofs.YtmajllgfmclcoaaGreatDoor.Hgt
set_option linter.unusedVariables false
set_option linter.unusedSimpArgs false
open Go.RowKit Go.Proofs.YtmajllgfmclcoaaGreatDoor.Dms Go.Proofs.YtmajllgfmclcoaaGreatDoor.Til Go.Proofs.YtmajllgfmclcoaaGreatDoor.Grd Go.Proofs.YtmajllgfmclcoaaGreatDoor.Flp Go.Joins
open Go.Proofs.YtmajllgfmclcoaaGreatDoor.Flo (simB)
section
variable {G : Nat → Nat → Bool} {X Y X' Y' : Cx}
theorem nearer2 (h : Tl G X Y) (h' : Tl G X' Y') (hone : One G) {t : Int} (ht : t = 1 ∨ t = -1) (hex : ∃ i j, i ≤ 10 ∧ j ≤ 10 ∧ 0 < t * dif X Y X' Y' i j) :
  ∃ a b, a ≤ 8 ∧ b ≤ 8 ∧ 0 < t * dif X Y X' Y' (a + 1) (b + 1) ∧ ((Y (a + 1) b = true ∧ Y (a + 1) (b + 1) = true ∧ ∀ i j, i ≤ 10 → j ≤ 10 → dif (flX X a b true) (flY Y a b false) X' Y' i j = setE (dif X Y X' Y') (a + 1) (b + 1) (-t) i j) ∨
   (X a (b + 1) = true ∧ X (a + 1) (b + 1) = true ∧ ∀ i j, i ≤ 10 → j ≤ 10 → dif (flX X a b false) (flY Y a b true) X' Y' i j = setE (dif X Y X' Y') (a + 1) (b + 1) (-t) i j)) := by
 obtain ⟨f, hf⟩ := h.heights hone
 obtain ⟨i, j, hi, hj, h0, hpk⟩ := peak (dif X Y X' Y') f t hex
 obtain ⟨a, b, rfl, rfl, ha, hb, g1, g2, g3, g4⟩ := inner h h' hone hi hj (fun q => by rw [q, Int.mul_zero] at h0; omega)
 refine ⟨a, b, ha, hb, h0, ?_⟩
 have dH := fun i j (hi : i < 10) (hj : j ≤ 10) => dif_H h h' (i := i) (j := j) hi hj
 have hrow : ∀ i, i < 10 → dif X Y X' Y' (i + 1) 0 = dif X Y X' Y' i 0 + eH X X' i 0 := fun i hi => dH i 0 hi (by omega)
 have l1 := dH a (b + 1) (by omega) (by omega)
 have r1 := dH (a + 1) (b + 1) (by omega) (by omega)
 have u1 := dif_V X Y X' Y' (a + 1) b
 have d1 := dif_V X Y X' Y' (a + 1) (b + 1)
 have l2 := hf.hor a b (by omega) (by omega) (.inl g1)
 have r2 := hf.hor (a + 1) b (by omega) (by omega) (.inl g2)
 have u2 := hf.ver a b (by omega) (by omega) (.inl g1)
 have d2 := hf.ver a (b + 1) (by omega) (by omega) (.inl g3)
 obtain ⟨pl1, pl2⟩ := hpk a (b + 1) (by omega) (by omega)
 obtain ⟨pr1, pr2⟩ := hpk (a + 1 + 1) (b + 1) (by omega) (by omega)
 obtain ⟨pu1, pu2⟩ := hpk (a + 1) b (by omega) (by omega)
 obtain ⟨pd1, pd2⟩ := hpk (a + 1) (b + 1 + 1) (by omega) (by omega)
 unfold wH at l2 r2
 unfold wV at u2 d2
 have sl : sg a (b + 1) = - sg (a + 1) (b + 1) := by have := sg_r a (b + 1); omega
 have su : sg (a + 1) b = - sg (a + 1) (b + 1) := by have := sg_d (a + 1) b; omega
 rw [sl] at l1 l2
 rw [su] at u1 u2
 have hs := sg_one (a + 1) (b + 1)
 have fin : ∀ (p q : Bool), q = !p → Y (a + 1) b = p → Y (a + 1) (b + 1) = p → sg (a + 1) (b + 1) * (bi q - bi p) = - t → ∀ i j, i ≤ 10 → j ≤ 10 → dif (flX X a b p) (flY Y a b q) X' Y' i j = setE (dif X Y X' Y') (a + 1) (b + 1) (-t) i j := fun p q hpq e1 e2 e3 i j hi hj => by
  rw [flip_dif (X' := X') (Y' := Y') p q hpq e1 e2 ha hb i j hi hj hrow, e3]
 by_cases hu : t = sg (a + 1) (b + 1)
 ·left
  have k1 : bi (Y (a + 1) b) = 1 := up1 hs hu u1 u2 (bi_or _) (bi_or _) pu1 pu2
  have k2 : bi (Y (a + 1) (b + 1)) = 1 := dn1 hs hu d1 d2 (bi_or _) (bi_or _) pd1 pd2
  have m1 := bi_1.1 k1
  have m2 := bi_1.1 k2
  refine ⟨m1, m2, fin true false rfl m1 m2 ?_⟩
  show sg (a + 1) (b + 1) * (0 - 1) = - t
  rw [hu]; exact Int.mul_neg_one _
 ·right
  have hu : t = - sg (a + 1) (b + 1) := by
   clear l1 r1 u1 d1 l2 r2 u2 d2 pl1 pl2 pr1 pr2 pu1 pu2 pd1 pd2 hpk h0 fin
   omega
  have k1 : bi (X a (b + 1)) = 1 := lf1 hs hu l1 l2 (bi_or _) (bi_or _) pl1 pl2
  have k2 : bi (X (a + 1) (b + 1)) = 1 := rg1 hs hu r1 r2 (bi_or _) (bi_or _) pr1 pr2
  have m1 := bi_1.1 k1
  have m2 := bi_1.1 k2
  obtain ⟨n1, n2⟩ := pair_X h m1 m2
  refine ⟨m1, m2, fin false true rfl n1 n2 ?_⟩
  show sg (a + 1) (b + 1) * (1 - 0) = - t
  rw [hu, Int.neg_neg]; exact Int.mul_one _
end
def difL (L M : List Dm) : Fm := dif (xL L) (yL L) (xL M) (yL M)
theorem step_near2 {xs : List Int} {L M : List Dm} (hone : One (gX xs)) (hL : tilB xs L = true) (hM : tilB xs M = true) {t : Int} (ht : t = 1 ∨ t = -1) (hex : ∃ i j, i ≤ 10 ∧ j ≤ 10 ∧ 0 < t * difL L M i j) :
  ∃ x y b a c, (0 ≤ x ∧ x ≤ 6 ∧ 0 ≤ y ∧ y ≤ 6) ∧ has2 L x y b = true ∧ a ≤ 10 ∧ c ≤ 10 ∧ 0 < t * difL L M a c ∧ ∀ i j, i ≤ 10 → j ≤ 10 → difL (turn L x y b) M i j = setE (difL L M) a c (-t) i j := by
 have tL := tl_of hL
 have tM := tl_of hM
 have vL := part_valid (til_part hL)
 obtain ⟨a, c, ha, hc, h0, h⟩ := nearer2 tL tM hone ht hex
 rcases h with ⟨h1, h2, h3⟩ | ⟨h1, h2, h3⟩
 ·have m1 := yL_iff.1 h1
  have m2 := yL_iff.1 h2
  have o1 := ok_rt (vL _ m1)
  have o2 := ok_rt (vL _ m2)
  have h6 : 0 ≤ (a : Int) - 1 ∧ (a : Int) - 1 ≤ 6 ∧ 0 ≤ (c : Int) - 1 ∧ (c : Int) - 1 ≤ 6 := by omega
  refine ⟨(a : Int) - 1, (c : Int) - 1, false, a + 1, c + 1, h6, has2_iff.2 ⟨?_, ?_⟩, by omega, by omega, h0, ?_⟩
  ·unfold pr1; rw [show (a : Int) - 1 = ((a + 1 : Nat) : Int) - 2 by omega]; exact m1
  ·unfold pr2
   rw [if_neg (by simp), show (a : Int) - 1 = ((a + 1 : Nat) : Int) - 2 by omega, show (c : Int) - 1 + 1 = ((c + 1 : Nat) : Int) - 1 by omega]; exact m2
  ·obtain ⟨e1, e2⟩ := turn_X (xs := xs) (L := L) (b := false) vL h6 (a := a) (c := c) (by omega) (by omega)
   unfold difL
   rw [e1, e2]; exact h3
 ·have m1 := xL_iff.1 h1
  have m2 := xL_iff.1 h2
  have o1 := ok_dn (vL _ m1)
  have o2 := ok_dn (vL _ m2)
  have h6 : 0 ≤ (a : Int) - 1 ∧ (a : Int) - 1 ≤ 6 ∧ 0 ≤ (c : Int) - 1 ∧ (c : Int) - 1 ≤ 6 := by omega
  refine ⟨(a : Int) - 1, (c : Int) - 1, true, a + 1, c + 1, h6, has2_iff.2 ⟨?_, ?_⟩, by omega, by omega, h0, ?_⟩
  ·unfold pr1; rw [show (c : Int) - 1 = ((c + 1 : Nat) : Int) - 2 by omega]; exact m1
  ·unfold pr2
   rw [if_pos rfl, show (a : Int) - 1 + 1 = ((a + 1 : Nat) : Int) - 1 by omega, show (c : Int) - 1 = ((c + 1 : Nat) : Int) - 2 by omega]; exact m2
  ·obtain ⟨e1, e2⟩ := turn_X (xs := xs) (L := L) (b := true) vL h6 (a := a) (c := c) (by omega) (by omega)
   unfold difL
   rw [e1, e2]; exact h3
theorem sum_zero : ∀ (l : List Nat), l.sum = 0 → ∀ x ∈ l, x = 0
 | [], _, x, h => by cases h
 | y :: r, h, x, hx => by
  rw [List.sum_cons] at h
  rcases List.mem_cons.1 hx with rfl | hx
  ·omega
  ·exact sum_zero r (by omega) x hx
def prt (t : Int) (E : Fm) : Fm := fun i j => if 0 < t * E i j then E i j else 0
theorem less2 {t e : Int} (ht : t = 1 ∨ t = -1) (h0 : 0 < t * e) : (if 0 < t * (e + -t) then e + -t else 0).natAbs + 1 = e.natAbs := by
 rcases ht with rfl | rfl <;> split <;> omega
theorem join_ex {xs : List Int} (hone : One (gX xs)) {M : List Dm} (hM : tilB xs M = true) {t : Int} (ht : t = 1 ∨ t = -1) (n : Nat) : ∀ L : List Dm, tilB xs L = true → far (prt t (difL L M)) = n →
  ∃ N, tilB xs N = true ∧ ∀ i j, i ≤ 10 → j ≤ 10 → difL N M i j = if 0 < t * difL L M i j then 0 else difL L M i j := by
 induction n with
 | zero =>
  intro L hL hn
  by_cases hex : ∃ i j, i ≤ 10 ∧ j ≤ 10 ∧ 0 < t * difL L M i j
  ·obtain ⟨x, y, b, a, c, h6, hb, ha, hc, h0, he⟩ := step_near2 hone hL hM ht hex
   exfalso
   have hk : far (prt t (difL L M)) = 0 := hn
   unfold far at hk
   have hz := (sum_zero _ hk) (prt t (difL L M) a c).natAbs (List.mem_map.2 ⟨11 * c + a, List.mem_range.2 (by omega), by rw [show (11 * c + a) % 11 = a by omega, show (11 * c + a) / 11 = c by omega]⟩)
   unfold prt at hz
   rw [if_pos h0] at hz
   have : difL L M a c = 0 := by omega
   rw [this, Int.mul_zero] at h0
   omega
  ·exact ⟨L, hL, fun i j hi hj => by rw [if_neg (fun q => hex ⟨i, j, hi, hj, q⟩)]⟩
 | succ n ih =>
  intro L hL hn
  by_cases hex : ∃ i j, i ≤ 10 ∧ j ≤ 10 ∧ 0 < t * difL L M i j
  ·obtain ⟨x, y, b, a, c, h6, hb, ha, hc, h0, he⟩ := step_near2 hone hL hM ht hex
   have hp := til_part hL
   have hfs := far_set (E := prt t (difL L M)) (E' := prt t (difL (turn L x y b) M)) ha hc (fun i j hi hj hne => by
    unfold prt
    rw [he i j hi hj, setE_ne (fun k => hne (by rw [k.1, k.2]))])
   have e1 : prt t (difL (turn L x y b) M) a c = if 0 < t * (difL L M a c + -t) then difL L M a c + -t else 0 := by
    unfold prt
    rw [he a c ha hc, setE_at]
   have e2 : prt t (difL L M) a c = difL L M a c := if_pos h0
   have e3 := less2 ht h0
   rw [e1, e2, hn] at hfs
   obtain ⟨N, hN, hd⟩ := ih (turn L x y b) (turn_til hp h6 hb hL) (by omega)
   refine ⟨N, hN, fun i j hi hj => ?_⟩
   rw [hd i j hi hj, he i j hi hj]
   by_cases q : i = a ∧ j = c
   ·obtain ⟨rfl, rfl⟩ := q
    rw [setE_at, if_pos h0]
    clear hfs e1 e2 e3 he hd
    generalize difL L M i j = e at h0
    rcases ht with rfl | rfl <;> split <;> omega
   ·rw [setE_ne q]
  ·exact ⟨L, hL, fun i j hi hj => by rw [if_neg (fun q => hex ⟨i, j, hi, hj, q⟩)]⟩
end Go.Proofs.YtmajllgfmclcoaaGreatDoor.Hgt

namespace Go.Proofs.YtmajllgfmclcoaaGreatDoor.Hgt
set_option linter.unusedVariables false
set_option linter.unusedSimpArgs false
open Go.RowKit Go.Proofs.YtmajllgfmclcoaaGreatDoor.Pure Go.Proofs.YtmajllgfmclcoaaGreatDoor.Dms Go.Proofs.YtmajllgfmclcoaaGreatDoor.Til Go.Proofs.YtmajllgfmclcoaaGreatDoor.Grd Go.Proofs.YtmajllgfmclcoaaGreatDoor.Flp Go.Joins

theorem at_ix {xs : List Int} {L : List Dm} (h : partB xs L = true) {k : Nat} (hk : k < L.length) {x y : Int} (hc : covM L[k] x y = true) : atI L x y = (k : Int) := by
 obtain ⟨h1, h2⟩ := part_at h hk
 rcases (cov_two hc).2 with ⟨rfl, rfl⟩ | ⟨rfl, rfl⟩
 ·exact h1
 ·exact h2
theorem at_til {xs : List Int} {L : List Dm} (ht : tilB xs L = true) (x y : Int) :
  (hasB xs x y = false ∧ atI L x y = -1) ∨ (hasB xs x y = true ∧ ∃ k, ∃ hk : k < L.length, covM L[k] x y = true ∧ atI L x y = (k : Int)) := by
 have hp := til_part ht
 cases q : anyM L x y with
 | true =>
  right
  unfold anyM at q
  obtain ⟨d, hd, hc⟩ := List.any_eq_true.1 q
  obtain ⟨k, hk, rfl⟩ := List.getElem_of_mem hd
  exact ⟨part_in hp hd hc, k, hk, hc, at_ix hp hk hc⟩
 | false =>
  left
  refine ⟨?_, ?_⟩
  ·cases r : hasB xs x y with
   | false => rfl
   | true =>
    rw [tilB_part hp, decide_eq_true_eq] at ht
    have hn : unc L (cellsR xs) = [] := List.eq_nil_of_length_eq_zero ht
    have : (x, y) ∈ unc L (cellsR xs) := by
     unfold unc
     exact List.mem_filter.2 ⟨mem_cells.2 r, by simp [q]⟩
    rw [hn] at this; cases this
  ·unfold atI
   rw [atN_none.2 q]
def oX (m : Int) (b : Bool) : Int := if b then m else m + 1
def oY (n : Int) (b : Bool) : Int := if b then n + 1 else n
theorem cov_both {m n : Int} {b : Bool} (h : okM (m, n, b) = true) : covM (m, n, b) m n = true ∧ covM (m, n, b) (oX m b) (oY n b) = true := by
 cases b with
 | true => exact cov_dn h
 | false => exact cov_rt h
theorem cov_back {d : Dm} {m n : Int} {b : Bool} (h1 : covM d m n = true) (h2 : covM d (oX m b) (oY n b) = true) : d = (m, n, b) := by
 have e1 := cov_who h1
 have e2 := cov_who h2
 obtain ⟨a, c, e⟩ := d
 cases b <;> cases e <;> simp [oX, oY] at e1 e2 ⊢ <;> omega
theorem around {xs : List Int} {L : List Dm} (ht : tilB xs L = true) (m n : Int) (b : Bool) :
  atI L m n ≠ atI L (oX m b) (oY n b) ↔ (hasB xs m n = true ∨ hasB xs (oX m b) (oY n b) = true) ∧ (m, n, b) ∉ L := by
 have hp := til_part ht
 have hin : (m, n, b) ∈ L → hasB xs m n = true ∧ hasB xs (oX m b) (oY n b) = true ∧ atI L m n = atI L (oX m b) (oY n b) := fun hm => by
  obtain ⟨c1, c2⟩ := cov_both (part_valid hp _ hm)
  obtain ⟨k, hk, e⟩ := List.getElem_of_mem hm
  refine ⟨part_in hp hm c1, part_in hp hm c2, ?_⟩
  rw [at_ix hp hk (by rw [e]; exact c1), at_ix hp hk (by rw [e]; exact c2)]
 rcases at_til ht m n with ⟨a1, a2⟩ | ⟨a1, i, hi, a2, a3⟩ <;> rcases at_til ht (oX m b) (oY n b) with ⟨b1, b2⟩ | ⟨b1, j, hj, b2, b3⟩
 ·rw [a1, a2, b1, b2]; simp
 ·rw [a1, a2, b1, b3]
  refine ⟨fun _ => ⟨.inr rfl, fun hm => ?_⟩, fun _ => by omega⟩
  have := (hin hm).1
  rw [a1] at this; cases this
 ·rw [a1, a3, b1, b2]
  refine ⟨fun _ => ⟨.inl rfl, fun hm => ?_⟩, fun _ => by omega⟩
  have := (hin hm).2.1
  rw [b1] at this; cases this
 ·refine ⟨fun hne => ⟨.inl a1, fun hm => hne (hin hm).2.2⟩, fun hm he => hm.2 ?_⟩
  rw [a3, b3] at he
  obtain rfl : i = j := by omega
  rw [← cov_back a2 b2]
  exact List.getElem_mem hi
def clX (px py qx qy : Int) : Int := if px < qx then px else if qx < px then qx else if py < qy then px else qx - 1
def clY (px py qx qy : Int) : Int := if px < qx then py - 1 else if qx < px then qy else if py < qy then py else qy
theorem cl_free {xs : List Int} {L : List Dm} (ht : tilB xs L = true) {d : Nat} (hd : d < 4) {px py qx qy : Int} (e3 : qx = px + dX d) (e4 : qy = py + dY d) :
  (atI L (clX px py qx qy) (clY px py qx qy) ≠ atI L (clX qx qy px py) (clY qx qy px py)) ↔
   (hasB xs (sdX px py qx qy) (sdY px py qx qy) = true ∨ hasB xs (loE px qx) (loE py qy) = true) ∧ sdM px py qx qy ∉ L := by
 have h4 : d = 0 ∨ d = 1 ∨ d = 2 ∨ d = 3 := by omega
 have hA := around ht (sdX px py qx qy) (sdY px py qx qy) (decide (py = qy))
 unfold sdM
 rcases h4 with rfl | rfl | rfl | rfl
 ·obtain rfl : qx = px + 1 := e3
  obtain rfl : py = qy := by rw [e4]; show py = py + 0; omega
  have c1 : clX px py (px + 1) py = px := by unfold clX; rw [if_pos (by omega)]
  have c2 : clY px py (px + 1) py = py - 1 := by unfold clY; rw [if_pos (by omega)]
  have c3 : clX (px + 1) py px py = px := by unfold clX; rw [if_neg (by omega), if_pos (by omega)]
  have c4 : clY (px + 1) py px py = py := by unfold clY; rw [if_neg (by omega), if_pos (by omega)]
  have s1 : sdX px py (px + 1) py = px := by unfold sdX loE; rw [if_pos rfl, if_neg (by omega)]
  have s2 : sdY px py (px + 1) py = py - 1 := by unfold sdY loE; rw [if_pos rfl, if_neg (by omega)]
  have l1 : loE px (px + 1) = px := by unfold loE; rw [if_neg (by omega)]
  have l2 : loE py py = py := by unfold loE; rw [if_neg (by omega)]
  rw [s1, s2, decide_eq_true (rfl : py = py)] at hA
  have o1 : oX px true = px := rfl
  have o2 : oY (py - 1) true = py := by show py - 1 + 1 = py; omega
  rw [o1, o2] at hA
  rw [c1, c2, c3, c4, s1, s2, l1, l2, decide_eq_true (rfl : py = py)]
  exact hA
 ·obtain rfl : qx = px := by rw [e3]; show px + 0 = px; omega
  obtain rfl : qy = py + 1 := e4
  have c1 : clX qx py qx (py + 1) = qx := by unfold clX; rw [if_neg (by omega), if_neg (by omega), if_pos (by omega)]
  have c2 : clY qx py qx (py + 1) = py := by unfold clY; rw [if_neg (by omega), if_neg (by omega), if_pos (by omega)]
  have c3 : clX qx (py + 1) qx py = qx - 1 := by unfold clX; rw [if_neg (by omega), if_neg (by omega), if_neg (by omega)]
  have c4 : clY qx (py + 1) qx py = py := by unfold clY; rw [if_neg (by omega), if_neg (by omega), if_neg (by omega)]
  have s1 : sdX qx py qx (py + 1) = qx - 1 := by unfold sdX loE; rw [if_neg (by omega), if_neg (by omega)]
  have s2 : sdY qx py qx (py + 1) = py := by unfold sdY loE; rw [if_neg (by omega), if_neg (by omega)]
  have l1 : loE qx qx = qx := by unfold loE; rw [if_neg (by omega)]
  have l2 : loE py (py + 1) = py := by unfold loE; rw [if_neg (by omega)]
  have hb : decide (py = py + 1) = false := decide_eq_false (by omega)
  rw [s1, s2, hb] at hA
  have o1 : oX (qx - 1) false = qx := by show qx - 1 + 1 = qx; omega
  have o2 : oY py false = py := rfl
  rw [o1, o2] at hA
  rw [c1, c2, c3, c4, s1, s2, l1, l2, hb, ← hA]
  exact ne_comm
 ·obtain rfl : qx = px - 1 := e3
  obtain rfl : py = qy := by rw [e4]; show py = py + 0; omega
  have c1 : clX px py (px - 1) py = px - 1 := by unfold clX; rw [if_neg (by omega), if_pos (by omega)]
  have c2 : clY px py (px - 1) py = py := by unfold clY; rw [if_neg (by omega), if_pos (by omega)]
  have c3 : clX (px - 1) py px py = px - 1 := by unfold clX; rw [if_pos (by omega)]
  have c4 : clY (px - 1) py px py = py - 1 := by unfold clY; rw [if_pos (by omega)]
  have s1 : sdX px py (px - 1) py = px - 1 := by unfold sdX loE; rw [if_pos rfl, if_pos (by omega)]
  have s2 : sdY px py (px - 1) py = py - 1 := by unfold sdY loE; rw [if_pos rfl, if_neg (by omega)]
  have l1 : loE px (px - 1) = px - 1 := by unfold loE; rw [if_pos (by omega)]
  have l2 : loE py py = py := by unfold loE; rw [if_neg (by omega)]
  rw [s1, s2, decide_eq_true (rfl : py = py)] at hA
  have o1 : oX (px - 1) true = px - 1 := rfl
  have o2 : oY (py - 1) true = py := by show py - 1 + 1 = py; omega
  rw [o1, o2] at hA
  rw [c1, c2, c3, c4, s1, s2, l1, l2, decide_eq_true (rfl : py = py), ← hA]
  exact ne_comm
 ·obtain rfl : qx = px := by rw [e3]; show px + 0 = px; omega
  obtain rfl : qy = py - 1 := e4
  have c1 : clX qx py qx (py - 1) = qx - 1 := by unfold clX; rw [if_neg (by omega), if_neg (by omega), if_neg (by omega)]
  have c2 : clY qx py qx (py - 1) = py - 1 := by unfold clY; rw [if_neg (by omega), if_neg (by omega), if_neg (by omega)]
  have c3 : clX qx (py - 1) qx py = qx := by unfold clX; rw [if_neg (by omega), if_neg (by omega), if_pos (by omega)]
  have c4 : clY qx (py - 1) qx py = py - 1 := by unfold clY; rw [if_neg (by omega), if_neg (by omega), if_pos (by omega)]
  have s1 : sdX qx py qx (py - 1) = qx - 1 := by unfold sdX loE; rw [if_neg (by omega), if_neg (by omega)]
  have s2 : sdY qx py qx (py - 1) = py - 1 := by unfold sdY loE; rw [if_neg (by omega), if_pos (by omega)]
  have l1 : loE qx qx = qx := by unfold loE; rw [if_neg (by omega)]
  have l2 : loE py (py - 1) = py - 1 := by unfold loE; rw [if_pos (by omega)]
  have hb : decide (py = py - 1) = false := decide_eq_false (by omega)
  rw [s1, s2, hb] at hA
  have o1 : oX (qx - 1) false = qx := by show qx - 1 + 1 = qx; omega
  have o2 : oY (py - 1) false = py - 1 := rfl
  rw [o1, o2] at hA
  rw [c1, c2, c3, c4, s1, s2, l1, l2, hb]
  exact hA
end Go.Proofs.YtmajllgfmclcoaaGreatDoor.Hgt
