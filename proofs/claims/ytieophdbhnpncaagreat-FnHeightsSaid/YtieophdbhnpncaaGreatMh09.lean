/- HgrT, HgrF, Edg, Sid, HgrW, RegM in one text. -/
import Derived.Test.YtieophdbhnpncaaGreatMh08
import Derived.Test.YtieophdbhnpncaaGreatMh00
import Derived.Test.YtieophdbhnpncaaGreatMh01
import Derived.Test.YtieophdbhnpncaaGreatRows
import Derived.Test.YtieophdbhnpncaaGreatMh03
import Derived.WalkKit
import Derived.WalkSpells
import Derived.WalkLawsBesides
import Derived.Below
import Derived.OwnWalk
import Derived.Laws.AppendOwn
import Derived.Laws.OwnMore
import Derived.Deep.AppendLies
import Derived.Lib.Hide
import Derived.Lib.SmallJoins
import Derived.Deep.QuietTactic
import Derived.BigQuiet

namespace Go.Proofs.YtieophdbhnpncaaGreat.Hgt
set_option linter.unusedVariables false
set_option linter.unusedSimpArgs false
open Go.RowKit Go.Proofs.YtieophdbhnpncaaGreat.Pure Go.Proofs.YtieophdbhnpncaaGreat.Dms Go.Proofs.YtieophdbhnpncaaGreat.Til Go.Proofs.YtieophdbhnpncaaGreat.Grd Go.Proofs.YtieophdbhnpncaaGreat.Flp Go.Joins
open Go.Proofs.YtieophdbhnpncaaGreat.Bal (piecesN outsN)

structure Row9 (xs : List Int) (L : List Dm) (hs : List Int) : Prop where
 ok : okR xs
 one : piecesN xs = 1
 til : tilB xs L = true
 lcl : lc xs < 81
 lcc : crnB xs (lc xs) = true
 f : ∃ f, Hts (gX xs) (xL L) (yL L) f ∧ hs = hgL xs f ∧ ∀ v, v < 81 → crnB xs v = true → -80 ≤ hv xs f v ∧ hv xs f v ≤ 80
theorem row_at (xs : List Int) (f : Fm) {v : Nat} (hv : v < 81) : (hgL xs f)[v]? = some (if crnB xs v then Hgt.hv xs f v else -1000) := by
 unfold hgL
 rw [List.getElem?_map, List.getElem?_range hv]
 rfl
theorem row_len (xs : List Int) (f : Fm) : (hgL xs f).length = 81 := by unfold hgL; simp
theorem row_uniq {xs : List Int} {L : List Dm} {h h' : List Int} (r : Row9 xs L h) (r' : Row9 xs L h') : h = h' := by
 obtain ⟨f, hf, e, _⟩ := r.f
 obtain ⟨g, hg, e', _⟩ := r'.f
 rw [e, e']
 unfold hgL
 refine List.map_congr_left (fun v hv => ?_)
 cases hb : crnB xs v with
 | false => rfl
 | true =>
  show Hgt.hv xs f v = Hgt.hv xs g v
  exact hts_uniq r.ok r.one (tl_of r.til) hf hg (crn_iff.1 r.lcc) (crn_iff.1 hb)
def gapA (d : Dm) : Nat := if d.2.2 then 9 * (d.2.1 + 1).toNat + d.1.toNat else 9 * d.2.1.toNat + (d.1 + 1).toNat
def gapB (d : Dm) : Nat := if d.2.2 then 9 * (d.2.1 + 1).toNat + d.1.toNat + 1 else 9 * (d.2.1.toNat + 1) + (d.1 + 1).toNat
theorem gap_dn {xs : List Int} {L : List Dm} {h : List Int} (r : Row9 xs L h) {x y : Int} (h1 : hasB xs x y = true) (h2 : hasB xs x (y + 1) = true) :
  ∃ u v : Int, h[9 * (y + 1).toNat + x.toNat]? = some u ∧ h[9 * (y + 1).toNat + x.toNat + 1]? = some v ∧ (-80 ≤ u ∧ u ≤ 80) ∧ (-80 ≤ v ∧ v ≤ 80) ∧ ((u - v = 3 ∨ v - u = 3) ↔ ((x, y, true) : Dm) ∈ L) := by
 obtain ⟨f, hf, rfl, bd⟩ := r.f
 obtain ⟨a, b, ea, eb, g1⟩ := gX_has h1
 obtain ⟨a', b', ea', eb', g2⟩ := gX_has h2
 obtain rfl : a' = a := by omega
 obtain rfl : b' = b + 1 := by omega
 have l1 := gX_lt g1
 have l2 := gX_lt g2
 have i1 : 9 * (y + 1).toNat + x.toNat = 9 * b + (a' - 1) := by omega
 have c1 : crnB xs (9 * b + (a' - 1)) = true := crn_iff.2 ⟨_, _, g2, .inl (by omega), .inl (by omega)⟩
 have c2 : crnB xs (9 * b + a') = true := crn_iff.2 ⟨_, _, g2, .inr (by omega), .inl (by omega)⟩
 rw [i1, show 9 * b + (a' - 1) + 1 = 9 * b + a' by omega, row_at xs f (by omega), row_at xs f (by omega), c1, c2]
 refine ⟨_, _, rfl, rfl, bd _ (by omega) c1, bd _ (by omega) c2, ?_⟩
 have e := hf.hor a' b (by omega) (by omega) (.inl g1)
 have x1 : at9 f (9 * b + a') = f (a' + 1) (b + 1) := by
  unfold at9
  rw [show (9 * b + a') % 9 = a' by omega, show (9 * b + a') / 9 = b by omega]
 have x2 : at9 f (9 * b + (a' - 1)) = f a' (b + 1) := by
  unfold at9
  rw [show (9 * b + (a' - 1)) % 9 + 1 = a' by omega, show (9 * b + (a' - 1)) / 9 = b by omega]
 have m : xL L a' (b + 1) = true ↔ ((x, y, true) : Dm) ∈ L := by
  rw [xL_iff, show (a' : Int) - 1 = x by omega, show ((b + 1 : Nat) : Int) - 2 = y by omega]
 rw [← m]
 show (hv xs f _ - hv xs f _ = 3 ∨ hv xs f _ - hv xs f _ = 3) ↔ _
 unfold hv
 rw [x1, x2, e]
 unfold wH
 rcases sg_one a' (b + 1) with q | q <;> rw [q] <;> cases xL L a' (b + 1) <;> simp only [bi, if_pos, if_neg] <;> constructor <;> intro z <;> simp_all <;> omega
theorem gap_rt {xs : List Int} {L : List Dm} {h : List Int} (r : Row9 xs L h) {x y : Int} (h1 : hasB xs x y = true) (h2 : hasB xs (x + 1) y = true) :
  ∃ u v : Int, h[9 * y.toNat + (x + 1).toNat]? = some u ∧ h[9 * (y + 1).toNat + (x + 1).toNat]? = some v ∧ (-80 ≤ u ∧ u ≤ 80) ∧ (-80 ≤ v ∧ v ≤ 80) ∧ ((u - v = 3 ∨ v - u = 3) ↔ ((x, y, false) : Dm) ∈ L) := by
 obtain ⟨f, hf, rfl, bd⟩ := r.f
 obtain ⟨a, b, ea, eb, g1⟩ := gX_has h1
 obtain ⟨a', b', ea', eb', g2⟩ := gX_has h2
 obtain rfl : a' = a + 1 := by omega
 obtain rfl : b' = b := by omega
 have l1 := gX_lt g1
 have l2 := gX_lt g2
 have i1 : 9 * y.toNat + (x + 1).toNat = 9 * (b' - 1) + a := by omega
 have i2 : 9 * (y + 1).toNat + (x + 1).toNat = 9 * b' + a := by omega
 have c1 : crnB xs (9 * (b' - 1) + a) = true := crn_iff.2 ⟨_, _, g2, .inl (by omega), .inl (by omega)⟩
 have c2 : crnB xs (9 * b' + a) = true := crn_iff.2 ⟨_, _, g2, .inl (by omega), .inr (by omega)⟩
 rw [i1, i2, row_at xs f (by omega), row_at xs f (by omega), c1, c2]
 refine ⟨_, _, rfl, rfl, bd _ (by omega) c1, bd _ (by omega) c2, ?_⟩
 have e := hf.ver a b' (by omega) (by omega) (.inl g1)
 have x1 : at9 f (9 * b' + a) = f (a + 1) (b' + 1) := by
  unfold at9
  rw [show (9 * b' + a) % 9 = a by omega, show (9 * b' + a) / 9 = b' by omega]
 have x2 : at9 f (9 * (b' - 1) + a) = f (a + 1) b' := by
  unfold at9
  rw [show (9 * (b' - 1) + a) % 9 = a by omega, show (9 * (b' - 1) + a) / 9 + 1 = b' by omega]
 have m : yL L (a + 1) b' = true ↔ ((x, y, false) : Dm) ∈ L := by
  rw [yL_iff, show ((a + 1 : Nat) : Int) - 2 = x by omega, show (b' : Int) - 1 = y by omega]
 rw [← m]
 show (hv xs f _ - hv xs f _ = 3 ∨ hv xs f _ - hv xs f _ = 3) ↔ _
 unfold hv
 rw [x1, x2, e]
 unfold wV
 rcases sg_one (a + 1) b' with q | q <;> rw [q] <;> cases yL L (a + 1) b' <;> simp only [bi, if_pos, if_neg] <;> constructor <;> intro z <;> simp_all <;> omega
theorem has_sides {xs : List Int} {L : List Dm} {x y : Int} {b : Bool} (hL : tilB xs L = true) (hb : has2 L x y b = true) {a c : Nat} (ha : (a : Int) = x + 1) (hc : (c : Int) = y + 1) :
  (xL L a (c + 1) = b ∧ xL L (a + 1) (c + 1) = b) ∧ yL L (a + 1) c = (!b) ∧ yL L (a + 1) (c + 1) = (!b) := by
 have tL := tl_of hL
 obtain ⟨m1, m2⟩ := has2_iff.1 hb
 cases b with
 | false =>
  have h : yL L (a + 1) c = true ∧ yL L (a + 1) (c + 1) = true := by
   refine ⟨yL_iff.2 ?_, yL_iff.2 ?_⟩
   ·unfold pr1 at m1; rw [show ((a + 1 : Nat) : Int) - 2 = x by omega, show (c : Int) - 1 = y by omega]; exact m1
   ·unfold pr2 at m2; rw [if_neg (by simp)] at m2; rw [show ((a + 1 : Nat) : Int) - 2 = x by omega, show ((c + 1 : Nat) : Int) - 1 = y + 1 by omega]; exact m2
  exact ⟨pair_Y tL h.1 h.2, h⟩
 | true =>
  have h : xL L a (c + 1) = true ∧ xL L (a + 1) (c + 1) = true := by
   refine ⟨xL_iff.2 ?_, xL_iff.2 ?_⟩
   ·unfold pr1 at m1; rw [show (a : Int) - 1 = x by omega, show ((c + 1 : Nat) : Int) - 2 = y by omega]; exact m1
   ·unfold pr2 at m2; rw [if_pos rfl] at m2; rw [show ((a + 1 : Nat) : Int) - 1 = x + 1 by omega, show ((c + 1 : Nat) : Int) - 2 = y by omega]; exact m2
  exact ⟨h, pair_X tL h.1 h.2⟩
theorem flip_hts {xs : List Int} {L : List Dm} {f : Fm} (hL : tilB xs L = true) (hf : Hts (gX xs) (xL L) (yL L) f) {x y : Int} {b : Bool} (h6 : 0 ≤ x ∧ x ≤ 6 ∧ 0 ≤ y ∧ y ≤ 6) (hb : has2 L x y b = true) {a c : Nat} (ha : (a : Int) = x + 1) (hc : (c : Int) = y + 1) :
  Hts (gX xs) (xL (turn L x y b)) (yL (turn L x y b)) (setE f (a + 1) (c + 1) (4 * (sg a (c + 1) * (bi (!b) - bi b)))) := by
 obtain ⟨e1, e2⟩ := turn_X (xs := xs) (L := L) (b := b) (part_valid (til_part hL)) h6 ha hc
 obtain ⟨⟨s1, s2⟩, s3, s4⟩ := has_sides hL hb ha hc
 rw [e1, e2]
 have g1 := sg_r a (c + 1)
 have g2 := sg_r a c
 have g3 := sg_d a c
 constructor
 ·intro i j hi hj hg
  have o := hf.hor i j hi hj hg
  by_cases q : j = c ∧ (i = a ∨ i = a + 1)
  ·obtain ⟨rfl, q⟩ := q
   rcases q with rfl | rfl
   ·rw [setE_at, setE_ne (by omega), o]
    unfold wH flX
    rw [if_pos ⟨.inl rfl, rfl⟩, s1]
    rcases sg_one i (j + 1) with w | w <;> rw [w] <;> cases b <;> simp only [bi] <;> simp <;> omega
   ·rw [setE_ne (by omega), setE_at, o]
    unfold wH flX
    rw [if_pos ⟨.inr rfl, rfl⟩, s2, g1]
    rcases sg_one a (j + 1) with w | w <;> rw [w] <;> cases b <;> simp only [bi] <;> simp <;> omega
  ·rw [setE_ne (by omega), setE_ne (by omega), o]
   unfold wH flX
   rw [if_neg (by omega)]
 ·intro i j hi hj hg
  have o := hf.ver i j hi hj hg
  by_cases q : i = a ∧ (j = c ∨ j = c + 1)
  ·obtain ⟨rfl, q⟩ := q
   rcases q with rfl | rfl
   ·rw [setE_at, setE_ne (by omega), o]
    unfold wV flY
    rw [if_pos ⟨rfl, .inl rfl⟩, s3, g2, g3]
    rcases sg_one i j with w | w <;> rw [w] <;> cases b <;> simp only [bi] <;> simp <;> omega
   ·rw [setE_ne (by omega), setE_at, o]
    unfold wV flY
    rw [if_pos ⟨rfl, .inr rfl⟩, s4, g1]
    rcases sg_one i (c + 1) with w | w <;> rw [w] <;> cases b <;> simp only [bi] <;> simp <;> omega
  ·rw [setE_ne (by omega), setE_ne (by omega), o]
   unfold wV flY
   rw [if_neg (by omega)]
theorem flip_row {xs : List Int} {L : List Dm} {h h' : List Int} {x y : Int} {b : Bool} (r : Row9 xs L h) (r' : Row9 xs (turn L x y b) h') (h6 : 0 ≤ x ∧ x ≤ 6 ∧ 0 ≤ y ∧ y ≤ 6) (hb : has2 L x y b = true) :
  ∃ (k : Nat) (u s : Int), k < 81 ∧ (s = 4 ∨ s = -4) ∧ (-80 ≤ u ∧ u ≤ 80) ∧ h[k]? = some u ∧ h' = h.set k (u + s) := by
 obtain ⟨f, hf, e, bd⟩ := r.f
 obtain ⟨g, hg, e', bd'⟩ := r'.f
 obtain ⟨a, ha⟩ : ∃ a : Nat, (a : Int) = x + 1 := ⟨(x + 1).toNat, by omega⟩
 obtain ⟨c, hc⟩ : ∃ c : Nat, (c : Int) = y + 1 := ⟨(y + 1).toNat, by omega⟩
 have hf' := flip_hts r.til hf h6 hb ha hc
 obtain ⟨⟨s1, s2⟩, s3, s4⟩ := has_sides r.til hb ha hc
 have tL := tl_of r.til
 -- the cell above and to the left is the region's
 have g0 : gX xs a c = true := by
  cases b with
  | true => exact (tL.dn a c s1).1
  | false => exact (tL.rt a c s3).1
 have l0 := gX_lt g0
 have ck : crnB xs (9 * c + a) = true := crn_iff.2 ⟨_, _, g0, .inr (by omega), .inr (by omega)⟩
 have c0 : crnB xs (9 * (c - 1) + (a - 1)) = true := crn_iff.2 ⟨_, _, g0, .inl (by omega), .inl (by omega)⟩
 have hlc : lc xs ≤ 9 * (c - 1) + (a - 1) := by
  refine Classical.byContradiction fun hn => ?_
  have : crnB xs (9 * (c - 1) + (a - 1)) = false := by
   have h1 := r.lcl
   unfold lc at hn h1
   cases q : (List.range 81).find? (crnB xs) with
   | none => rw [q] at hn; simp at hn
   | some m =>
    rw [q] at hn
    simp only [Option.getD_some] at hn
    obtain ⟨_, i, hi, e, hl⟩ := List.find?_eq_some_iff_getElem.1 q
    rw [List.getElem_range] at e
    have := hl (9 * (c - 1) + (a - 1)) (by omega)
    rw [List.getElem_range] at this
    simpa using this
  rw [c0] at this
  cases this
 refine ⟨9 * c + a, Hgt.hv xs f (9 * c + a), 4 * (sg a (c + 1) * (bi (!b) - bi b)), by omega, ?_, bd _ (by omega) ck, ?_, ?_⟩
 ·rcases sg_one a (c + 1) with w | w <;> rw [w] <;> cases b <;> simp [bi]
 ·rw [e, row_at xs f (by omega), ck]; rfl
 ·have e2 : h' = hgL xs (setE f (a + 1) (c + 1) (4 * (sg a (c + 1) * (bi (!b) - bi b)))) := by
   rw [e']
   unfold hgL
   refine List.map_congr_left (fun v hv => ?_)
   cases hb' : crnB xs v with
   | false => rfl
   | true =>
    show Hgt.hv xs g v = Hgt.hv xs _ v
    exact hts_uniq r.ok r.one (tl_of r'.til) hg hf' (crn_iff.1 r.lcc) (crn_iff.1 hb')
  rw [e2, e]
  refine List.ext_getElem? (fun v => ?_)
  by_cases hv : v < 81
  ·rw [row_at xs _ hv]
   have z : at9 (setE f (a + 1) (c + 1) (4 * (sg a (c + 1) * (bi (!b) - bi b)))) (lc xs) = at9 f (lc xs) := by
    unfold at9
    rw [setE_ne (by omega)]
   by_cases q : v = 9 * c + a
   ·subst q
    rw [List.getElem?_set_self (by rw [row_len]; omega), ck]
    show some (Hgt.hv xs _ _) = _
    unfold Hgt.hv
    rw [z]
    unfold at9
    rw [show (9 * c + a) % 9 = a by omega, show (9 * c + a) / 9 = c by omega, setE_at]
    congr 1
    omega
   ·rw [List.getElem?_set_ne (fun k => q k.symm), row_at xs f hv]
    cases hb' : crnB xs v with
    | false => rfl
    | true =>
     show some (Hgt.hv xs _ _) = some (Hgt.hv xs _ _)
     unfold Hgt.hv
     rw [z]
     unfold at9
     rw [setE_ne (by omega)]
  ·rw [List.getElem?_eq_none (by rw [row_len]; omega), List.getElem?_eq_none (by rw [List.length_set, row_len]; omega)]
end Go.Proofs.YtieophdbhnpncaaGreat.Hgt

namespace Go.Proofs.YtieophdbhnpncaaGreat.Hgt
set_option linter.unusedVariables false
set_option linter.unusedSimpArgs false
open Go.RowKit Go.Proofs.YtieophdbhnpncaaGreat.Pure Go.Proofs.YtieophdbhnpncaaGreat.Dom Go.Proofs.YtieophdbhnpncaaGreat.Dms Go.Proofs.YtieophdbhnpncaaGreat.Til Go.Proofs.YtieophdbhnpncaaGreat.Grd Go.Proofs.YtieophdbhnpncaaGreat.Flp Go.Joins
open Go.Proofs.YtieophdbhnpncaaGreat.Bal (piecesN outsN)

theorem wrap_small {x : Int} (h : -1000000 ≤ x ∧ x ≤ 1000000) : wrap64 x = x := by unfold wrap64; omega
def gap (hs : List Int) (d : Dm) : Prop := ∃ u v : Int, hs[gapA d]? = some u ∧ hs[gapB d]? = some v ∧ (wrap64 (u - v) = 3 ∨ wrap64 (v - u) = 3)
theorem tf_of {xs : List Int} {M : List Dm} {hs : List Int} (r : Row9 xs M hs) {C : List Dm}
  (hC : ∀ e : Dm, okM e = true → (e ∈ C ↔ hasB xs e.1 e.2.1 = true ∧ hasB xs (sx e.1 e.2.2) (sy e.2.1 e.2.2) = true ∧ gap hs e)) : sortM C = M := by
 have hp := til_part r.til
 have hv := part_valid hp
 refine sortM_of (part_inc hp) (fun e => ?_)
 have main : okM e = true → hasB xs e.1 e.2.1 = true → hasB xs (sx e.1 e.2.2) (sy e.2.1 e.2.2) = true → (gap hs e ↔ e ∈ M) := fun ho h1 h2 => by
  obtain ⟨x, y, b⟩ := e
  cases b with
  | true =>
   have o := ok_dn ho
   have e2 : sy y true = y + 1 := by unfold sy; rw [if_pos rfl]; exact wrap_in (by omega) (by omega)
   have e1 : sx x true = x := by unfold sx; rw [if_pos rfl]
   simp only at h1 h2
   rw [e1, e2] at h2
   obtain ⟨u, v, a1, a2, b1, b2, key⟩ := gap_dn r h1 h2
   rw [← key]
   unfold gap gapA gapB
   simp only [if_pos]
   constructor
   ·rintro ⟨u', v', c1, c2, c3⟩
    rw [a1] at c1
    rw [a2] at c2
    injection c1 with c1
    injection c2 with c2
    subst c1
    subst c2
    rwa [wrap_small (by omega), wrap_small (by omega)] at c3
   ·intro h
    refine ⟨u, v, a1, a2, ?_⟩
    rwa [wrap_small (by omega), wrap_small (by omega)]
  | false =>
   have o := ok_rt ho
   have e1 : sx x false = x + 1 := by unfold sx; rw [if_neg (by simp)]; exact wrap_in (by omega) (by omega)
   have e2 : sy y false = y := by unfold sy; rw [if_neg (by simp)]
   simp only at h1 h2
   rw [e1, e2] at h2
   obtain ⟨u, v, a1, a2, b1, b2, key⟩ := gap_rt r h1 h2
   rw [← key]
   unfold gap gapA gapB
   simp only [Bool.false_eq_true, if_false]
   rw [show 9 * (y.toNat + 1) + (x + 1).toNat = 9 * (y + 1).toNat + (x + 1).toNat by omega]
   constructor
   ·rintro ⟨u', v', c1, c2, c3⟩
    rw [a1] at c1
    rw [a2] at c2
    injection c1 with c1
    injection c2 with c2
    subst c1
    subst c2
    rwa [wrap_small (by omega), wrap_small (by omega)] at c3
   ·intro h
    refine ⟨u, v, a1, a2, ?_⟩
    rwa [wrap_small (by omega), wrap_small (by omega)]
 constructor
 ·intro hm
  have ho := hv e hm
  have h1 : hasB xs e.1 e.2.1 = true := part_in hp hm (cov_of ho (.inl ⟨rfl, rfl⟩))
  have h2 : hasB xs (sx e.1 e.2.2) (sy e.2.1 e.2.2) = true := part_in hp hm (cov_of ho (.inr ⟨rfl, rfl⟩))
  exact ⟨(hC e ho).2 ⟨h1, h2, (main ho h1 h2).2 hm⟩, ho⟩
 ·rintro ⟨hm, ho⟩
  obtain ⟨h1, h2, h3⟩ := (hC e ho).1 hm
  exact (main ho h1 h2).1 h3
def sumH (hs : List Int) (k : Nat) : Int := (hs.take k).foldl (fun s h => if h = -1000 then s else wrap64 (s + h)) 0
theorem sumH_step {hs : List Int} {k : Nat} (hk : k < hs.length) : sumH hs (k + 1) = if hs[k] = -1000 then sumH hs k else wrap64 (sumH hs k + hs[k]) := by
 unfold sumH
 rw [List.take_succ_eq_append_getElem hk, List.foldl_append]
 rfl
def sumI : List Int → Int
 | [] => 0
 | h :: t => (if h = -1000 then 0 else h) + sumI t
theorem sumI_app (a b : List Int) : sumI (a ++ b) = sumI a + sumI b := by
 induction a with
 | nil => simp [sumI]
 | cons x t ih => simp only [List.cons_append, sumI, ih]; omega
theorem sumI_bd {a : List Int} (h : ∀ x ∈ a, x = -1000 ∨ (-80 ≤ x ∧ x ≤ 80)) : -80 * (a.length : Int) ≤ sumI a ∧ sumI a ≤ 80 * (a.length : Int) := by
 induction a with
 | nil => simp [sumI]
 | cons x t ih =>
  have := ih (fun y hy => h y (List.mem_cons_of_mem _ hy))
  have hx := h x (List.mem_cons_self ..)
  simp only [sumI, List.length_cons]
  split <;> omega
theorem sumH_I {hs : List Int} (hl : hs.length ≤ 1000) (h : ∀ x ∈ hs, x = -1000 ∨ (-80 ≤ x ∧ x ≤ 80)) : ∀ k, k ≤ hs.length → sumH hs k = sumI (hs.take k)
 | 0, _ => by simp [sumH, sumI]
 | k + 1, hk => by
  have hk' : k < hs.length := hk
  rw [sumH_step hk', sumH_I hl h k (by omega), List.take_succ_eq_append_getElem hk', sumI_app]
  have b := sumI_bd (a := hs.take k) (fun x hx => h x (List.mem_of_mem_take hx))
  rw [List.length_take, Nat.min_eq_left (by omega)] at b
  have hx := h hs[k] (List.getElem_mem hk')
  simp only [sumI]
  split
  ·omega
  ·rw [wrap_small (by omega)]; omega
theorem sumI_set {hs : List Int} {k : Nat} {u s : Int} (hu : hs[k]? = some u) (b : -80 ≤ u ∧ u ≤ 80) (hs4 : s = 4 ∨ s = -4) : sumI (hs.set k (u + s)) = sumI hs + s := by
 induction hs generalizing k with
 | nil => simp at hu
 | cons x t ih =>
  cases k with
  | zero =>
   simp at hu
   subst hu
   rw [List.set_cons_zero]
   simp only [sumI]
   rw [if_neg (by omega), if_neg (by omega)]
   omega
  | succ k =>
   simp at hu
   rw [List.set_cons_succ]
   simp only [sumI]
   rw [ih hu]
   omega
theorem Row9.bd {xs : List Int} {L : List Dm} {h : List Int} (r : Row9 xs L h) : ∀ x ∈ h, x = -1000 ∨ (-80 ≤ x ∧ x ≤ 80) := by
 obtain ⟨f, _, rfl, b⟩ := r.f
 intro x hx
 unfold hgL at hx
 obtain ⟨v, hv, rfl⟩ := List.mem_map.1 hx
 have hv := List.mem_range.1 hv
 cases q : crnB xs v with
 | false => exact .inl rfl
 | true => exact .inr (b v hv q)
theorem Row9.len {xs : List Int} {L : List Dm} {h : List Int} (r : Row9 xs L h) : h.length = 81 := by
 obtain ⟨f, _, rfl, _⟩ := r.f
 exact row_len xs f
end Go.Proofs.YtieophdbhnpncaaGreat.Hgt

namespace Go.Proofs.YtieophdbhnpncaaGreat.Hgt
set_option linter.unusedVariables false
set_option linter.unusedSimpArgs false
open Go.RowKit Go.Joins

def sgnE (s : Int) : Int := if s % 2 = 0 then 1 else -1
def stepE (ax ay bx by' : Int) : Int :=
 if 0 ≤ ax ∧ ax ≤ 8 ∧ 0 ≤ ay ∧ ay ≤ 8 ∧ 0 ≤ bx ∧ bx ≤ 8 ∧ 0 ≤ by' ∧ by' ≤ 8 then
  if bx = ax + 1 ∧ by' = ay then sgnE (ax + (ay - 1))
  else if ax = bx + 1 ∧ by' = ay then sgnE (bx + by')
  else if bx = ax ∧ by' = ay + 1 then sgnE (ax + ay)
  else if bx = ax ∧ ay = by' + 1 then sgnE (ax - 1 + by')
  else 0
 else 0
theorem step_out {ax ay bx by' : Int} (h : ¬ (0 ≤ ax ∧ ax ≤ 8 ∧ 0 ≤ ay ∧ ay ≤ 8 ∧ 0 ≤ bx ∧ bx ≤ 8 ∧ 0 ≤ by' ∧ by' ≤ 8)) : stepE ax ay bx by' = 0 := by unfold stepE; rw [if_neg h]
end Go.Proofs.YtieophdbhnpncaaGreat.Hgt

namespace Go.Proofs.YtieophdbhnpncaaGreat.Hgt
set_option linter.unusedVariables false
set_option linter.unusedSimpArgs false
open Go.RowKit Go.Joins

def loE (a b : Int) : Int := if b < a then b else a
section
variable {w W W' : World} {m n u v : Int}
end
end Go.Proofs.YtieophdbhnpncaaGreat.Hgt

namespace Go.Proofs.YtieophdbhnpncaaGreat.Hgt
set_option linter.unusedVariables false
set_option linter.unusedSimpArgs false
open Go.RowKit Go.Proofs.YtieophdbhnpncaaGreat.Pure Go.Proofs.YtieophdbhnpncaaGreat.Dms Go.Joins

def dX (d : Nat) : Int := if d = 0 then 1 else if d = 2 then -1 else 0
def dY (d : Nat) : Int := if d = 1 then 1 else if d = 3 then -1 else 0
def sdX (ax ay bx by' : Int) : Int := if ay = by' then loE ax bx else loE ax bx - 1
def sdY (ax ay bx by' : Int) : Int := if ay = by' then loE ay by' - 1 else loE ay by'
def sdM (ax ay bx by' : Int) : Dm := (sdX ax ay bx by', sdY ax ay bx by', decide (ay = by'))
theorem way_link {xs : List Int} {L : List Dm} {d v : Nat} (hv : v < 81) (hd : d < 4) {ax ay bx by' : Int} (e1 : ax = ((v % 9 : Nat) : Int)) (e2 : ay = ((v / 9 : Nat) : Int)) (e3 : bx = ax + dX d) (e4 : by' = ay + dY d) :
  (stepE ax ay bx by' = 0 ∧ ∀ w, ¬ Lk xs (xL L) (yL L) d v w) ∨
  (stepE ax ay bx by' = es d v ∧ (0 ≤ bx ∧ bx ≤ 8 ∧ 0 ≤ by' ∧ by' ≤ 8) ∧ ∃ w : Nat, w < 81 ∧ (w : Int) = by' * 9 + bx ∧ (∀ w', Lk xs (xL L) (yL L) d v w' → w' = w) ∧
   (Lk xs (xL L) (yL L) d v w ↔ (hasB xs (sdX ax ay bx by') (sdY ax ay bx by') = true ∨ hasB xs (loE ax bx) (loE ay by') = true) ∧ sdM ax ay bx by' ∉ L)) := by
 have fh : ∀ u : Nat, frH xs (xL L) u = true ↔ (hasB xs ((u % 9 : Nat) : Int) (((u / 9 : Nat) : Int) - 1) = true ∨ hasB xs ((u % 9 : Nat) : Int) ((u / 9 : Nat) : Int) = true) ∧ ((((u % 9 : Nat) : Int), ((u / 9 : Nat) : Int) - 1, true) : Dm) ∉ L := fun u => by
  unfold frH xL gX
  simp only [Bool.and_eq_true, Bool.or_eq_true, Bool.not_eq_true', decide_eq_false_iff_not]
  rw [show ((u % 9 + 1 : Nat) : Int) - 1 = ((u % 9 : Nat) : Int) by omega, show ((u / 9 + 1 : Nat) : Int) - 1 = ((u / 9 : Nat) : Int) by omega, show ((u / 9 + 1 : Nat) : Int) - 2 = ((u / 9 : Nat) : Int) - 1 by omega]
 have fv : ∀ u : Nat, frV xs (yL L) u = true ↔ (hasB xs (((u % 9 : Nat) : Int) - 1) ((u / 9 : Nat) : Int) = true ∨ hasB xs ((u % 9 : Nat) : Int) ((u / 9 : Nat) : Int) = true) ∧ ((((u % 9 : Nat) : Int) - 1, ((u / 9 : Nat) : Int), false) : Dm) ∉ L := fun u => by
  unfold frV yL gX
  simp only [Bool.and_eq_true, Bool.or_eq_true, Bool.not_eq_true', decide_eq_false_iff_not]
  rw [show ((u % 9 + 1 : Nat) : Int) - 1 = ((u % 9 : Nat) : Int) by omega, show ((u / 9 + 1 : Nat) : Int) - 1 = ((u / 9 : Nat) : Int) by omega, show ((u % 9 + 1 : Nat) : Int) - 2 = ((u % 9 : Nat) : Int) - 1 by omega]
 have h4 : d = 0 ∨ d = 1 ∨ d = 2 ∨ d = 3 := by omega
 unfold sdM sdX sdY
 rcases h4 with rfl | rfl | rfl | rfl
 ·have d1 : bx = ax + 1 := e3
  have d2 : by' = ay := by rw [e4]; show ay + 0 = ay; omega
  subst d2
  by_cases q : v % 9 < 8
  ·right
   refine ⟨?_, by omega, v + 1, by omega, by omega, fun w' h => by unfold Lk at h; omega, ?_⟩
   ·unfold stepE es sgnE
    rw [if_pos (by omega), if_pos (by omega)]
    split <;> split <;> omega
   ·unfold Lk
    rw [if_pos rfl, if_pos rfl]
    have l1 : loE ax bx = ax := by unfold loE; rw [if_neg (by omega)]
    have l2 : loE by' by' = by' := by unfold loE; simp
    rw [l1, l2, decide_eq_true (rfl : by' = by'), e1, e2, ← fh v]
    constructor
    ·rintro (⟨_, _, _, h⟩ | h | h | h)
     ·exact h
     all_goals omega
    ·exact fun h => .inl ⟨rfl, q, rfl, h⟩
  ·left
   refine ⟨?_, fun w h => by unfold Lk at h; omega⟩
   unfold stepE
   rw [if_neg (by omega)]
 ·have d1 : bx = ax := by rw [e3]; show ax + 0 = ax; omega
  have d2 : by' = ay + 1 := e4
  subst d1
  by_cases q : v / 9 < 8
  ·right
   refine ⟨?_, by omega, v + 9, by omega, by omega, fun w' h => by unfold Lk at h; omega, ?_⟩
   ·unfold stepE es sgnE
    rw [if_pos (by omega), if_neg (by omega), if_neg (by omega), if_pos (by omega)]
    split <;> split <;> omega
   ·unfold Lk
    rw [if_neg (by omega), if_neg (by omega)]
    have l1 : loE bx bx = bx := by unfold loE; simp
    have l2 : loE ay by' = ay := by unfold loE; rw [if_neg (by omega)]
    rw [l1, l2, decide_eq_false (by omega : ¬ ay = by'), e1, e2, ← fv v]
    constructor
    ·rintro (h | ⟨_, _, _, h⟩ | h | h)
     ·omega
     ·exact h
     all_goals omega
    ·exact fun h => .inr (.inl ⟨rfl, q, rfl, h⟩)
  ·left
   refine ⟨?_, fun w h => by unfold Lk at h; omega⟩
   unfold stepE
   rw [if_neg (by omega)]
 ·have d1 : bx = ax - 1 := by rw [e3]; show ax + -1 = ax - 1; omega
  have d2 : by' = ay := by rw [e4]; show ay + 0 = ay; omega
  subst d2
  by_cases q : 1 ≤ v % 9
  ·right
   refine ⟨?_, by omega, v - 1, by omega, by omega, fun w' h => by unfold Lk at h; omega, ?_⟩
   ·unfold stepE es sgnE
    rw [if_pos (by omega), if_neg (by omega), if_pos (by omega)]
    split <;> split <;> omega
   ·unfold Lk
    rw [if_pos rfl, if_pos rfl]
    have l1 : loE ax bx = (((v - 1) % 9 : Nat) : Int) := by unfold loE; rw [if_pos (by omega)]; omega
    have l2 : loE by' by' = (((v - 1) / 9 : Nat) : Int) := by unfold loE; simp; omega
    rw [l1, l2, decide_eq_true (rfl : by' = by'), ← fh (v - 1)]
    constructor
    ·rintro (h | h | ⟨_, _, _, h⟩ | h)
     ·omega
     ·omega
     ·exact h
     ·omega
    ·exact fun h => .inr (.inr (.inl ⟨rfl, by omega, by omega, h⟩))
  ·left
   refine ⟨?_, fun w h => by unfold Lk at h; omega⟩
   unfold stepE
   rw [if_neg (by omega)]
 ·have d1 : bx = ax := by rw [e3]; show ax + 0 = ax; omega
  have d2 : by' = ay - 1 := by rw [e4]; show ay + -1 = ay - 1; omega
  subst d1
  by_cases q : 1 ≤ v / 9
  ·right
   refine ⟨?_, by omega, v - 9, by omega, by omega, fun w' h => by unfold Lk at h; omega, ?_⟩
   ·unfold stepE es sgnE
    rw [if_pos (by omega), if_neg (by omega), if_neg (by omega), if_neg (by omega), if_pos (by omega)]
    split <;> split <;> omega
   ·unfold Lk
    rw [if_neg (by omega), if_neg (by omega)]
    have l1 : loE bx bx = (((v - 9) % 9 : Nat) : Int) := by unfold loE; simp; omega
    have l2 : loE ay by' = (((v - 9) / 9 : Nat) : Int) := by unfold loE; rw [if_pos (by omega)]; omega
    rw [l1, l2, decide_eq_false (by omega : ¬ ay = by'), ← fv (v - 9)]
    constructor
    ·rintro (h | h | h | ⟨_, _, h⟩)
     ·omega
     ·omega
     ·omega
     ·exact h
    ·exact fun h => .inr (.inr (.inr ⟨rfl, by omega, h⟩))
  ·left
   refine ⟨?_, fun w h => by unfold Lk at h; omega⟩
   unfold stepE
   rw [if_neg (by omega)]
end Go.Proofs.YtieophdbhnpncaaGreat.Hgt

namespace Go.Proofs.YtieophdbhnpncaaGreat.Reg
set_option linter.unusedVariables false
open Go.RowKit Go.Proofs.YtieophdbhnpncaaGreat.Base Go.Joins

def ints (xs : List Int) : List Value := xs.map (Value.int .i64)
theorem ints_length (xs : List Int) : (ints xs).length = xs.length := by unfold ints; simp
theorem ints_at {xs : List Int} {j : Nat} {x : Int} (h : xs[j]? = some x) : (ints xs)[j]? = some (.int .i64 x) := by unfold ints; simp [h]
theorem ints_snoc (xs : List Int) (x : Int) : ints (xs ++ [x]) = ints xs ++ [.int .i64 x] := by unfold ints; simp
theorem ints_set (xs : List Int) (j : Nat) (x : Int) : (ints xs).set j (.int .i64 x) = ints (xs.set j x) := by unfold ints; rw [List.map_set]
def RowB (w : World) (B : Nat) (A : Option Addr) (xs : List Int) : Prop :=
 ∃ b off : Nat, (0 < xs.length → A = some ⟨b, off, none⟩ ∧ b < B) ∧ ∀ j x, xs[j]? = some x → w.cell? ⟨b, off + j, none⟩ = some (.int .i64 x)
theorem RowB.mono {w : World} {B B' : Nat} {A : Option Addr} {xs : List Int} (h : RowB w B A xs) (hB : B ≤ B') : RowB w B' A xs := by
 obtain ⟨b, off, h1, h2⟩ := h
 exact ⟨b, off, fun k => ⟨(h1 k).1, by have := (h1 k).2; omega⟩, h2⟩
theorem RowB.below {w w' : World} {B B' : Nat} {A : Option Addr} {xs : List Int} (h : RowB w B A xs) (hb : Below B' w w') (hB : B ≤ B') : RowB w' B A xs := by
 obtain ⟨b, off, h1, h2⟩ := h
 refine ⟨b, off, h1, fun j x hx => ?_⟩
 have hl : 0 < xs.length := by
  rcases Nat.eq_zero_or_pos xs.length with h0 | h0
  ·rw [List.eq_nil_of_length_eq_zero h0] at hx; simp at hx
  ·exact h0
 rw [hb.cell (p := ⟨b, off + j, none⟩) (by show b < B'; have := (h1 hl).2; omega)]
 exact h2 j x hx
theorem RowB.drew {w : World} {B : Nat} {A : Option Addr} {xs : List Int} (h : RowB w B A xs) : RowB w.drew B A xs := h
theorem rowB_own {w : World} {base e n cap : Nat} {A : Option Addr} {xs : List Int} (h : w.ownsRow base e 1 (.slice A n cap) n (ints xs)) : RowB w w.heap.size A xs := by
 have hn : xs.length = n := by have := h.1; rw [ints_length] at this; omega
 by_cases h0 : xs.length = 0
 ·have : xs = [] := List.eq_nil_of_length_eq_zero h0
  subst this
  exact ⟨0, 0, fun h => by simp at h, fun j u hu => by simp at hu⟩
 ·obtain ⟨g, c, hv, _, hlt⟩ := h.form (by omega)
  injection hv with hA
  subst hA
  refine ⟨g, 0, fun _ => ⟨rfl, hlt⟩, fun j x hx => ?_⟩
  have := h.cells (g := g) rfl j _ (ints_at hx)
  rw [add_plain] at this
  simpa using this
theorem own_below {w w' : World} {base e size n : Nat} {v : Value} {xs : List Value} {B : Nat} (h : w.ownsRow base e size v n xs) (hb : Below B w w') (hB : w.heap.size ≤ B) : w'.ownsRow base e size v n xs :=
 h.kept (row := none) ⟨hb.os, hb.tape, hb.output, hb.size, fun i hi _ => hb.block i (by omega)⟩ (by cases v <;> simp [Value.ownBlock] <;> (try (split <;> simp)))
theorem own_base {w : World} {B B' e size n : Nat} {v : Value} {xs : List Value} (h : w.ownsRow B e size v n xs) (hB : B' ≤ B) : w.ownsRow B' e size v n xs := by
 refine ⟨h.1, ?_⟩
 rcases h.2 with h | ⟨g, cap, cur, a, b, c⟩
 ·exact .inl h
 ·exact .inr ⟨g, cap, cur, a, by omega, c⟩
theorem drewN_below {B : Nat} {a w : World} (h : Below B a w) (n : Nat) : Below B a (w.drewN n) := ⟨h.os, h.tape, h.output, h.size, h.block⟩

structure Apart (lo hi : Nat) (w w' : World) : Prop where
 os : w'.os = w.os
 tape : w'.tape = w.tape
 output : w'.output = w.output
 size : w.heap.size ≤ w'.heap.size
 block : ∀ k, k < w.heap.size → k < lo ∨ hi ≤ k → w'.heap[k]? = w.heap[k]?
theorem Apart.refl (lo hi : Nat) (w : World) : Apart lo hi w w := ⟨rfl, rfl, rfl, Nat.le_refl _, fun _ _ _ => rfl⟩
theorem Apart.trans {lo hi : Nat} {a b c : World} (h : Apart lo hi a b) (k : Apart lo hi b c) : Apart lo hi a c :=
 ⟨k.os.trans h.os, k.tape.trans h.tape, k.output.trans h.output, Nat.le_trans h.size k.size, fun j hj hr => (k.block j (Nat.lt_of_lt_of_le hj h.size) hr).trans (h.block j hj hr)⟩
theorem apart_of_below {w w' : World} (h : Below w.heap.size w w') (lo hi : Nat) : Apart lo hi w w' := ⟨h.os, h.tape, h.output, h.size, fun k hk _ => h.block k hk⟩
theorem Apart.below {lo hi : Nat} {w w' : World} (h : Apart lo hi w w') {B : Nat} (hB : B ≤ lo) (hw : B ≤ w.heap.size) : Below B w w' := ⟨h.os, h.tape, h.output, h.size, fun k hk => h.block k (by omega) (.inl (by omega))⟩
theorem Apart.setCell {lo hi : Nat} {a w : World} (h : Apart lo hi a w) {p : Addr} (h0 : lo ≤ p.block) (h1 : p.block < hi) (u : Value) : Apart lo hi a (w.setCell p u) :=
 ⟨h.os, h.tape, h.output, by have := h.size; simpa [World.setCell] using this, fun k hk hr => (Below.heap_setCell w p u k (by omega)).trans (h.block k hk hr)⟩
theorem Apart.cell {lo hi : Nat} {w w' : World} (h : Apart lo hi w w') {p : Addr} (hp : p.block < w.heap.size) (hr : p.block < lo ∨ hi ≤ p.block) : w'.cell? p = w.cell? p := World.cell?_of_block (w := w) (h.block p.block hp hr)
def RowIn (W : World) (lo hi e size : Nat) (v : Value) (n : Nat) (xs : List Value) : Prop := W.ownsRow lo e size v n xs ∧ ∀ g, v.ownBlock = some g → g < hi
theorem RowIn.on {W W' : World} {lo hi e size n : Nat} {v : Value} {xs : List Value} (h : RowIn W lo hi e size v n xs) (hb : Below W.heap.size W W') : RowIn W' lo hi e size v n xs := ⟨own_below h.1 hb (Nat.le_refl _), h.2⟩
theorem RowIn.drew {W : World} {lo hi e size n : Nat} {v : Value} {xs : List Value} (h : RowIn W lo hi e size v n xs) : RowIn W.drew lo hi e size v n xs := h
theorem RowIn.apart {W W' : World} {lo hi lo' hi' e size n : Nat} {v : Value} {xs : List Value} (h : RowIn W lo hi e size v n xs) (hb : Apart lo' hi' W W') (hd : hi ≤ lo' ∨ hi' ≤ lo) : RowIn W' lo hi e size v n xs := by
 refine ⟨⟨h.1.1, ?_⟩, h.2⟩
 rcases h.1.2 with hn | ⟨g, cap, cur, rfl, hg, hgg, rest⟩
 ·exact .inl hn
 ·refine .inr ⟨g, cap, cur, rfl, hg, ?_, rest⟩
  have h2 := h.2 g rfl
  rw [hb.block g (Array.getElem?_eq_some_iff.1 hgg).1 (by omega)]
  exact hgg
theorem rowIn_new {W : World} {lo e size n : Nat} {v : Value} {xs : List Value} (h : W.ownsRow lo e size v n xs) : RowIn W lo W.heap.size e size v n xs := ⟨h, fun g hg => (h.lt g hg).2⟩
theorem intInfo : (Tryz.prog.info? 3).map (fun i => (i.zero, i.size, i.bytes)) = some (some (.int .i64 0), 1, 8) := by kernel_rfl

theorem cellAt {w : World} {g : Nat} {cs : Array Value} {t : TypeId} (h : w.heap[g]? = some (.cells cs t (0, 0))) (k : Nat) : w.cell? ⟨g, k, none⟩ = cs[k]? ∧ w.frozen? ⟨g, k, none⟩ = false :=
 ⟨cell_of_row _ _ k _ _ _ h, by simp [World.frozen?, h]⟩

def RegPost (xs : List Int) (n : Nat) (w : World) (e : Ending) (w' : World) : Prop :=
 ∃ A cap, e = .returned (.agg #[.slice A n cap]) ∧ w'.ownsRow w.heap.size 3 1 (.slice A n cap) n (ints xs) ∧ Below w.heap.size w w'

end Go.Proofs.YtieophdbhnpncaaGreat.Reg
