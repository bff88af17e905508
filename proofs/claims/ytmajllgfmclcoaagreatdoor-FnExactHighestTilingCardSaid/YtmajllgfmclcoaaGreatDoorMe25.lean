/- TfP, JnB, JnD, SetP, TilM, TilN in one text. -/
import Derived.Test.YtmajllgfmclcoaaGreatDoorMe24
import Derived.Test.YtmajllgfmclcoaaGreatDoorMe21
import Derived.Test.YtmajllgfmclcoaaGreatDoorMe09
import Derived.Laws.BitsAllLaws
import Derived.Lib.TrailingZeros
import Derived.Test.YtmajllgfmclcoaaGreatDoorMe02
import Derived.Test.YtmajllgfmclcoaaGreatDoorMe11
import Derived.Test.YtmajllgfmclcoaaGreatDoorMe10
import Derived.OpenShut
import Derived.ChangeSlices
import Derived.ProofKit
import Derived.Test.YtmajllgfmclcoaaGreatDoorMe03
import Derived.Laws.OwnMore
import Derived.Deep.RegionHeld3

namespace Go.Proofs.YtmajllgfmclcoaaGreatDoor.Hgt
set_option linter.unusedVariables false
set_option linter.unusedSimpArgs false
open Go.RowKit Go.Proofs.YtmajllgfmclcoaaGreatDoor.Pure Go.Proofs.YtmajllgfmclcoaaGreatDoor.Dom Go.Proofs.YtmajllgfmclcoaaGreatDoor.Dms Go.Proofs.YtmajllgfmclcoaaGreatDoor.Til Go.Proofs.YtmajllgfmclcoaaGreatDoor.Flp Go.Joins
open Go.Proofs.YtmajllgfmclcoaaGreatDoor.Flo (simB)

def tellG (xs hs : List Int) (e : Dm) : Prop := hasB xs e.1 e.2.1 = true ∧ hasB xs (sx e.1 e.2.2) (sy e.2.1 e.2.2) = true ∧ gap hs e
theorem row_gap {xs : List Int} {M : List Dm} {hs : List Int} (r : Row9 xs M hs) (e : Dm) (ho : okM e = true) : e ∈ M ↔ tellG xs hs e := by
 have hp := til_part r.til
 unfold tellG
 have main : hasB xs e.1 e.2.1 = true → hasB xs (sx e.1 e.2.2) (sy e.2.1 e.2.2) = true → (gap hs e ↔ e ∈ M) := fun h1 h2 => by
  obtain ⟨x, y, b⟩ := e
  cases b with
  | true =>
   have o := ok_dn ho
   have e2 : sy y true = y + 1 := by unfold sy; rw [if_pos rfl]; exact wrap_in (by omega) (by omega)
   have e1 : sx x true = x := by unfold sx; rw [if_pos rfl]
   simp only at h1 h2
   rw [e1, e2] at h2
   obtain ⟨u, v, a1, a2, b1, b2, key⟩ := gap_dn r h1 h2
   rw [← key]
   unfold gap gapA gapB
   simp only [if_pos]
   constructor
   ·rintro ⟨u', v', c1, c2, c3⟩
    rw [a1] at c1
    rw [a2] at c2
    injection c1 with c1
    injection c2 with c2
    subst c1
    subst c2
    rwa [wrap_small (by omega), wrap_small (by omega)] at c3
   ·intro h
    refine ⟨u, v, a1, a2, ?_⟩
    rwa [wrap_small (by omega), wrap_small (by omega)]
  | false =>
   have o := ok_rt ho
   have e1 : sx x false = x + 1 := by unfold sx; rw [if_neg (by simp)]; exact wrap_in (by omega) (by omega)
   have e2 : sy y false = y := by unfold sy; rw [if_neg (by simp)]
   simp only at h1 h2
   rw [e1, e2] at h2
   obtain ⟨u, v, a1, a2, b1, b2, key⟩ := gap_rt r h1 h2
   rw [← key]
   unfold gap gapA gapB
   simp only [Bool.false_eq_true, if_false]
   rw [show 9 * (y.toNat + 1) + (x + 1).toNat = 9 * (y + 1).toNat + (x + 1).toNat by omega]
   constructor
   ·rintro ⟨u', v', c1, c2, c3⟩
    rw [a1] at c1
    rw [a2] at c2
    injection c1 with c1
    injection c2 with c2
    subst c1
    subst c2
    rwa [wrap_small (by omega), wrap_small (by omega)] at c3
   ·intro h
    refine ⟨u, v, a1, a2, ?_⟩
    rwa [wrap_small (by omega), wrap_small (by omega)]
 constructor
 ·intro hm
  have h1 : hasB xs e.1 e.2.1 = true := part_in hp hm (cov_of ho (.inl ⟨rfl, rfl⟩))
  have h2 : hasB xs (sx e.1 e.2.2) (sy e.2.1 e.2.2) = true := part_in hp hm (cov_of ho (.inr ⟨rfl, rfl⟩))
  exact ⟨h1, h2, (main h1 h2).2 hm⟩
 ·rintro ⟨h1, h2, h3⟩
  exact (main h1 h2).1 h3
def tfR (xs hs : List Int) (M : List Dm) (ok : Bool) : Prop :=
 (ok = true ∧ simB xs = true ∧ Row9 xs M hs) ∨ (ok = false ∧ M = [] ∧ ¬ (simB xs = true ∧ ∃ M', Row9 xs M' hs))
theorem tfR_uniq {xs hs : List Int} {M M' : List Dm} {ok ok' : Bool} (h : tfR xs hs M ok) (h' : tfR xs hs M' ok') : M = M' ∧ ok = ok' := by
 rcases h with ⟨rfl, a, b⟩ | ⟨rfl, rfl, c⟩ <;> rcases h' with ⟨rfl, a', b'⟩ | ⟨rfl, rfl, c'⟩
 ·refine ⟨?_, rfl⟩
  have e1 := tf_of b (C := M) (fun e ho => row_gap b e ho)
  have e2 := tf_of b' (C := M) (fun e ho => row_gap b e ho)
  rw [← e1]; exact e2
 ·exact absurd ⟨a, M, b⟩ c'
 ·exact absurd ⟨a', M', b'⟩ c
 ·exact ⟨rfl, rfl⟩
end Go.Proofs.YtmajllgfmclcoaaGreatDoor.Hgt

namespace Go.Proofs.YtmajllgfmclcoaaGreatDoor.Hgt
set_option linter.unusedVariables false
set_option linter.unusedSimpArgs false
open Go.RowKit Go.Proofs.YtmajllgfmclcoaaGreatDoor.Dms Go.Proofs.YtmajllgfmclcoaaGreatDoor.Til Go.Joins
open Go.Proofs.YtmajllgfmclcoaaGreatDoor.Flo (simB)

theorem dif_lc {xs : List Int} {L M : List Dm} (hsim : simB xs = true) (hL : tilB xs L = true) (hM : tilB xs M = true) : difL L M (lc xs % 9 + 1) (lc xs / 9 + 1) = 0 := by
 obtain ⟨ok, h1, hone⟩ := sim_parts hsim
 obtain ⟨x, y, hc⟩ := cell_ex ok h1
 obtain ⟨l1, l2, l3⟩ := lc_ex hc
 refine Classical.byContradiction fun hne => ?_
 obtain ⟨a, b, e1, e2, ha, hb, g, _, _, _⟩ := inner (tl_of hL) (tl_of hM) hone (by omega) (by omega) hne
 have gl := gX_lt g
 have hv : 9 * (b - 1) + (a - 1) < lc xs := by omega
 have hcr : crnB xs (9 * (b - 1) + (a - 1)) = true := crn_iff.2 ⟨_, _, g, .inl (by omega), .inl (by omega)⟩
 rw [l3 _ hv] at hcr
 cases hcr
theorem hv_dif {xs : List Int} {L M : List Dm} {f g : Fm} (hsim : simB xs = true) (hL : tilB xs L = true) (hM : tilB xs M = true) (hf : Hts (gX xs) (xL L) (yL L) f) (hg : Hts (gX xs) (xL M) (yL M) g) :
  ∀ v, v < 81 → crnB xs v = true → hv xs f v - hv xs g v = 4 * difL L M (v % 9 + 1) (v / 9 + 1) := by
 obtain ⟨ok, h1, hone⟩ := sim_parts hsim
 obtain ⟨x, y, hc⟩ := cell_ex ok h1
 obtain ⟨l1, l2, l3⟩ := lc_ex hc
 have tL := tl_of hL
 have tM := tl_of hM
 have z := dif_lc hsim hL hM
 intro v hv81 hcv
 have key := all_cor ok h1 tL (Z := fun i j => f i j - g i j - 4 * difL L M i j = f (lc xs % 9 + 1) (lc xs / 9 + 1) - g (lc xs % 9 + 1) (lc xs / 9 + 1)) (fun i j hG hX => by
  have hij : i < 10 ∧ j < 10 := by rcases hG with q | q <;> (have := gX_lt q; omega)
  have e1 := hf.hor i j hij.1 hij.2 hG
  have e2 := hg.hor i j hij.1 hij.2 hG
  have e3 : difL L M (i + 1) (j + 1) = _ := dif_H tL tM (i := i) (j := j + 1) hij.1 (by omega)
  have e4 : difL L M i (j + 1) = dif (xL L) (yL L) (xL M) (yL M) i (j + 1) := rfl
  rw [← e4] at e3
  unfold wH at e1 e2
  rcases sg_one i (j + 1) with s | s <;> rw [s] at e1 e2 e3 <;> omega) (fun i j hG hY => by
  have hij : i < 10 ∧ j < 10 := by rcases hG with q | q <;> (have := gX_lt q; omega)
  have e1 := hf.ver i j hij.1 hij.2 hG
  have e2 := hg.ver i j hij.1 hij.2 hG
  have e3 : difL L M (i + 1) (j + 1) = _ := dif_V (xL L) (yL L) (xL M) (yL M) (i + 1) j
  have e4 : difL L M (i + 1) j = dif (xL L) (yL L) (xL M) (yL M) (i + 1) j := rfl
  rw [← e4] at e3
  unfold wV at e1 e2
  rcases sg_one (i + 1) j with s | s <;> rw [s] at e1 e2 e3 <;> omega) (crn_iff.1 l2) (by rw [z]; omega) _ _ (crn_iff.1 hcv)
 unfold Hgt.hv at9
 omega
theorem zw_map {α : Type} (m : Int → Int → Int) (a b : α → Int) : ∀ l : List α, List.zipWith m (l.map a) (l.map b) = l.map fun v => m (a v) (b v)
 | [] => rfl
 | x :: r => by simp only [List.map_cons, List.zipWith_cons_cons, zw_map m a b r]
def minR (hs gs : List Int) : List Int := List.zipWith min hs gs
def maxR (hs gs : List Int) : List Int := List.zipWith max hs gs
theorem join_row (m : Int → Int → Int) {t : Int} (ht : t = 1 ∨ t = -1) (hm : ∀ a b, m a b = b + (if 0 < t * (a - b) then 0 else a - b)) {xs : List Int} {L M : List Dm} {hs gs : List Int} (hsim : simB xs = true) (r : Row9 xs L hs) (q : Row9 xs M gs) :
  ∃ N, Row9 xs N (List.zipWith m hs gs) := by
 obtain ⟨ok, h1, hone⟩ := sim_parts hsim
 obtain ⟨f, hf, rfl, bf⟩ := r.f
 obtain ⟨g, hg, rfl, bg⟩ := q.f
 obtain ⟨N, hN, hd⟩ := join_ex hone q.til ht _ L r.til rfl
 obtain ⟨k, hk⟩ := hts_ex hsim hN
 have e1 := hv_dif hsim r.til q.til hf hg
 have e2 := hv_dif hsim hN q.til hk hg
 have e3 : ∀ v, v < 81 → crnB xs v = true → hv xs k v = m (hv xs f v) (hv xs g v) := fun v h hc => by
  have a1 := e1 v h hc
  have a2 := e2 v h hc
  rw [hd _ _ (by omega) (by omega)] at a2
  rw [hm, a1]
  rcases ht with rfl | rfl
  ·by_cases z : 0 < 1 * difL L M (v % 9 + 1) (v / 9 + 1)
   ·rw [if_pos z] at a2; rw [if_pos (by omega)]; omega
   ·rw [if_neg z] at a2; rw [if_neg (by omega)]; omega
  ·by_cases z : 0 < -1 * difL L M (v % 9 + 1) (v / 9 + 1)
   ·rw [if_pos z] at a2; rw [if_pos (by omega)]; omega
   ·rw [if_neg z] at a2; rw [if_neg (by omega)]; omega
 refine ⟨N, r.ok, r.one, hN, r.lcl, r.lcc, k, hk, ?_, fun v h hc => ?_⟩
 ·unfold hgL
  rw [zw_map]
  refine List.map_congr_left fun v hv' => ?_
  have hv' := List.mem_range.1 hv'
  by_cases c : crnB xs v = true
  ·rw [if_pos c, if_pos c, if_pos c, e3 v hv' c]
  ·rw [if_neg c, if_neg c, if_neg c, hm]
   rcases ht with rfl | rfl <;> rw [if_neg (by omega)] <;> omega
 ·rw [e3 v h hc, hm]
  have b1 := bf v h hc
  have b2 := bg v h hc
  rcases ht with rfl | rfl <;> split <;> omega
theorem lower_row {xs : List Int} {L M : List Dm} {hs gs : List Int} (hsim : simB xs = true) (r : Row9 xs L hs) (q : Row9 xs M gs) : ∃ N, Row9 xs N (minR hs gs) :=
 join_row min (t := 1) (.inl rfl) (fun a b => by split <;> omega) hsim r q
theorem higher_row {xs : List Int} {L M : List Dm} {hs gs : List Int} (hsim : simB xs = true) (r : Row9 xs L hs) (q : Row9 xs M gs) : ∃ N, Row9 xs N (maxR hs gs) :=
 join_row max (t := -1) (.inr rfl) (fun a b => by split <;> omega) hsim r q
def ht (hs : List Int) (k : Nat) : Int := hs[k]?.getD 0
def leH (hs gs : List Int) : Prop := ∀ k, k < 81 → ht hs k ≤ ht gs k
theorem ht_zw (m : Int → Int → Int) {hs gs : List Int} (h1 : hs.length = 81) (h2 : gs.length = 81) {k : Nat} (hk : k < 81) : ht (List.zipWith m hs gs) k = m (ht hs k) (ht gs k) := by
 unfold ht
 rw [List.getElem?_eq_getElem (by simp; omega), List.getElem?_eq_getElem (by omega), List.getElem?_eq_getElem (by omega)]
 simp
theorem ht_ext {hs gs : List Int} (h1 : hs.length = 81) (h2 : gs.length = 81) (h : ∀ k, k < 81 → ht hs k = ht gs k) : hs = gs :=
 List.ext_getElem (by omega) fun i p q => by
  have e := h i (by omega)
  unfold ht at e
  rw [List.getElem?_eq_getElem p, List.getElem?_eq_getElem q] at e
  exact e
theorem min_le {hs gs : List Int} (h1 : hs.length = 81) (h2 : gs.length = 81) : leH (minR hs gs) hs ∧ leH (minR hs gs) gs := by
 refine ⟨fun k hk => ?_, fun k hk => ?_⟩ <;> (unfold minR; rw [ht_zw min h1 h2 hk]; omega)
theorem max_le {hs gs : List Int} (h1 : hs.length = 81) (h2 : gs.length = 81) : leH hs (maxR hs gs) ∧ leH gs (maxR hs gs) := by
 refine ⟨fun k hk => ?_, fun k hk => ?_⟩ <;> (unfold maxR; rw [ht_zw max h1 h2 hk]; omega)
theorem row_til {xs hs : List Int} {L M : List Dm} (hsim : simB xs = true) (r : Row9 xs L hs) (q : Row9 xs M hs) : L = M :=
 (tfR_uniq (.inl ⟨rfl, hsim, r⟩) (.inl ⟨rfl, hsim, q⟩)).1
theorem sumI_le {α : Type} (c : α → Bool) (F G : α → Int) : ∀ l : List α, (∀ v ∈ l, c v = true → F v ≤ G v ∧ -80 ≤ F v ∧ G v ≤ 80) →
  sumI (l.map fun v => if c v then F v else -1000) ≤ sumI (l.map fun v => if c v then G v else -1000) ∧ (sumI (l.map fun v => if c v then F v else -1000) = sumI (l.map fun v => if c v then G v else -1000) → ∀ v ∈ l, c v = true → F v = G v)
 | [], _ => ⟨Int.le_refl _, fun _ v hv => by cases hv⟩
 | x :: r, h => by
  obtain ⟨i1, i2⟩ := sumI_le c F G r (fun v hv => h v (List.mem_cons_of_mem _ hv))
  have hx := h x List.mem_cons_self
  simp only [List.map_cons, sumI]
  cases q : c x with
  | false =>
   simp only [q, if_false, Bool.false_eq_true, if_true]
   refine ⟨by omega, fun e v hv hc => ?_⟩
   rcases List.mem_cons.1 hv with rfl | hv
   ·rw [q] at hc; cases hc
   ·exact i2 (by omega) v hv hc
  | true =>
   obtain ⟨a, b, d⟩ := hx q
   simp only [q, if_true]
   rw [if_neg (by omega), if_neg (by omega)]
   refine ⟨by omega, fun e v hv hc => ?_⟩
   rcases List.mem_cons.1 hv with rfl | hv
   ·omega
   ·exact i2 (by omega) v hv hc
theorem sum_le {xs : List Int} {L M : List Dm} {hs gs : List Int} (r : Row9 xs L hs) (q : Row9 xs M gs) (h : leH hs gs) : sumH hs 81 ≤ sumH gs 81 ∧ (sumH hs 81 = sumH gs 81 → hs = gs) := by
 have l1 := r.len
 have l2 := q.len
 have e1 := sumH_I (hs := hs) (by omega) r.bd 81 (by omega)
 have e2 := sumH_I (hs := gs) (by omega) q.bd 81 (by omega)
 rw [List.take_of_length_le (by omega)] at e1 e2
 rw [e1, e2]
 obtain ⟨f, hf, rfl, bf⟩ := r.f
 obtain ⟨g, hg, rfl, bg⟩ := q.f
 have k := sumI_le (crnB xs) (hv xs f) (hv xs g) (List.range 81) (fun v hv' hc => by
  have hv' := List.mem_range.1 hv'
  have a := h v hv'
  unfold ht at a
  rw [row_at xs f hv', row_at xs g hv', if_pos hc, if_pos hc] at a
  exact ⟨a, (bf v hv' hc).1, (bg v hv' hc).2⟩)
 refine ⟨k.1, fun e => ?_⟩
 have k2 := k.2 e
 unfold hgL
 refine List.map_congr_left fun v hv' => ?_
 by_cases c : crnB xs v = true
 ·rw [if_pos c, if_pos c, k2 v hv' c]
 ·rw [if_neg c, if_neg c]
theorem least_below {xs : List Int} {L M : List Dm} {hs gs : List Int} (hsim : simB xs = true) (r : Row9 xs L hs) (q : Row9 xs M gs) (h : ∀ N ks, Row9 xs N ks → sumH hs 81 ≤ sumH ks 81) : leH hs gs := by
 obtain ⟨N, n⟩ := lower_row hsim r q
 obtain ⟨m1, m2⟩ := min_le r.len q.len
 obtain ⟨s1, s2⟩ := sum_le n r m1
 have := h N _ n
 rw [← s2 (by omega)]
 exact m2
theorem greatest_above {xs : List Int} {L M : List Dm} {hs gs : List Int} (hsim : simB xs = true) (r : Row9 xs L hs) (q : Row9 xs M gs) (h : ∀ N ks, Row9 xs N ks → sumH ks 81 ≤ sumH hs 81) : leH gs hs := by
 obtain ⟨N, n⟩ := higher_row hsim r q
 obtain ⟨m1, m2⟩ := max_le r.len q.len
 obtain ⟨s1, s2⟩ := sum_le r n m1
 have := h N _ n
 rw [s2 (by omega)]
 exact m2
end Go.Proofs.YtmajllgfmclcoaaGreatDoor.Hgt

namespace Go.Proofs.YtmajllgfmclcoaaGreatDoor.Hgt
set_option linter.unusedVariables false
set_option linter.unusedSimpArgs false
open Go.RowKit Go.Proofs.YtmajllgfmclcoaaGreatDoor.Dms Go.Proofs.YtmajllgfmclcoaaGreatDoor.Til Go.Joins
open Go.Proofs.YtmajllgfmclcoaaGreatDoor.Flo (simB)

def endR (t : Int) (xs : List Int) (T : List (List Dm)) (N : List Dm) (ok : Bool) : Prop :=
 (ok = true ∧ simB xs = true ∧ N ∈ T ∧ ∃ h, Row9 xs N h ∧ ∀ N' ∈ T, ∀ h', Row9 xs N' h' → t * sumH h 81 ≤ t * sumH h' 81) ∨ (ok = false ∧ N = [] ∧ ¬ (simB xs = true ∧ T ≠ []))
theorem end_low {xs : List Int} {T : List (List Dm)} (hT : ∀ N, tilB xs N = true → N ∈ T) (hsim : simB xs = true) {N : List Dm} {h : List Int} (r : Row9 xs N h) (hl : ∀ N' ∈ T, ∀ h', Row9 xs N' h' → 1 * sumH h 81 ≤ 1 * sumH h' 81) {M : List Dm} {gs : List Int} (q : Row9 xs M gs) : leH h gs :=
 least_below hsim r q fun N' ks n => by
  have := hl N' (hT _ n.til) ks n
  omega
theorem end_high {xs : List Int} {T : List (List Dm)} (hT : ∀ N, tilB xs N = true → N ∈ T) (hsim : simB xs = true) {N : List Dm} {h : List Int} (r : Row9 xs N h) (hl : ∀ N' ∈ T, ∀ h', Row9 xs N' h' → -1 * sumH h 81 ≤ -1 * sumH h' 81) {M : List Dm} {gs : List Int} (q : Row9 xs M gs) : leH gs h :=
 greatest_above hsim r q fun N' ks n => by
  have := hl N' (hT _ n.til) ks n
  omega
theorem leH_anti {hs gs : List Int} (h1 : hs.length = 81) (h2 : gs.length = 81) (a : leH hs gs) (b : leH gs hs) : hs = gs :=
 ht_ext h1 h2 fun k hk => by have := a k hk; have := b k hk; omega
theorem endR_uniq {t : Int} (ht : t = 1 ∨ t = -1) {xs : List Int} {T : List (List Dm)} (hT : T ≠ [] → ∀ N, tilB xs N = true → N ∈ T) {N N' : List Dm} {ok ok' : Bool} (a : endR t xs T N ok) (b : endR t xs T N' ok') : N = N' ∧ ok = ok' := by
 rcases a with ⟨rfl, hs, hm, h, r, hl⟩ | ⟨rfl, rfl, hn⟩ <;> rcases b with ⟨rfl, hs', hm', h', r', hl'⟩ | ⟨rfl, rfl, hn'⟩
 ·have hne : T ≠ [] := fun e => by rw [e] at hm; cases hm
  have hA := hT hne
  have e : h = h' := by
   rcases ht with rfl | rfl
   ·exact leH_anti r.len r'.len (end_low hA hs r hl r') (end_low hA hs r' hl' r)
   ·exact leH_anti r.len r'.len (end_high hA hs r' hl' r) (end_high hA hs r hl r')
  subst e
  exact ⟨row_til hs r r', rfl⟩
 ·exact absurd ⟨hs, fun e => by rw [e] at hm; cases hm⟩ hn'
 ·exact absurd ⟨hs', fun e => by rw [e] at hm'; cases hm'⟩ hn
 ·exact ⟨rfl, rfl⟩
def bestR (t : Int) (xs : List Int) (T : List (List Dm)) (k : Nat) (N : List Dm) (s : Int) : Prop :=
 N ∈ T ∧ ∃ h, Row9 xs N h ∧ s = sumH h 81 ∧ ∀ i (hi : i < T.length), i < k → ∀ h', Row9 xs T[i] h' → t * s ≤ t * sumH h' 81
theorem best_take {t : Int} {xs : List Int} {T : List (List Dm)} {k : Nat} (hk : k < T.length) {h : List Int} (r : Row9 xs T[k] h) (hb : k = 0 ∨ ∃ N s, bestR t xs T k N s ∧ t * sumH h 81 ≤ t * s) : bestR t xs T (k + 1) T[k] (sumH h 81) := by
 refine ⟨List.getElem_mem hk, h, r, rfl, fun i hi hik h' r' => ?_⟩
 by_cases e : i = k
 ·subst e
  rw [row_uniq r r']; exact Int.le_refl _
 ·rcases hb with rfl | ⟨N, s, ⟨_, _, _, _, q⟩, le⟩
  ·omega
  ·exact Int.le_trans le (q i hi (by omega) h' r')
theorem best_keep {t : Int} {xs : List Int} {T : List (List Dm)} {k : Nat} (hk : k < T.length) {h : List Int} (r : Row9 xs T[k] h) {N : List Dm} {s : Int} (b : bestR t xs T k N s) (le : t * s ≤ t * sumH h 81) : bestR t xs T (k + 1) N s := by
 obtain ⟨m, g, r0, e, q⟩ := b
 refine ⟨m, g, r0, e, fun i hi hik h' r' => ?_⟩
 by_cases e : i = k
 ·subst e
  rw [row_uniq r' r]; exact le
 ·exact q i hi (by omega) h' r'
theorem best_end {t : Int} {xs : List Int} {T : List (List Dm)} (hsim : simB xs = true) {N : List Dm} {s : Int} (b : bestR t xs T T.length N s) : endR t xs T N true := by
 obtain ⟨m, g, r0, rfl, q⟩ := b
 refine .inl ⟨rfl, hsim, m, g, r0, fun N' hN' h' r' => ?_⟩
 obtain ⟨i, hi, rfl⟩ := List.getElem_of_mem hN'
 exact q i hi hi h' r'
end Go.Proofs.YtmajllgfmclcoaaGreatDoor.Hgt

namespace Go.Proofs.YtmajllgfmclcoaaGreatDoor.Sets
set_option linter.unusedVariables false
set_option linter.unusedSimpArgs false
def bt (x : Nat) : Nat → Bool := fun i => x.testBit i
theorem top_is : 18446744073709551616 = 2 ^ 64 := by decide
theorem bt_out {x : Nat} (h : x < 18446744073709551616) : ∀ i, 64 ≤ i → bt x i = false := fun i hi => by
 refine Nat.testBit_lt_two_pow (Nat.lt_of_lt_of_le h ?_)
 rw [top_is]; exact Nat.pow_le_pow_right (by decide) hi
theorem bt_zero (i : Nat) : bt 0 i = false := by unfold bt; exact Nat.zero_testBit i
theorem bt_ext {x y : Nat} (h : bt x = bt y) : x = y := Nat.eq_of_testBit_eq (fun i => congrFun h i)
theorem one_lt {k : Nat} (h : k < 64) : 2 ^ k < 18446744073709551616 := by rw [top_is]; exact Nat.pow_lt_pow_right (by decide) h
theorem or_lt {x y : Nat} (hx : x < 18446744073709551616) (hy : y < 18446744073709551616) : x ||| y < 18446744073709551616 := by rw [top_is] at *; exact Nat.or_lt_two_pow hx hy
theorem bt_or (x y i : Nat) : bt (x ||| y) i = (bt x i || bt y i) := Nat.testBit_or x y i
theorem bt_one (k i : Nat) : bt (2 ^ k) i = decide (k = i) := Nat.testBit_two_pow
theorem bt_and (x y i : Nat) : bt (x &&& y) i = (bt x i && bt y i) := Nat.testBit_and x y i
theorem bt_not {y : Nat} (hy : y < 18446744073709551616) (i : Nat) : bt (18446744073709551615 - y) i = (decide (i < 64) && !bt y i) := by
 have := Nat.testBit_two_pow_sub_succ (n := 64) (x := y) (by rw [← top_is]; exact hy) i
 rw [← top_is, show 18446744073709551616 - (y + 1) = 18446744073709551615 - y by omega] at this
 exact this
theorem bt_minus {x y : Nat} (hx : x < 18446744073709551616) (hy : y < 18446744073709551616) (i : Nat) : bt (x &&& (18446744073709551615 - y)) i = (bt x i && !bt y i) := by
 rw [bt_and, bt_not hy]
 by_cases h : i < 64
 ·simp [h]
 ·rw [bt_out hx i (by omega)]; rfl
theorem minus_lt {x y : Nat} (hx : x < 18446744073709551616) : x &&& y < 18446744073709551616 := Nat.lt_of_le_of_lt Nat.and_le_left hx
def setN (l : List Nat) : Nat := l.foldl (fun s k => s ||| 2 ^ k) 0
theorem fold_bt : ∀ (l : List Nat) (s i : Nat), bt (l.foldl (fun s k => s ||| 2 ^ k) s) i = (bt s i || decide (i ∈ l))
 | [], s, i => by simp
 | k :: r, s, i => by
  rw [List.foldl_cons, fold_bt r, bt_or, bt_one]
  by_cases h : k = i
  ·subst h; simp
  ·have : ¬ i = k := fun e => h e.symm
   simp [h, this]
theorem bt_set (l : List Nat) (i : Nat) : bt (setN l) i = decide (i ∈ l) := by unfold setN; rw [fold_bt, bt_zero]; rfl
theorem fold_lt : ∀ (l : List Nat) (s : Nat), (∀ k ∈ l, k < 64) → s < 18446744073709551616 → l.foldl (fun s k => s ||| 2 ^ k) s < 18446744073709551616
 | [], s, _, h => h
 | k :: r, s, hl, h => fold_lt r _ (fun j hj => hl j (List.mem_cons_of_mem _ hj)) (or_lt h (one_lt (hl k (List.mem_cons_self ..))))
theorem set_lt {l : List Nat} (h : ∀ k ∈ l, k < 64) : setN l < 18446744073709551616 := fold_lt l 0 h (by decide)
theorem set_snoc (l : List Nat) (k : Nat) : setN (l ++ [k]) = setN l ||| 2 ^ k := by unfold setN; rw [List.foldl_append]; rfl
theorem set_take {l : List Nat} {j : Nat} (h : j < l.length) : setN (l.take (j + 1)) = setN (l.take j) ||| 2 ^ l[j] := by
 rw [List.take_add_one, List.getElem?_eq_getElem h, Option.toList_some, set_snoc]
theorem ctz_is {x : Nat} (h0 : x ≠ 0) (h : x < 18446744073709551616) : Go.Lib.ctz 64 x < 64 ∧ bt x (Go.Lib.ctz 64 x) = true ∧ ∀ i, i < Go.Lib.ctz 64 x → bt x i = false := by
 obtain ⟨m, hm, hk⟩ := Go.Lib.ctzFrom_spec 64 x (by omega) (by rw [← top_is]; exact h)
 have e : Go.Lib.ctz 64 x = Go.Lib.ctzFrom 64 x := by unfold Go.Lib.ctz; rw [if_neg h0]
 rw [← e] at hm hk
 generalize Go.Lib.ctz 64 x = k at hm hk
 refine ⟨hk, ?_, fun i hi => ?_⟩
 ·unfold bt
  rw [hm, Nat.mul_comm, Nat.testBit_mul_two_pow]
  simp [Nat.testBit_zero]
 ·unfold bt
  rw [hm, Nat.mul_comm, Nat.testBit_mul_two_pow]
  simp; omega
theorem meets {x k : Nat} : (x &&& 2 ^ k ≠ 0) ↔ bt x k = true := by
 constructor
 ·intro h
  by_cases q : bt x k = true
  ·exact q
  ·exfalso; apply h
   apply bt_ext
   funext i
   rw [bt_and, bt_one, bt_zero]
   by_cases e : k = i
   ·subst e; simp at q; rw [q]; rfl
   ·simp [e]
 ·intro h e
  have := congrArg (fun y => bt y k) e
  simp only [bt_and, bt_one, bt_zero, h] at this
  simp at this
end Go.Proofs.YtmajllgfmclcoaaGreatDoor.Sets

namespace Go.Proofs.YtmajllgfmclcoaaGreatDoor.Til
set_option linter.unusedVariables false
set_option linter.unusedSimpArgs false
open Go.RowKit Go.Proofs.YtmajllgfmclcoaaGreatDoor.Cell Go.Proofs.YtmajllgfmclcoaaGreatDoor.Dom Go.Proofs.YtmajllgfmclcoaaGreatDoor.Dms Go.Joins
open Go.Proofs.YtmajllgfmclcoaaGreatDoor.Reg hiding Yes

theorem domInfo : (Tryz.prog.info? 63).map (fun i => (i.zero, i.size, i.bytes)) = some (some (.agg #[.int .i64 0, .int .i64 0, .bool false]), 3, 24) := by kernel_rfl
set_option maxRecDepth 100000 in
set_option maxHeartbeats 1000000 in
theorem eqDoms (w : World) (A A' : Option Addr) (n cap cap' B B' : Nat) (L : List Dm) (hx : L.length = n) (hl : (n : Int) ≤ 9223372036854775807) (h1 : RowM w B A L) (h2 : RowM w B' A' L) (hB : B ≤ w.heap.size) (hB' : B' ≤ w.heap.size) :
  Calls Tryz.prog 20 #[.slice A n cap, .slice A' n cap'] w (Bol true w) := by
 obtain ⟨b, off, hA, hc⟩ := h1.at
 obtain ⟨b', off', hA', hc'⟩ := h2.at
 have H1 := Lib.hid hA
 have H2 := Lib.hid hA'
 have H3 := Lib.hid hc
 have H4 := Lib.hid hc'
 have HX := Lib.hid hx
 clear hA hA' hc hc' h1 h2 hx
 have hnn : (((n : Nat) : Int) != ((n : Nat) : Int)) = false := by simp
 go_enter Tryz.func20, Tryz.ntmps20
 go_wp2_with fail
 go_loopw [5] (fun i wr => ∃ k : Nat, k ≤ n ∧ i = .int .i64 k ∧ Below w.heap.size w wr) (fun i _ => n - (intOf i).toNat)
 case atStart => exact ⟨0, Nat.zero_le _, rfl, Below.refl _ _⟩
 case round =>
  obtain ⟨k, hk, rfl, hb⟩ := hrel
  have hbs := hb.size
  by_cases hlt : k < n
  ·have hkx : k < L.length := by have := HX.out; omega
   obtain ⟨rfl, hbw⟩ := H1.out (by omega)
   obtain ⟨rfl, hbw'⟩ := H2.out (by omega)
   obtain ⟨c1, c2, c3⟩ := H3.out k hkx
   obtain ⟨d1, d2, d3⟩ := H4.out k hkx
   have c1' := (hb.cell (p := ⟨b, off + k * 3, none⟩) (by show b < _; omega)).trans c1
   have c2' := (hb.cell (p := ⟨b, off + k * 3 + 1, none⟩) (by show b < _; omega)).trans c2
   have c3' := (hb.cell (p := ⟨b, off + k * 3 + 2, none⟩) (by show b < _; omega)).trans c3
   have d1' := (hb.cell (p := ⟨b', off' + k * 3, none⟩) (by show b' < _; omega)).trans d1
   have d2' := (hb.cell (p := ⟨b', off' + k * 3 + 1, none⟩) (by show b' < _; omega)).trans d2
   have d3' := (hb.cell (p := ⟨b', off' + k * 3 + 2, none⟩) (by show b' < _; omega)).trans d3
   clear c1 c2 c3 d1 d2 d3
   generalize L[k] = d at c1' c2' c3' d1' d2' d3'
   obtain ⟨x, y, bb⟩ := d
   simp only at c1' c2' c3' d1' d2' d3'
   have hB1 : b < wr.heap.size := by omega
   have hB2 : b' < wr.heap.size := by omega
   go_wp2_with fail
   go_region_held3 (fun w' => w'.cell? ⟨b, off + k * 3, none⟩ = some (.int .i64 x) ∧ w'.cell? ⟨b, off + k * 3 + 1, none⟩ = some (.int .i64 y) ∧ w'.cell? ⟨b, off + k * 3 + 2, none⟩ = some (.bool bb) ∧ w'.cell? ⟨b', off' + k * 3, none⟩ = some (.int .i64 x) ∧ w'.cell? ⟨b', off' + k * 3 + 1, none⟩ = some (.int .i64 y) ∧ w'.cell? ⟨b', off' + k * 3 + 2, none⟩ = some (.bool bb))
    (first | go_keep | exact ⟨(hbx.cell (by simpa using hB1)).trans c1', (hbx.cell (by simpa using hB1)).trans c2', (hbx.cell (by simpa using hB1)).trans c3', (hbx.cell (by simpa using hB2)).trans d1', (hbx.cell (by simpa using hB2)).trans d2', (hbx.cell (by simpa using hB2)).trans d3'⟩)
    (first | (go_at_call 45; refine (eqDominoSame x y bb _).mono ?_; rintro e wx ⟨rfl, hbx⟩))
   have hb2 : Below w.heap.size w wx := hb.drew.trans (hbx.mono hbs)
   clear c1' c2' c3' d1' d2' d3' hbx
   go_wp2
   go_roundw
   case rel => exact ⟨k + 1, by omega, by go_num, hb2⟩
   case measure => (simp [intOf] <;> omega)
  ·go_wp2
   go_ret
   exact mkBol rfl hb
end Go.Proofs.YtmajllgfmclcoaaGreatDoor.Til

namespace Go.Proofs.YtmajllgfmclcoaaGreatDoor.Til
set_option linter.unusedVariables false
set_option linter.unusedSimpArgs false
open Go.RowKit Go.Proofs.YtmajllgfmclcoaaGreatDoor.Dms Go.Joins
open Go.Proofs.YtmajllgfmclcoaaGreatDoor.Reg hiding Yes

def by3 (m : Nat) : Bool := decide (((m : Nat) : Int) % 3 = 0)
def mkM (k j : Nat) : Dm := (((k + 3 * j : Nat) : Int), ((k + 3 * j + 1 : Nat) : Int), by3 (k + 3 * j + 2))
def marksM (k n : Nat) : List Dm := (List.range n).map (mkM k)
theorem marksM_length (k n : Nat) : (marksM k n).length = n := by unfold marksM; simp
theorem marksM_at (k n j : Nat) (h : j < n) : (marksM k n)[j]? = some (mkM k j) := by unfold marksM; simp [List.getElem?_range h]
theorem marksM_step (k j n : Nat) (L : List Dm) (hL : L.length = n) (hj : j < n) :
  (((rowM (marksM k j ++ L.drop j)).set (j * 3) (.int .i64 ((k + 3 * j : Nat) : Int))).set (j * 3 + 1) (.int .i64 ((k + 3 * j + 1 : Nat) : Int))).set (j * 3 + 2) (.bool (by3 (k + 3 * j + 2))) = rowM (marksM k (j + 1) ++ L.drop (j + 1)) := by
 rw [List.drop_eq_getElem_cons (by omega)]
 have h := rowM_put (marksM k j) L[j] (mkM k j) (L.drop (j + 1)) j (marksM_length k j)
 unfold mkM at h
 simp only at h
 rw [h]
 congr 1
 unfold marksM
 rw [List.range_succ, List.map_append, List.append_assoc]
 rfl

set_option maxRecDepth 100000 in
set_option maxHeartbeats 1000000 in
theorem markDoms (w : World) (base hi k n cap : Nat) (A : Option Addr) (L : List Dm) (hn : ((k + 3 * n : Nat) : Int) ≤ 10000000) (hr : RowIn w base hi 63 3 (.slice A n cap) n (rowM L)) :
  Calls Tryz.prog 23 #[.slice A n cap, .int .i64 (k : Int)] w fun e w' => e = .returned (.int .i64 ((k + 3 * n : Nat) : Int)) ∧ RowIn w' base hi 63 3 (.slice A n cap) n (rowM (marksM k n)) ∧ Apart base hi w w' := by
 have hx : L.length = n := by have := hr.1.1; rw [rowM_length] at this; omega
 have HX := Lib.hid hx
 have HN := Lib.hid hn
 have HH := Lib.hid hr.2
 have HO := Lib.hid hr.1
 clear hx hr hn
 go_enter Tryz.func23, Tryz.ntmps23
 go_wp2_with fail
 go_loopw [1, 5] (fun m i wr => ∃ j : Nat, j ≤ n ∧ i = .int .i64 j ∧ m = .int .i64 ((k + 3 * j : Nat) : Int) ∧ wr.ownsRow base 63 3 (.slice A n cap) n (rowM (marksM k j ++ L.drop j)) ∧ Apart base hi w wr) (fun _ i _ => n - (intOf i).toNat)
 case atStart => exact ⟨0, Nat.zero_le _, rfl, rfl, by simpa [marksM] using HO.out, Apart.refl _ _ _⟩
 case round =>
  obtain ⟨j, hj, rfl, rfl, hown, hb⟩ := hrel
  have hm : ((k + 3 * j : Nat) : Int) ≤ 10000000 := by have := HN.out; omega
  by_cases hlt : j < n
  ·obtain ⟨g, c, hv, hg1, hg2⟩ := hown.form (by omega)
   injection hv with hA hn1 hc1
   subst hA
   subst hc1
   have hu : ∀ m, m < n * 3 → ∃ u, wr.cell? ⟨g, m, none⟩ = some u := fun m hm => by
    have hlen := hown.1
    rw [hown.cellAt m (by omega)]; exact ⟨_, List.getElem?_eq_getElem (by omega)⟩
   obtain ⟨u0, hu0⟩ := hu (j * 3) (by omega)
   obtain ⟨u1, hu1⟩ := hu (j * 3 + 1) (by omega)
   obtain ⟨u2, hu2⟩ := hu (j * 3 + 2) (by omega)
   have hf0 := hown.frozenAt (j * 3)
   have hf1 := hown.frozenAt (j * 3 + 1)
   have hf2 := hown.frozenAt (j * 3 + 2)
   obtain ⟨hst, _⟩ := hown.stored (j * 3) (.int .i64 ((k + 3 * j : Nat) : Int))
   obtain ⟨hst, _⟩ := hst.stored (j * 3 + 1) (.int .i64 ((k + 3 * j + 1 : Nat) : Int))
   obtain ⟨hst, _⟩ := hst.stored (j * 3 + 2) (.bool (by3 (k + 3 * j + 2)))
   rw [marksM_step k j n L HX.out hlt] at hst
   have hb3 := ((hb.setCell (p := ⟨g, j * 3, none⟩) hg1 (HH.out g rfl) (.int .i64 ((k + 3 * j : Nat) : Int))).setCell (p := ⟨g, j * 3 + 1, none⟩) hg1 (HH.out g rfl) (.int .i64 ((k + 3 * j + 1 : Nat) : Int))).setCell (p := ⟨g, j * 3 + 2, none⟩) hg1 (HH.out g rfl) (.bool (by3 (k + 3 * j + 2)))
   have hk2 : ((k + 3 * (j + 1) : Nat) : Int) = ((k + 3 * j : Nat) : Int) + 3 := by omega
   have e1 : ((k + 3 * j + 1 : Nat) : Int) = ((k + 3 * j : Nat) : Int) + 1 := by omega
   have e2 : by3 (k + 3 * j + 2) = ((((k + 3 * j : Nat) : Int) + 1 + 1) % 3 == 0) := by unfold by3; rw [Bool.eq_iff_iff]; simp only [decide_eq_true_eq, beq_iff_eq]; omega
   rw [e2, e1] at hst hb3
   have R := Lib.hid hst
   have HB := Lib.hid hb3
   have HK2 := Lib.hid hk2
   have hm0 : 0 ≤ ((k + 3 * j : Nat) : Int) := by omega
   have hnb : (n : Int) ≤ 10000000 := by have := HN.out; omega
   generalize ((k + 3 * j : Nat) : Int) = m at hm R HB HK2 hm0
   clear hown hst hb3 hb hu hk2 e1 e2
   go_wp2
   go_roundw
   case rel => exact ⟨j + 1, by omega, by go_num, by rw [HK2.out]; go_num, R.out, HB.out⟩
   case measure => (simp [intOf] <;> omega)
  ·obtain rfl : j = n := by omega
   have R := Lib.hid (show wr.ownsRow base 63 3 (.slice A j cap) j (rowM (marksM k j)) by
    have e : marksM k j ++ L.drop j = marksM k j := by rw [List.drop_eq_nil_of_le (by rw [HX.out]; omega), List.append_nil]
    rw [e] at hown; exact hown)
   clear hown
   go_wp2
   go_ret
   exact ⟨by go_num, ⟨R.out, HH.out⟩, hb⟩
set_option maxRecDepth 100000 in
set_option maxHeartbeats 1000000 in
theorem heldDoms (w : World) (k n cap B : Nat) (A : Option Addr) (hn : ((k + 3 * n : Nat) : Int) ≤ 10000000) (hr : RowM w B A (marksM k n)) :
  Calls Tryz.prog 24 #[.slice A n cap, .int .i64 (k : Int)] w fun e w' => e = .returned (.int .i64 ((k + 3 * n : Nat) : Int)) ∧ w' = w := by
 obtain ⟨b, off, hA, hc⟩ := hr
 have HA := Lib.hid hA
 have HC := Lib.hid hc
 have HN := Lib.hid hn
 clear hA hc hn
 go_enter Tryz.func24, Tryz.ntmps24
 go_wp2_with fail
 go_loopw [1, 5] (fun m i wr => ∃ j : Nat, j ≤ n ∧ i = .int .i64 j ∧ m = .int .i64 ((k + 3 * j : Nat) : Int) ∧ wr = w) (fun _ i _ => n - (intOf i).toNat)
 case atStart => exact ⟨0, Nat.zero_le _, rfl, rfl, rfl⟩
 case round =>
  obtain ⟨j, hj, rfl, rfl, rfl⟩ := hrel
  have hm : ((k + 3 * j : Nat) : Int) ≤ 10000000 := by have := HN.out; omega
  by_cases hlt : j < n
  ·obtain ⟨rfl, hbw⟩ := HA.out (by rw [marksM_length]; omega)
   obtain ⟨c0, c1, c2⟩ := HC.out j _ (marksM_at k n j hlt)
   unfold mkM at c0 c1 c2
   simp only at c0 c1 c2
   have HK2 := Lib.hid (show ((k + 3 * (j + 1) : Nat) : Int) = ((k + 3 * j : Nat) : Int) + 3 by omega)
   have e1 : ((k + 3 * j + 1 : Nat) : Int) = ((k + 3 * j : Nat) : Int) + 1 := by omega
   have e2 : by3 (k + 3 * j + 2) = ((((k + 3 * j : Nat) : Int) + 1 + 1) % 3 == 0) := by unfold by3; rw [Bool.eq_iff_iff]; simp only [decide_eq_true_eq, beq_iff_eq]; omega
   rw [e1] at c1
   rw [e2] at c2
   have hm0 : 0 ≤ ((k + 3 * j : Nat) : Int) := by omega
   have hnb : (n : Int) ≤ 10000000 := by have := HN.out; omega
   generalize ((k + 3 * j : Nat) : Int) = m at hm HK2 hm0 c0 c1 c2
   have q0 : (m != m) = false := by simp
   have q1 : (m + 1 != m + 1) = false := by simp
   have q2 : (((m + 1 + 1) % 3 == 0) != ((m + 1 + 1) % 3 == 0)) = false := by simp
   clear e1 e2
   go_wp2
   go_roundw
   case rel => exact ⟨j + 1, by omega, by go_num, by rw [HK2.out]; go_num, trivial⟩
   case measure => (simp [intOf] <;> omega)
  ·obtain rfl : j = n := by omega
   go_wp2
   go_ret
   exact ⟨by go_num, rfl⟩
theorem markDomsN (w : World) (base hi k n cap : Nat) (A : Option Addr) (L : List Dm) (k0 m : Int) (hk : k0 = (k : Int)) (hm : m = ((k + 3 * n : Nat) : Int)) (hn : m ≤ 10000000) (hr : RowIn w base hi 63 3 (.slice A n cap) n (rowM L)) :
  Calls Tryz.prog 23 #[.slice A n cap, .int .i64 k0] w fun e w' => e = .returned (.int .i64 m) ∧ RowIn w' base hi 63 3 (.slice A n cap) n (rowM (marksM k n)) ∧ Apart base hi w w' := by
 subst hm; subst hk
 exact markDoms w base hi k n cap A L hn hr
theorem heldDomsN (w : World) (k n cap B : Nat) (A : Option Addr) (k0 m : Int) (hk : k0 = (k : Int)) (hm : m = ((k + 3 * n : Nat) : Int)) (hn : m ≤ 10000000) (hr : RowM w B A (marksM k n)) :
  Calls Tryz.prog 24 #[.slice A n cap, .int .i64 k0] w fun e w' => e = .returned (.int .i64 m) ∧ w' = w := by
 subst hm; subst hk
 exact heldDoms w k n cap B A hn hr
end Go.Proofs.YtmajllgfmclcoaaGreatDoor.Til
