/- JnC, JnD, JnF, SetP, TilM, Dss, LisS in one text. -/
import Derived.Test.YtmajllgfmclcoaaGreatDoorMd20
import Derived.Laws.BitsAllLaws
import Derived.Lib.TrailingZeros
import Derived.Test.YtmajllgfmclcoaaGreatDoorMd02
import Derived.Test.YtmajllgfmclcoaaGreatDoorMd09
import Derived.Test.YtmajllgfmclcoaaGreatDoorMd19
import Derived.Laws.OwnMore
import Derived.Deep.RegionHeld3
import Derived.Test.YtmajllgfmclcoaaGreatDoorMd04
import Derived.Test.YtmajllgfmclcoaaGreatDoorMd01
set_option linter.unusedVariables false
set_option linter.unusedSimpArgs false
set_option maxRecDepth 100000
namespace Go.Proofs.YtmajllgfmclcoaaGreatDoor.Hgt
open Go.RowKit Dms Go.Joins
open Flo (simB)
def dst (hs gs : List Int) (k : Nat) : Nat := ((List.range k).map fun i => (ht hs i - ht gs i).natAbs).sum
theorem dst_zero (hs gs : List Int) : dst hs gs 0 = 0 := rfl
theorem dst_step (hs gs : List Int) (k : Nat) : dst hs gs (k + 1) = dst hs gs k + (ht hs k - ht gs k).natAbs := by
 unfold dst
 rw [List.range_succ, List.map_append, List.sum_append]
 simp
theorem dst_le {hs gs hs' gs' : List Int} (h : ∀ i, i < 81 → (ht hs i - ht gs i).natAbs ≤ (ht hs' i - ht gs' i).natAbs) : ∀ k, k ≤ 81 → dst hs gs k ≤ dst hs' gs' k
 | 0, _ => Nat.le_refl _
 | k + 1, hk => by
  rw [dst_step, dst_step]
  have := dst_le h k (by omega)
  have := h k (by omega)
  omega
theorem dst_eq {hs gs hs' gs' : List Int} (h : ∀ i, i < 81 → (ht hs i - ht gs i).natAbs = (ht hs' i - ht gs' i).natAbs) {k : Nat} (hk : k ≤ 81) : dst hs gs k = dst hs' gs' k :=
 Nat.le_antisymm (dst_le (fun i hi => Nat.le_of_eq (h i hi)) k hk) (dst_le (fun i hi => Nat.le_of_eq (h i hi).symm) k hk)
theorem dst_join {hs gs : List Int} (h1 : hs.length = 81) (h2 : gs.length = 81) : dst (minR hs gs) (maxR hs gs) 81 = dst hs gs 81 :=
 dst_eq (fun i hi => by unfold minR maxR; rw [ht_zw min h1 h2 hi, ht_zw max h1 h2 hi]; omega) NR
theorem dst_hull {hs gs ls us : List Int} (a1 : leH ls hs) (a2 : leH ls gs) (b1 : leH hs us) (b2 : leH gs us) : dst hs gs 81 ≤ dst ls us 81 :=
 dst_le (fun i hi => by have := a1 i hi; have := a2 i hi; have := b1 i hi; have := b2 i hi; omega) 81 NR
set_option maxHeartbeats 4000000 in
theorem inner_sum (F : Nat → Nat) (z : ∀ k, k < 121 → (k % 11 = 0 ∨ k % 11 = 10 ∨ k / 11 = 0 ∨ k / 11 = 10) → F k = 0) :
  ((List.range 121).map F).sum = ((List.range 81).map fun v => F (11 * (v / 9 + 1) + (v % 9 + 1))).sum := by
 rw [show List.range 121 = [0, 1, 2, 3, 4, 5, 6, 7, 8, 9, 10, 11, 12, 13, 14, 15, 16, 17, 18, 19, 20, 21, 22, 23, 24, 25, 26, 27, 28, 29, 30, 31, 32, 33, 34, 35, 36, 37, 38, 39, 40, 41, 42, 43, 44, 45, 46, 47, 48, 49, 50, 51, 52, 53, 54, 55, 56, 57, 58, 59, 60, 61, 62, 63, 64, 65, 66, 67, 68, 69, 70, 71, 72, 73, 74, 75, 76, 77, 78, 79, 80, 81, 82, 83, 84, 85, 86, 87, 88, 89, 90, 91, 92, 93, 94, 95, 96, 97, 98, 99, 100, 101, 102, 103, 104, 105, 106, 107, 108, 109, 110, 111, 112, 113, 114, 115, 116, 117, 118, 119, 120] from rfl, show List.range 81 = [0, 1, 2, 3, 4, 5, 6, 7, 8, 9, 10, 11, 12, 13, 14, 15, 16, 17, 18, 19, 20, 21, 22, 23, 24, 25, 26, 27, 28, 29, 30, 31, 32, 33, 34, 35, 36, 37, 38, 39, 40, 41, 42, 43, 44, 45, 46, 47, 48, 49, 50, 51, 52, 53, 54, 55, 56, 57, 58, 59, 60, 61, 62, 63, 64, 65, 66, 67, 68, 69, 70, 71, 72, 73, 74, 75, 76, 77, 78, 79, 80] from rfl]
 simp only [List.map_cons, List.map_nil, List.sum_cons, List.sum_nil, Nat.reduceMod, Nat.reduceDiv, Nat.reduceAdd, Nat.reduceMul, z 0 (by omega) (by omega), z 1 (by omega) (by omega), z 2 (by omega) (by omega), z 3 (by omega) (by omega), z 4 (by omega) (by omega), z 5 (by omega) (by omega), z 6 (by omega) (by omega), z 7 (by omega) (by omega), z 8 (by omega) (by omega), z 9 (by omega) (by omega), z 10 (by omega) (by omega), z 11 (by omega) (by omega), z 21 (by omega) (by omega), z 22 (by omega) (by omega), z 32 (by omega) (by omega), z 33 (by omega) (by omega), z 43 (by omega) (by omega), z 44 (by omega) (by omega), z 54 (by omega) (by omega), z 55 (by omega) (by omega), z 65 (by omega) (by omega), z 66 (by omega) (by omega), z 76 (by omega) (by omega), z 77 (by omega) (by omega), z 87 (by omega) (by omega), z 88 (by omega) (by omega), z 98 (by omega) (by omega), z 99 (by omega) (by omega), z 109 (by omega) (by omega), z 110 (by omega) (by omega), z 111 (by omega) (by omega), z 112 (by omega) (by omega), z 113 (by omega) (by omega), z 114 (by omega) (by omega), z 115 (by omega) (by omega), z 116 (by omega) (by omega), z 117 (by omega) (by omega), z 118 (by omega) (by omega), z 119 (by omega) (by omega), z 120 (by omega) (by omega), Nat.zero_add, Nat.add_zero]
theorem sum_four {α : Type} (F : α → Nat) : ∀ l : List α, (l.map fun v => 4 * F v).sum = 4 * (l.map F).sum
 | [] => rfl
 | x :: r => by
  simp only [List.map_cons, List.sum_cons, sum_four F r]
  omega
theorem dst_far {xs : List Int} {L M : List Dm} {hs gs : List Int} (hsim : simB xs = true) (r : Row9 xs L hs) (q : Row9 xs M gs) : dst hs gs 81 = 4 * farL L M := by
 obtain ⟨ok, h1, hone⟩ := sim_parts hsim
 obtain ⟨f, hf, rfl, bf⟩ := r.f
 obtain ⟨g, hg, rfl, bg⟩ := q.f
 have tL := tl_of r.til
 have tM := tl_of q.til
 have e1 := hv_dif hsim r.til q.til hf hg
 have e2 : ∀ v, v < 81 → (ht (hgL xs f) v - ht (hgL xs g) v).natAbs = 4 * (difL L M (v % 9 + 1) (v / 9 + 1)).natAbs := fun v hv' => by
  unfold ht
  rw [row_at xs f hv', row_at xs g hv']
  by_cases c : crnB xs v = true
  ·rw [if_pos c, if_pos c]
   have := e1 v hv' c
   simp only [Option.getD_some]
   omega
  ·rw [if_neg c, if_neg c]
   have z : difL L M (v % 9 + 1) (v / 9 + 1) = 0 := Classical.byContradiction fun hne => by
    obtain ⟨a, b, q1, q2, ha, hb, g0, _, _, _⟩ := inner tL tM hone (by omega) (by omega) hne
    exact c (crn_iff.2 ⟨_, _, g0, .inr q1, .inr q2⟩)
   rw [z]; simp
 have e3 : farL L M = ((List.range 81).map fun v => (difL L M (v % 9 + 1) (v / 9 + 1)).natAbs).sum := by
  have k := inner_sum (fun k => (difL L M (k % 11) (k / 11)).natAbs) (fun k hk hb => by
   have z : difL L M (k % 11) (k / 11) = 0 := Classical.byContradiction fun hne => by
    obtain ⟨a, b, q1, q2, ha, hb', _⟩ := inner tL tM hone (i := k % 11) (j := k / 11) (by omega) (by omega) hne
    omega
   show (difL L M (k % 11) (k / 11)).natAbs = 0
   rw [z]; rfl)
  refine k.trans (congrArg List.sum (List.map_congr_left fun v hv' => ?_))
  have hv' := List.mem_range.1 hv'
  show (difL L M ((11 * (v / 9 + 1) + (v % 9 + 1)) % 11) ((11 * (v / 9 + 1) + (v % 9 + 1)) / 11)).natAbs = _
  rw [show (11 * (v / 9 + 1) + (v % 9 + 1)) % 11 = v % 9 + 1 by omega, show (11 * (v / 9 + 1) + (v % 9 + 1)) / 11 = v / 9 + 1 by omega]
 rw [e3]
 unfold dst
 rw [show ((List.range 81).map fun i => (ht (hgL xs f) i - ht (hgL xs g) i).natAbs) = (List.range 81).map fun v => 4 * (difL L M (v % 9 + 1) (v / 9 + 1)).natAbs from List.map_congr_left fun v hv' => e2 v (List.mem_range.1 hv')]
 exact sum_four (fun v => (difL L M (v % 9 + 1) (v / 9 + 1)).natAbs) _
end Go.Proofs.YtmajllgfmclcoaaGreatDoor.Hgt
namespace Go.Proofs.YtmajllgfmclcoaaGreatDoor.Hgt
open Go.RowKit Dom Dms Til Go.Joins
open Flo (simB)
theorem hgtR_row {xs : List Int} {L : List Dm} {hs : List Int} (r : hgtR xs L hs) : (hs = [] ∧ hs.length = 0) ∨ (hs.length = 81 ∧ hs ≠ [] ∧ simB xs = true ∧ Row9 xs L hs) := by
 rcases r with ⟨a, b⟩ | ⟨_, rfl⟩
 ·have l := b.len
  exact .inr ⟨l, fun e => by rw [e] at l; simp at l, a, b⟩
 ·exact .inl ⟨rfl, rfl⟩
def belR (xs : List Int) (L M : List Dm) (b : Bool) : Prop := ∃ hs gs, hgtR xs L hs ∧ hgtR xs M gs ∧ (b = true ↔ hs ≠ [] ∧ gs ≠ [] ∧ leH hs gs)
def joinR (m : Int → Int → Int) (xs : List Int) (L M N : List Dm) (ok : Bool) : Prop :=
 ∃ hs gs, hgtR xs L hs ∧ hgtR xs M gs ∧ (((hs = [] ∨ gs = []) ∧ N = [] ∧ ok = false) ∨ ((hs ≠ [] ∧ gs ≠ []) ∧ tfR xs (List.zipWith m hs gs) N ok))
def stepR (xs : List Int) (L M : List Dm) (n : Int) : Prop :=
 ∃ hs gs, hgtR xs L hs ∧ hgtR xs M gs ∧ (((hs = [] ∨ gs = []) ∧ n = -1) ∨ ((hs ≠ [] ∧ gs ≠ []) ∧ n = ((dst hs gs 81 / 4 : Nat) : Int)))
theorem dst_bd {xs : List Int} {L M : List Dm} {hs gs : List Int} (r : Row9 xs L hs) (q : Row9 xs M gs) : ∀ k, k < 81 → (ht hs k = -1000 ∨ (-80 ≤ ht hs k ∧ ht hs k ≤ 80)) ∧ (ht gs k = -1000 ∨ (-80 ≤ ht gs k ∧ ht gs k ≤ 80)) := fun k hk => by
 have l1 := r.len
 have l2 := q.len
 have b1 := r.bd hs[k] (List.getElem_mem (by omega))
 have b2 := q.bd gs[k] (List.getElem_mem (by omega))
 unfold ht
 rw [List.getElem?_eq_getElem (by omega), List.getElem?_eq_getElem (by omega)]
 exact ⟨b1, b2⟩
def endR (t : Int) (xs : List Int) (T : List (List Dm)) (N : List Dm) (ok : Bool) : Prop :=
 (ok = true ∧ simB xs = true ∧ N ∈ T ∧ ∃ h, Row9 xs N h ∧ ∀ N' ∈ T, ∀ h', Row9 xs N' h' → t * sumH h 81 ≤ t * sumH h' 81) ∨ (ok = false ∧ N = [] ∧ ¬ (simB xs = true ∧ T ≠ []))
theorem end_low {xs : List Int} {T : List (List Dm)} (hT : ∀ N, tilB xs N = true → N ∈ T) (hsim : simB xs = true) {N : List Dm} {h : List Int} (r : Row9 xs N h) (hl : ∀ N' ∈ T, ∀ h', Row9 xs N' h' → 1 * sumH h 81 ≤ 1 * sumH h' 81) {M : List Dm} {gs : List Int} (q : Row9 xs M gs) : leH h gs :=
 least_below hsim r q fun N' ks n => by
  have := hl N' (hT _ n.til) ks n
  omega
theorem end_high {xs : List Int} {T : List (List Dm)} (hT : ∀ N, tilB xs N = true → N ∈ T) (hsim : simB xs = true) {N : List Dm} {h : List Int} (r : Row9 xs N h) (hl : ∀ N' ∈ T, ∀ h', Row9 xs N' h' → -1 * sumH h 81 ≤ -1 * sumH h' 81) {M : List Dm} {gs : List Int} (q : Row9 xs M gs) : leH gs h :=
 greatest_above hsim r q fun N' ks n => by
  have := hl N' (hT _ n.til) ks n
  omega
theorem orders_all {xs : List Int} {T : List (List Dm)} (hT : ∀ N, tilB xs N = true → N ∈ T) (hsim : simB xs = true) {La Lb : List Dm} (ta : tilB xs La = true) (tb : tilB xs Lb = true) {ha hb : List Int} (ra : Row9 xs La ha) (rb : Row9 xs Lb hb)
  {X Y Lo Hi : List Dm} {o1 o2 o3 o4 : Bool} {n : Int} (jx : joinR min xs La Lb X o1) (jy : joinR max xs La Lb Y o2) (el : endR 1 xs T Lo o3) (eh : endR (-1) xs T Hi o4) (sn : stepR xs La Lb n) :
  o1 = true ∧ o2 = true ∧ o3 = true ∧ o4 = true ∧ n = (farL La Lb : Nat) ∧ tilB xs X = true ∧ tilB xs Y = true ∧ tilB xs Lo = true ∧ tilB xs Hi = true ∧
  (∀ b, belR xs X La b → b = true) ∧ (∀ b, belR xs X Lb b → b = true) ∧ (∀ b, belR xs La Y b → b = true) ∧ (∀ b, belR xs Lb Y b → b = true) ∧ (∀ b, belR xs Lo La b → b = true) ∧ (∀ b, belR xs Lb Hi b → b = true) ∧
  (∀ m, stepR xs X Y m → m = n) ∧ (∀ b, belR xs La Lb b → b = decide (X = La)) ∧ (∀ m, stepR xs Lo Hi m → n ≤ m) := by
 have la := ra.len
 have lb := rb.len
 have ne : ∀ {L h}, Row9 xs L h → h ≠ [] := fun r e => by have := r.len; rw [e] at this; simp at this
 have row : ∀ {L h h'}, hgtR xs L h' → Row9 xs L h → h' = h := fun a r => hgtR_uniq a (.inl ⟨hsim, r⟩)
 have bel : ∀ {L M h g}, Row9 xs L h → Row9 xs M g → ∀ b, belR xs L M b → (b = true ↔ leH h g) := fun r q b ⟨h', g', a, c, d⟩ => by
  rw [row a r, row c q] at d
  rw [d]
  exact ⟨fun z => z.2.2, fun z => ⟨ne r, ne q, z⟩⟩
 have stp : ∀ {L M h g}, Row9 xs L h → Row9 xs M g → ∀ m, stepR xs L M m → m = ((dst h g 81 / 4 : Nat) : Int) := fun r q m ⟨h', g', a, c, d⟩ => by
  rw [row a r, row c q] at d
  rcases d with ⟨z | z, _⟩ | ⟨_, z⟩
  ·exact absurd z (ne r)
  ·exact absurd z (ne q)
  ·exact z
 have jn : ∀ {m : Int → Int → Int} {N o}, (∃ K, Row9 xs K (List.zipWith m ha hb)) → joinR m xs La Lb N o → o = true ∧ Row9 xs N (List.zipWith m ha hb) := fun ⟨K, rk⟩ ⟨h', g', a, c, d⟩ => by
  rw [row a ra, row c rb] at d
  rcases d with ⟨z | z, _⟩ | ⟨_, z⟩
  ·exact absurd z (ne ra)
  ·exact absurd z (ne rb)
  ·obtain ⟨rfl, rfl⟩ := tfR_uniq (.inl ⟨rfl, hsim, rk⟩) z
   exact ⟨rfl, rk⟩
 obtain ⟨x1, rx⟩ := jn (lower_row hsim ra rb) jx
 obtain ⟨y1, ry⟩ := jn (higher_row hsim ra rb) jy
 have hTn : T ≠ [] := fun e => by have := hT _ ta; rw [e] at this; cases this
 obtain ⟨l1, _, _, hl, rl, ll⟩ : o3 = true ∧ simB xs = true ∧ Lo ∈ T ∧ ∃ h, Row9 xs Lo h ∧ ∀ N' ∈ T, ∀ h', Row9 xs N' h' → 1 * sumH h 81 ≤ 1 * sumH h' 81 := by
  rcases el with q | ⟨_, _, q⟩
  ·exact q
  ·exact absurd ⟨hsim, hTn⟩ q
 obtain ⟨h1, _, _, hh, rh, lh⟩ : o4 = true ∧ simB xs = true ∧ Hi ∈ T ∧ ∃ h, Row9 xs Hi h ∧ ∀ N' ∈ T, ∀ h', Row9 xs N' h' → -1 * sumH h 81 ≤ -1 * sumH h' 81 := by
  rcases eh with q | ⟨_, _, q⟩
  ·exact q
  ·exact absurd ⟨hsim, hTn⟩ q
 have mn := min_le la lb
 have mx := max_le la lb
 have hn := stp ra rb n sn
 refine ⟨x1, y1, l1, h1, ?_, rx.til, ry.til, rl.til, rh.til, fun b q => (bel rx ra b q).2 mn.1, fun b q => (bel rx rb b q).2 mn.2, fun b q => (bel ra ry b q).2 mx.1, fun b q => (bel rb ry b q).2 mx.2,
  fun b q => (bel rl ra b q).2 (end_low hT hsim rl ll ra), fun b q => (bel rb rh b q).2 (end_high hT hsim rh lh rb), fun m q => ?_, fun b q => ?_, fun m q => ?_⟩
 ·rw [hn, dst_far hsim ra rb]; omega
 ·rw [stp rx ry m q, hn]
  have e := dst_join la lb
  unfold minR maxR at e
  rw [e]
 ·have z := (bel ra rb b q).trans (below_same hsim ra rb rx)
  rw [Bool.eq_iff_iff, decide_eq_true_eq]; exact z
 ·rw [stp rl rh m q, hn]
  have e := dst_hull (end_low hT hsim rl ll ra) (end_low hT hsim rl ll rb) (end_high hT hsim rh lh ra) (end_high hT hsim rh lh rb)
  have := Nat.div_le_div_right (c := 4) e
  omega
end Go.Proofs.YtmajllgfmclcoaaGreatDoor.Hgt
namespace Go.Proofs.YtmajllgfmclcoaaGreatDoor.Hgt
open Go.RowKit Dms Go.Joins
open Flo (simB)
theorem nh_same {xs : List Int} {L M : List Dm} {hs gs : List Int} (r : Row9 xs L hs) (q : Row9 xs M gs) : ∀ k, k < 81 → (ht hs k = -1000 ↔ ht gs k = -1000) := fun k hk => by
 obtain ⟨f, hf, rfl, bf⟩ := r.f
 obtain ⟨g, hg, rfl, bg⟩ := q.f
 unfold ht
 rw [row_at xs f hk, row_at xs g hk]
 by_cases c : crnB xs k = true
 ·rw [if_pos c, if_pos c]
  have := bf k hk c
  have := bg k hk c
  simp only [Option.getD_some]
  omega
 ·rw [if_neg c, if_neg c]
theorem ht_at {hs : List Int} {k : Nat} (hk : k < hs.length) : ht hs k = hs[k] := by
 unfold ht
 rw [List.getElem?_eq_getElem hk]; rfl
theorem high_low {xs : List Int} {L M : List Dm} {hs gs : List Int} (r : Row9 xs L hs) (q : Row9 xs M gs) :
  ∀ k : Nat, k ≤ 81 → -80 * (k : Int) ≤ sumH (minR hs gs) k ∧ sumH (minR hs gs) k ≤ 80 * k ∧ -80 * (k : Int) ≤ sumH (maxR hs gs) k ∧ sumH (maxR hs gs) k ≤ 80 * k ∧ sumH (maxR hs gs) k = sumH (minR hs gs) k + (dst hs gs k : Nat)
 | 0, _ => by
  rw [dst_zero]
  simp [sumH]
 | k + 1, hk => by
  obtain ⟨a, a', b, b', e⟩ := high_low r q k (by omega)
  have l1 := r.len
  have l2 := q.len
  have n := nh_same r q k (by omega)
  have d := dst_bd r q k (by omega)
  have h1 : k < (minR hs gs).length := by unfold minR; rw [List.length_zipWith]; omega
  have h2 : k < (maxR hs gs).length := by unfold maxR; rw [List.length_zipWith]; omega
  rw [sumH_step h1, sumH_step h2, dst_step]
  have m1 : (minR hs gs)[k] = min (ht hs k) (ht gs k) := by rw [← ht_at h1]; exact ht_zw min l1 l2 (by omega)
  have m2 : (maxR hs gs)[k] = max (ht hs k) (ht gs k) := by rw [← ht_at h2]; exact ht_zw max l1 l2 (by omega)
  rw [m1, m2]
  generalize ht hs k = x at *
  generalize ht gs k = y at *
  unfold wrap64
  split <;> split <;> omega
theorem high_low81 {xs : List Int} {L M : List Dm} {hs gs : List Int} (r : Row9 xs L hs) (q : Row9 xs M gs) : sumH (maxR hs gs) 81 - sumH (minR hs gs) 81 = (dst hs gs 81 : Nat) ∧ dst hs gs 81 ≤ 12960 ∧ -6480 ≤ sumH (minR hs gs) 81 ∧ sumH (minR hs gs) 81 ≤ 6480 := by
 obtain ⟨a, a', b, b', e⟩ := high_low r q 81 NR
 omega
end Go.Proofs.YtmajllgfmclcoaaGreatDoor.Hgt
namespace Go.Proofs.YtmajllgfmclcoaaGreatDoor.Sets
def bt (x : Nat) : Nat → Bool := fun i => x.testBit i
theorem top_is : 18446744073709551616 = 2 ^ 64 := by decide
theorem bt_out {x : Nat} (h : x < 18446744073709551616) : ∀ i, 64 ≤ i → bt x i = false := fun i hi => by
 refine Nat.testBit_lt_two_pow (Nat.lt_of_lt_of_le h ?_)
 rw [top_is]; exact Nat.pow_le_pow_right (by decide) hi
theorem bt_zero (i : Nat) : bt 0 i = false := by unfold bt; exact Nat.zero_testBit i
theorem bt_ext {x y : Nat} (h : bt x = bt y) : x = y := Nat.eq_of_testBit_eq (fun i => congrFun h i)
theorem one_lt {k : Nat} (h : k < 64) : 2 ^ k < 18446744073709551616 := by rw [top_is]; exact Nat.pow_lt_pow_right (by decide) h
theorem or_lt {x y : Nat} (hx : x < 18446744073709551616) (hy : y < 18446744073709551616) : x ||| y < 18446744073709551616 := by rw [top_is] at *; exact Nat.or_lt_two_pow hx hy
theorem bt_or (x y i : Nat) : bt (x ||| y) i = (bt x i || bt y i) := Nat.testBit_or x y i
theorem bt_one (k i : Nat) : bt (2 ^ k) i = decide (k = i) := Nat.testBit_two_pow
theorem bt_and (x y i : Nat) : bt (x &&& y) i = (bt x i && bt y i) := Nat.testBit_and x y i
theorem bt_not {y : Nat} (hy : y < 18446744073709551616) (i : Nat) : bt (18446744073709551615 - y) i = (decide (i < 64) && !bt y i) := by
 have := Nat.testBit_two_pow_sub_succ (n := 64) (x := y) (by rw [← top_is]; exact hy) i
 rw [← top_is, show 18446744073709551616 - (y + 1) = 18446744073709551615 - y by omega] at this
 exact this
theorem bt_minus {x y : Nat} (hx : x < 18446744073709551616) (hy : y < 18446744073709551616) (i : Nat) : bt (x &&& (18446744073709551615 - y)) i = (bt x i && !bt y i) := by
 rw [bt_and, bt_not hy]
 by_cases h : i < 64
 ·simp [h]
 ·rw [bt_out hx i (by omega)]; rfl
theorem minus_lt {x y : Nat} (hx : x < 18446744073709551616) : x &&& y < 18446744073709551616 := Nat.lt_of_le_of_lt Nat.and_le_left hx
def setN (l : List Nat) : Nat := l.foldl (fun s k => s ||| 2 ^ k) 0
theorem fold_bt : ∀ (l : List Nat) (s i : Nat), bt (l.foldl (fun s k => s ||| 2 ^ k) s) i = (bt s i || decide (i ∈ l))
 | [], s, i => by simp
 | k :: r, s, i => by
  rw [List.foldl_cons, fold_bt r, bt_or, bt_one]
  by_cases h : k = i
  ·subst h; simp
  ·have : ¬ i = k := fun e => h e.symm
   simp [h, this]
theorem bt_set (l : List Nat) (i : Nat) : bt (setN l) i = decide (i ∈ l) := by unfold setN; rw [fold_bt, bt_zero]; rfl
theorem fold_lt : ∀ (l : List Nat) (s : Nat), (∀ k ∈ l, k < 64) → s < 18446744073709551616 → l.foldl (fun s k => s ||| 2 ^ k) s < 18446744073709551616
 | [], s, _, h => h
 | k :: r, s, hl, h => fold_lt r _ (fun j hj => hl j (List.mem_cons_of_mem _ hj)) (or_lt h (one_lt (hl k (List.mem_cons_self ..))))
theorem set_lt {l : List Nat} (h : ∀ k ∈ l, k < 64) : setN l < 18446744073709551616 := fold_lt l 0 h (by decide)
theorem set_snoc (l : List Nat) (k : Nat) : setN (l ++ [k]) = setN l ||| 2 ^ k := by unfold setN; rw [List.foldl_append]; rfl
theorem set_take {l : List Nat} {j : Nat} (h : j < l.length) : setN (l.take (j + 1)) = setN (l.take j) ||| 2 ^ l[j] := by
 rw [List.take_add_one, List.getElem?_eq_getElem h, Option.toList_some, set_snoc]
theorem ctz_is {x : Nat} (h0 : x ≠ 0) (h : x < 18446744073709551616) : Go.Lib.ctz 64 x < 64 ∧ bt x (Go.Lib.ctz 64 x) = true ∧ ∀ i, i < Go.Lib.ctz 64 x → bt x i = false := by
 obtain ⟨m, hm, hk⟩ := Go.Lib.ctzFrom_spec 64 x (by omega) (by rw [← top_is]; exact h)
 have e : Go.Lib.ctz 64 x = Go.Lib.ctzFrom 64 x := by unfold Go.Lib.ctz; rw [if_neg h0]
 rw [← e] at hm hk
 generalize Go.Lib.ctz 64 x = k at hm hk
 refine ⟨hk, ?_, fun i hi => ?_⟩
 ·unfold bt
  rw [hm, Nat.mul_comm, Nat.testBit_mul_two_pow]
  simp [Nat.testBit_zero]
 ·unfold bt
  rw [hm, Nat.mul_comm, Nat.testBit_mul_two_pow]
  simp; omega
theorem meets {x k : Nat} : (x &&& 2 ^ k ≠ 0) ↔ bt x k = true := by
 constructor
 ·intro h
  by_cases q : bt x k = true
  ·exact q
  ·exfalso; apply h
   apply bt_ext
   funext i
   rw [bt_and, bt_one, bt_zero]
   by_cases e : k = i
   ·subst e; simp at q; rw [q]; rfl
   ·simp [e]
 ·intro h e
  have := congrArg (fun y => bt y k) e
  simp only [bt_and, bt_one, bt_zero, h] at this
  simp at this
end Go.Proofs.YtmajllgfmclcoaaGreatDoor.Sets
namespace Go.Proofs.YtmajllgfmclcoaaGreatDoor.Til
open Go.RowKit Dms Go.Joins
open Reg hiding add_none
theorem domInfo : (Tryz.prog.info? 63).map (fun i => (i.zero, i.size, i.bytes)) = some (some (.agg #[.int .i64 0, .int .i64 0, .bool false]), 3, 24) := by kernel_rfl
def DmPost (L : List Dm) (n : Nat) (w : World) (e : Ending) (w' : World) : Prop :=
 ∃ A cap, e = .returned (.slice A n cap) ∧ n ≤ cap ∧ w'.ownsRow w.heap.size 63 3 (.slice A n cap) n (rowM L) ∧ Below w.heap.size w w'
end Go.Proofs.YtmajllgfmclcoaaGreatDoor.Til
namespace Go.Proofs.YtmajllgfmclcoaaGreatDoor.Dss
open Go.RowKit Base Dms Go.Joins
open Reg hiding add_none
def blk (a : Option Addr) : Option Nat := a.map (·.block)
theorem ownBlock_slice (a : Option Addr) (n c : Nat) : (Value.slice a n c).ownBlock = blk a := by cases a <;> rfl
def Dif (a b : Option Addr) : Prop := ∀ g, blk a = some g → blk b ≠ some g
theorem Dif.symm {a b : Option Addr} (h : Dif a b) : Dif b a := fun g h1 h2 => h g h2 h1
theorem dif_types {W : World} {lo lo' e e' size size' n n' : Nat} {A A' : Option Addr} {c c' m m' : Nat} {xs xs' : List Value} (h : W.ownsRow lo e size (.slice A m c) n xs) (h' : W.ownsRow lo' e' size' (.slice A' m' c') n' xs') (hne : e ≠ e') : Dif A A' := by
 intro g h1 h2
 rcases h.2 with ⟨hv, _⟩ | ⟨g1, cap1, cur1, hv, _, hg1, _⟩
 ·injection hv with hA; subst hA; cases h1
 ·injection hv with hA; subst hA
  rcases h'.2 with ⟨hv', _⟩ | ⟨g2, cap2, cur2, hv', _, hg2, _⟩
  ·injection hv' with hA'; subst hA'; cases h2
  ·injection hv' with hA'; subst hA'
   simp [blk] at h1 h2
   subst h1; subst h2
   rw [hg1] at hg2
   injection hg2 with hg2
   injection hg2 with _ hg2
   exact hne hg2
def outs (h : Nat) (S : List (Option Addr × Nat)) : List Value := S.map fun s : Option Addr × Nat => Value.slice s.1 h s.2
theorem outs_length (h : Nat) (S : List (Option Addr × Nat)) : (outs h S).length = S.length := by unfold outs; simp
theorem outs_at {h : Nat} {S : List (Option Addr × Nat)} {i : Nat} {s : Option Addr × Nat} (hs : S[i]? = some s) : (outs h S)[i]? = some (.slice s.1 h s.2) := by unfold outs; rw [List.getElem?_map, hs]; rfl
def Ins (W : World) (lo hi h : Nat) (L : List (List Dm)) (S : List (Option Addr × Nat)) : Prop :=
 S.length = L.length ∧ (∀ (i : Nat) (s : Option Addr × Nat) (x : List Dm), S[i]? = some s → L[i]? = some x → RowIn W lo hi 63 3 (.slice s.1 h s.2) h (rowM x)) ∧ S.Pairwise (fun s t : Option Addr × Nat => Dif s.1 t.1)
def SSl (W : World) (lo hi : Nat) (A : Option Addr) (m cap h : Nat) (L : List (List Dm)) (S : List (Option Addr × Nat)) : Prop :=
 RowIn W lo hi 27 1 (.slice A m cap) m (outs h S) ∧ Ins W lo hi h L S
def SSIn (W : World) (lo hi : Nat) (A : Option Addr) (m cap h : Nat) (L : List (List Dm)) : Prop := ∃ S, SSl W lo hi A m cap h L S
theorem SSl.length {W : World} {lo hi m cap h : Nat} {A : Option Addr} {L : List (List Dm)} {S : List (Option Addr × Nat)} (k : SSl W lo hi A m cap h L S) : L.length = m ∧ S.length = m := by
 have h1 := k.1.1.1
 rw [outs_length] at h1
 have h2 := k.2.1
 omega
theorem Ins.nil (W : World) (lo hi h : Nat) : Ins W lo hi h [] [] := ⟨rfl, fun i s x hs => by simp at hs, List.Pairwise.nil⟩
theorem RowIn.wide {W : World} {lo hi lo' hi' e size n : Nat} {v : Value} {xs : List Value} (h : RowIn W lo hi e size v n xs) (h1 : lo' ≤ lo) (h2 : hi ≤ hi') : RowIn W lo' hi' e size v n xs :=
 ⟨own_base h.1 h1, fun g hg => by have := h.2 g hg; omega⟩
theorem Ins.wide {W : World} {lo hi lo' hi' h : Nat} {L : List (List Dm)} {S : List (Option Addr × Nat)} (k : Ins W lo hi h L S) (h1 : lo' ≤ lo) (h2 : hi ≤ hi') : Ins W lo' hi' h L S :=
 ⟨k.1, fun i s x hs hx => RowIn.wide (k.2.1 i s x hs hx) h1 h2, k.2.2⟩
theorem Ins.on {W W' : World} {lo hi h : Nat} {L : List (List Dm)} {S : List (Option Addr × Nat)} (k : Ins W lo hi h L S) (hb : Below W.heap.size W W') : Ins W' lo hi h L S :=
 ⟨k.1, fun i s x hs hx => (k.2.1 i s x hs hx).on hb, k.2.2⟩
theorem SSIn.wide {W : World} {lo hi lo' hi' m cap h : Nat} {A : Option Addr} {L : List (List Dm)} (k : SSIn W lo hi A m cap h L) (h1 : lo' ≤ lo) (h2 : hi ≤ hi') : SSIn W lo' hi' A m cap h L := by
 obtain ⟨S, k1, k2⟩ := k
 exact ⟨S, RowIn.wide k1 h1 h2, k2.wide h1 h2⟩
theorem rows_dif {W : World} {lo hi lo' hi' e e' size size' n n' m m' c c' : Nat} {A A' : Option Addr} {xs xs' : List Value} (h : RowIn W lo hi e size (.slice A m c) n xs) (h' : RowIn W lo' hi' e' size' (.slice A' m' c') n' xs') (hd : hi ≤ lo') : Dif A A' := by
 intro g h1 h2
 have a := h.2 g (by rw [ownBlock_slice]; exact h1)
 have b := (h'.1.lt g (by rw [ownBlock_slice]; exact h2)).1
 omega
theorem Ins.app {W : World} {lo hi lo' hi' h : Nat} {L L' : List (List Dm)} {S S' : List (Option Addr × Nat)} (k : Ins W lo hi h L S) (k' : Ins W lo' hi' h L' S') (h1 : lo ≤ hi) (hd : hi ≤ lo') (h2 : lo' ≤ hi') : Ins W lo hi' h (L ++ L') (S ++ S') := by
 refine ⟨by rw [List.length_append, List.length_append, k.1, k'.1], fun i s x hs hx => ?_, ?_⟩
 ·by_cases hi' : i < S.length
  ·rw [List.getElem?_append_left hi'] at hs
   rw [List.getElem?_append_left (by rw [← k.1]; exact hi')] at hx
   exact RowIn.wide (k.2.1 i s x hs hx) NR (by omega)
  ·rw [List.getElem?_append_right (by omega)] at hs
   rw [List.getElem?_append_right (by rw [← k.1]; omega), ← k.1] at hx
   exact RowIn.wide (k'.2.1 _ s x hs hx) (by omega) NR
 ·rw [List.pairwise_append]
  refine ⟨k.2.2, k'.2.2, fun s hs t ht => ?_⟩
  obtain ⟨i, hi1, e1⟩ := List.getElem_of_mem hs
  obtain ⟨j, hj1, e2⟩ := List.getElem_of_mem ht
  have r1 := k.2.1 i s _ (by rw [List.getElem?_eq_getElem hi1, e1]) (List.getElem?_eq_getElem (by rw [← k.1]; exact hi1))
  have r2 := k'.2.1 j t _ (by rw [List.getElem?_eq_getElem hj1, e2]) (List.getElem?_eq_getElem (by rw [← k'.1]; exact hj1))
  exact rows_dif r1 r2 hd
theorem Ins.one {W : World} {lo hi h c : Nat} {A : Option Addr} {x : List Dm} (k : RowIn W lo hi 63 3 (.slice A h c) h (rowM x)) : Ins W lo hi h [x] [(A, c)] := by
 refine ⟨rfl, fun i s y hs hy => ?_, by simp⟩
 cases i with
 | zero => simp at hs hy; subst hs; subst hy; exact k
 | succ i => simp at hs
def RowSS (w : World) (B : Nat) (A : Option Addr) (m h : Nat) (L : List (List Dm)) : Prop :=
 ∃ (b : Nat) (S : List (Option Addr × Nat)), S.length = L.length ∧ (0 < m → A = some ⟨b, 0, none⟩ ∧ b < B) ∧ ∀ (i : Nat) (s : Option Addr × Nat) (x : List Dm), S[i]? = some s → L[i]? = some x → w.cell? ⟨b, i, none⟩ = some (.slice s.1 h s.2) ∧ RowM w B s.1 x
theorem ss_row {W : World} {lo hi m cap h : Nat} {A : Option Addr} {L : List (List Dm)} (k : SSIn W lo hi A m cap h L) : RowSS W W.heap.size A m h L := by
 obtain ⟨S, k⟩ := k
 have hl := k.length
 by_cases h0 : 0 < m
 ·obtain ⟨g, c, hv, _, hlt⟩ := k.1.1.form (by omega)
  injection hv with hA
  subst hA
  refine ⟨g, S, k.2.1, fun _ => ⟨rfl, hlt⟩, fun i s x hs hx => ⟨?_, rowM_own (k.2.2.1 i s x hs hx).1⟩⟩
  have := k.1.1.cells (g := g) rfl i _ (outs_at hs)
  rwa [Base.add_plain] at this
 ·refine ⟨0, S, k.2.1, fun q => by omega, fun i s x hs hx => ?_⟩
  have := (List.getElem?_eq_some_iff.1 hs).1
  omega
theorem RowSS.below {w w' : World} {B B' : Nat} {A : Option Addr} {m h : Nat} {L : List (List Dm)} (k : RowSS w B A m h L) (hm : L.length = m) (hb : Below B' w w') (hB : B ≤ B') : RowSS w' B A m h L := by
 obtain ⟨b, S, h1, h2, h3⟩ := k
 refine ⟨b, S, h1, h2, fun i s x hs hx => ?_⟩
 obtain ⟨a, c⟩ := h3 i s x hs hx
 have h0 : 0 < m := by have := (List.getElem?_eq_some_iff.1 hx).1; omega
 exact ⟨(hb.cell (p := ⟨b, i, none⟩) (by show b < _; have := (h2 h0).2; omega)).trans a, c.below hb hB⟩
end Go.Proofs.YtmajllgfmclcoaaGreatDoor.Dss
namespace Go.Proofs.YtmajllgfmclcoaaGreatDoor.Lis
open Go.RowKit Go.Proofs.YtmajllgfmclcoaaGreatDoor.Pure Go.Proofs.YtmajllgfmclcoaaGreatDoor.Cell Dom Dms Til Dss Go.Joins
open Cnt (gR tiles gR_in gR_out)
open Reg hiding add_none RC rc_start
theorem append_any {P : Program} (w : World) {ops : Array Oper} {rest : List Oper} {o : Oper} {a : Act} {Q : Exit → Act → World → Prop} (hgd : o.guard = none) (s x : Operand) (t : TypeId)
  (ho : o.op = .call { callee := .builtin .append, args := #[s, x], argTypes := #[t, t] })
  (base : Nat) (e : TypeId) (i : TypeInfo) (z : Value) (size bytes : Nat) (ht : P.underlying t = some (.slice e)) (hi : P.info? e = some i) (hz : i.zero = some z)
  (hsize : i.size = size) (hby : i.bytes = bytes) (hzs : z.cells.size = size) (hsz : 0 < size)
  (g n cap : Nat) (xs : List Value) (hs : a.eval s = .slice (some ⟨g, 0, none⟩) n cap) (hown : w.ownsRow base e size (.slice (some ⟨g, 0, none⟩) n cap) n xs)
  (ad : Addr) (m c : Nat) (news : List Value) (hx : a.eval x = .slice (some ad) m c) (hl : news.length = m * size) (hnews : ∀ j u, news[j]? = some u → w.cell? (ad.add j) = some u) (h1 : ∀ u ∈ news, u.oneCell' = true)
  (h63 : n + m ≤ maxLen) (hbytes : (n + m) * bytes ≤ 140737488355328) (hbase : base ≤ w.heap.size)
  (h : ∀ g' cap' w', w'.ownsRow base e size (.slice (some ⟨g', 0, none⟩) (n + m) cap') (n + m) (xs ++ news) → w.grownBy w' (some g) → (g' = g ∨ g' = w.heap.size) → g' < w'.heap.size → wpList P ops Q rest (a.put o.dst (.slice (some ⟨g', 0, none⟩) (n + m) cap')) w') : wpList P ops Q (o :: rest) a w := by
 rcases Nat.eq_zero_or_pos m with h0 | h0
 ·refine wpList_append_fits w hgd s x t ho base e i size ht hi hsize g n cap xs hs hown ad m c news hx hl hnews h1 (by
   rcases hown.2 with ⟨q, _⟩ | ⟨g', cap', cur, q, _, _, h1, _⟩
   ·cases q
   ·injection q with _ _ qc
    subst qc; omega) ?_
  intro w' k1 k2
  exact h g cap w' k1 k2 (.inl rfl) (k1.lt g rfl).2
 ·refine wpList_append_lies w hgd s x t ho base e i z size bytes ht hi hz hsize hby hzs hsz _ n xs hs hown ad m c news hx hl hnews h1 h0 h63 hbytes hbase w.heap.size rfl ?_
  intro g' cap' w' k1 k2 k3 k4
  refine h g' cap' w' k1 k2 ?_ k4
  rcases k3 with k3 | k3
  ·injection k3 with k3; exact .inl k3.symm
  ·exact .inr k3
theorem step_append_any {P : Program} (w : World) {ops : Array Oper} {o : Oper} {a : Act} {K : Act → World → Prop} {Q : Exit → Act → World → Prop} {E : Prop} (hgd : o.guard = none) (s x : Operand) (t : TypeId)
  (ho : o.op = .call { callee := .builtin .append, args := #[s, x], argTypes := #[t, t] })
  (base : Nat) (e : TypeId) (i : TypeInfo) (z : Value) (size bytes : Nat) (ht : P.underlying t = some (.slice e)) (hi : P.info? e = some i) (hz : i.zero = some z)
  (hsize : i.size = size) (hby : i.bytes = bytes) (hzs : z.cells.size = size) (hsz : 0 < size)
  (g n cap : Nat) (xs : List Value) (hs : a.eval s = .slice (some ⟨g, 0, none⟩) n cap) (hown : w.ownsRow base e size (.slice (some ⟨g, 0, none⟩) n cap) n xs)
  (ad : Addr) (m c : Nat) (news : List Value) (hx : a.eval x = .slice (some ad) m c) (hl : news.length = m * size) (hnews : ∀ j u, news[j]? = some u → w.cell? (ad.add j) = some u) (h1 : ∀ u ∈ news, u.oneCell' = true)
  (h63 : n + m ≤ maxLen) (hbytes : (n + m) * bytes ≤ 140737488355328) (hbase : base ≤ w.heap.size)
  (h : ∀ g' cap' w', w'.ownsRow base e size (.slice (some ⟨g', 0, none⟩) (n + m) cap') (n + m) (xs ++ news) → w.grownBy w' (some g) → (g' = g ∨ g' = w.heap.size) → g' < w'.heap.size → K (a.put o.dst (.slice (some ⟨g', 0, none⟩) (n + m) cap')) w') :
  if Region.wanted o (yielded ops a.tmps) = true then Oper.wp P o a w K Q else E := by
 have hw : Region.wanted o (yielded ops a.tmps) = true := by simp [Region.wanted, hgd]
 rw [if_pos hw]
 rcases Nat.eq_zero_or_pos m with h0 | h0
 ·obtain ⟨w', hr, k1, k2⟩ := run_append_fits (P := P) w base t o.type e i size ht hi hsize g n cap xs hown ad m c news hl hnews h1 (by
   rcases hown.2 with ⟨q, _⟩ | ⟨g', cap', cur, q, _, _, h1, _⟩
   ·cases q
   ·injection q with _ _ qc
    subst qc; omega)
  unfold Oper.wp execOp
  simp only [ho, resolve, invoke, builtin, Sem.run_bind, Sem.run_pure, Result.andThen_ok, List.map_toArray, List.map_cons, List.map_nil, hs, hx, hr]
  exact h g cap w' k1 k2 (.inl rfl) (k1.lt g rfl).2
 ·refine wp_append_lies w s x t ho base e i z size bytes ht hi hz hsize hby hzs hsz _ n xs hs hown ad m c news hx hl hnews h1 h0 h63 hbytes hbase w.heap.size rfl ?_
  intro g' cap' w' k1 k2 k3 k4
  refine h g' cap' w' k1 k2 ?_ k4
  rcases k3 with k3 | k3
  ·injection k3 with k3; exact .inl k3.symm
  ·exact .inr k3
def SSPost (L : List (List Dm)) (h : Nat) (w : World) (e : Ending) (w' : World) : Prop :=
 ∃ g cap, e = .returned (.slice (some ⟨g, 0, none⟩) L.length cap) ∧ SSIn w' w.heap.size w'.heap.size (some ⟨g, 0, none⟩) L.length cap h L ∧ Below w.heap.size w w'
structure Lst (w : World) (va : Value) (bC offC : Nat) (C : List (Int × Int)) (h : Nat) (L : List (List Dm)) (go co : Nat) (W : World) : Prop where
 bel : Below w.heap.size w W
 box : Rg W w.heap.size va
 cs : RdC W bC offC C
 ne : 0 < C.length → w.heap.size + 2 ≤ bC ∧ go ≠ bC
 out : ∃ S, W.ownsRow (w.heap.size + 1) 27 1 (.slice (some ⟨go, 0, none⟩) L.length co) L.length (outs h S) ∧ Ins W (w.heap.size + 1) W.heap.size h L S
section
variable {w : World} {va : Value} {bC offC : Nat} {C : List (Int × Int)} {h : Nat} {L : List (List Dm)} {go co : Nat} {W W' : World}
theorem Lst.on (k : Lst w va bC offC C h L go co W) (hb : Below W.heap.size W W') : Lst w va bC offC C h L go co W' := by
 obtain ⟨S, s1, s2⟩ := k.out
 exact ⟨k.bel.trans (hb.mono k.bel.size), k.box.on hb, k.cs.on hb, k.ne, S, Reg.own_below s1 hb NR, (s2.on hb).wide NR hb.size⟩
theorem Lst.drew (k : Lst w va bC offC C h L go co W) : Lst w va bC offC C h L go co W.drew := by
 obtain ⟨S, s1, s2⟩ := k.out
 exact ⟨k.bel.drew, k.box, k.cs, k.ne, S, s1, s2⟩
theorem Ins.grown {lo hi lo' m c g : Nat} {xs : List Value} {S : List (Option Addr × Nat)} (k : Ins W lo hi h L S) (ho : W.ownsRow lo' 27 1 (.slice (some ⟨g, 0, none⟩) m c) m xs) (hg : W.grownBy W' (some g)) : Ins W' lo hi h L S := by
 refine ⟨k.1, fun i s x hs hx => ?_, k.2.2⟩
 have r := k.2.1 i s x hs hx
 refine ⟨r.1.kept hg (.inr (fun e => ?_)), r.2⟩
 rw [ownBlock_slice] at e
 exact dif_types ho r.1 (by decide) g rfl e
theorem Lst.app {S' : List (Option Addr × Nat)} {L' : List (List Dm)} {go' co' m' : Nat} (k : Lst w va bC offC C h L go co W) (S : List (Option Addr × Nat)) (hS : W.ownsRow (w.heap.size + 1) 27 1 (.slice (some ⟨go, 0, none⟩) L.length co) L.length (outs h S))
  (hI : Ins W (w.heap.size + 1) W.heap.size h (L ++ L') (S ++ S')) (hm : m' = (L ++ L').length) (hg : W.grownBy W' (some go)) (hat : go' = go ∨ go' = W.heap.size)
  (hown : W'.ownsRow (w.heap.size + 1) 27 1 (.slice (some ⟨go', 0, none⟩) m' co') m' (outs h S ++ outs h S')) : Lst w va bC offC C h (L ++ L') go' co' W' := by
 subst hm
 have hgo := hS.lt go rfl
 refine ⟨k.bel.grown hg k.bel.size (fun j hj => by injection hj; omega), (hg.block _ k.box.lt (by intro e; injection e with e; omega)).trans k.box, k.cs.grown hg (fun h0 => (k.ne h0).2), fun h0 => ⟨(k.ne h0).1, ?_⟩, S ++ S', ?_, (Ins.grown hI hS hg).wide NR hg.size⟩
 ·have a := k.ne h0
  have b := k.cs.1 h0
  rcases hat with e | e <;> omega
 ·have e : outs h (S ++ S') = outs h S ++ outs h S' := by unfold outs; rw [List.map_append]
  rw [e]; exact hown
theorem Lst.post (k : Lst w va bC offC C h L go co W) : SSPost L h w (.returned (.slice (some ⟨go, 0, none⟩) L.length co)) W := by
 obtain ⟨S, s1, s2⟩ := k.out
 exact ⟨go, co, rfl, ⟨S, ⟨Reg.own_base s1 (by omega), fun g hg => (s1.lt g hg).2⟩, s2.wide (by omega) NR⟩, k.bel⟩
end
theorem can_is {xs : List Int} (ho : okR xs) {M : List Dm} {c : Nat} (hc : c < 64) (b : Bool) : canB xs M c b = (okM (dmN c b) && (hasB xs (sx (dmN c b).1 b) (sy (dmN c b).2.1 b) && !anyM M (sx (dmN c b).1 b) (sy (dmN c b).2.1 b))) := by
 rw [Bool.eq_iff_iff]
 constructor
 ·intro h
  obtain ⟨h1, h2, h3⟩ := can_lt h
  obtain ⟨o1, o2, o3⟩ := oth_ok h1 h2
  rw [gM_iff] at h3
  rw [o1, o2, o3, has_place ho h3.1, h3.2]; rfl
 ·intro h
  rw [Bool.and_eq_true, Bool.and_eq_true] at h
  obtain ⟨h1, h2, h3⟩ := h
  have hk : (b = false → c % 8 ≠ 7) ∧ oth c b < 64 := by
   unfold okM domB dmN at h1
   rw [Bool.and_eq_true, okB_iff, okB_iff] at h1
   unfold Ok at h1
   cases b
   ·simp only [sx, sy, Bool.false_eq_true, if_false] at h1
    unfold wrap64 at h1
    unfold oth
    simp only [Bool.false_eq_true, if_false]
    exact ⟨fun _ => by omega, by omega⟩
   ·simp only [sx, sy, if_true] at h1
    unfold wrap64 at h1
    unfold oth
    simp only [if_true]
    first
     | omega
     | exact ⟨fun h => (by cases h), by omega⟩
     | exact ⟨trivial, by omega⟩
     | exact ⟨fun _ => by omega, by omega⟩
  obtain ⟨o1, o2, o3⟩ := oth_ok hk.2 hk.1
  rw [o2, o3] at h2 h3
  unfold canB
  have g := place_has hk.2 h2
  have : gM xs M (oth c b) = true := gM_iff.2 ⟨g, by simpa using h3⟩
  rw [this, Bool.and_true]
  cases b
  ·simpa using hk.1 rfl
  ·rfl
def pre (xs : List Int) (M : List Dm) (c t : Nat) : List (List Dm) := if t = 0 then [] else if t = 1 then one xs M c false else one xs M c false ++ one xs M c true
theorem pre_step {xs : List Int} {M : List Dm} {c t : Nat} (ht : t < 2) : pre xs M c (t + 1) = pre xs M c t ++ one xs M c (decide (t = 1)) := by
 match t, ht with
 | 0, _ => simp [pre]
 | 1, _ => simp [pre]
theorem pre_full {xs : List Int} {M : List Dm} {c t : Nat} (ht : t ≤ 2) : ∃ Y, pre xs M c 2 = pre xs M c t ++ Y := by
 match t, ht with
 | 0, _ => exact ⟨_, by simp [pre]; rfl⟩
 | 1, _ => exact ⟨one xs M c true, by simp [pre]⟩
 | 2, _ => exact ⟨[], by simp⟩
theorem pre_stop {xs : List Int} {M : List Dm} {c t most : Nat} {L : List (List Dm)} (ht : t ≤ 2) (hL : L = (pre xs M c t).take most) (h : t = 2 ∨ most ≤ L.length) : L = (pre xs M c 2).take most := by
 rcases h with h | h
 ·rw [hL, h]
 ·obtain ⟨Y, e⟩ := pre_full (xs := xs) (M := M) (c := c) ht
  rw [e, take_two, hL]
  have hl : most ≤ (pre xs M c t).length := by rw [hL, List.length_take] at h; omega
  rw [show most - (pre xs M c t).length = 0 by omega, List.take_zero, List.append_nil]
theorem pre_more {xs : List Int} {M : List Dm} {c t most : Nat} {L : List (List Dm)} (ht : t < 2) (hL : L = (pre xs M c t).take most) (hlt : L.length < most) : (pre xs M c (t + 1)).take most = L ++ (one xs M c (decide (t = 1))).take (most - L.length) := by
 rw [pre_step ht, take_two, ← hL]
 congr 2
 rw [hL, List.length_take] at hlt ⊢
 omega
theorem cont_half {xs : List Int} (ho : okR xs) {M : List Dm} {k : Nat} (hb : Beg xs k M) (hk : k ≤ 64) (h0 : ∀ i, i < k → gM xs M i = false) : ∀ L ∈ cont xs M, L.length = (cellsR xs).length / 2 := by
 intro L hL
 unfold cont at hL
 obtain ⟨L', hL', rfl⟩ := List.mem_map.1 hL
 rw [LsG_from h0 hk] at hL'
 exact til_half (Ls_til ho (64 - k) k M (by omega) hb h0 L' hL')
end Go.Proofs.YtmajllgfmclcoaaGreatDoor.Lis
