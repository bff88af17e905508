/- Flo, FlM, NbS in one text. -/
import Derived.Test.YtmajllgfmclcoaaGreatDoorMd07
import Derived.Test.YtmajllgfmclcoaaGreatDoorMd10
import Derived.Test.YtmajllgfmclcoaaGreatDoorMd09
import Derived.Test.YtmajllgfmclcoaaGreatDoorMd00
import Derived.OwnWalk
import Derived.Laws.AppendOwn
import Derived.Deep.AppendLies
set_option linter.unusedVariables false
namespace Go.Proofs.YtmajllgfmclcoaaGreatDoor.Flo
open Euler Bal
def clsF (xs : List Int) (g : Bool) (v : Nat) : Bool := cR xs v == g
def esF (xs : List Int) (g : Bool) : List (Nat × Nat) := bif g then pe xs else h8 (cR xs)
def labF (xs : List Int) (g : Bool) (v : Nat) : Nat := lab (esF xs g) v
def nbD (i j : Nat) : Bool := (i / 8 == j / 8 && (i == j + 1 || j == i + 1)) || i == j + 8 || j == i + 8
theorem nbD_iff {i j : Nat} : nbD i j = true ↔ nbI i j := by unfold nbD nbI; simp [Bool.or_eq_true, Bool.and_eq_true, or_assoc]
def inTo (u k : Nat) : Bool := decide (1 ≤ u / 10 + k / 3) && decide (u / 10 + k / 3 ≤ 10) && decide (1 ≤ u % 10 + k % 3) && decide (u % 10 + k % 3 ≤ 10)
def toP (u k : Nat) : Nat := 10 * (u / 10 + k / 3 - 1) + (u % 10 + k % 3 - 1)
def ringTo (u k : Nat) : List Nat := ((List.range k).filter (inTo u)).map (toP u)
def joinF (g : Bool) (u : Nat) : List Nat := bif g then ((List.range 64).filter (nbD (oi u))).map io else ringTo u 9
theorem ringTo_yes {u k : Nat} (h : inTo u k = true) : ringTo u (k + 1) = ringTo u k ++ [toP u k] := by unfold ringTo; rw [List.range_succ, List.filter_append, List.map_append]; simp [h]
theorem ringTo_no {u k : Nat} (h : inTo u k = false) : ringTo u (k + 1) = ringTo u k := by unfold ringTo; rw [List.range_succ, List.filter_append, List.map_append]; simp [h]
theorem ringTo_length (u k : Nat) : (ringTo u k).length ≤ k := by unfold ringTo; rw [List.length_map]; exact Nat.le_trans (List.length_filter_le _ _) (by simp)
theorem joinF_length (g : Bool) (u : Nat) : (joinF g u).length ≤ 64 := by
 cases g
 ·exact Nat.le_trans (ringTo_length u 9) (by omega)
 ·show (((List.range 64).filter (nbD (oi u))).map io).length ≤ 64
  rw [List.length_map]; exact Nat.le_trans (List.length_filter_le _ _) (by simp)
theorem toP_adj {u k : Nat} (hk : k < 9) (h : inTo u k = true) : toP u k < 100 ∧ adj8 u (toP u k) = true := by
 unfold inTo at h
 simp only [Bool.and_eq_true, decide_eq_true_eq] at h
 have e1 : toP u k / 10 = u / 10 + k / 3 - 1 := by unfold toP; omega
 have e2 : toP u k % 10 = u % 10 + k % 3 - 1 := by unfold toP; omega
 refine ⟨by unfold toP; omega, ?_⟩
 unfold adj8
 rw [e1, e2]
 simp only [Bool.and_eq_true, decide_eq_true_eq]
 omega
theorem adj_toP {u v : Nat} (hu : u < 100) (hv : v < 100) (h : adj8 u v = true) : v ∈ joinF false u := by
 show v ∈ ringTo u 9
 unfold adj8 at h
 simp only [Bool.and_eq_true, decide_eq_true_eq] at h
 unfold ringTo
 rw [List.mem_map]
 refine ⟨3 * (v / 10 + 1 - u / 10) + (v % 10 + 1 - u % 10), ?_, ?_⟩
 ·rw [List.mem_filter, List.mem_range]
  refine ⟨by omega, ?_⟩
  unfold inTo
  simp only [Bool.and_eq_true, decide_eq_true_eq]
  omega
 ·unfold toP; omega
theorem keepF (xs : List Int) (g : Bool) {u v : Nat} (h : labF xs g u = labF xs g v) : clsF xs g u = clsF xs g v := by
 have kc : ∀ v, cR xs (lab (esF xs g) v) = cR xs v := lab_keeps (cR xs) (esF xs g) (fun e he => by
  cases g
  ·obtain ⟨k, hk, ho, rfl, c1, c2⟩ := h8_ends he
   rw [c1, c2]
  ·obtain ⟨a, b, ha, hb, rfl, _, b1, b2⟩ := pe_ends he
   show cR xs (io a) = cR xs (io b)
   rw [cR_io xs ha, cR_io xs hb, b1, b2])
 unfold labF at h
 unfold clsF
 rw [← kc u, ← kc v, h]
theorem edgeF (xs : List Int) (g : Bool) {e : Nat × Nat} (he : e ∈ esF xs g) : e.1 < 100 ∧ e.2 < 100 ∧ clsF xs g e.1 = true ∧ clsF xs g e.2 = true ∧ e.2 ∈ joinF g e.1 ∧ e.1 ∈ joinF g e.2 := by
 cases g
 ·obtain ⟨k, hk, ho, rfl, c1, c2⟩ := h8_ends he
  have l := n8_lt k hk ho
  have t := n8_adj k hk ho
  exact ⟨l.1, l.2, by unfold clsF; rw [c1]; rfl, by unfold clsF; rw [c2]; rfl, adj_toP l.1 l.2 t.1, adj_toP l.2 l.1 t.2⟩
 ·obtain ⟨i, j, hi, hj, rfl, hn, b1, b2⟩ := pe_ends he
  refine ⟨(io_lt hi).1, (io_lt hj).1, by unfold clsF; rw [show ((io i, io j) : Nat × Nat).1 = io i from rfl, cR_io xs hi, b1]; rfl, by unfold clsF; rw [show ((io i, io j) : Nat × Nat).2 = io j from rfl, cR_io xs hj, b2]; rfl, ?_, ?_⟩
  ·show io j ∈ ((List.range 64).filter (nbD (oi (io i)))).map io
   exact List.mem_map_of_mem (List.mem_filter.2 ⟨List.mem_range.2 hj, by rw [oi_io]; exact nbD_iff.2 hn⟩)
  ·show io i ∈ ((List.range 64).filter (nbD (oi (io j)))).map io
   exact List.mem_map_of_mem (List.mem_filter.2 ⟨List.mem_range.2 hi, by rw [oi_io]; exact nbD_iff.2 hn.symm⟩)
theorem joinF_lt {g : Bool} {u v : Nat} (h : v ∈ joinF g u) : v < 100 := by
 cases g
 ·change v ∈ ringTo u 9 at h
  unfold ringTo at h
  obtain ⟨k, hk, rfl⟩ := List.mem_map.1 h
  obtain ⟨h1, h2⟩ := List.mem_filter.1 hk
  exact (toP_adj (List.mem_range.1 h1) h2).1
 ·obtain ⟨j, hj, rfl⟩ := List.mem_map.1 h
  exact (io_lt (List.mem_range.1 (List.mem_filter.1 hj).1)).1
theorem joinF_same (xs : List Int) {g : Bool} {u v : Nat} (hu : u < 100) (h : v ∈ joinF g u) (h1 : clsF xs g u = true) (h2 : clsF xs g v = true) : labF xs g u = labF xs g v := by
 have hv := joinF_lt h
 unfold clsF at h1 h2
 rw [beq_iff_eq] at h1 h2
 cases g
 ·change v ∈ ringTo u 9 at h
  unfold ringTo at h
  obtain ⟨k, hk, rfl⟩ := List.mem_map.1 h
  obtain ⟨k1, k2⟩ := List.mem_filter.1 hk
  exact join8 hu hv (toP_adj (List.mem_range.1 k1) k2).2 h1 h2
 ·obtain ⟨j, hj, rfl⟩ := List.mem_map.1 h
  obtain ⟨k1, k2⟩ := List.mem_filter.1 hj
  obtain ⟨l, e, b⟩ := cR_in hu h1
  have hj64 := List.mem_range.1 k1
  have := pe_join l hj64 (nbD_iff.1 k2) b (by rw [← cR_io xs hj64]; exact h2)
  rw [e] at this
  exact this
def Spr (xs : List Int) (g : Bool) (M : Nat → Bool) (v : Nat) (M' : Nat → Bool) : Prop :=
 (∀ u, M u = true → M' u = true) ∧ M' v = true ∧ (∀ u, u < 100 → M' u = true → M u = true ∨ (clsF xs g u = true ∧ labF xs g u = labF xs g v)) ∧
 (∀ u w, u < 100 → M' u = true → M u = false → w ∈ joinF g u → clsF xs g w = true → M' w = true)
def Mid (xs : List Int) (g : Bool) (M : Nat → Bool) (v : Nat) (K : List Nat) (M' : Nat → Bool) : Prop :=
 (∀ u, M u = true → M' u = true) ∧ M' v = true ∧ (∀ u, u < 100 → M' u = true → M u = true ∨ (clsF xs g u = true ∧ labF xs g u = labF xs g v)) ∧
 (∀ u w, u < 100 → M' u = true → M u = false → u ≠ v → w ∈ joinF g u → clsF xs g w = true → M' w = true) ∧ (∀ w, w ∈ K → clsF xs g w = true → M' w = true)
def putM (M : Nat → Bool) (v : Nat) (u : Nat) : Bool := M u || u == v
theorem putM_self (M : Nat → Bool) (v : Nat) : putM M v v = true := by unfold putM; simp
theorem putM_of {M : Nat → Bool} {v u : Nat} (h : M u = true) : putM M v u = true := by unfold putM; rw [h]; rfl
theorem putM_or {M : Nat → Bool} {v u : Nat} (h : putM M v u = true) : M u = true ∨ u = v := by unfold putM at h; simpa using h
theorem Mid.start {xs : List Int} {g : Bool} {M : Nat → Bool} {v : Nat} (hc : clsF xs g v = true) : Mid xs g M v [] (putM M v) := by
 refine ⟨fun u h => putM_of h, putM_self M v, ?_, ?_, fun w h => absurd h List.not_mem_nil⟩
 ·intro u _ h
  rcases putM_or h with h | rfl
  ·exact .inl h
  ·exact .inr ⟨hc, rfl⟩
 ·intro u w _ h h0 hne
  rcases putM_or h with h | rfl
  ·rw [h] at h0; cases h0
  ·exact absurd rfl hne
theorem Mid.skip {xs : List Int} {g : Bool} {M M' : Nat → Bool} {v : Nat} {K : List Nat} {w : Nat} (h : Mid xs g M v K M') (hw : clsF xs g w = true → M' w = true) : Mid xs g M v (K ++ [w]) M' := by
 obtain ⟨a, b, c, d, e⟩ := h
 refine ⟨a, b, c, d, fun x hx hc => ?_⟩
 rcases List.mem_append.1 hx with hx | hx
 ·exact e x hx hc
 ·rw [List.mem_singleton] at hx; subst hx; exact hw hc
theorem Mid.call {xs : List Int} {g : Bool} {M M' M2 : Nat → Bool} {v : Nat} {K : List Nat} {w : Nat} (h : Mid xs g M v K M') (hv : v < 100) (hcv : clsF xs g v = true) (hj : w ∈ joinF g v) (hcw : clsF xs g w = true) (hs : Spr xs g M' w M2) : Mid xs g M v (K ++ [w]) M2 := by
 obtain ⟨a, b, c, d, e⟩ := h
 obtain ⟨s1, s2, s3, s4⟩ := hs
 have hl := joinF_same xs hv hj hcv hcw
 refine ⟨fun u hu => s1 u (a u hu), s1 v b, ?_, ?_, ?_⟩
 ·intro u hu h2
  rcases s3 u hu h2 with h2 | ⟨h2, h3⟩
  ·exact c u hu h2
  ·exact .inr ⟨h2, h3.trans hl.symm⟩
 ·intro u x hu h2 h0 hne hx hc
  cases hM : M' u
  ·exact s4 u x hu h2 hM hx hc
  ·exact s1 x (d u x hu hM h0 hne hx hc)
 ·intro x hx hc
  rcases List.mem_append.1 hx with hx | hx
  ·exact s1 x (e x hx hc)
  ·rw [List.mem_singleton] at hx; subst hx; exact s2
theorem Mid.done {xs : List Int} {g : Bool} {M M' : Nat → Bool} {v : Nat} (h : Mid xs g M v (joinF g v) M') : Spr xs g M v M' := by
 obtain ⟨a, b, c, d, e⟩ := h
 refine ⟨a, b, c, fun u w hu h2 h0 hw hc => ?_⟩
 by_cases hne : u = v
 ·subst hne; exact e w hw hc
 ·exact d u w hu h2 h0 hne hw hc
def Cl (xs : List Int) (g : Bool) (k : Nat) (M : Nat → Bool) : Prop := ∀ u, u < 100 → (M u = true ↔ clsF xs g u = true ∧ ∃ j, j < k ∧ clsF xs g j = true ∧ labF xs g j = labF xs g u)
def partsTo (xs : List Int) (g : Bool) (k : Nat) : Nat := cnt k (fun v => clsF xs g v && least (esF xs g) v)
theorem Cl.start (xs : List Int) (g : Bool) : Cl xs g 0 (fun _ => false) := fun u _ => ⟨fun h => (by cases h), fun ⟨_, j, h, _⟩ => (by omega)⟩
theorem Cl.out {xs : List Int} {g : Bool} {k : Nat} {M : Nat → Bool} (h : Cl xs g k M) (hc : clsF xs g k = false) : Cl xs g (k + 1) M ∧ partsTo xs g (k + 1) = partsTo xs g k := by
 refine ⟨fun u hu => (h u hu).trans ⟨fun ⟨a, j, b, c⟩ => ⟨a, j, (by omega), c⟩, fun ⟨a, j, b, c⟩ => ⟨a, j, ?_, c⟩⟩, ?_⟩
 ·rcases Nat.lt_succ_iff_lt_or_eq.1 b with b | rfl
  ·exact b
  ·rw [c.1] at hc; cases hc
 ·unfold partsTo; simp only [cnt]; rw [hc]; rfl
theorem Cl.old {xs : List Int} {g : Bool} {k : Nat} {M : Nat → Bool} (h : Cl xs g k M) (hk : k < 100) (hm : M k = true) : Cl xs g (k + 1) M ∧ partsTo xs g (k + 1) = partsTo xs g k := by
 obtain ⟨hck, j0, hj0, hcj, hl⟩ := (h k hk).1 hm
 refine ⟨fun u hu => (h u hu).trans ⟨fun ⟨a, j, b, c⟩ => ⟨a, j, (by omega), c⟩, fun ⟨a, j, b, c⟩ => ?_⟩, ?_⟩
 ·rcases Nat.lt_succ_iff_lt_or_eq.1 b with b | rfl
  ·exact ⟨a, j, b, c⟩
  ·exact ⟨a, j0, hj0, hcj, hl.trans c.2⟩
 ·have : least (esF xs g) k = false := by
   cases q : least (esF xs g) k
   ·rfl
   ·exact absurd hl (least_iff.1 q j0 hj0)
  unfold partsTo; simp only [cnt]; rw [this, Bool.and_false]; rfl
theorem Spr.all {xs : List Int} {g : Bool} {k : Nat} {M M' : Nat → Bool} (h : Cl xs g k M) (hk : k < 100) (hc : clsF xs g k = true) (hm : M k = false) (hs : Spr xs g M k M') {u : Nat} (hu : u < 100) (hl : labF xs g u = labF xs g k) : M' u = true := by
 obtain ⟨s1, s2, s3, s4⟩ := hs
 have q := flood (es := esF xs g) (seen := fun v => decide (v < 100) && M' v && !M v) (a := k)
  (by show (decide (k < 100) && M' k && !M k) = true; rw [decide_eq_true hk, s2, hm]; rfl)
  (fun v hv => by
   simp only [Bool.and_eq_true, decide_eq_true_eq, Bool.not_eq_true'] at hv
   rcases s3 v hv.1.1 hv.1.2 with q | q
   ·rw [hv.2] at q; cases q
   ·exact q.2)
  (fun e he => by
   obtain ⟨e1, e2, c1, c2, j1, j2⟩ := edgeF xs g he
   have same := lab_edge _ _ he
   show (decide (e.1 < 100) && M' e.1 && !M e.1) = (decide (e.2 < 100) && M' e.2 && !M e.2)
   have mm : M e.1 = M e.2 := by
    rw [Bool.eq_iff_iff, h _ e1, h _ e2]
    exact ⟨fun ⟨_, j, a, b, c⟩ => ⟨c2, j, a, b, c.trans same⟩, fun ⟨_, j, a, b, c⟩ => ⟨c1, j, a, b, c.trans same.symm⟩⟩
   rw [decide_eq_true e1, decide_eq_true e2, mm]
   cases hM : M e.2
   ·rw [Bool.eq_iff_iff]
    simp only [Bool.true_and, Bool.not_false, Bool.and_true]
    exact ⟨fun q => s4 _ _ e1 q (mm.trans hM) j1 c2, fun q => s4 _ _ e2 q hM j2 c1⟩
   ·simp) u
 have q2 : (decide (u < 100) && M' u && !M u) = (lab (esF xs g) u == lab (esF xs g) k) := q
 unfold labF at hl
 rw [hl, beq_self_eq_true] at q2
 simp only [Bool.and_eq_true] at q2
 exact q2.1.2
theorem Cl.new {xs : List Int} {g : Bool} {k : Nat} {M M' : Nat → Bool} (h : Cl xs g k M) (hk : k < 100) (hc : clsF xs g k = true) (hm : M k = false) (hs : Spr xs g M k M') : Cl xs g (k + 1) M' ∧ partsTo xs g (k + 1) = partsTo xs g k + 1 := by
 refine ⟨fun u hu => ⟨fun q => ?_, fun ⟨a, j, b, c1, c2⟩ => ?_⟩, ?_⟩
 ·rcases hs.2.2.1 u hu q with q | ⟨q1, q2⟩
  ·obtain ⟨a, j, b, c⟩ := (h u hu).1 q
   exact ⟨a, j, by omega, c⟩
  ·exact ⟨q1, k, by omega, hc, q2.symm⟩
 ·rcases Nat.lt_succ_iff_lt_or_eq.1 b with b | rfl
  ·exact hs.1 u ((h u hu).2 ⟨a, j, b, c1, c2⟩)
  ·exact Spr.all h hk hc hm hs hu c2.symm
 ·have : least (esF xs g) k = true := by
   rw [least_iff]
   intro u hu e
   have hu1 : u < 100 := Nat.lt_trans hu hk
   have c1 : clsF xs g u = true := (keepF xs g e).trans hc
   have := (h k hk).2 ⟨hc, u, hu, c1, e⟩
   rw [hm] at this; cases this
  unfold partsTo; simp only [cnt]; rw [this, hc]; rfl
theorem parts_true (xs : List Int) : partsTo xs true 100 = piecesN xs := by
 unfold partsTo piecesN
 rw [cnt_io (xs := xs) (fun v _ q => by simp only [Bool.and_eq_true, clsF, beq_iff_eq] at q; exact q.1)]
 refine cnt_same 64 (fun i hi => ?_)
 show ((cR xs (io i) == true) && least (pe xs) (io i)) = (bitI xs i && leastI xs i)
 rw [cR_io xs hi]
 cases hb : bitI xs i
 ·rfl
 ·rw [least_io hi hb]; rfl
theorem parts_false (xs : List Int) : partsTo xs false 100 = outsN xs := by
 unfold partsTo outsN
 refine cnt_same 100 (fun v hv => ?_)
 show ((cR xs v == false) && least (h8 (cR xs)) v) = (!cR xs v && least (h8 (cR xs)) v)
 cases cR xs v <;> rfl
theorem Spr.piece {xs : List Int} {a : Nat} {M' : Nat → Bool} (ha : a < 64) (hb : bitI xs a = true) (hs : Spr xs true (fun _ => false) (io a) M') {i : Nat} (hi : i < 64) : M' (io i) = (bitI xs i && sameP xs a i) := by
 have hc : clsF xs true (io a) = true := by unfold clsF; rw [cR_io xs ha, hb]; rfl
 have la := (io_lt ha).1
 have li := (io_lt hi).1
 have hcl : Cl xs true 0 (fun _ => false) := Cl.start xs true
 rw [Bool.eq_iff_iff]
 unfold sameP
 simp only [Bool.and_eq_true, beq_iff_eq]
 constructor
 ·intro q
  rcases hs.2.2.1 _ li q with q | ⟨q1, q2⟩
  ·cases q
  ·exact ⟨by rw [← cR_io xs hi]; unfold clsF at q1; simpa using q1, q2⟩
 ·rintro ⟨b, e⟩
  have q := flood (es := esF xs true) (seen := fun v => decide (v < 100) && M' v) (a := io a)
   (by show (decide (io a < 100) && M' (io a)) = true; rw [decide_eq_true la, hs.2.1]; rfl)
   (fun v hv => by
    simp only [Bool.and_eq_true, decide_eq_true_eq] at hv
    rcases hs.2.2.1 v hv.1 hv.2 with q | q
    ·cases q
    ·exact q.2)
   (fun e he => by
    obtain ⟨e1, e2, c1, c2, j1, j2⟩ := edgeF xs true he
    show (decide (e.1 < 100) && M' e.1) = (decide (e.2 < 100) && M' e.2)
    rw [decide_eq_true e1, decide_eq_true e2, Bool.eq_iff_iff]
    simp only [Bool.true_and]
    exact ⟨fun q => hs.2.2.2 _ _ e1 q rfl j1 c2, fun q => hs.2.2.2 _ _ e2 q rfl j2 c1⟩) (io i)
  have q2 : (decide (io i < 100) && M' (io i)) = (lab (esF xs true) (io i) == lab (esF xs true) (io a)) := q
  rw [decide_eq_true li, show lab (esF xs true) (io i) = lab (esF xs true) (io a) from e, beq_self_eq_true] at q2
  simpa using q2
def Lst (xs : List Int) (g : Bool) (M0 : Nat → Bool) (v : Nat) (L : List Nat) (M : Nat → Bool) (k : Nat) (K : List Nat) : Prop :=
 v ∈ L ∧ L.Nodup ∧ (∀ u, M u = true ↔ M0 u = true ∨ u ∈ L) ∧ (∀ u, u ∈ L → u < 100 ∧ M0 u = false ∧ clsF xs g u = true ∧ labF xs g u = labF xs g v) ∧
 (∀ t u, t < k → L[t]? = some u → ∀ w, w ∈ joinF g u → clsF xs g w = true → M w = true) ∧ (∀ w, w ∈ K → clsF xs g w = true → M w = true)
theorem Lst.start {xs : List Int} {g : Bool} {M : Nat → Bool} {v : Nat} (hv : v < 100) (hm : M v = false) (hc : clsF xs g v = true) : Lst xs g M v [v] (putM M v) 0 [] := by
 refine ⟨List.mem_singleton.2 rfl, (List.pairwise_singleton _ v), fun u => ⟨fun h => ?_, fun h => ?_⟩, fun u hu => ?_, fun t u h => by omega, fun w h => absurd h List.not_mem_nil⟩
 ·rcases putM_or h with h | rfl
  ·exact .inl h
  ·exact .inr (List.mem_singleton.2 rfl)
 ·rcases h with h | h
  ·exact putM_of h
  ·rw [List.mem_singleton] at h; subst h; exact putM_self M u
 ·rw [List.mem_singleton] at hu; subst hu; exact ⟨hv, hm, hc, rfl⟩
theorem Lst.skip {xs : List Int} {g : Bool} {M0 M : Nat → Bool} {v k : Nat} {L K : List Nat} {w : Nat} (h : Lst xs g M0 v L M k K) (hw : clsF xs g w = true → M w = true) : Lst xs g M0 v L M k (K ++ [w]) := by
 obtain ⟨a, b, c, d, e, f⟩ := h
 refine ⟨a, b, c, d, e, fun x hx hc => ?_⟩
 rcases List.mem_append.1 hx with hx | hx
 ·exact f x hx hc
 ·rw [List.mem_singleton] at hx; subst hx; exact hw hc
theorem Lst.put {xs : List Int} {g : Bool} {M0 M : Nat → Bool} {v k u : Nat} {L K : List Nat} {w : Nat} (h : Lst xs g M0 v L M k K) (hk : L[k]? = some u) (hj : w ∈ joinF g u) (hc : clsF xs g w = true) (hm : M w = false) : Lst xs g M0 v (L ++ [w]) (putM M w) k (K ++ [w]) := by
 obtain ⟨a, b, c, d, e, f⟩ := h
 have hwL : w ∉ L := fun q => by rw [(c w).2 (.inr q)] at hm; cases hm
 have hw0 : M0 w = false := by
  cases q : M0 w
  ·rfl
  ·rw [(c w).2 (.inl q)] at hm; cases hm
 have hu : u ∈ L := List.mem_of_getElem? hk
 obtain ⟨u1, _, u3, u4⟩ := d u hu
 have hkL : k < L.length := by
  rcases Nat.lt_or_ge k L.length with q | q
  ·exact q
  ·rw [List.getElem?_eq_none q] at hk; cases hk
 refine ⟨List.mem_append_left _ a, ?_, fun x => ⟨fun hx => ?_, fun hx => ?_⟩, fun x hx => ?_, fun t x ht hx y hy hcy => ?_, fun x hx hcx => ?_⟩
 ·rw [List.nodup_append]
  refine ⟨b, (List.pairwise_singleton _ w), fun x hx y hy => ?_⟩
  rw [List.mem_singleton] at hy; subst hy
  intro q; subst q; exact hwL hx
 ·rcases putM_or hx with hx | rfl
  ·rcases (c x).1 hx with q | q
   ·exact .inl q
   ·exact .inr (List.mem_append_left _ q)
  ·exact .inr (List.mem_append_right _ (List.mem_singleton.2 rfl))
 ·rcases hx with hx | hx
  ·exact putM_of ((c x).2 (.inl hx))
  ·rcases List.mem_append.1 hx with hx | hx
   ·exact putM_of ((c x).2 (.inr hx))
   ·rw [List.mem_singleton] at hx; subst hx; exact putM_self M x
 ·rcases List.mem_append.1 hx with hx | hx
  ·exact d x hx
  ·rw [List.mem_singleton] at hx; subst hx
   exact ⟨joinF_lt hj, hw0, hc, (joinF_same xs u1 hj u3 hc).symm.trans u4⟩
 ·rw [List.getElem?_append_left (by omega)] at hx
  exact putM_of (e t x ht hx y hy hcy)
 ·rcases List.mem_append.1 hx with hx | hx
  ·exact putM_of (f x hx hcx)
  ·rw [List.mem_singleton] at hx; subst hx; exact putM_self M x
theorem Lst.next {xs : List Int} {g : Bool} {M0 M : Nat → Bool} {v k u : Nat} {L : List Nat} (h : Lst xs g M0 v L M k (joinF g u)) (hk : L[k]? = some u) : Lst xs g M0 v L M (k + 1) [] := by
 obtain ⟨a, b, c, d, e, f⟩ := h
 refine ⟨a, b, c, d, fun t x ht hx => ?_, fun w h => absurd h List.not_mem_nil⟩
 rcases Nat.lt_succ_iff_lt_or_eq.1 ht with q | rfl
 ·exact e t x q hx
 ·rw [hk] at hx; cases hx; exact f
theorem Lst.done {xs : List Int} {g : Bool} {M0 M : Nat → Bool} {v : Nat} {L K : List Nat} (h : Lst xs g M0 v L M L.length K) : Spr xs g M0 v M := by
 obtain ⟨a, b, c, d, e, f⟩ := h
 refine ⟨fun u hu => (c u).2 (.inl hu), (c v).2 (.inr a), fun u _ hu => ?_, fun u w _ hu h0 hw hc => ?_⟩
 ·rcases (c u).1 hu with q | q
  ·exact .inl q
  ·obtain ⟨_, _, q1, q2⟩ := d u q; exact .inr ⟨q1, q2⟩
 ·rcases (c u).1 hu with q | q
  ·rw [h0] at q; cases q
  ·obtain ⟨t, ht, rfl⟩ := List.getElem_of_mem q
   exact e t _ ht (List.getElem?_eq_getElem ht) w hw hc
theorem nodup_short : ∀ (n : Nat) (L : List Nat), L.Nodup → (∀ u, u ∈ L → u < n) → L.length ≤ n
 | 0, L, _, h => by
  cases L with
  | nil => exact Nat.le_refl _
  | cons a l => exact absurd (h a List.mem_cons_self) (by omega)
 | n + 1, L, hn, h => by
  have q := nodup_short n (L.filter fun u => u != n) (hn.filter _) (fun u hu => by
   obtain ⟨h1, h2⟩ := List.mem_filter.1 hu
   have := h u h1
   simp only [bne_iff_ne, ne_eq] at h2
   omega)
  by_cases hm : n ∈ L
  ·have e := List.length_erase_of_mem hm
   have : (L.erase n).length = (L.filter fun u => u != n).length := by rw [hn.erase_eq_filter]
   omega
  ·have : L.filter (fun u => u != n) = L := List.filter_eq_self.2 (fun u hu => by
    simp only [bne_iff_ne, ne_eq]; intro q; subst q; exact hm hu)
   rw [this] at q; omega
theorem Lst.short {xs : List Int} {g : Bool} {M0 M : Nat → Bool} {v k : Nat} {L K : List Nat} (h : Lst xs g M0 v L M k K) : L.length ≤ 100 := nodup_short 100 L h.2.1 (fun u hu => (h.2.2.2.1 u hu).1)
theorem Lst.short64 {xs : List Int} {M0 M : Nat → Bool} {v k : Nat} {L K : List Nat} (h : Lst xs true M0 v L M k K) : L.length ≤ 64 := by
 have e : L.length = (L.map oi).length := by rw [List.length_map]
 rw [e]
 refine nodup_short 64 _ ?_ (fun u hu => ?_)
 ·rw [List.nodup_iff_pairwise_ne, List.pairwise_map]
  refine (List.nodup_iff_pairwise_ne.1 h.2.1).imp_of_mem (fun {x y} hx hy hne q => hne ?_)
  obtain ⟨x1, _, x3, _⟩ := h.2.2.2.1 x hx
  obtain ⟨y1, _, y3, _⟩ := h.2.2.2.1 y hy
  unfold clsF at x3 y3
  rw [beq_iff_eq] at x3 y3
  rw [← (cR_in x1 x3).2.1, ← (cR_in y1 y3).2.1, q]
 ·obtain ⟨x, hx, rfl⟩ := List.mem_map.1 hu
  obtain ⟨x1, _, x3, _⟩ := h.2.2.2.1 x hx
  unfold clsF at x3
  rw [beq_iff_eq] at x3
  exact (cR_in x1 x3).1
def openN (M : Nat → Bool) : Nat := cnt 100 (fun v => !M v)
theorem cnt_le (p q : Nat → Bool) : ∀ n, (∀ v, v < n → p v = true → q v = true) → cnt n p ≤ cnt n q
 | 0, _ => Nat.le_refl _
 | n + 1, h => by
  have := cnt_le p q n (fun v hv => h v (by omega))
  have h2 : (p n).toNat ≤ (q n).toNat := by
   cases hp : p n
   ·exact Nat.zero_le _
   ·rw [h n (by omega) hp]; exact Nat.le_refl _
  simp only [cnt]; omega
theorem openN_put {M M' : Nat → Bool} {v : Nat} (hv : v < 100) (hm : M v = false) (h : ∀ u, M u = true → M' u = true) (h2 : M' v = true) : openN M' + 1 ≤ openN M := by
 unfold openN
 rw [cnt_less (fun u => !M u) v (by rw [hm]; rfl) 100 hv]
 refine Nat.succ_le_succ (cnt_le _ _ 100 (fun u _ q => ?_))
 simp only [Bool.not_eq_true', Bool.and_eq_true, beq_eq_false_iff_ne, ne_eq] at q ⊢
 refine ⟨?_, fun e => ?_⟩
 ·cases k : M u
  ·rfl
  ·rw [h u k] at q; cases q
 ·subst e; rw [h2] at q; cases q
def plC (v : Nat) : Int × Int := (((v % 10 : Nat) : Int) - 1, ((v / 10 : Nat) : Int) - 1)
end Go.Proofs.YtmajllgfmclcoaaGreatDoor.Flo
namespace Go.Proofs.YtmajllgfmclcoaaGreatDoor.Flo
open Go.RowKit Go.Proofs.YtmajllgfmclcoaaGreatDoor.Cell Reg Go.Joins
def Mks (W : World) (b : Nat) (M : Nat → Bool) : Prop := ∃ cs t, W.heap[b]? = some (.cells cs t (0, 0)) ∧ cs.size = 100 ∧ ∀ v, v < 100 → cs[v]? = some (.bool (M v))
theorem Mks.lt {W : World} {b : Nat} {M : Nat → Bool} (h : Mks W b M) : b < W.heap.size := by
 obtain ⟨cs, t, h, _⟩ := h
 exact (Array.getElem?_eq_some_iff.1 h).1
theorem Mks.cell {W : World} {b : Nat} {M : Nat → Bool} (h : Mks W b M) {v : Nat} (hv : v < 100) : W.cell? ⟨b, v, none⟩ = some (.bool (M v)) := by
 obtain ⟨cs, t, h, _, h2⟩ := h
 rw [cell_of_block h v]; exact h2 v hv
theorem Mks.frozen {W : World} {b : Nat} {M : Nat → Bool} (h : Mks W b M) (v : Nat) : W.frozen? ⟨b, v, none⟩ = false := by
 obtain ⟨cs, t, h, _⟩ := h
 exact unfrozen_of_block h v
theorem Mks.set {W : World} {b : Nat} {M : Nat → Bool} (h : Mks W b M) {v : Nat} (hv : v < 100) : Mks (W.setCell ⟨b, v, none⟩ (.bool true)) b (putM M v) := by
 obtain ⟨cs, t, h, hs, h2⟩ := h
 refine ⟨_, t, block_setCell h _, by simpa using hs, fun u hu => ?_⟩
 unfold putM
 rw [Array.getElem?_setIfInBounds]
 by_cases e : v = u
 ·subst e; rw [if_pos rfl, if_pos (by omega)]; simp
 ·rw [if_neg e, h2 u hu]
  have : (u == v) = false := by rw [beq_eq_false_iff_ne]; exact fun q => e q.symm
  rw [this, Bool.or_false]
theorem Mks.below {W W' : World} {b B : Nat} {M : Nat → Bool} (h : Mks W b M) (hb : Below B W W') (hB : b < B) : Mks W' b M := by
 obtain ⟨cs, t, h, r⟩ := h
 exact ⟨cs, t, (hb.block b hB).trans h, r⟩
theorem Mks.on {W W' : World} {b : Nat} {M : Nat → Bool} (h : Mks W b M) (hb : Below W.heap.size W W') : Mks W' b M := h.below hb h.lt
theorem Mks.drew {W : World} {b : Nat} {M : Nat → Bool} (h : Mks W b M) : Mks W.drew b M := h
theorem addr_add (b o k : Nat) : (⟨b, o, none⟩ : Addr).add k = ⟨b, o + k, none⟩ := by unfold Addr.add; split <;> simp_all
set_option maxRecDepth 100000 in
theorem rowAddr (b Y : Nat) (hY : Y < 10) (W : World) : (Instr.indexAt 141 (.pointer (some ⟨b, 0, none⟩)) (.int .i64 (Y : Int))).run Tryz.prog W = .ok (.pointer (some ⟨b, 10 * Y, none⟩)) W := by
 have e : Tryz.prog.arrayLen 141 = 10 := by kernel_rfl
 have q : (sizeOf (Tryz.prog.elem 141)).run Tryz.prog W = .ok 10 W := by go_simp
 rw [run_indexAt_array W 141 _ _ _ (by kernel_rfl), if_pos (by rw [e]; omega), q]
 show Result.ok (Value.pointer (some (_ : Addr))) W = _
 rw [addr_add]
 congr 4
 simp; omega
set_option maxRecDepth 100000 in
theorem cellAddr (b o X : Nat) (hX : X < 10) (W : World) : (Instr.indexAt 139 (.pointer (some ⟨b, o, none⟩)) (.int .i64 (X : Int))).run Tryz.prog W = .ok (.pointer (some ⟨b, o + X, none⟩)) W := by
 have e : Tryz.prog.arrayLen 139 = 10 := by kernel_rfl
 have q : (sizeOf (Tryz.prog.elem 139)).run Tryz.prog W = .ok 1 W := by go_simp
 rw [run_indexAt_array W 139 _ _ _ (by kernel_rfl), if_pos (by rw [e]; omega), q]
 show Result.ok (Value.pointer (some (_ : Addr))) W = _
 rw [addr_add]
 congr 4
 simp
set_option maxRecDepth 100000 in
set_option maxHeartbeats 1000000 in
theorem mHas (w : World) (b : Nat) (M : Nat → Bool) (h : Mks w b M) (X Y : Nat) (hX : X < 10) (hY : Y < 10) (x y : Int) (hx : x = (X : Int) - 1) (hy : y = (Y : Int) - 1) :
  Calls Tryz.prog 131 #[.pointer (some ⟨b, 0, none⟩), .agg #[.int .i64 x, .int .i64 y]] w (Bol (M (10 * Y + X)) w) := by
 have HBw := Lh (fun (o : Obj) => below_alloc1 w o)
 have hc := fun (o : Obj) => (h.on (below_alloc1 w o)).cell (v := 10 * Y + X) (by omega)
 have hx1 : IntKind.i64.wrap (x + 1) = (X : Int) := by rw [hx, IntKind.wrap_i64]; omega
 have hy1 : IntKind.i64.wrap (y + 1) = (Y : Int) := by rw [hy, IntKind.wrap_i64]; omega
 have hx2 : wrap64 (x + 1) = (X : Int) := by rw [hx]; unfold wrap64; omega
 have hy2 : wrap64 (y + 1) = (Y : Int) := by rw [hy]; unfold wrap64; omega
 have hr := rowAddr b Y hY
 have hq := cellAddr b (10 * Y) X hX
 clear hx hy h
 go_enter Tryz.func131, Tryz.ntmps131
 go_wp2_with fail
 go_quiet (fail)
 go_wp2
 go_ret
 exact mkBol rfl (drewN_below (HBw.out _) _)
theorem mHas' (w : World) (b : Nat) (M : Nat → Bool) (h : Mks w b M) (v : Nat) (hv : v < 100) (x y : Int) (hx : x = (plC v).1) (hy : y = (plC v).2) :
  Calls Tryz.prog 131 #[.pointer (some ⟨b, 0, none⟩), .agg #[.int .i64 x, .int .i64 y]] w (Bol (M v) w) := by
 have := mHas w b M h (v % 10) (v / 10) (by omega) (by omega) x y hx hy
 rwa [show 10 * (v / 10) + v % 10 = v by omega] at this
end Go.Proofs.YtmajllgfmclcoaaGreatDoor.Flo
namespace Go.Proofs.YtmajllgfmclcoaaGreatDoor.Nb
open Go.RowKit Base Go.Proofs.YtmajllgfmclcoaaGreatDoor.Cell CellN Go.Joins
def rowC (L : List (Int × Int)) : List Value := L.flatMap fun p => [.int .i64 p.1, .int .i64 p.2]
theorem rowC_snoc (L : List (Int × Int)) (p : Int × Int) : rowC (L ++ [p]) = rowC L ++ [.int .i64 p.1, .int .i64 p.2] := by unfold rowC; simp
def nbTo (x y : Int) (k : Nat) : List (Int × Int) := ((List.range k).filter fun (j : Nat) => nbB x y (atX (j : Int)) (atY (j : Int))).map fun (j : Nat) => (atX (j : Int), atY (j : Int))
theorem nbTo_yes {x y : Int} {k : Nat} (h : nbB x y (atX (k : Int)) (atY (k : Int)) = true) : nbTo x y (k + 1) = nbTo x y k ++ [(atX (k : Int), atY (k : Int))] := by
 unfold nbTo; rw [List.range_succ, List.filter_append, List.map_append]; simp [h]
theorem nbTo_no {x y : Int} {k : Nat} (h : nbB x y (atX (k : Int)) (atY (k : Int)) = false) : nbTo x y (k + 1) = nbTo x y k := by
 unfold nbTo; rw [List.range_succ, List.filter_append, List.map_append]; simp [h]
theorem nbTo_length (x y : Int) (k : Nat) : (nbTo x y k).length ≤ k := by
 unfold nbTo; rw [List.length_map]; exact Nat.le_trans (List.length_filter_le _ _) (by simp)
theorem own_below {w w' : World} {base e size n : Nat} {v : Value} {xs : List Value} (h : w.ownsRow base e size v n xs) (hb : Below w.heap.size w w') : w'.ownsRow base e size v n xs :=
 h.kept (row := none) ⟨hb.os, hb.tape, hb.output, hb.size, fun i hi _ => hb.block i hi⟩ (by cases v <;> simp [Value.ownBlock] <;> (try (split <;> simp)))
theorem bx2 {T : TypeId} (x y : Int) (w w1 : World) (h : Below (w.alloc (.cells #[.int .i64 x, .int .i64 y] T)).heap.size (w.alloc (.cells #[.int .i64 x, .int .i64 y] T)) w1) :
  w1.cell? ⟨w.heap.size, 0, none⟩ = some (.int .i64 x) ∧ w1.cell? ⟨w.heap.size, 1, none⟩ = some (.int .i64 y) := by
 have hbl : (w.alloc (.cells #[.int .i64 x, .int .i64 y] T)).heap[w.heap.size]? = some (.cells #[.int .i64 x, .int .i64 y] T) := by
  show (w.heap.push _)[w.heap.size]? = _
  exact Array.getElem?_push_size
 exact ⟨by rw [h.cell (by simp)]; exact (cell_of_row _ _ 0 _ _ _ hbl).trans rfl, by rw [h.cell (by simp)]; exact (cell_of_row _ _ 1 _ _ _ hbl).trans rfl⟩
def NbPost (L : List (Int × Int)) (w : World) (e : Ending) (w' : World) : Prop :=
 ∃ (A : Option Addr) (cap : Nat), e = .returned (.slice A L.length cap) ∧ w'.ownsRow w.heap.size 79 2 (.slice A L.length cap) L.length (rowC L) ∧ Below w.heap.size w w'
theorem cellInfo : (Tryz.prog.info? 79).map (fun i => (i.zero, i.size, i.bytes)) = some (some (.agg #[.int .i64 0, .int .i64 0]), 2, 16) := by kernel_rfl
theorem own_base {w : World} {B B' e size n : Nat} {v : Value} {xs : List Value} (h : w.ownsRow B e size v n xs) (hB : B' ≤ B) : w.ownsRow B' e size v n xs := by
 refine ⟨h.1, ?_⟩
 rcases h.2 with h | ⟨g, cap, cur, a, b, c⟩
 ·exact .inl h
 ·exact .inr ⟨g, cap, cur, a, by omega, c⟩
theorem box1 {T : TypeId} (x y : Int) (w : World) : (w.alloc (.cells #[.int .i64 x, .int .i64 y] T)).cell? ⟨w.heap.size, 0, none⟩ = some (.int .i64 x) ∧ (w.alloc (.cells #[.int .i64 x, .int .i64 y] T)).cell? ⟨w.heap.size, 1, none⟩ = some (.int .i64 y) := by
 have hbl : (w.alloc (.cells #[.int .i64 x, .int .i64 y] T)).heap[w.heap.size]? = some (.cells #[.int .i64 x, .int .i64 y] T) := by
  show (w.heap.push _)[w.heap.size]? = _
  exact Array.getElem?_push_size
 exact ⟨(cell_of_row _ _ 0 _ _ _ hbl).trans rfl, (cell_of_row _ _ 1 _ _ _ hbl).trans rfl⟩
set_option maxRecDepth 100000 in
set_option maxHeartbeats 1000000 in
theorem specNb (x y : Int) (w : World) : Calls Tryz.prog 141 #[.agg #[.int .i64 x, .int .i64 y]] w (NbPost (nbTo x y 64) w) := by
 obtain ⟨i0, hi, hz0, hz1, hz2⟩ := info_parts cellInfo
 have HM := Lh (fun (W : World) => World.ownsRow_made (e := 79) (size := 2) W #[] 0 NR (by unfold maxLen; omega) rfl)
 have HB := Lh (fun (T : TypeId) => box1 (T := T) x y w)
 have HW := Lh (fun (T : TypeId) => below_alloc1 w (.cells #[.int .i64 x, .int .i64 y] T))
 go_enter Tryz.func141, Tryz.ntmps141
 go_wp2_with fail
 have HW1 := Lh (show Below (w.heap.size + 1) (w.alloc (.cells #[.int .i64 x, .int .i64 y] 79)) ((w.alloc (.cells #[.int .i64 x, .int .i64 y] 79)).alloc (.cells #[] 79)) from (Below.refl _ _).alloc (by simp) _)
 have HO := Lh (own_base (B' := w.heap.size + 1) (HM.out (w.alloc (.cells #[.int .i64 x, .int .i64 y] 79))) (by simp))
 have hW0 : (w.alloc (.cells #[.int .i64 x, .int .i64 y] 79)).heap.size = w.heap.size + 1 := by simp
 have HB0 := Lh (HB.out 79)
 have HBw := Lh (HW.out 79)
 clear HM HB HW
 obtain ⟨W0, hW⟩ : ∃ W0, W0 = w.alloc (.cells #[.int .i64 x, .int .i64 y] 79) := ⟨_, rfl⟩
 rw [← hW] at HW1 HO hW0 HB0 HBw
 rw [hW0] at HO
 go_loopw [3, 4] (fun v i wr => ∃ k : Nat, k ≤ 64 ∧ i = .int .i64 k ∧ wr.ownsRow (w.heap.size + 1) 79 2 v (nbTo x y k).length (rowC (nbTo x y k)) ∧ Below (w.heap.size + 1) W0 wr) (fun _ i _ => 64 - (intOf i).toNat)
 case atStart => exact ⟨0, Nat.zero_le _, rfl, by rw [hW] at HO; simpa [nbTo, rowC] using HO.out, by rw [hW] at HW1 ⊢; exact HW1.out⟩
 case round =>
  clear HW1 HO
  obtain ⟨k, hk, rfl, hown, hb⟩ := hrel
  have hbs := hb.size
  rw [hW0] at hbs
  by_cases hlt : k < 64
  ·go_wp2_with fail
   refine (sCellAt k _).mono ?_
   rintro e w1 ⟨rfl, hb1⟩
   have hown1 := own_below hown hb1
   have hbb := hb.trans (hb1.mono (by omega))
   have hb1s := hb1.size
   have hc0 := (hbb.cell (p := ⟨w.heap.size, 0, none⟩) (by show w.heap.size < _; omega)).trans HB0.out.1
   have hc1 := (hbb.cell (p := ⟨w.heap.size, 1, none⟩) (by show w.heap.size < _; omega)).trans HB0.out.2
   have hz : w.heap.size < w1.heap.size := by omega
   have HOwn := Lh hown1
   have HBB := Lh hbb
   have HS := Lh hb1s
   have HBs := Lh hbs
   obtain ⟨w1', hw1'⟩ : ∃ w1', w1' = w1 := ⟨_, rfl⟩
   clear hown hb hb1 hown1 hbb hb1s hbs
   obtain ⟨u, hu⟩ : ∃ u, atX (k : Int) = u := ⟨_, rfl⟩
   obtain ⟨v', hv⟩ : ∃ v', atY (k : Int) = v' := ⟨_, rfl⟩
   rw [hu, hv]
   have HU := Lh hu
   have HV := Lh hv
   clear hu hv
   go_wp2_with fail
   refine (sAreNeighbors x y u v' _).mono ?_
   rintro e w2 ⟨rfl, hb2⟩
   obtain ⟨hc2, hc3⟩ := (bx2 u v' w1 w2 hb2)
   have hD : Below (w.heap.size + 1) W0 w2 := (HBB.out.alloc (by have := HS.out; have := HBs.out; omega) _).trans (hb2.mono (by simp; have := HS.out; have := HBs.out; omega))
   have hE : Below w1.heap.size w1 w2 := (below_alloc1 w1 _).trans (hb2.mono (by simp))
   have HOwn2 := Lh (own_below HOwn.out hE)
   have hzz : w1.heap.size < w2.heap.size := by have := hb2.size; simp at this; omega
   have HD := Lh hD
   clear hD hE hb2
   cases hn : nbB x y u v' with
   | false =>
    have HN := Lh (show nbTo x y (k + 1) = nbTo x y k from nbTo_no (by rw [HU.out, HV.out]; exact hn))
    clear hn
    go_wp2
    go_roundw
    case rel => exact ⟨k + 1, by omega, by go_num, by rw [HN.out]; exact HOwn2.out, HD.out⟩
    case measure => (simp [intOf] <;> omega)
   | true =>
    have HN := Lh (show nbTo x y (k + 1) = nbTo x y k ++ [(u, v')] by rw [← HU.out, ← HV.out]; exact nbTo_yes (by rw [HU.out, HV.out]; exact hn))
    clear hn
    have HL := Lh (nbTo_length x y k)
    go_wp2_with (first
     | (at_builtin; refine wpList_append_own _ rfl _ _ 75 rfl (w.heap.size + 1) 79 i0 (.agg #[.int .i64 0, .int .i64 0]) 2 16 Tryz.underlying75 hi hz0 hz1 hz2 rfl (by decide) _ (nbTo x y k).length (rowC (nbTo x y k)) rfl (HOwn2.out.alloc _) ⟨w2.heap.size, 0, none⟩ 1 1 [.int .i64 u, .int .i64 v'] rfl rfl (World.news_of_block (cs := #[.int .i64 u, .int .i64 v']) (t := 79) (fr := (0, 0)) (heap_alloc_new w2 _)) (by simp [Value.oneCell']) (by have := HL.out; unfold maxLen; omega) (by have := HL.out; omega) (by have := HS.out; have := HBs.out; simp; omega) ?_; intro v2 w3 hown3 hgrow _))
    have hb3 : Below (w.heap.size + 1) W0 w3 := (HD.out.alloc (by have := HS.out; have := HBs.out; omega) _).grown hgrow (by simp; have := HS.out; have := HBs.out; omega) (fun g hg => (HOwn2.out.lt g hg).1)
    have R := Lh (show w3.ownsRow (w.heap.size + 1) 79 2 v2 (nbTo x y (k + 1)).length (rowC (nbTo x y (k + 1))) by
     rw [HN.out, rowC_snoc, List.length_append]; exact hown3)
    clear hown3 hgrow
    go_wp2
    go_roundw
    case rel => exact ⟨k + 1, by omega, by go_num, R.out, hb3⟩
    case measure => (simp [intOf] <;> omega)
  ·obtain rfl : k = 64 := by omega
   obtain ⟨A, cap, rfl⟩ := own_shape hown
   have HOwn := Lh hown
   have HEnd := Lh (HBw.out.trans (hb.mono (by omega)))
   clear hown hb
   go_wp2
   go_ret
   exact ⟨A, cap, rfl, own_base HOwn.out (by omega), HEnd.out⟩
end Go.Proofs.YtmajllgfmclcoaaGreatDoor.Nb
