/- Deficits, pure: no set of black cells has a greater deficit than the number of black cells that stay free; the cells that ways that alternate reach from the free ones have it: no program here. -/
import Derived.Test.YtgkgdgchkhdgjaaKuL
namespace Go.Proofs.Ytgkgdgchkhdgjaa.Def
set_option linter.unusedVariables false
set_option linter.unusedSimpArgs false
open Go.Proofs.Ytgkgdgchkhdgjaa.Cnt (adj adj_iff adj_comm gR)
open Go.Proofs.Ytgkgdgchkhdgjaa.Kun Go.Proofs.Ytgkgdgchkhdgjaa.KuL

/-- the places of a set, in order. -/
def pl (P : Nat → Bool) : List Nat := (List.range 64).filter P
theorem mem_pl {P : Nat → Bool} {i : Nat} : i ∈ pl P ↔ i < 64 ∧ P i = true := by unfold pl; rw [List.mem_filter, List.mem_range]
theorem pl_nodup (P : Nat → Bool) : (pl P).Nodup := by unfold pl; exact List.Pairwise.filter _ List.nodup_range
theorem pl_congr {P Q : Nat → Bool} (h : ∀ i, i < 64 → P i = Q i) : pl P = pl Q := by
  unfold pl; exact List.filter_congr (fun i hi => h i (List.mem_range.1 hi))
theorem pl_le64 (P : Nat → Bool) : (pl P).length ≤ 64 := by
  unfold pl; exact Nat.le_trans (List.length_filter_le _ _) (by rw [List.length_range]; exact Nat.le_refl _)
/-- an injection counts. -/
theorem pl_inj {P Q : Nat → Bool} (f : Nat → Nat) (h : ∀ i, i < 64 → P i = true → f i < 64 ∧ Q (f i) = true) (hi : ∀ i k, i < 64 → k < 64 → P i = true → P k = true → f i = f k → i = k) : (pl P).length ≤ (pl Q).length := by
  have h1 : ((pl P).map f).Nodup := by
    have hn := pl_nodup P
    unfold List.Nodup at hn ⊢
    rw [List.pairwise_map]
    exact hn.imp_of_mem (fun {a b} ha hb hab e => by
      obtain ⟨a1, a2⟩ := mem_pl.1 ha
      obtain ⟨b1, b2⟩ := mem_pl.1 hb
      exact hab (hi a b a1 b1 a2 b2 e))
  have h2 : (pl P).map f ⊆ pl Q := fun x hx => by
    obtain ⟨i, hi', rfl⟩ := List.mem_map.1 hx
    obtain ⟨a, b⟩ := mem_pl.1 hi'
    exact mem_pl.2 (h i a b)
  have h3 := List.Nodup.length_le_of_subset h1 h2
  rw [List.length_map] at h3
  exact h3
theorem pl_mono {P Q : Nat → Bool} (h : ∀ i, i < 64 → P i = true → Q i = true) : (pl P).length ≤ (pl Q).length :=
  pl_inj id (fun i hi hp => ⟨hi, h i hi hp⟩) (fun i k _ _ _ _ e => e)
theorem filter_split {α : Type} (P Q : α → Bool) : ∀ (l : List α), (l.filter P).length = (l.filter fun i => P i && Q i).length + (l.filter fun i => P i && !Q i).length
  | [] => rfl
  | x :: r => by
    have ih := filter_split P Q r
    cases hp : P x <;> cases hq : Q x <;> simp [List.filter_cons, hp, hq, ih] <;> omega
theorem pl_split (P Q : Nat → Bool) : (pl P).length = (pl fun i => P i && Q i).length + (pl fun i => P i && !Q i).length := filter_split P Q _
/-- the white places around a set of black ones. -/
def arB (g P : Nat → Bool) (w : Nat) : Bool := g w && (List.range 64).any fun u => P u && adj u w
theorem arB_iff {g P : Nat → Bool} {w : Nat} : arB g P w = true ↔ g w = true ∧ ∃ u, u < 64 ∧ P u = true ∧ adj u w = true := by
  unfold arB
  rw [Bool.and_eq_true, List.any_eq_true]
  constructor
  · rintro ⟨h, u, hu, hp⟩
    rw [Bool.and_eq_true] at hp
    exact ⟨h, u, List.mem_range.1 hu, hp.1, hp.2⟩
  · rintro ⟨h, u, hu, hp, ha⟩
    exact ⟨h, u, List.mem_range.2 hu, by rw [hp, ha]; rfl⟩
/-- is a black place joined? -/
def isT (J : Nat → Int) (u : Nat) : Bool := (List.range 64).any fun i => decide (J i = (u : Int))
theorem isT_iff {J : Nat → Int} {u : Nat} : isT J u = true ↔ ∃ i, i < 64 ∧ J i = (u : Int) := by
  unfold isT
  rw [List.any_eq_true]
  constructor
  · rintro ⟨i, hi, h⟩; exact ⟨i, List.mem_range.1 hi, of_decide_eq_true h⟩
  · rintro ⟨i, hi, h⟩; exact ⟨i, List.mem_range.2 hi, decide_eq_true h⟩
/-- the black places that stay free. -/
def frB (xs : List Int) (J : Nat → Int) (u : Nat) : Bool := Blk xs u && !isT J u
theorem frB_iff {xs : List Int} {J : Nat → Int} {u : Nat} : frB xs J u = true ↔ Blk xs u = true ∧ ∀ i, i < 64 → J i ≠ (u : Int) := by
  unfold frB
  rw [Bool.and_eq_true]
  refine and_congr_right (fun _ => ?_)
  rw [Bool.not_eq_true']
  constructor
  · intro h i hi e
    rw [isT_iff.2 ⟨i, hi, e⟩] at h; cases h
  · intro h
    exact not_true (fun q => by obtain ⟨i, hi, e⟩ := isT_iff.1 q; exact h i hi e)
section
variable {xs : List Int} {J : Nat → Int}
/-- the places joined to black ones of a set are as many as these. -/
theorem joined_count (hm : Mc (gR xs) col (Blk xs) J) (P : Nat → Bool) : (pl fun u => P u && isT J u).length = (pl fun i => decide (0 ≤ J i) && P (J i).toNat).length := by
  have hk : ∀ u, isT J u = true → ∃ i, i < 64 ∧ J i = (u : Int) := fun u h => isT_iff.1 h
  have fnd : ∀ u, isT J u = true → ((List.range 64).find? fun i => decide (J i = (u : Int))).getD 0 < 64 ∧ J (((List.range 64).find? fun i => decide (J i = (u : Int))).getD 0) = (u : Int) := fun u h => by
    obtain ⟨i, hi, e⟩ := hk u h
    cases hq : (List.range 64).find? fun i => decide (J i = (u : Int)) with
    | none =>
      have := List.find?_eq_none.1 hq i (List.mem_range.2 hi)
      exact absurd (decide_eq_true e) this
    | some j =>
      have h1 := List.find?_some hq
      have h2 := List.mem_of_find?_eq_some hq
      exact ⟨List.mem_range.1 h2, of_decide_eq_true h1⟩
  apply Nat.le_antisymm
  · refine pl_inj (fun u => ((List.range 64).find? fun i => decide (J i = (u : Int))).getD 0) (fun u hu h => ?_) (fun u v hu hv h1 h2 e => ?_)
    · rw [Bool.and_eq_true] at h
      obtain ⟨a, b⟩ := fnd u h.2
      refine ⟨a, ?_⟩
      rw [Bool.and_eq_true, decide_eq_true_eq, b]
      exact ⟨by omega, by rw [Int.toNat_natCast]; exact h.1⟩
    · rw [Bool.and_eq_true] at h1 h2
      have a := (fnd u h1.2).2
      have b := (fnd v h2.2).2
      have e : ((List.range 64).find? fun i => decide (J i = (u : Int))).getD 0 = ((List.range 64).find? fun i => decide (J i = (v : Int))).getD 0 := e
      rw [e, b] at a
      omega
  · refine pl_inj (fun i => (J i).toNat) (fun i hi h => ?_) (fun i k hi hk' h1 h2 e => ?_)
    · rw [Bool.and_eq_true, decide_eq_true_eq] at h
      obtain ⟨_, _, _, h64, _⟩ := hm.mt.ok i h.1
      refine ⟨h64, ?_⟩
      rw [Bool.and_eq_true]
      exact ⟨h.2, isT_iff.2 ⟨i, hi, by rw [Int.toNat_of_nonneg h.1]⟩⟩
    · rw [Bool.and_eq_true, decide_eq_true_eq] at h1 h2
      refine hm.inj i k h1.1 ?_
      have : (J i).toNat = (J k).toNat := e
      omega
theorem sz_pl (J : Nat → Int) : sz J = (pl fun i => decide (0 ≤ J i)).length := rfl
/-- the black places: those that are joined, and those that stay free. -/
theorem blacks_split (hm : Mc (gR xs) col (Blk xs) J) : (pl (Blk xs)).length = sz J + (pl (frB xs J)).length := by
  rw [pl_split (Blk xs) (isT J), joined_count hm, sz_pl]
  congr 2
  refine pl_congr (fun i _ => ?_)
  rw [Bool.eq_iff_iff, Bool.and_eq_true, decide_eq_true_eq]
  exact ⟨fun h => h.1, fun h => ⟨h, hm.bl i h⟩⟩
/-- no set of black places has a greater deficit. -/
theorem deficit_le (hm : Mc (gR xs) col (Blk xs) J) {P : Nat → Bool} (hP : ∀ u, P u = true → Blk xs u = true) : (pl P).length ≤ (pl (arB (gR xs) P)).length + (pl (frB xs J)).length := by
  rw [pl_split P (isT J), joined_count hm]
  have h1 : (pl fun i => decide (0 ≤ J i) && P (J i).toNat).length ≤ (pl (arB (gR xs) P)).length := pl_mono (fun i hi h => by
    rw [Bool.and_eq_true, decide_eq_true_eq] at h
    obtain ⟨_, hg, _, h64, _, _, ha⟩ := hm.mt.ok i h.1
    exact arB_iff.2 ⟨hg, _, h64, h.2, ha⟩)
  have h2 : (pl fun u => P u && !isT J u).length ≤ (pl (frB xs J)).length := pl_mono (fun u hu h => by
    rw [Bool.and_eq_true] at h
    unfold frB
    rw [Bool.and_eq_true]
    exact ⟨hP u h.1, h.2⟩)
  omega
/-- the black places that ways that alternate reach from the free ones. -/
inductive Rch (xs : List Int) (J : Nat → Int) : Nat → Prop
  | free {u : Nat} (hu : u < 64) (h : frB xs J u = true) : Rch xs J u
  | step {u w : Nat} (h : Rch xs J u) (hw : w < 64) (ha : adj u w = true) (hg : gR xs w = true) (h0 : 0 ≤ J w) : Rch xs J (J w).toNat
/-- no way leads to a free white place. -/
theorem Rch.shut (hm : Max (gR xs) col (Blk xs) J) {u : Nat} (h : Rch xs J u) : ∃ Z : Nat → Bool, (∀ i, Z i = true → 0 ≤ J i ∧ Kun.Shut (gR xs) Z (J i).toNat) ∧ Kun.Shut (gR xs) Z u := by
  induction h with
  | @free u hu h =>
    obtain ⟨hb, hf⟩ := frB_iff.1 h
    have hb2 : gR xs u = true ∧ col u = true := by unfold Blk at hb; rw [Bool.and_eq_true] at hb; exact hb
    have hfree : ∀ i, J i ≠ (u : Int) := fun i e => by
      have := (hm.1.mt.ok i (by omega)).1
      exact hf i this e
    have hu66 : uns (gR xs) (fun _ => false) < 66 := by
      have : uns (gR xs) (fun _ => false) ≤ 64 := by unfold uns; exact Nat.le_trans (List.length_filter_le _ _) (by rw [List.length_range]; exact Nat.le_refl _)
      omega
    obtain ⟨⟨s1, s2, s3⟩, s4⟩ := findF_spec col_adj 66 J (fun _ => false) u ⟨hm.1.mt, fun i k _ _ => hm.1.inj i k, fun i _ => hfree i, hu, hb2.1, hb2.2⟩ hu66
    generalize findF (gR xs) 66 J (fun _ => false) u = res at s1 s2 s3 s4
    obtain ⟨b, J', Z'⟩ := res
    simp only at s1 s2 s3 s4
    rcases s3 with ⟨rfl, rfl, q⟩ | ⟨rfl, q⟩
    · exact ⟨Z', fun i hi => (q i hi).elim (fun e => by cases e) id, s4 rfl⟩
    · exfalso
      obtain ⟨a, _, a2, a3, a4⟩ := q.one
      have hs : sz J' = sz J + 1 := sz_one (s2.ok a a3).1 a2 a3 a4
      have key : Mc (gR xs) col (Blk xs) J' := ⟨s2, fun i k hi he => q.inj i k rfl rfl hi he, fun i hi => by
        rcases q.img i rfl hi with e | ⟨m, _, e⟩
        · rw [e, Int.toNat_natCast]; exact hb
        · rw [← e]; exact hm.1.bl m (by omega)⟩
      have := hm.2 _ key
      omega
  | @step u w h hw ha hg h0 ih =>
    obtain ⟨Z, hz, hs⟩ := ih
    exact ⟨Z, hz, (hz w (hs w hw ha hg)).2⟩
theorem Rch.white (hm : Max (gR xs) col (Blk xs) J) {u w : Nat} (h : Rch xs J u) (hw : w < 64) (ha : adj u w = true) (hg : gR xs w = true) : 0 ≤ J w := by
  obtain ⟨Z, hz, hs⟩ := h.shut hm
  exact (hz w (hs w hw ha hg)).1
theorem Rch.blk (hm : Mc (gR xs) col (Blk xs) J) {u : Nat} (h : Rch xs J u) : u < 64 ∧ Blk xs u = true := by
  cases h with
  | free hu h => exact ⟨hu, (frB_iff.1 h).1⟩
  | step _ hw _ _ h0 => exact ⟨(hm.mt.ok _ h0).2.2.2.1, hm.bl _ h0⟩
/-- what a walk that is done has reached. -/
theorem reached (hm : Mc (gR xs) col (Blk xs) J) {Z : Nat → Bool} (h0 : ∀ u, u < 64 → frB xs J u = true → Z u = true) (h1 : ∀ u, Z u = true → Rch xs J u) (h2 : ∀ u w, Z u = true → w < 64 → adj u w = true → gR xs w = true → 0 ≤ J w → Z (J w).toNat = true) : ∀ u, Z u = true ↔ Rch xs J u := fun u =>
  ⟨h1 u, fun h => by
    induction h with
    | free hu h => exact h0 _ hu h
    | step h hw ha hg h0 ih => exact h2 _ _ ih hw ha hg h0⟩
/-- what is reached has the greatest deficit. -/
theorem deficit_is (hm : Max (gR xs) col (Blk xs) J) {Z : Nat → Bool} (hZ : ∀ u, Z u = true ↔ Rch xs J u) : (pl Z).length = (pl (arB (gR xs) Z)).length + (pl (frB xs J)).length := by
  rw [pl_split Z (isT J), joined_count hm.1]
  have h1 : (pl fun i => decide (0 ≤ J i) && Z (J i).toNat) = pl (arB (gR xs) Z) := pl_congr (fun i hi => by
    rw [Bool.eq_iff_iff, Bool.and_eq_true, decide_eq_true_eq, arB_iff]
    constructor
    · rintro ⟨h0, hz⟩
      obtain ⟨_, hg, _, h64, _, _, ha⟩ := hm.1.mt.ok i h0
      exact ⟨hg, _, h64, hz, ha⟩
    · rintro ⟨hg, u, hu, hz, ha⟩
      have h0 := ((hZ u).1 hz).white hm hi ha hg
      exact ⟨h0, (hZ _).2 (Rch.step ((hZ u).1 hz) hi ha hg h0)⟩)
  have h2 : (pl fun u => Z u && !isT J u) = pl (frB xs J) := pl_congr (fun u hu => by
    rw [Bool.eq_iff_iff]
    constructor
    · intro h
      rw [Bool.and_eq_true] at h
      unfold frB
      rw [Bool.and_eq_true]
      exact ⟨(((hZ u).1 h.1).blk hm.1).2, h.2⟩
    · intro h
      have hz := (hZ u).2 (Rch.free hu h)
      unfold frB at h
      rw [Bool.and_eq_true] at h
      rw [Bool.and_eq_true]
      exact ⟨hz, h.2⟩)
  rw [h1, h2]
/-- the white places are at least as many as what is joined. -/
theorem whites_ge (hm : Mc (gR xs) col (Blk xs) J) : sz J ≤ (pl fun i => gR xs i && !col i).length := by
  rw [sz_pl]
  refine pl_mono (fun i hi h => ?_)
  rw [decide_eq_true_eq] at h
  obtain ⟨_, hg, hc, _⟩ := hm.mt.ok i h
  rw [hg, hc]; rfl
end
/-- the places that are reached in a region, in order; how many black ones stay free. -/
noncomputable def witB (xs : List Int) (u : Nat) : Bool := @decide (Rch xs (joined xs) u) (Classical.propDecidable _)
theorem witB_iff (xs : List Int) (u : Nat) : witB xs u = true ↔ Rch xs (joined xs) u := by unfold witB; exact @decide_eq_true_iff _ (Classical.propDecidable _)
noncomputable def witN (xs : List Int) : List Nat := pl (witB xs)
def freeN (xs : List Int) : Nat := (pl (frB xs (joined xs))).length
theorem freeN_is (xs : List Int) : (freeN xs : Int) = ((blks xs).length : Int) - (sz (joined xs) : Int) := by
  have h := blacks_split (joined_max xs).1
  unfold freeN blks
  unfold pl at h ⊢
  omega
theorem wit_deficit (xs : List Int) : (witN xs).length = (pl (arB (gR xs) (witB xs))).length + freeN xs := deficit_is (joined_max xs) (witB_iff xs)
theorem wit_of {xs : List Int} {Z : Nat → Bool} (h0 : ∀ u, u < 64 → frB xs (joined xs) u = true → Z u = true) (h1 : ∀ u, Z u = true → Rch xs (joined xs) u) (h2 : ∀ u w, Z u = true → w < 64 → adj u w = true → gR xs w = true → 0 ≤ joined xs w → Z (joined xs w).toNat = true) : Z = witB xs := by
  funext u
  rw [Bool.eq_iff_iff, witB_iff]
  exact reached (joined_max xs).1 h0 h1 h2 u
end Go.Proofs.Ytgkgdgchkhdgjaa.Def
