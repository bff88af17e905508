/- DefD, DefP, DefL in one text. -/
import Derived.Test.YtgkgdgchkhdgjaaDoorRegL
import Derived.Test.YtgkgdgchkhdgjaaDoorCell
import Derived.Test.YtgkgdgchkhdgjaaDoorKuL
import Derived.Test.YtgkgdgchkhdgjaaDoorMgWay

/- What chapter 10 asks of lists of cells, pure: no program here. -/
namespace Go.Proofs.YtgkgdgchkhdgjaaDoor.Def
set_option linter.unusedVariables false
set_option linter.unusedSimpArgs false
open Go.RowKit Go.Proofs.YtgkgdgchkhdgjaaDoor.Base Go.Proofs.YtgkgdgchkhdgjaaDoor.Pure Go.Proofs.YtgkgdgchkhdgjaaDoor.Cell Go.Proofs.YtgkgdgchkhdgjaaDoor.Reg Go.Joins

/-- are these black cells of the region? -/
def okBl (xs : List Int) (L : List (Int × Int)) : Bool := okRB xs && L.all fun c => hasB xs c.1 c.2 && blackB c.1 c.2
theorem okBl_iff {xs : List Int} {L : List (Int × Int)} : okBl xs L = true ↔ okRB xs = true ∧ ∀ c ∈ L, hasB xs c.1 c.2 = true ∧ blackB c.1 c.2 = true := by
  unfold okBl
  rw [Bool.and_eq_true, List.all_eq_true]
  exact and_congr_right fun _ => ⟨fun h c hc => by have := h c hc; rw [Bool.and_eq_true] at this; exact this, fun h c hc => by rw [Bool.and_eq_true]; exact h c hc⟩
/-- is a cell a neighbor of one of these? -/
def arL (L : List (Int × Int)) (c : Int × Int) : Bool := L.any fun b => nbB c.1 c.2 b.1 b.2
/-- WhiteAround. -/
def whtR (xs : List Int) (L : List (Int × Int)) : List (Int × Int) := if okBl xs L then (cellsR xs).filter (arL L) else []
theorem whtR_ok {xs : List Int} {L : List (Int × Int)} (h : okBl xs L = true) : whtR xs L = (cellsR xs).filter (arL L) := by unfold whtR; rw [if_pos h]
theorem whtR_not {xs : List Int} {L : List (Int × Int)} (h : okBl xs L = false) : whtR xs L = [] := by unfold whtR; rw [if_neg (by rw [h]; simp)]
theorem whtR_length (xs : List Int) (L : List (Int × Int)) : (whtR xs L).length ≤ 64 := by
  unfold whtR
  split
  · exact Nat.le_trans (List.length_filter_le _ _) (cellsR_length xs)
  · exact Nat.zero_le _
/-- how many different ones are among the first k. -/
def difK (L : List (Int × Int)) : Nat → Nat
  | 0 => 0
  | k + 1 => if L.getD k (0, 0) ∈ L.take k then difK L k else difK L k + 1
theorem getD_at {L : List (Int × Int)} {k : Nat} (hk : k < L.length) : L.getD k (0, 0) = L[k] := by simp [List.getD, hk]
theorem difK_old {L : List (Int × Int)} {k : Nat} (hk : k < L.length) (h : L[k] ∈ L.take k) : difK L (k + 1) = difK L k := by
  show (if L.getD k (0, 0) ∈ L.take k then difK L k else difK L k + 1) = _
  rw [getD_at hk, if_pos h]
theorem difK_new {L : List (Int × Int)} {k : Nat} (hk : k < L.length) (h : L[k] ∉ L.take k) : difK L (k + 1) = difK L k + 1 := by
  show (if L.getD k (0, 0) ∈ L.take k then difK L k else difK L k + 1) = _
  rw [getD_at hk, if_neg h]
theorem difK_le (L : List (Int × Int)) : ∀ k, difK L k ≤ k
  | 0 => Nat.le_refl _
  | k + 1 => by
    have := difK_le L k
    unfold difK
    split <;> omega
def difN (L : List (Int × Int)) : Nat := difK L L.length
theorem difK_nodup {L : List (Int × Int)} (h : L.Nodup) : ∀ k, k ≤ L.length → difK L k = k
  | 0, _ => rfl
  | k + 1, hk => by
    have ih := difK_nodup h k (by omega)
    rw [difK_new (by omega) (fun hm => ?_), ih]
    have hs : (L.take k ++ [L[k]'(by omega)]).Nodup := by
      rw [← List.take_succ_eq_append_getElem (by omega)]
      exact h.sublist (List.take_sublist _ _)
    exact (List.nodup_append.1 hs).2.2 _ hm _ (List.mem_singleton.2 rfl) rfl
theorem difN_nodup {L : List (Int × Int)} (h : L.Nodup) : difN L = L.length := difK_nodup h _ (Nat.le_refl _)
/-- Deficit. -/
def defR (xs : List Int) (L : List (Int × Int)) : Int := if okBl xs L then (difN L : Int) - ((whtR xs L).length : Int) else 0
theorem defR_ok {xs : List Int} {L : List (Int × Int)} (h : okBl xs L = true) : defR xs L = (difN L : Int) - ((whtR xs L).length : Int) := by unfold defR; rw [if_pos h]
theorem defR_not {xs : List Int} {L : List (Int × Int)} (h : okBl xs L = false) : defR xs L = 0 := by unfold defR; rw [if_neg (by rw [h]; simp)]
/-- IsProofOf. -/
def prfB (xs : List Int) (L : List (Int × Int)) (f : Int) : Bool := decide (0 < f) && decide (f ≤ defR xs L)
theorem mem_take_no {L : List (Int × Int)} {k : Nat} {c : Int × Int} (hk : k < L.length) (h : c ∉ L.take k) (hn : L[k] ≠ c) : c ∉ L.take (k + 1) := by
  rw [List.take_succ_eq_append_getElem hk, List.mem_append]
  rintro (q | q)
  · exact h q
  · exact hn (List.mem_singleton.1 q).symm
/-- the first k are black cells of the region. -/
def OkK (xs : List Int) (L : List (Int × Int)) (k : Nat) : Prop := ∀ c ∈ L.take k, hasB xs c.1 c.2 = true ∧ blackB c.1 c.2 = true
theorem OkK.zero (xs : List Int) (L : List (Int × Int)) : OkK xs L 0 := fun c hc => by simp at hc
theorem OkK.next {xs : List Int} {L : List (Int × Int)} {k : Nat} (h : OkK xs L k) (hk : k < L.length) (h1 : hasB xs L[k].1 L[k].2 = true) (h2 : blackB L[k].1 L[k].2 = true) : OkK xs L (k + 1) := fun c hc => by
  rw [List.take_succ_eq_append_getElem hk, List.mem_append] at hc
  rcases hc with q | q
  · exact h c q
  · rw [List.mem_singleton.1 q]; exact ⟨h1, h2⟩
theorem OkK.fin {xs : List Int} {L : List (Int × Int)} {k : Nat} (h : OkK xs L k) (hk : L.length ≤ k) : okBl xs L = okRB xs := by
  have : (L.all fun c => hasB xs c.1 c.2 && blackB c.1 c.2) = true := by
    rw [List.all_eq_true]
    intro c hc
    have := h c (by rw [List.take_of_length_le hk]; exact hc)
    rw [this.1, this.2]; rfl
  unfold okBl
  rw [this, Bool.and_true]
theorem okBl_no {xs : List Int} {L : List (Int × Int)} {k : Nat} (hk : k < L.length) (h : (hasB xs L[k].1 L[k].2 && blackB L[k].1 L[k].2) = false) : okBl xs L = false := by
  apply Bool.eq_false_iff.2
  intro q
  have := (okBl_iff.1 q).2 L[k] (List.getElem_mem hk)
  rw [this.1, this.2] at h
  cases h
/-- the cells around, among the first k of the region. -/
def whtK (xs : List Int) (L : List (Int × Int)) (k : Nat) : List (Int × Int) := ((cellsR xs).take k).filter (arL L)
theorem whtK_yes {xs : List Int} {L : List (Int × Int)} {k : Nat} (hk : k < (cellsR xs).length) (h : arL L (cellsR xs)[k] = true) : whtK xs L (k + 1) = whtK xs L k ++ [(cellsR xs)[k]] := by
  unfold whtK; rw [List.take_succ_eq_append_getElem hk, List.filter_append, List.filter_cons_of_pos h, List.filter_nil]
theorem whtK_no {xs : List Int} {L : List (Int × Int)} {k : Nat} (hk : k < (cellsR xs).length) (h : arL L (cellsR xs)[k] = false) : whtK xs L (k + 1) = whtK xs L k := by
  unfold whtK; rw [List.take_succ_eq_append_getElem hk, List.filter_append, List.filter_cons_of_neg (by rw [h]; simp), List.filter_nil, List.append_nil]
theorem whtK_fin {xs : List Int} {L : List (Int × Int)} {k : Nat} (hk : (cellsR xs).length ≤ k) (h : okBl xs L = true) : whtK xs L k = whtR xs L := by
  unfold whtK; rw [List.take_of_length_le hk, whtR_ok h]
theorem whtK_zero (xs : List Int) (L : List (Int × Int)) : whtK xs L 0 = [] := rfl
/-- none of the first i is a neighbor. -/
theorem arL_no {L : List (Int × Int)} {c : Int × Int} (h : ∀ j (hj : j < L.length), nbB c.1 c.2 L[j].1 L[j].2 = false) : arL L c = false := by
  unfold arL
  rw [List.any_eq_false]
  intro b hb
  obtain ⟨j, hj, rfl⟩ := List.getElem_of_mem hb
  rw [h j hj]; simp
theorem arL_yes {L : List (Int × Int)} {c : Int × Int} {j : Nat} (hj : j < L.length) (h : nbB c.1 c.2 L[j].1 L[j].2 = true) : arL L c = true := by
  unfold arL
  rw [List.any_eq_true]
  exact ⟨L[j], List.getElem_mem hj, h⟩
end Go.Proofs.YtgkgdgchkhdgjaaDoor.Def

/- Deficits, pure: no set of black cells has a greater deficit than the number of black cells that stay free; the cells that ways that alternate reach from the free ones have it: no program here. -/
namespace Go.Proofs.YtgkgdgchkhdgjaaDoor.Def
set_option linter.unusedVariables false
set_option linter.unusedSimpArgs false
open Go.Proofs.YtgkgdgchkhdgjaaDoor.Cnt (adj adj_iff adj_comm gR)
open Go.Proofs.YtgkgdgchkhdgjaaDoor.Kun Go.Proofs.YtgkgdgchkhdgjaaDoor.KuL

/-- the places of a set, in order. -/
def pl (P : Nat → Bool) : List Nat := (List.range 64).filter P
theorem mem_pl {P : Nat → Bool} {i : Nat} : i ∈ pl P ↔ i < 64 ∧ P i = true := by unfold pl; rw [List.mem_filter, List.mem_range]
theorem pl_nodup (P : Nat → Bool) : (pl P).Nodup := by unfold pl; exact List.Pairwise.filter _ List.nodup_range
theorem pl_congr {P Q : Nat → Bool} (h : ∀ i, i < 64 → P i = Q i) : pl P = pl Q := by
  unfold pl; exact List.filter_congr (fun i hi => h i (List.mem_range.1 hi))
theorem pl_le64 (P : Nat → Bool) : (pl P).length ≤ 64 := by
  unfold pl; exact Nat.le_trans (List.length_filter_le _ _) (by rw [List.length_range]; exact Nat.le_refl _)
/-- an injection counts. -/
theorem pl_inj {P Q : Nat → Bool} (f : Nat → Nat) (h : ∀ i, i < 64 → P i = true → f i < 64 ∧ Q (f i) = true) (hi : ∀ i k, i < 64 → k < 64 → P i = true → P k = true → f i = f k → i = k) : (pl P).length ≤ (pl Q).length := by
  have h1 : ((pl P).map f).Nodup := by
    have hn := pl_nodup P
    unfold List.Nodup at hn ⊢
    rw [List.pairwise_map]
    exact hn.imp_of_mem (fun {a b} ha hb hab e => by
      obtain ⟨a1, a2⟩ := mem_pl.1 ha
      obtain ⟨b1, b2⟩ := mem_pl.1 hb
      exact hab (hi a b a1 b1 a2 b2 e))
  have h2 : (pl P).map f ⊆ pl Q := fun x hx => by
    obtain ⟨i, hi', rfl⟩ := List.mem_map.1 hx
    obtain ⟨a, b⟩ := mem_pl.1 hi'
    exact mem_pl.2 (h i a b)
  have h3 := List.Nodup.length_le_of_subset h1 h2
  rw [List.length_map] at h3
  exact h3
theorem pl_mono {P Q : Nat → Bool} (h : ∀ i, i < 64 → P i = true → Q i = true) : (pl P).length ≤ (pl Q).length :=
  pl_inj id (fun i hi hp => ⟨hi, h i hi hp⟩) (fun i k _ _ _ _ e => e)
theorem filter_split {α : Type} (P Q : α → Bool) : ∀ (l : List α), (l.filter P).length = (l.filter fun i => P i && Q i).length + (l.filter fun i => P i && !Q i).length
  | [] => rfl
  | x :: r => by
    have ih := filter_split P Q r
    cases hp : P x <;> cases hq : Q x <;> simp [List.filter_cons, hp, hq, ih] <;> omega
theorem pl_split (P Q : Nat → Bool) : (pl P).length = (pl fun i => P i && Q i).length + (pl fun i => P i && !Q i).length := filter_split P Q _
/-- the white places around a set of black ones. -/
def arB (g P : Nat → Bool) (w : Nat) : Bool := g w && (List.range 64).any fun u => P u && adj u w
theorem arB_iff {g P : Nat → Bool} {w : Nat} : arB g P w = true ↔ g w = true ∧ ∃ u, u < 64 ∧ P u = true ∧ adj u w = true := by
  unfold arB
  rw [Bool.and_eq_true, List.any_eq_true]
  constructor
  · rintro ⟨h, u, hu, hp⟩
    rw [Bool.and_eq_true] at hp
    exact ⟨h, u, List.mem_range.1 hu, hp.1, hp.2⟩
  · rintro ⟨h, u, hu, hp, ha⟩
    exact ⟨h, u, List.mem_range.2 hu, by rw [hp, ha]; rfl⟩
/-- is a black place joined? -/
def isT (J : Nat → Int) (u : Nat) : Bool := (List.range 64).any fun i => decide (J i = (u : Int))
theorem isT_iff {J : Nat → Int} {u : Nat} : isT J u = true ↔ ∃ i, i < 64 ∧ J i = (u : Int) := by
  unfold isT
  rw [List.any_eq_true]
  constructor
  · rintro ⟨i, hi, h⟩; exact ⟨i, List.mem_range.1 hi, of_decide_eq_true h⟩
  · rintro ⟨i, hi, h⟩; exact ⟨i, List.mem_range.2 hi, decide_eq_true h⟩
/-- the black places that stay free. -/
def frB (xs : List Int) (J : Nat → Int) (u : Nat) : Bool := Blk xs u && !isT J u
theorem frB_iff {xs : List Int} {J : Nat → Int} {u : Nat} : frB xs J u = true ↔ Blk xs u = true ∧ ∀ i, i < 64 → J i ≠ (u : Int) := by
  unfold frB
  rw [Bool.and_eq_true]
  refine and_congr_right (fun _ => ?_)
  rw [Bool.not_eq_true']
  constructor
  · intro h i hi e
    rw [isT_iff.2 ⟨i, hi, e⟩] at h; cases h
  · intro h
    exact not_true (fun q => by obtain ⟨i, hi, e⟩ := isT_iff.1 q; exact h i hi e)
section
variable {xs : List Int} {J : Nat → Int}
/-- the places joined to black ones of a set are as many as these. -/
theorem joined_count (hm : Mc (gR xs) col (Blk xs) J) (P : Nat → Bool) : (pl fun u => P u && isT J u).length = (pl fun i => decide (0 ≤ J i) && P (J i).toNat).length := by
  have hk : ∀ u, isT J u = true → ∃ i, i < 64 ∧ J i = (u : Int) := fun u h => isT_iff.1 h
  have fnd : ∀ u, isT J u = true → ((List.range 64).find? fun i => decide (J i = (u : Int))).getD 0 < 64 ∧ J (((List.range 64).find? fun i => decide (J i = (u : Int))).getD 0) = (u : Int) := fun u h => by
    obtain ⟨i, hi, e⟩ := hk u h
    cases hq : (List.range 64).find? fun i => decide (J i = (u : Int)) with
    | none =>
      have := List.find?_eq_none.1 hq i (List.mem_range.2 hi)
      exact absurd (decide_eq_true e) this
    | some j =>
      have h1 := List.find?_some hq
      have h2 := List.mem_of_find?_eq_some hq
      exact ⟨List.mem_range.1 h2, of_decide_eq_true h1⟩
  apply Nat.le_antisymm
  · refine pl_inj (fun u => ((List.range 64).find? fun i => decide (J i = (u : Int))).getD 0) (fun u hu h => ?_) (fun u v hu hv h1 h2 e => ?_)
    · rw [Bool.and_eq_true] at h
      obtain ⟨a, b⟩ := fnd u h.2
      refine ⟨a, ?_⟩
      rw [Bool.and_eq_true, decide_eq_true_eq, b]
      exact ⟨by omega, by rw [Int.toNat_natCast]; exact h.1⟩
    · rw [Bool.and_eq_true] at h1 h2
      have a := (fnd u h1.2).2
      have b := (fnd v h2.2).2
      have e : ((List.range 64).find? fun i => decide (J i = (u : Int))).getD 0 = ((List.range 64).find? fun i => decide (J i = (v : Int))).getD 0 := e
      rw [e, b] at a
      omega
  · refine pl_inj (fun i => (J i).toNat) (fun i hi h => ?_) (fun i k hi hk' h1 h2 e => ?_)
    · rw [Bool.and_eq_true, decide_eq_true_eq] at h
      obtain ⟨_, _, _, h64, _⟩ := hm.mt.ok i h.1
      refine ⟨h64, ?_⟩
      rw [Bool.and_eq_true]
      exact ⟨h.2, isT_iff.2 ⟨i, hi, by rw [Int.toNat_of_nonneg h.1]⟩⟩
    · rw [Bool.and_eq_true, decide_eq_true_eq] at h1 h2
      refine hm.inj i k h1.1 ?_
      have : (J i).toNat = (J k).toNat := e
      omega
theorem sz_pl (J : Nat → Int) : sz J = (pl fun i => decide (0 ≤ J i)).length := rfl
/-- the black places: those that are joined, and those that stay free. -/
theorem blacks_split (hm : Mc (gR xs) col (Blk xs) J) : (pl (Blk xs)).length = sz J + (pl (frB xs J)).length := by
  rw [pl_split (Blk xs) (isT J), joined_count hm, sz_pl]
  congr 2
  refine pl_congr (fun i _ => ?_)
  rw [Bool.eq_iff_iff, Bool.and_eq_true, decide_eq_true_eq]
  exact ⟨fun h => h.1, fun h => ⟨h, hm.bl i h⟩⟩
/-- no set of black places has a greater deficit. -/
theorem deficit_le (hm : Mc (gR xs) col (Blk xs) J) {P : Nat → Bool} (hP : ∀ u, P u = true → Blk xs u = true) : (pl P).length ≤ (pl (arB (gR xs) P)).length + (pl (frB xs J)).length := by
  rw [pl_split P (isT J), joined_count hm]
  have h1 : (pl fun i => decide (0 ≤ J i) && P (J i).toNat).length ≤ (pl (arB (gR xs) P)).length := pl_mono (fun i hi h => by
    rw [Bool.and_eq_true, decide_eq_true_eq] at h
    obtain ⟨_, hg, _, h64, _, _, ha⟩ := hm.mt.ok i h.1
    exact arB_iff.2 ⟨hg, _, h64, h.2, ha⟩)
  have h2 : (pl fun u => P u && !isT J u).length ≤ (pl (frB xs J)).length := pl_mono (fun u hu h => by
    rw [Bool.and_eq_true] at h
    unfold frB
    rw [Bool.and_eq_true]
    exact ⟨hP u h.1, h.2⟩)
  omega
/-- the black places that ways that alternate reach from the free ones. -/
inductive Rch (xs : List Int) (J : Nat → Int) : Nat → Prop
  | free {u : Nat} (hu : u < 64) (h : frB xs J u = true) : Rch xs J u
  | step {u w : Nat} (h : Rch xs J u) (hw : w < 64) (ha : adj u w = true) (hg : gR xs w = true) (h0 : 0 ≤ J w) : Rch xs J (J w).toNat
/-- no way leads to a free white place. -/
theorem Rch.shut (hm : Max (gR xs) col (Blk xs) J) {u : Nat} (h : Rch xs J u) : ∃ Z : Nat → Bool, (∀ i, Z i = true → 0 ≤ J i ∧ Kun.Shut (gR xs) Z (J i).toNat) ∧ Kun.Shut (gR xs) Z u := by
  induction h with
  | @free u hu h =>
    obtain ⟨hb, hf⟩ := frB_iff.1 h
    have hb2 : gR xs u = true ∧ col u = true := by unfold Blk at hb; rw [Bool.and_eq_true] at hb; exact hb
    have hfree : ∀ i, J i ≠ (u : Int) := fun i e => by
      have := (hm.1.mt.ok i (by omega)).1
      exact hf i this e
    have hu66 : uns (gR xs) (fun _ => false) < 66 := by
      have : uns (gR xs) (fun _ => false) ≤ 64 := by unfold uns; exact Nat.le_trans (List.length_filter_le _ _) (by rw [List.length_range]; exact Nat.le_refl _)
      omega
    obtain ⟨⟨s1, s2, s3⟩, s4⟩ := findF_spec col_adj 66 J (fun _ => false) u ⟨hm.1.mt, fun i k _ _ => hm.1.inj i k, fun i _ => hfree i, hu, hb2.1, hb2.2⟩ hu66
    generalize findF (gR xs) 66 J (fun _ => false) u = res at s1 s2 s3 s4
    obtain ⟨b, J', Z'⟩ := res
    simp only at s1 s2 s3 s4
    rcases s3 with ⟨rfl, rfl, q⟩ | ⟨rfl, q⟩
    · exact ⟨Z', fun i hi => (q i hi).elim (fun e => by cases e) id, s4 rfl⟩
    · exfalso
      obtain ⟨a, _, a2, a3, a4⟩ := q.one
      have hs : sz J' = sz J + 1 := sz_one (s2.ok a a3).1 a2 a3 a4
      have key : Mc (gR xs) col (Blk xs) J' := ⟨s2, fun i k hi he => q.inj i k rfl rfl hi he, fun i hi => by
        rcases q.img i rfl hi with e | ⟨m, _, e⟩
        · rw [e, Int.toNat_natCast]; exact hb
        · rw [← e]; exact hm.1.bl m (by omega)⟩
      have := hm.2 _ key
      omega
  | @step u w h hw ha hg h0 ih =>
    obtain ⟨Z, hz, hs⟩ := ih
    exact ⟨Z, hz, (hz w (hs w hw ha hg)).2⟩
theorem Rch.white (hm : Max (gR xs) col (Blk xs) J) {u w : Nat} (h : Rch xs J u) (hw : w < 64) (ha : adj u w = true) (hg : gR xs w = true) : 0 ≤ J w := by
  obtain ⟨Z, hz, hs⟩ := h.shut hm
  exact (hz w (hs w hw ha hg)).1
theorem Rch.blk (hm : Mc (gR xs) col (Blk xs) J) {u : Nat} (h : Rch xs J u) : u < 64 ∧ Blk xs u = true := by
  cases h with
  | free hu h => exact ⟨hu, (frB_iff.1 h).1⟩
  | step _ hw _ _ h0 => exact ⟨(hm.mt.ok _ h0).2.2.2.1, hm.bl _ h0⟩
/-- what a walk that is done has reached. -/
theorem reached (hm : Mc (gR xs) col (Blk xs) J) {Z : Nat → Bool} (h0 : ∀ u, u < 64 → frB xs J u = true → Z u = true) (h1 : ∀ u, Z u = true → Rch xs J u) (h2 : ∀ u w, Z u = true → w < 64 → adj u w = true → gR xs w = true → 0 ≤ J w → Z (J w).toNat = true) : ∀ u, Z u = true ↔ Rch xs J u := fun u =>
  ⟨h1 u, fun h => by
    induction h with
    | free hu h => exact h0 _ hu h
    | step h hw ha hg h0 ih => exact h2 _ _ ih hw ha hg h0⟩
/-- what is reached has the greatest deficit. -/
theorem deficit_is (hm : Max (gR xs) col (Blk xs) J) {Z : Nat → Bool} (hZ : ∀ u, Z u = true ↔ Rch xs J u) : (pl Z).length = (pl (arB (gR xs) Z)).length + (pl (frB xs J)).length := by
  rw [pl_split Z (isT J), joined_count hm.1]
  have h1 : (pl fun i => decide (0 ≤ J i) && Z (J i).toNat) = pl (arB (gR xs) Z) := pl_congr (fun i hi => by
    rw [Bool.eq_iff_iff, Bool.and_eq_true, decide_eq_true_eq, arB_iff]
    constructor
    · rintro ⟨h0, hz⟩
      obtain ⟨_, hg, _, h64, _, _, ha⟩ := hm.1.mt.ok i h0
      exact ⟨hg, _, h64, hz, ha⟩
    · rintro ⟨hg, u, hu, hz, ha⟩
      have h0 := ((hZ u).1 hz).white hm hi ha hg
      exact ⟨h0, (hZ _).2 (Rch.step ((hZ u).1 hz) hi ha hg h0)⟩)
  have h2 : (pl fun u => Z u && !isT J u) = pl (frB xs J) := pl_congr (fun u hu => by
    rw [Bool.eq_iff_iff]
    constructor
    · intro h
      rw [Bool.and_eq_true] at h
      unfold frB
      rw [Bool.and_eq_true]
      exact ⟨(((hZ u).1 h.1).blk hm.1).2, h.2⟩
    · intro h
      have hz := (hZ u).2 (Rch.free hu h)
      unfold frB at h
      rw [Bool.and_eq_true] at h
      rw [Bool.and_eq_true]
      exact ⟨hz, h.2⟩)
  rw [h1, h2]
/-- the white places are at least as many as what is joined. -/
theorem whites_ge (hm : Mc (gR xs) col (Blk xs) J) : sz J ≤ (pl fun i => gR xs i && !col i).length := by
  rw [sz_pl]
  refine pl_mono (fun i hi h => ?_)
  rw [decide_eq_true_eq] at h
  obtain ⟨_, hg, hc, _⟩ := hm.mt.ok i h
  rw [hg, hc]; rfl
end
/-- the places that are reached in a region, in order; how many black ones stay free. -/
noncomputable def witB (xs : List Int) (u : Nat) : Bool := @decide (Rch xs (joined xs) u) (Classical.propDecidable _)
theorem witB_iff (xs : List Int) (u : Nat) : witB xs u = true ↔ Rch xs (joined xs) u := by unfold witB; exact @decide_eq_true_iff _ (Classical.propDecidable _)
noncomputable def witN (xs : List Int) : List Nat := pl (witB xs)
def freeN (xs : List Int) : Nat := (pl (frB xs (joined xs))).length
theorem freeN_is (xs : List Int) : (freeN xs : Int) = ((blks xs).length : Int) - (sz (joined xs) : Int) := by
  have h := blacks_split (joined_max xs).1
  unfold freeN blks
  unfold pl at h ⊢
  omega
theorem wit_deficit (xs : List Int) : (witN xs).length = (pl (arB (gR xs) (witB xs))).length + freeN xs := deficit_is (joined_max xs) (witB_iff xs)
theorem wit_of {xs : List Int} {Z : Nat → Bool} (h0 : ∀ u, u < 64 → frB xs (joined xs) u = true → Z u = true) (h1 : ∀ u, Z u = true → Rch xs (joined xs) u) (h2 : ∀ u w, Z u = true → w < 64 → adj u w = true → gR xs w = true → 0 ≤ joined xs w → Z (joined xs w).toNat = true) : Z = witB xs := by
  funext u
  rw [Bool.eq_iff_iff, witB_iff]
  exact reached (joined_max xs).1 h0 h1 h2 u
end Go.Proofs.YtgkgdgchkhdgjaaDoor.Def

/- WhiteAround, Deficit, FreeBlacks, WitnessOf and IsProofOf, pure: over lists of cells: no program here. -/
namespace Go.Proofs.YtgkgdgchkhdgjaaDoor.Def
set_option linter.unusedVariables false
set_option linter.unusedSimpArgs false
open Go.RowKit Go.Proofs.YtgkgdgchkhdgjaaDoor.Base Go.Proofs.YtgkgdgchkhdgjaaDoor.Pure Go.Proofs.YtgkgdgchkhdgjaaDoor.Cell Go.Proofs.YtgkgdgchkhdgjaaDoor.Dom Go.Proofs.YtgkgdgchkhdgjaaDoor.Sets Go.Proofs.YtgkgdgchkhdgjaaDoor.Kun Go.Proofs.YtgkgdgchkhdgjaaDoor.KuL Go.Proofs.YtgkgdgchkhdgjaaDoor.Mat Go.Joins
open Go.Proofs.YtgkgdgchkhdgjaaDoor.Cnt (adj adj_comm gR)

/-- FreeBlacks. -/
def freeR (xs : List Int) : Int := if okRB xs then (freeN xs : Int) else 0
theorem freeR_ge (xs : List Int) : 0 ≤ freeR xs := by unfold freeR; split <;> omega
/-- WitnessOf. -/
noncomputable def witR (xs : List Int) : List (Int × Int) := if okRB xs then (witN xs).map plc else []

theorem plc_eq {a b : Nat} (h : plc a = plc b) : a = b := by
  unfold plc at h
  injection h with h1 h2
  omega
theorem map_nodup {S : List Nat} (h : S.Nodup) : (S.map plc).Nodup := by
  unfold List.Nodup at h ⊢
  rw [List.pairwise_map]
  exact h.imp (fun {a b} hab e => hab (plc_eq e))
theorem pl_mem {S : List Nat} (h : S.Nodup) (h64 : ∀ u ∈ S, u < 64) : (pl fun u => decide (u ∈ S)).length = S.length := by
  apply Nat.le_antisymm
  · exact List.Nodup.length_le_of_subset (pl_nodup _) (fun u hu => of_decide_eq_true (mem_pl.1 hu).2)
  · exact List.Nodup.length_le_of_subset h (fun u hu => mem_pl.2 ⟨h64 u hu, decide_eq_true hu⟩)
section
variable {xs : List Int}
theorem blk_iff {u : Nat} : Blk xs u = true ↔ gR xs u = true ∧ col u = true := by unfold Blk; rw [Bool.and_eq_true]
theorem blk64 {u : Nat} (h : Blk xs u = true) : u < 64 := by
  by_cases r : u < 64
  · exact r
  · rw [blk_iff, Cnt.gR_out xs u (by omega)] at h; cases h.1
theorem okBl_map (ho : okR xs) {S : List Nat} (hS : ∀ u ∈ S, Blk xs u = true) : okBl xs (S.map plc) = true := by
  rw [okBl_iff]
  refine ⟨okRB_iff.2 ho, fun c hc => ?_⟩
  obtain ⟨u, hu, rfl⟩ := List.mem_map.1 hc
  have hb := hS u hu
  have h64 := blk64 hb
  rw [blk_iff] at hb
  exact ⟨by rw [reg_plc ho h64]; exact hb.1, (col_black h64).trans hb.2⟩
theorem whtR_map (ho : okR xs) {S : List Nat} (hS : ∀ u ∈ S, Blk xs u = true) : whtR xs (S.map plc) = (pl (arB (gR xs) fun u => decide (u ∈ S))).map plc := by
  rw [whtR_ok (okBl_map ho hS), idl_cells, List.filter_map]
  congr 1
  unfold idl
  rw [if_pos (okRB_iff.2 ho)]
  unfold Cnt.idxs pl
  rw [List.filter_filter]
  refine List.filter_congr (fun w hw => ?_)
  have hw := List.mem_range.1 hw
  rw [Bool.eq_iff_iff, Bool.and_eq_true, arB_iff]
  have hk : (arL (S.map plc) ∘ plc) w = true ↔ ∃ u, u < 64 ∧ decide (u ∈ S) = true ∧ adj u w = true := by
    show arL (S.map plc) (plc w) = true ↔ _
    unfold arL
    rw [List.any_map, List.any_eq_true]
    constructor
    · rintro ⟨u, hu, h⟩
      have h64 := blk64 (hS u hu)
      refine ⟨u, h64, decide_eq_true hu, ?_⟩
      rw [adj_comm]
      exact (nb_adj hw h64).symm.trans h
    · rintro ⟨u, h64, hu, h⟩
      rw [adj_comm] at h
      exact ⟨u, of_decide_eq_true hu, (nb_adj hw h64).trans h⟩
  rw [hk]
  exact And.comm
theorem defR_map (ho : okR xs) {S : List Nat} (hn : S.Nodup) (hS : ∀ u ∈ S, Blk xs u = true) : defR xs (S.map plc) = (S.length : Int) - ((pl (arB (gR xs) fun u => decide (u ∈ S))).length : Int) := by
  rw [defR_ok (okBl_map ho hS), whtR_map ho hS, difN_nodup (map_nodup hn), List.length_map, List.length_map]
/-- no set has a greater deficit. -/
theorem defR_le (ho : okR xs) {S : List Nat} (hn : S.Nodup) (hS : ∀ u ∈ S, Blk xs u = true) : defR xs (S.map plc) ≤ freeR xs := by
  have h := deficit_le (joined_max xs).1 (P := fun u => decide (u ∈ S)) (fun u hu => hS u (of_decide_eq_true hu))
  rw [pl_mem hn (fun u hu => blk64 (hS u hu))] at h
  rw [defR_map ho hn hS]
  unfold freeR freeN
  rw [if_pos (okRB_iff.2 ho)]
  omega
theorem wit_blk {u : Nat} (h : u ∈ witN xs) : Blk xs u = true := (((witB_iff xs u).1 (mem_pl.1 h).2).blk (joined_max xs).1).2
theorem witN_nodup : (witN xs).Nodup := pl_nodup _
theorem wit_around : (pl (arB (gR xs) fun u => decide (u ∈ witN xs))) = pl (arB (gR xs) (witB xs)) := by
  congr 1
  congr 1
  funext u
  rw [Bool.eq_iff_iff, decide_eq_true_eq]
  unfold witN
  rw [mem_pl]
  exact ⟨fun h => h.2, fun h => ⟨(((witB_iff xs u).1 h).blk (joined_max xs).1).1, h⟩⟩
theorem witR_ok (ho : okR xs) : witR xs = (witN xs).map plc := by unfold witR; rw [if_pos (okRB_iff.2 ho)]
theorem witR_not (ho : ¬ okR xs) : witR xs = [] := by unfold witR; rw [if_neg (fun h => ho (okRB_iff.1 h))]
/-- what is reached has the greatest deficit. -/
theorem defR_wit (ho : okR xs) : defR xs (witR xs) = freeR xs := by
  have h := wit_deficit xs
  rw [witR_ok ho, defR_map ho witN_nodup (fun u hu => wit_blk hu), wit_around]
  unfold freeR
  rw [if_pos (okRB_iff.2 ho)]
  omega
theorem whtR_wit (ho : okR xs) : ((whtR xs (witR xs)).length : Int) = ((witR xs).length : Int) - freeR xs := by
  have h := wit_deficit xs
  rw [witR_ok ho, whtR_map ho (fun u hu => wit_blk hu), wit_around, List.length_map, List.length_map]
  unfold freeR
  rw [if_pos (okRB_iff.2 ho)]
  omega
theorem prfB_wit (ho : okR xs) : prfB xs (witR xs) (freeR xs) = decide (0 < freeR xs) := by
  unfold prfB
  rw [defR_wit ho, decide_eq_true (Int.le_refl _), Bool.and_true]
theorem witR_length (xs : List Int) : (witR xs).length ≤ 64 := by
  unfold witR
  split
  · rw [List.length_map]; exact pl_le64 _
  · exact Nat.zero_le _
/-- how many black ones stay free, in terms of the list's length. -/
theorem freeR_is (ho : okR xs) : freeR xs = ((blks xs).length : Int) - ((matchR xs).length : Int) := by
  unfold freeR
  rw [if_pos (okRB_iff.2 ho), freeN_is, matchR_length ho]
end
end Go.Proofs.YtgkgdgchkhdgjaaDoor.Def
