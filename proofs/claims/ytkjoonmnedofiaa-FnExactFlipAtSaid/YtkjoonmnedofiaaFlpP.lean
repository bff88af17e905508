/- Flips of lists of dominoes, pure: two dominoes side by side are turned; a flip twice is nothing, and a tiling stays a tiling: no program here. -/
import Derived.Test.YtkjoonmnedofiaaGrdP
import Derived.Test.YtkjoonmnedofiaaKuL
namespace Go.Proofs.Ytkjoonmnedofiaa.Flp
set_option linter.unusedVariables false
set_option linter.unusedSimpArgs false
open Go.RowKit Go.Proofs.Ytkjoonmnedofiaa.Base Go.Proofs.Ytkjoonmnedofiaa.Pure Go.Proofs.Ytkjoonmnedofiaa.Cell Go.Proofs.Ytkjoonmnedofiaa.Dom Go.Proofs.Ytkjoonmnedofiaa.Dms Go.Proofs.Ytkjoonmnedofiaa.Til Go.Proofs.Ytkjoonmnedofiaa.Grd Go.Joins
open Go.Proofs.Ytkjoonmnedofiaa.KuL (inc_nodup)

/-- may a flip stand at a cell? -/
def in6 (x y : Int) : Bool := decide (0 ≤ x ∧ x ≤ 6 ∧ 0 ≤ y ∧ y ≤ 6)
theorem in6_iff {x y : Int} : in6 x y = true ↔ 0 ≤ x ∧ x ≤ 6 ∧ 0 ≤ y ∧ y ≤ 6 := by unfold in6; rw [decide_eq_true_eq]
/-- the two dominoes at a cell, to the right or down. -/
def pr1 (x y : Int) (b : Bool) : Dm := (x, y, b)
def pr2 (x y : Int) (b : Bool) : Dm := if b then (x + 1, y, true) else (x, y + 1, false)
def has2 (L : List Dm) (x y : Int) (b : Bool) : Bool := decide (pr1 x y b ∈ L) && decide (pr2 x y b ∈ L)
theorem has2_iff {L : List Dm} {x y : Int} {b : Bool} : has2 L x y b = true ↔ pr1 x y b ∈ L ∧ pr2 x y b ∈ L := by
  unfold has2; rw [Bool.and_eq_true, decide_eq_true_eq, decide_eq_true_eq]
/-- which pair lies at a cell: 0 none, 1 to the right, 2 down. -/
def kindN (L : List Dm) (x y : Int) : Nat := if in6 x y then (if has2 L x y false then 1 else if has2 L x y true then 2 else 0) else 0
theorem kind_le (L : List Dm) (x y : Int) : kindN L x y ≤ 2 := by unfold kindN; split <;> (try split) <;> (try split) <;> omega
/-- CanFlip. -/
def canB (L : List Dm) (x y : Int) : Bool := decide (0 < kindN L x y)
/-- the others. -/
def oth (L : List Dm) (x y : Int) (b : Bool) : List Dm := L.filter fun d => decide (d ≠ pr1 x y b) && decide (d ≠ pr2 x y b)
theorem mem_oth {L : List Dm} {x y : Int} {b : Bool} {d : Dm} : d ∈ oth L x y b ↔ d ∈ L ∧ d ≠ pr1 x y b ∧ d ≠ pr2 x y b := by
  unfold oth; rw [List.mem_filter, Bool.and_eq_true, decide_eq_true_eq, decide_eq_true_eq]
/-- a pair turned. -/
def turn (L : List Dm) (x y : Int) (b : Bool) : List Dm := sortM (pr1 x y (!b) :: pr2 x y (!b) :: oth L x y b)
/-- FlipAt. -/
def flipL (L : List Dm) (x y : Int) : List Dm := if kindN L x y = 0 then L else turn L x y (decide (kindN L x y = 2))
theorem flip_no {L : List Dm} {x y : Int} (h : kindN L x y = 0) : flipL L x y = L := by unfold flipL; rw [if_pos h]
theorem flip_yes {L : List Dm} {x y : Int} (h : kindN L x y ≠ 0) : flipL L x y = turn L x y (decide (kindN L x y = 2)) := by unfold flipL; rw [if_neg h]
/-- a pair that is chosen. -/
theorem kind_is {L : List Dm} {x y : Int} (h : kindN L x y ≠ 0) : in6 x y = true ∧ has2 L x y (decide (kindN L x y = 2)) = true := by
  unfold kindN at h ⊢
  by_cases h6 : in6 x y = true
  · rw [if_pos h6] at h ⊢
    refine ⟨h6, ?_⟩
    by_cases h1 : has2 L x y false = true
    · rw [if_pos h1]; exact h1
    · rw [if_neg h1] at h ⊢
      by_cases h2 : has2 L x y true = true
      · rw [if_pos h2]; exact h2
      · rw [if_neg h2] at h; exact absurd rfl h
  · rw [if_neg h6] at h; exact absurd rfl h
/-- FlipsOf. -/
def flipsR (L : List Dm) : List (Int × Int) := ((List.range 64).filter fun k => canB L ((k % 8 : Nat) : Int) ((k / 8 : Nat) : Int)).map fun k => (((k % 8 : Nat) : Int), ((k / 8 : Nat) : Int))
/-- FlipAll, flip after flip. -/
def allF : List Dm → List (Int × Int) → Option (List Dm)
  | L, [] => some L
  | L, c :: r => if canB L c.1 c.2 then allF (flipL L c.1 c.2) r else none
def flipAllR (L : List Dm) (cs : List (Int × Int)) : Option (List Dm) := if 200 < cs.length then none else allF L cs
/-- CountDown. -/
def downR (L : List Dm) : Nat := (L.filter fun d => okM d && d.2.2).length

/-! Dominoes that share no cell. -/
def Dj (L : List Dm) : Prop := ∀ d ∈ L, ∀ e ∈ L, ∀ x y, covM d x y = true → covM e x y = true → d = e
theorem cov_two {d : Dm} {x y : Int} (h : covM d x y = true) : okM d = true ∧ ((x = d.1 ∧ y = d.2.1) ∨ (x = sx d.1 d.2.2 ∧ y = sy d.2.1 d.2.2)) := by
  unfold covM covP at h
  rw [Bool.and_eq_true, Bool.or_eq_true, eqB_iff, eqB_iff] at h
  exact h
theorem cov_of {d : Dm} {x y : Int} (h0 : okM d = true) (h : (x = d.1 ∧ y = d.2.1) ∨ (x = sx d.1 d.2.2 ∧ y = sy d.2.1 d.2.2)) : covM d x y = true := by
  unfold covM covP
  rw [Bool.and_eq_true, Bool.or_eq_true, eqB_iff, eqB_iff]
  exact ⟨h0, h⟩
theorem part_dj {xs : List Int} {L : List Dm} (h : partB xs L = true) : Dj L := by
  have key : ∀ k (hk : k < L.length) x y, covM L[k] x y = true → atI L x y = (k : Int) := fun k hk x y hc => by
    obtain ⟨h1, h2⟩ := part_at h hk
    rcases (cov_two hc).2 with ⟨rfl, rfl⟩ | ⟨rfl, rfl⟩
    · exact h1
    · exact h2
  intro d hd e he x y hc1 hc2
  obtain ⟨i, hi, rfl⟩ := List.getElem_of_mem hd
  obtain ⟨j, hj, rfl⟩ := List.getElem_of_mem he
  have h1 := key i hi x y hc1
  have h2 := key j hj x y hc2
  have : i = j := by omega
  subst this; rfl
theorem part_in {xs : List Int} {L : List Dm} (h : partB xs L = true) {d : Dm} (hd : d ∈ L) {x y : Int} (hc : covM d x y = true) : hasB xs x y = true := by
  obtain ⟨k, hk, rfl⟩ := List.getElem_of_mem hd
  have hs := (part_iff.1 h).2 k hk
  rw [stpAt_of hk] at hs
  unfold stepB at hs
  simp only [Bool.and_eq_true] at hs
  obtain ⟨_, ⟨h1, _⟩, h2, _⟩ := hs
  rcases (cov_two hc).2 with ⟨rfl, rfl⟩ | ⟨rfl, rfl⟩
  · exact h1
  · exact h2
/-- a list in order, of dominoes in the region that share no cell, is partial. -/
theorem part_of {xs : List Int} {M : List Dm} (ho : okRB xs = true) (hi : Inc M) (hv : ∀ d ∈ M, okM d = true) (hin : ∀ d ∈ M, ∀ x y, covM d x y = true → hasB xs x y = true) (hdj : Dj M) : partB xs M = true := by
  refine part_yes ho fun k hk => ?_
  rw [stpAt_of hk]
  have hm := List.getElem_mem hk
  have hok := hv M[k] hm
  have hbef : ∀ p ∈ M.take k, befM p M[k] = true := fun p hp => by
    obtain ⟨j, hj, e⟩ := List.getElem_of_mem hp
    rw [List.length_take] at hj
    rw [List.getElem_take] at e
    rw [← e]
    exact List.pairwise_iff_getElem.1 hi j k (by omega) hk (by omega)
  have hfree : ∀ x y, covM M[k] x y = true → anyM (M.take k) x y = false := fun x y hc => by
    apply Bool.eq_false_iff.2
    intro q
    unfold anyM at q
    rw [List.any_eq_true] at q
    obtain ⟨p, hp, hpc⟩ := q
    have e := hdj p (List.mem_of_mem_take hp) M[k] hm x y hpc hc
    have hb := hbef p hp
    rw [e, befM_irrefl] at hb; cases hb
  have c1 := cov_of hok (.inl ⟨rfl, rfl⟩)
  have c2 := cov_of hok (.inr ⟨rfl, rfl⟩)
  unfold stepB
  rw [hin _ hm _ _ c1, hin _ hm _ _ c2, hfree _ _ c1, hfree _ _ c2]
  cases hl : (M.take k).getLast? with
  | none => rfl
  | some p =>
    have hb := hbef p (List.mem_of_getLast? hl)
    simp [hb]
end Go.Proofs.Ytkjoonmnedofiaa.Flp
