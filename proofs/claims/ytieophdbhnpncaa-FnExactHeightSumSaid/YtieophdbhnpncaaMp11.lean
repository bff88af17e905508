/- FlpP, FlpQ in one text. -/
import Derived.Test.YtieophdbhnpncaaMp04
import Derived.Test.YtieophdbhnpncaaMp10

/- Flips of lists of dominoes, pure: two dominoes side by side are turned; a flip twice is nothing, and a tiling stays a tiling: no program here. -/
namespace Go.Proofs.Ytieophdbhnpncaa.Flp
set_option linter.unusedVariables false
set_option linter.unusedSimpArgs false
open Go.RowKit Go.Proofs.Ytieophdbhnpncaa.Base Go.Proofs.Ytieophdbhnpncaa.Pure Go.Proofs.Ytieophdbhnpncaa.Cell Go.Proofs.Ytieophdbhnpncaa.Dom Go.Proofs.Ytieophdbhnpncaa.Dms Go.Proofs.Ytieophdbhnpncaa.Til Go.Proofs.Ytieophdbhnpncaa.Grd Go.Joins
open Go.Proofs.Ytieophdbhnpncaa.KuL (inc_nodup)

/-- may a flip stand at a cell? -/
def in6 (x y : Int) : Bool := decide (0 ≤ x ∧ x ≤ 6 ∧ 0 ≤ y ∧ y ≤ 6)
theorem in6_iff {x y : Int} : in6 x y = true ↔ 0 ≤ x ∧ x ≤ 6 ∧ 0 ≤ y ∧ y ≤ 6 := by unfold in6; rw [decide_eq_true_eq]
/-- the two dominoes at a cell, to the right or down. -/
def pr1 (x y : Int) (b : Bool) : Dm := (x, y, b)
def pr2 (x y : Int) (b : Bool) : Dm := if b then (x + 1, y, true) else (x, y + 1, false)
def has2 (L : List Dm) (x y : Int) (b : Bool) : Bool := decide (pr1 x y b ∈ L) && decide (pr2 x y b ∈ L)
theorem has2_iff {L : List Dm} {x y : Int} {b : Bool} : has2 L x y b = true ↔ pr1 x y b ∈ L ∧ pr2 x y b ∈ L := by
  unfold has2; rw [Bool.and_eq_true, decide_eq_true_eq, decide_eq_true_eq]
/-- which pair lies at a cell: 0 none, 1 to the right, 2 down. -/
def kindN (L : List Dm) (x y : Int) : Nat := if in6 x y then (if has2 L x y false then 1 else if has2 L x y true then 2 else 0) else 0
theorem kind_le (L : List Dm) (x y : Int) : kindN L x y ≤ 2 := by unfold kindN; split <;> (try split) <;> (try split) <;> omega
/-- CanFlip. -/
def canB (L : List Dm) (x y : Int) : Bool := decide (0 < kindN L x y)
/-- the others. -/
def oth (L : List Dm) (x y : Int) (b : Bool) : List Dm := L.filter fun d => decide (d ≠ pr1 x y b) && decide (d ≠ pr2 x y b)
theorem mem_oth {L : List Dm} {x y : Int} {b : Bool} {d : Dm} : d ∈ oth L x y b ↔ d ∈ L ∧ d ≠ pr1 x y b ∧ d ≠ pr2 x y b := by
  unfold oth; rw [List.mem_filter, Bool.and_eq_true, decide_eq_true_eq, decide_eq_true_eq]
/-- a pair turned. -/
def turn (L : List Dm) (x y : Int) (b : Bool) : List Dm := sortM (pr1 x y (!b) :: pr2 x y (!b) :: oth L x y b)
/-- FlipAt. -/
def flipL (L : List Dm) (x y : Int) : List Dm := if kindN L x y = 0 then L else turn L x y (decide (kindN L x y = 2))
theorem flip_no {L : List Dm} {x y : Int} (h : kindN L x y = 0) : flipL L x y = L := by unfold flipL; rw [if_pos h]
theorem flip_yes {L : List Dm} {x y : Int} (h : kindN L x y ≠ 0) : flipL L x y = turn L x y (decide (kindN L x y = 2)) := by unfold flipL; rw [if_neg h]
/-- a pair that is chosen. -/
theorem kind_is {L : List Dm} {x y : Int} (h : kindN L x y ≠ 0) : in6 x y = true ∧ has2 L x y (decide (kindN L x y = 2)) = true := by
  unfold kindN at h ⊢
  by_cases h6 : in6 x y = true
  · rw [if_pos h6] at h ⊢
    refine ⟨h6, ?_⟩
    by_cases h1 : has2 L x y false = true
    · rw [if_pos h1]; exact h1
    · rw [if_neg h1] at h ⊢
      by_cases h2 : has2 L x y true = true
      · rw [if_pos h2]; exact h2
      · rw [if_neg h2] at h; exact absurd rfl h
  · rw [if_neg h6] at h; exact absurd rfl h
/-- FlipsOf. -/
def flipsR (L : List Dm) : List (Int × Int) := ((List.range 64).filter fun k => canB L ((k % 8 : Nat) : Int) ((k / 8 : Nat) : Int)).map fun k => (((k % 8 : Nat) : Int), ((k / 8 : Nat) : Int))
/-- FlipAll, flip after flip. -/
def allF : List Dm → List (Int × Int) → Option (List Dm)
  | L, [] => some L
  | L, c :: r => if canB L c.1 c.2 then allF (flipL L c.1 c.2) r else none
def flipAllR (L : List Dm) (cs : List (Int × Int)) : Option (List Dm) := if 200 < cs.length then none else allF L cs
/-- CountDown. -/
def downR (L : List Dm) : Nat := (L.filter fun d => okM d && d.2.2).length

/-! Dominoes that share no cell. -/
def Dj (L : List Dm) : Prop := ∀ d ∈ L, ∀ e ∈ L, ∀ x y, covM d x y = true → covM e x y = true → d = e
theorem cov_two {d : Dm} {x y : Int} (h : covM d x y = true) : okM d = true ∧ ((x = d.1 ∧ y = d.2.1) ∨ (x = sx d.1 d.2.2 ∧ y = sy d.2.1 d.2.2)) := by
  unfold covM covP at h
  rw [Bool.and_eq_true, Bool.or_eq_true, eqB_iff, eqB_iff] at h
  exact h
theorem cov_of {d : Dm} {x y : Int} (h0 : okM d = true) (h : (x = d.1 ∧ y = d.2.1) ∨ (x = sx d.1 d.2.2 ∧ y = sy d.2.1 d.2.2)) : covM d x y = true := by
  unfold covM covP
  rw [Bool.and_eq_true, Bool.or_eq_true, eqB_iff, eqB_iff]
  exact ⟨h0, h⟩
theorem part_dj {xs : List Int} {L : List Dm} (h : partB xs L = true) : Dj L := by
  have key : ∀ k (hk : k < L.length) x y, covM L[k] x y = true → atI L x y = (k : Int) := fun k hk x y hc => by
    obtain ⟨h1, h2⟩ := part_at h hk
    rcases (cov_two hc).2 with ⟨rfl, rfl⟩ | ⟨rfl, rfl⟩
    · exact h1
    · exact h2
  intro d hd e he x y hc1 hc2
  obtain ⟨i, hi, rfl⟩ := List.getElem_of_mem hd
  obtain ⟨j, hj, rfl⟩ := List.getElem_of_mem he
  have h1 := key i hi x y hc1
  have h2 := key j hj x y hc2
  have : i = j := by omega
  subst this; rfl
theorem part_in {xs : List Int} {L : List Dm} (h : partB xs L = true) {d : Dm} (hd : d ∈ L) {x y : Int} (hc : covM d x y = true) : hasB xs x y = true := by
  obtain ⟨k, hk, rfl⟩ := List.getElem_of_mem hd
  have hs := (part_iff.1 h).2 k hk
  rw [stpAt_of hk] at hs
  unfold stepB at hs
  simp only [Bool.and_eq_true] at hs
  obtain ⟨_, ⟨h1, _⟩, h2, _⟩ := hs
  rcases (cov_two hc).2 with ⟨rfl, rfl⟩ | ⟨rfl, rfl⟩
  · exact h1
  · exact h2
/-- a list in order, of dominoes in the region that share no cell, is partial. -/
theorem part_of {xs : List Int} {M : List Dm} (ho : okRB xs = true) (hi : Inc M) (hv : ∀ d ∈ M, okM d = true) (hin : ∀ d ∈ M, ∀ x y, covM d x y = true → hasB xs x y = true) (hdj : Dj M) : partB xs M = true := by
  refine part_yes ho fun k hk => ?_
  rw [stpAt_of hk]
  have hm := List.getElem_mem hk
  have hok := hv M[k] hm
  have hbef : ∀ p ∈ M.take k, befM p M[k] = true := fun p hp => by
    obtain ⟨j, hj, e⟩ := List.getElem_of_mem hp
    rw [List.length_take] at hj
    rw [List.getElem_take] at e
    rw [← e]
    exact List.pairwise_iff_getElem.1 hi j k (by omega) hk (by omega)
  have hfree : ∀ x y, covM M[k] x y = true → anyM (M.take k) x y = false := fun x y hc => by
    apply Bool.eq_false_iff.2
    intro q
    unfold anyM at q
    rw [List.any_eq_true] at q
    obtain ⟨p, hp, hpc⟩ := q
    have e := hdj p (List.mem_of_mem_take hp) M[k] hm x y hpc hc
    have hb := hbef p hp
    rw [e, befM_irrefl] at hb; cases hb
  have c1 := cov_of hok (.inl ⟨rfl, rfl⟩)
  have c2 := cov_of hok (.inr ⟨rfl, rfl⟩)
  unfold stepB
  rw [hin _ hm _ _ c1, hin _ hm _ _ c2, hfree _ _ c1, hfree _ _ c2]
  cases hl : (M.take k).getLast? with
  | none => rfl
  | some p =>
    have hb := hbef p (List.mem_of_getLast? hl)
    simp [hb]
end Go.Proofs.Ytieophdbhnpncaa.Flp

/- A flip of a partial list, pure: it is partial, covers the same cells, a flip at the same cell turns it back, and it has two dominoes more down or two fewer: no program here. -/
namespace Go.Proofs.Ytieophdbhnpncaa.Flp
set_option linter.unusedVariables false
set_option linter.unusedSimpArgs false
open Go.RowKit Go.Proofs.Ytieophdbhnpncaa.Base Go.Proofs.Ytieophdbhnpncaa.Pure Go.Proofs.Ytieophdbhnpncaa.Cell Go.Proofs.Ytieophdbhnpncaa.Dom Go.Proofs.Ytieophdbhnpncaa.Dms Go.Proofs.Ytieophdbhnpncaa.Til Go.Proofs.Ytieophdbhnpncaa.Grd Go.Joins
open Go.Proofs.Ytieophdbhnpncaa.KuL (inc_nodup)

theorem wrap_in {x : Int} (h0 : 0 ≤ x) (h1 : x ≤ 7) : wrap64 (x + 1) = x + 1 := by unfold wrap64; omega
theorem ok_of {x y : Int} {b : Bool} (h0 : 0 ≤ x) (h1 : x ≤ 7) (h2 : 0 ≤ y) (h3 : y ≤ 7) (h4 : b = false → x ≤ 6) (h5 : b = true → y ≤ 6) : okM (x, y, b) = true := by
  unfold okM domB
  rw [Bool.and_eq_true, okB_iff, okB_iff]
  refine ⟨⟨h0, h1, h2, h3⟩, ?_⟩
  show 0 ≤ sx x b ∧ sx x b ≤ 7 ∧ 0 ≤ sy y b ∧ sy y b ≤ 7
  unfold sx sy
  cases b with
  | false =>
    have := h4 rfl
    rw [if_neg (by simp), if_neg (by simp), wrap_in h0 h1]; omega
  | true =>
    have := h5 rfl
    rw [if_pos rfl, if_pos rfl, wrap_in h2 h3]; omega
section
variable {x y : Int}
theorem ok1 (h : 0 ≤ x ∧ x ≤ 6 ∧ 0 ≤ y ∧ y ≤ 6) (b : Bool) : okM (pr1 x y b) = true := by
  obtain ⟨a, b', c, d⟩ := h
  unfold pr1
  exact ok_of a (by omega) c (by omega) (fun _ => b') (fun _ => d)
theorem ok2 (h : 0 ≤ x ∧ x ≤ 6 ∧ 0 ≤ y ∧ y ≤ 6) (b : Bool) : okM (pr2 x y b) = true := by
  obtain ⟨a, b', c, d⟩ := h
  unfold pr2
  cases b with
  | false => exact ok_of a (by omega) (by omega) (by omega) (fun _ => b') (fun e => by cases e)
  | true => exact ok_of (by omega) (by omega) c (by omega) (fun e => by cases e) (fun _ => d)
/-- the cells under the two: the four. -/
theorem cov_pair (h : 0 ≤ x ∧ x ≤ 6 ∧ 0 ≤ y ∧ y ≤ 6) (b : Bool) (u v : Int) : (covM (pr1 x y b) u v = true ∨ covM (pr2 x y b) u v = true) ↔ (u = x ∨ u = x + 1) ∧ (v = y ∨ v = y + 1) := by
  have o1 := ok1 h b
  have o2 := ok2 h b
  unfold covM covP
  rw [o1, o2]
  simp only [Bool.true_and, Bool.or_eq_true, eqB_iff]
  unfold pr1 pr2 sx sy
  cases b with
  | false =>
    simp only [Bool.false_eq_true, if_false]
    rw [wrap_in (x := x) (by omega) (by omega)]
    omega
  | true =>
    simp only [if_true]
    rw [wrap_in (x := y) (by omega) (by omega)]
    omega
/-- the two share no cell. -/
theorem pair_apart (b : Bool) {u v : Int} (h1 : covM (pr1 x y b) u v = true) (h2 : covM (pr2 x y b) u v = true) : False := by
  have q1 := (cov_two h1).2
  have q2 := (cov_two h2).2
  unfold pr1 at q1
  unfold pr2 at q2
  unfold sx sy at q1 q2
  cases b with
  | false =>
    simp only [Bool.false_eq_true, if_false] at q1 q2
    omega
  | true =>
    simp only [if_true] at q1 q2
    omega
theorem pair_ne (b : Bool) : pr1 x y b ≠ pr2 x y b := by
  unfold pr1 pr2
  cases b with
  | false => intro e; simp at e; omega
  | true => intro e; simp at e; omega
theorem cross (b : Bool) : pr1 x y (!b) ≠ pr1 x y b ∧ pr1 x y (!b) ≠ pr2 x y b ∧ pr2 x y (!b) ≠ pr1 x y b ∧ pr2 x y (!b) ≠ pr2 x y b := by
  unfold pr1 pr2
  cases b <;> simp
end
theorem mem_turn {L : List Dm} {x y : Int} {b : Bool} (h : 0 ≤ x ∧ x ≤ 6 ∧ 0 ≤ y ∧ y ≤ 6) (hv : ∀ d ∈ L, okM d = true) {e : Dm} : e ∈ turn L x y b ↔ e = pr1 x y (!b) ∨ e = pr2 x y (!b) ∨ e ∈ oth L x y b := by
  unfold turn
  rw [(sortM_good _).2, List.mem_cons, List.mem_cons]
  constructor
  · exact fun q => q.1
  · intro q
    refine ⟨q, ?_⟩
    rcases q with rfl | rfl | q
    · exact ok1 h _
    · exact ok2 h _
    · exact hv e (mem_oth.1 q).1
section
variable {xs : List Int} {L : List Dm} {x y : Int} {b : Bool}
/-- whoever covers one of the four is one of the two. -/
theorem four (hp : partB xs L = true) (h6 : 0 ≤ x ∧ x ≤ 6 ∧ 0 ≤ y ∧ y ≤ 6) (hb : has2 L x y b = true) {d : Dm} (hd : d ∈ L) {u v : Int} (hc : covM d u v = true) (h4 : (u = x ∨ u = x + 1) ∧ (v = y ∨ v = y + 1)) : d = pr1 x y b ∨ d = pr2 x y b := by
  obtain ⟨m1, m2⟩ := has2_iff.1 hb
  rcases (cov_pair h6 b u v).2 h4 with q | q
  · exact .inl (part_dj hp d hd _ m1 u v hc q)
  · exact .inr (part_dj hp d hd _ m2 u v hc q)
theorem oth_four (hp : partB xs L = true) (h6 : 0 ≤ x ∧ x ≤ 6 ∧ 0 ≤ y ∧ y ≤ 6) (hb : has2 L x y b = true) {d : Dm} (hd : d ∈ oth L x y b) {u v : Int} (hc : covM d u v = true) : ¬ ((u = x ∨ u = x + 1) ∧ (v = y ∨ v = y + 1)) := fun h4 => by
  obtain ⟨m, n1, n2⟩ := mem_oth.1 hd
  rcases four hp h6 hb m hc h4 with e | e
  · exact n1 e
  · exact n2 e
/-- the other pair is not there. -/
theorem not_other (hp : partB xs L = true) (h6 : 0 ≤ x ∧ x ≤ 6 ∧ 0 ≤ y ∧ y ≤ 6) (hb : has2 L x y b = true) : pr1 x y (!b) ∉ L ∧ pr2 x y (!b) ∉ L := by
  obtain ⟨c1, c2, c3, c4⟩ := cross b
  have k1 : covM (pr1 x y (!b)) (pr1 x y (!b)).1 (pr1 x y (!b)).2.1 = true := cov_of (ok1 h6 _) (.inl ⟨rfl, rfl⟩)
  have k2 : covM (pr2 x y (!b)) (pr2 x y (!b)).1 (pr2 x y (!b)).2.1 = true := cov_of (ok2 h6 _) (.inl ⟨rfl, rfl⟩)
  constructor
  · intro hm
    rcases four hp h6 hb hm k1 ((cov_pair h6 (!b) _ _).1 (.inl k1)) with e | e
    · exact c1 e
    · exact c2 e
  · intro hm
    rcases four hp h6 hb hm k2 ((cov_pair h6 (!b) _ _).1 (.inr k2)) with e | e
    · exact c3 e
    · exact c4 e
theorem turn_dj (hp : partB xs L = true) (h6 : 0 ≤ x ∧ x ≤ 6 ∧ 0 ≤ y ∧ y ≤ 6) (hb : has2 L x y b = true) : Dj (turn L x y b) := by
  have hv := part_valid hp
  have key : ∀ d ∈ oth L x y b, ∀ e, (e = pr1 x y (!b) ∨ e = pr2 x y (!b)) → ∀ u v, covM d u v = true → covM e u v = true → False := fun d hd e he u v h1 h2 => by
    refine oth_four hp h6 hb hd h1 ((cov_pair h6 (!b) u v).1 ?_)
    rcases he with rfl | rfl
    · exact .inl h2
    · exact .inr h2
  intro d hd e he u v h1 h2
  rw [mem_turn h6 hv] at hd he
  rcases hd with rfl | rfl | hd
  · rcases he with rfl | rfl | he
    · rfl
    · exact (pair_apart _ h1 h2).elim
    · exact (key e he _ (.inl rfl) u v h2 h1).elim
  · rcases he with rfl | rfl | he
    · exact (pair_apart _ h2 h1).elim
    · rfl
    · exact (key e he _ (.inr rfl) u v h2 h1).elim
  · rcases he with rfl | rfl | he
    · exact (key d hd _ (.inl rfl) u v h1 h2).elim
    · exact (key d hd _ (.inr rfl) u v h1 h2).elim
    · exact part_dj hp d (mem_oth.1 hd).1 e (mem_oth.1 he).1 u v h1 h2
/-- the same cells are covered. -/
theorem turn_any (hp : partB xs L = true) (h6 : 0 ≤ x ∧ x ≤ 6 ∧ 0 ≤ y ∧ y ≤ 6) (hb : has2 L x y b = true) (u v : Int) : anyM (turn L x y b) u v = anyM L u v := by
  have hv := part_valid hp
  obtain ⟨m1, m2⟩ := has2_iff.1 hb
  rw [Bool.eq_iff_iff]
  unfold anyM
  rw [List.any_eq_true, List.any_eq_true]
  constructor
  · rintro ⟨d, hd, hc⟩
    rw [mem_turn h6 hv] at hd
    have pair : (covM (pr1 x y (!b)) u v = true ∨ covM (pr2 x y (!b)) u v = true) → ∃ d, d ∈ L ∧ covM d u v = true := fun q => by
      rcases (cov_pair h6 b u v).2 ((cov_pair h6 (!b) u v).1 q) with r | r
      · exact ⟨_, m1, r⟩
      · exact ⟨_, m2, r⟩
    rcases hd with rfl | rfl | hd
    · exact pair (.inl hc)
    · exact pair (.inr hc)
    · exact ⟨d, (mem_oth.1 hd).1, hc⟩
  · rintro ⟨d, hd, hc⟩
    by_cases e : d = pr1 x y b ∨ d = pr2 x y b
    · have h4 := (cov_pair h6 b u v).1 (by rcases e with rfl | rfl; exact .inl hc; exact .inr hc)
      rcases (cov_pair h6 (!b) u v).2 h4 with r | r
      · exact ⟨_, (mem_turn h6 hv).2 (.inl rfl), r⟩
      · exact ⟨_, (mem_turn h6 hv).2 (.inr (.inl rfl)), r⟩
    · exact ⟨d, (mem_turn h6 hv).2 (.inr (.inr (mem_oth.2 ⟨hd, fun q => e (.inl q), fun q => e (.inr q)⟩))), hc⟩
theorem turn_part (hp : partB xs L = true) (h6 : 0 ≤ x ∧ x ≤ 6 ∧ 0 ≤ y ∧ y ≤ 6) (hb : has2 L x y b = true) : partB xs (turn L x y b) = true := by
  have hv := part_valid hp
  refine part_of (part_iff.1 hp).1 (sortM_good _).1 (fun d hd => ((sortM_good _).2 d).1 hd |>.2) (fun d hd u v hc => ?_) (turn_dj hp h6 hb)
  have := turn_any hp h6 hb u v
  have h1 : anyM (turn L x y b) u v = true := by unfold anyM; rw [List.any_eq_true]; exact ⟨d, hd, hc⟩
  rw [h1] at this
  have this := this.symm
  unfold anyM at this
  rw [List.any_eq_true] at this
  obtain ⟨e, he, hec⟩ := this
  exact part_in hp he hec
theorem turn_til (hp : partB xs L = true) (h6 : 0 ≤ x ∧ x ≤ 6 ∧ 0 ≤ y ∧ y ≤ 6) (hb : has2 L x y b = true) (ht : tilB xs L = true) : tilB xs (turn L x y b) = true := by
  have e : unc (turn L x y b) (cellsR xs) = unc L (cellsR xs) := by
    unfold unc
    refine List.filter_congr (fun c _ => ?_)
    rw [turn_any hp h6 hb]
  rw [tilB_part (turn_part hp h6 hb), e, ← tilB_part hp]
  exact ht
/-- the pair at the cell is the other one. -/
theorem turn_kind (hp : partB xs L = true) (h6 : 0 ≤ x ∧ x ≤ 6 ∧ 0 ≤ y ∧ y ≤ 6) (hb : has2 L x y b = true) : kindN (turn L x y b) x y = if b then 1 else 2 := by
  have hv := part_valid hp
  have h1 : has2 (turn L x y b) x y (!b) = true := has2_iff.2 ⟨(mem_turn h6 hv).2 (.inl rfl), (mem_turn h6 hv).2 (.inr (.inl rfl))⟩
  have h2 : has2 (turn L x y b) x y b = false := by
    apply Bool.eq_false_iff.2
    intro q
    obtain ⟨m, _⟩ := has2_iff.1 q
    obtain ⟨c1, c2, _, _⟩ := cross b
    rw [mem_turn h6 hv] at m
    rcases m with e | e | m
    · exact c1 e.symm
    · obtain ⟨_, _, c3, _⟩ := cross b
      exact c3 e.symm
    · exact (mem_oth.1 m).2.1 rfl
  unfold kindN
  rw [if_pos (in6_iff.2 h6)]
  cases b with
  | false => rw [h2]; rw [show has2 (turn L x y false) x y true = true from h1]; rfl
  | true => rw [show has2 (turn L x y true) x y false = true from h1]; rfl
/-- a flip twice is nothing. -/
theorem turn_back (hp : partB xs L = true) (h6 : 0 ≤ x ∧ x ≤ 6 ∧ 0 ≤ y ∧ y ≤ 6) (hb : has2 L x y b = true) : turn (turn L x y b) x y (!b) = L := by
  have hv := part_valid hp
  have hv2 : ∀ d ∈ turn L x y b, okM d = true := fun d hd => ((sortM_good _).2 d).1 hd |>.2
  obtain ⟨m1, m2⟩ := has2_iff.1 hb
  obtain ⟨n1, n2⟩ := not_other hp h6 hb
  refine uniq (sortM_good _).1 (part_inc hp) (fun d => ?_)
  show d ∈ turn (turn L x y b) x y (!b) ↔ d ∈ L
  rw [mem_turn h6 hv2, Bool.not_not, mem_oth, mem_turn h6 hv]
  constructor
  · rintro (rfl | rfl | ⟨rfl | rfl | h, a, c⟩)
    · exact m1
    · exact m2
    · exact (a rfl).elim
    · exact (c rfl).elim
    · exact (mem_oth.1 h).1
  · intro hd
    by_cases e1 : d = pr1 x y b
    · exact .inl e1
    · by_cases e2 : d = pr2 x y b
      · exact .inr (.inl e2)
      · exact .inr (.inr ⟨.inr (.inr (mem_oth.2 ⟨hd, e1, e2⟩)), fun q => n1 (q ▸ hd), fun q => n2 (q ▸ hd)⟩)
theorem turn_ne (hp : partB xs L = true) (h6 : 0 ≤ x ∧ x ≤ 6 ∧ 0 ≤ y ∧ y ≤ 6) (hb : has2 L x y b = true) : turn L x y b ≠ L := fun e => by
  have hv := part_valid hp
  obtain ⟨n1, _⟩ := not_other hp h6 hb
  exact n1 (e ▸ (mem_turn h6 hv).2 (.inl rfl))
/-- two more down, or two fewer. -/
theorem turn_down (hp : partB xs L = true) (h6 : 0 ≤ x ∧ x ≤ 6 ∧ 0 ≤ y ∧ y ≤ 6) (hb : has2 L x y b = true) : (downR (turn L x y b) : Int) - (downR L : Int) = if b then -2 else 2 := by
  have hv := part_valid hp
  obtain ⟨m1, m2⟩ := has2_iff.1 hb
  have hnL := inc_nodup (part_inc hp)
  have hnO : (oth L x y b).Nodup := List.Pairwise.filter _ hnL
  obtain ⟨n1, n2⟩ := not_other hp h6 hb
  have p1 : (turn L x y b).Perm (pr1 x y (!b) :: pr2 x y (!b) :: oth L x y b) := by
    refine (List.perm_ext_iff_of_nodup (inc_nodup (sortM_good _).1) ?_).2 (fun d => ?_)
    · refine List.nodup_cons.2 ⟨?_, List.nodup_cons.2 ⟨?_, hnO⟩⟩
      · rw [List.mem_cons]
        rintro (q | q)
        · exact pair_ne _ q
        · exact n1 (mem_oth.1 q).1
      · exact fun q => n2 (mem_oth.1 q).1
    · rw [List.mem_cons, List.mem_cons]; exact mem_turn h6 hv
  have p2 : L.Perm (pr1 x y b :: pr2 x y b :: oth L x y b) := by
    refine (List.perm_ext_iff_of_nodup hnL ?_).2 (fun d => ?_)
    · refine List.nodup_cons.2 ⟨?_, List.nodup_cons.2 ⟨?_, hnO⟩⟩
      · rw [List.mem_cons]
        rintro (q | q)
        · exact pair_ne _ q
        · exact (mem_oth.1 q).2.1 rfl
      · exact fun q => (mem_oth.1 q).2.2 rfl
    · rw [List.mem_cons, List.mem_cons, mem_oth]
      constructor
      · intro hd
        by_cases e1 : d = pr1 x y b
        · exact .inl e1
        · by_cases e2 : d = pr2 x y b
          · exact .inr (.inl e2)
          · exact .inr (.inr ⟨hd, e1, e2⟩)
      · rintro (rfl | rfl | q)
        · exact m1
        · exact m2
        · exact q.1
  have e1 := (p1.filter fun d => okM d && d.2.2).length_eq
  have e2 := (p2.filter fun d => okM d && d.2.2).length_eq
  unfold downR
  rw [e1, e2]
  have o : ∀ c, okM (pr1 x y c) = true ∧ okM (pr2 x y c) = true := fun c => ⟨ok1 h6 c, ok2 h6 c⟩
  have s1 : ∀ c, (pr1 x y c).2.2 = c := fun c => rfl
  have s2 : ∀ c, (pr2 x y c).2.2 = c := fun c => by unfold pr2; cases c <;> rfl
  cases b <;> simp [List.filter_cons, (o true).1, (o true).2, (o false).1, (o false).2, s1, s2] <;> omega
end
end Go.Proofs.Ytieophdbhnpncaa.Flp
