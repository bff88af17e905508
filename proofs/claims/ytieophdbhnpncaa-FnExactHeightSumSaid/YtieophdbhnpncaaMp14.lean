/- HgtL, Euler in one text. -/
import Derived.Test.YtieophdbhnpncaaMp11
import Derived.Test.YtieophdbhnpncaaMp13

/- Tilings as coverings, pure: which sides lie under the dominoes of a list; a flip of the list is a flip of the covering; a way of flips from each tiling to each other one, as long as they are apart, and none is shorter: no program here. -/
namespace Go.Proofs.Ytieophdbhnpncaa.Hgt
set_option linter.unusedVariables false
set_option linter.unusedSimpArgs false
open Go.RowKit Go.Proofs.Ytieophdbhnpncaa.Base Go.Proofs.Ytieophdbhnpncaa.Pure Go.Proofs.Ytieophdbhnpncaa.Cell Go.Proofs.Ytieophdbhnpncaa.Dom Go.Proofs.Ytieophdbhnpncaa.Dms Go.Proofs.Ytieophdbhnpncaa.Til Go.Proofs.Ytieophdbhnpncaa.Grd Go.Proofs.Ytieophdbhnpncaa.Flp Go.Joins

/-- the sides under the dominoes of a list; the cells of a region in the square of ten by ten. -/
def xL (L : List Dm) : Cx := fun i j => decide ((((i : Int) - 1, (j : Int) - 2, true) : Dm) ∈ L)
def yL (L : List Dm) : Cx := fun i j => decide ((((i : Int) - 2, (j : Int) - 1, false) : Dm) ∈ L)
def gX (xs : List Int) (i j : Nat) : Bool := hasB xs ((i : Int) - 1) ((j : Int) - 1)
theorem xL_iff {L : List Dm} {i j : Nat} : xL L i j = true ↔ (((i : Int) - 1, (j : Int) - 2, true) : Dm) ∈ L := by unfold xL; rw [decide_eq_true_eq]
theorem yL_iff {L : List Dm} {i j : Nat} : yL L i j = true ↔ (((i : Int) - 2, (j : Int) - 1, false) : Dm) ∈ L := by unfold yL; rw [decide_eq_true_eq]
theorem ok_dn {x y : Int} (h : okM (x, y, true) = true) : 0 ≤ x ∧ x ≤ 7 ∧ 0 ≤ y ∧ y ≤ 6 := by
  unfold okM domB at h
  rw [Bool.and_eq_true, okB_iff, okB_iff] at h
  obtain ⟨h1, h2⟩ := h
  unfold Ok at h1 h2
  simp only at h1 h2
  unfold sx sy at h2
  rw [if_pos rfl, if_pos rfl, wrap_in (by omega) (by omega)] at h2
  omega
theorem ok_rt {x y : Int} (h : okM (x, y, false) = true) : 0 ≤ x ∧ x ≤ 6 ∧ 0 ≤ y ∧ y ≤ 7 := by
  unfold okM domB at h
  rw [Bool.and_eq_true, okB_iff, okB_iff] at h
  obtain ⟨h1, h2⟩ := h
  unfold Ok at h1 h2
  simp only at h1 h2
  unfold sx sy at h2
  rw [if_neg (by simp), if_neg (by simp), wrap_in (by omega) (by omega)] at h2
  omega
/-- the cells under a domino. -/
theorem cov_dn {x y : Int} (h : okM (x, y, true) = true) : covM (x, y, true) x y = true ∧ covM (x, y, true) x (y + 1) = true := by
  have := ok_dn h
  refine ⟨cov_of h (.inl ⟨rfl, rfl⟩), cov_of h (.inr ⟨?_, ?_⟩)⟩
  · unfold sx; rw [if_pos rfl]
  · unfold sy; rw [if_pos rfl]; exact (wrap_in (by omega) (by omega)).symm
theorem cov_rt {x y : Int} (h : okM (x, y, false) = true) : covM (x, y, false) x y = true ∧ covM (x, y, false) (x + 1) y = true := by
  have := ok_rt h
  refine ⟨cov_of h (.inl ⟨rfl, rfl⟩), cov_of h (.inr ⟨?_, ?_⟩)⟩
  · unfold sx; rw [if_neg (by simp)]; exact (wrap_in (by omega) (by omega)).symm
  · unfold sy; rw [if_neg (by simp)]
/-- who covers a cell. -/
theorem cov_who {d : Dm} {x y : Int} (h : covM d x y = true) : d = (x, y, true) ∨ d = (x, y, false) ∨ d = (x, y - 1, true) ∨ d = (x - 1, y, false) := by
  obtain ⟨ho, h⟩ := cov_two h
  obtain ⟨a, b, c⟩ := d
  simp only at h
  cases c with
  | true =>
    have := ok_dn ho
    unfold sx sy at h
    rw [if_pos rfl, if_pos rfl, wrap_in (by omega) (by omega)] at h
    rcases h with ⟨rfl, rfl⟩ | ⟨rfl, rfl⟩
    · exact .inl rfl
    · right; right; left
      rw [show b + 1 - 1 = b by omega]
  | false =>
    have := ok_rt ho
    unfold sx sy at h
    rw [if_neg (by simp), if_neg (by simp), wrap_in (by omega) (by omega)] at h
    rcases h with ⟨rfl, rfl⟩ | ⟨rfl, rfl⟩
    · exact .inr (.inl rfl)
    · right; right; right
      rw [show a + 1 - 1 = a by omega]
theorem one_of {p q r s : Bool} (h : p = true ∨ q = true ∨ r = true ∨ s = true) (h1 : p = true → q = true → False) (h2 : p = true → r = true → False) (h3 : p = true → s = true → False) (h4 : q = true → r = true → False) (h5 : q = true → s = true → False) (h6 : r = true → s = true → False) : bi p + bi q + bi r + bi s = 1 := by
  cases p <;> cases q <;> cases r <;> cases s <;> simp_all [bi]
/-- a tiling is a covering. -/
theorem tl_of {xs : List Int} {L : List Dm} (ht : tilB xs L = true) : Tl (gX xs) (xL L) (yL L) := by
  have hp : partB xs L = true := by unfold tilB at ht; rw [Bool.and_eq_true] at ht; exact ht.1
  have hv := part_valid hp
  have hdj := part_dj hp
  have hall : ∀ x y, hasB xs x y = true → anyM L x y = true := fun x y hxy => by
    rw [tilB_part hp, decide_eq_true_eq] at ht
    have hn : unc L (cellsR xs) = [] := List.eq_nil_of_length_eq_zero ht
    cases q : anyM L x y with
    | true => rfl
    | false =>
      have : (x, y) ∈ unc L (cellsR xs) := by
        unfold unc
        exact List.mem_filter.2 ⟨mem_cells.2 hxy, by simp [q]⟩
      rw [hn] at this; cases this
  refine ⟨fun i => ?_, fun j => ?_, fun i j h => ?_, fun i j h => ?_, fun i j h => ?_, fun i j h => ?_⟩
  · cases q : xL L i 0 with
    | false => rfl
    | true => have := ok_dn (hv _ (xL_iff.1 q)); omega
  · cases q : yL L 0 j with
    | false => rfl
    | true => have := ok_rt (hv _ (yL_iff.1 q)); omega
  · have hm := xL_iff.1 h
    obtain ⟨c1, c2⟩ := cov_dn (hv _ hm)
    have k1 := part_in hp hm c1
    have k2 := part_in hp hm c2
    refine ⟨?_, ?_⟩
    · show hasB xs ((i : Int) - 1) ((j : Int) - 1) = true
      rw [← k1]; congr 1; omega
    · show hasB xs ((i : Int) - 1) (((j + 1 : Nat) : Int) - 1) = true
      rw [← k2]; congr 1; omega
  · have hm := yL_iff.1 h
    obtain ⟨c1, c2⟩ := cov_rt (hv _ hm)
    have k1 := part_in hp hm c1
    have k2 := part_in hp hm c2
    refine ⟨?_, ?_⟩
    · show hasB xs ((i : Int) - 1) ((j : Int) - 1) = true
      rw [← k1]; congr 1; omega
    · show hasB xs (((i + 1 : Nat) : Int) - 1) ((j : Int) - 1) = true
      rw [← k2]; congr 1; omega
  · -- each cell once
    have hc := hall _ _ h
    unfold anyM at hc
    rw [List.any_eq_true] at hc
    obtain ⟨d, hd, hc⟩ := hc
    obtain ⟨x, hx⟩ : ∃ x : Int, x = (i : Int) - 1 := ⟨_, rfl⟩
    obtain ⟨y, hy⟩ : ∃ y : Int, y = (j : Int) - 1 := ⟨_, rfl⟩
    rw [← hx, ← hy] at hc
    have e1 : xL L i j = decide (((x, y - 1, true) : Dm) ∈ L) := by unfold xL; rw [hx, hy, show (j : Int) - 1 - 1 = (j : Int) - 2 by omega]
    have e2 : yL L (i + 1) j = decide (((x, y, false) : Dm) ∈ L) := by unfold yL; rw [hx, hy, show ((i + 1 : Nat) : Int) - 2 = (i : Int) - 1 by omega]
    have e3 : xL L i (j + 1) = decide (((x, y, true) : Dm) ∈ L) := by unfold xL; rw [hx, hy, show ((j + 1 : Nat) : Int) - 2 = (j : Int) - 1 by omega]
    have e4 : yL L i j = decide (((x - 1, y, false) : Dm) ∈ L) := by unfold yL; rw [hx, hy, show (i : Int) - 1 - 1 = (i : Int) - 2 by omega]
    rw [e1, e2, e3, e4]
    have k1 : ((x, y - 1, true) : Dm) ∈ L → covM (x, y - 1, true) x y = true := fun m => by have := (cov_dn (hv _ m)).2; rwa [show y - 1 + 1 = y by omega] at this
    have k2 : ((x, y, false) : Dm) ∈ L → covM (x, y, false) x y = true := fun m => (cov_rt (hv _ m)).1
    have k3 : ((x, y, true) : Dm) ∈ L → covM (x, y, true) x y = true := fun m => (cov_dn (hv _ m)).1
    have k4 : ((x - 1, y, false) : Dm) ∈ L → covM (x - 1, y, false) x y = true := fun m => by have := (cov_rt (hv _ m)).2; rwa [show x - 1 + 1 = x by omega] at this
    have two : ∀ {d e : Dm}, d ∈ L → e ∈ L → covM d x y = true → covM e x y = true → d = e := fun h1 h2 h3 h4 => hdj _ h1 _ h2 x y h3 h4
    refine one_of ?_ (fun p q => ?_) (fun p q => ?_) (fun p q => ?_) (fun p q => ?_) (fun p q => ?_) (fun p q => ?_)
    · rcases cov_who hc with rfl | rfl | rfl | rfl
      · exact .inr (.inr (.inl (decide_eq_true hd)))
      · exact .inr (.inl (decide_eq_true hd))
      · exact .inl (decide_eq_true hd)
      · exact .inr (.inr (.inr (decide_eq_true hd)))
    all_goals
      have p := of_decide_eq_true p
      have q := of_decide_eq_true q
    · have := two p q (k1 p) (k2 q); simp at this
    · have := two p q (k1 p) (k3 q); simp at this; omega
    · have := two p q (k1 p) (k4 q); simp at this
    · have := two p q (k2 p) (k3 q); simp at this
    · have := two p q (k2 p) (k4 q); simp at this; omega
    · have := two p q (k3 p) (k4 q); simp at this
  · have := hasB_iff.1 h
    omega
/-- a pair turned is a flip of the covering. -/
theorem turn_X {xs : List Int} {L : List Dm} {x y : Int} {b : Bool} (hv : ∀ d ∈ L, okM d = true) (h6 : 0 ≤ x ∧ x ≤ 6 ∧ 0 ≤ y ∧ y ≤ 6) {a c : Nat} (ha : (a : Int) = x + 1) (hc : (c : Int) = y + 1) :
    xL (turn L x y b) = flX (xL L) a c (!b) ∧ yL (turn L x y b) = flY (yL L) a c b := by
  have dm : ∀ (p q r s : Int) (b c : Bool), ((p, q, b) : Dm) = (r, s, c) ↔ p = r ∧ q = s ∧ b = c := fun p q r s b c => by rw [Prod.mk.injEq, Prod.mk.injEq]
  constructor
  · funext i j
    unfold flX
    rw [Bool.eq_iff_iff, xL_iff, mem_turn h6 hv, mem_oth]
    have hC : ((i = a ∨ i = a + 1) ∧ j = c + 1) ↔ (((i : Int) - 1 = x ∧ (j : Int) - 2 = y) ∨ ((i : Int) - 1 = x + 1 ∧ (j : Int) - 2 = y)) := by omega
    unfold pr1 pr2
    cases b with
    | false =>
      simp only [Bool.not_false, if_true, Bool.false_eq_true, Bool.true_eq_false, if_false, dm, ne_eq, and_true, and_false, not_false_eq_true]
      by_cases q : (i = a ∨ i = a + 1) ∧ j = c + 1
      · rw [if_pos q]
        have q := hC.1 q
        exact ⟨fun _ => rfl, fun _ => q.elim .inl (fun r => .inr (.inl r))⟩
      · rw [if_neg q, xL_iff]
        have q := fun r => q (hC.2 r)
        exact ⟨fun r => r.elim (fun u => absurd (.inl u) q) (fun r => r.elim (fun u => absurd (.inr u) q) id), fun r => .inr (.inr r)⟩
    | true =>
      simp only [Bool.not_true, if_true, Bool.false_eq_true, if_false, dm, ne_eq, and_true, and_false, not_false_eq_true, Bool.true_eq_false, false_or]
      by_cases q : (i = a ∨ i = a + 1) ∧ j = c + 1
      · rw [if_pos q]
        have q := hC.1 q
        refine ⟨fun r => ?_, fun r => by cases r⟩
        rcases q with q | q
        · exact absurd q r.2.1
        · exact absurd q r.2.2
      · rw [if_neg q, xL_iff]
        have q := fun r => q (hC.2 r)
        exact ⟨fun r => r.1, fun r => ⟨r, fun u => q (.inl u), fun u => q (.inr u)⟩⟩
  · funext i j
    unfold flY
    rw [Bool.eq_iff_iff, yL_iff, mem_turn h6 hv, mem_oth]
    have hC : (i = a + 1 ∧ (j = c ∨ j = c + 1)) ↔ (((i : Int) - 2 = x ∧ (j : Int) - 1 = y) ∨ ((i : Int) - 2 = x ∧ (j : Int) - 1 = y + 1)) := by omega
    unfold pr1 pr2
    cases b with
    | true =>
      simp only [Bool.not_true, if_true, Bool.false_eq_true, if_false, dm, ne_eq, and_true, and_false, not_false_eq_true]
      by_cases q : i = a + 1 ∧ (j = c ∨ j = c + 1)
      · rw [if_pos q]
        have q := hC.1 q
        exact ⟨fun _ => rfl, fun _ => q.elim .inl (fun r => .inr (.inl r))⟩
      · rw [if_neg q, yL_iff]
        have q := fun r => q (hC.2 r)
        exact ⟨fun r => r.elim (fun u => absurd (.inl u) q) (fun r => r.elim (fun u => absurd (.inr u) q) id), fun r => .inr (.inr r)⟩
    | false =>
      simp only [Bool.not_false, if_true, Bool.false_eq_true, if_false, dm, ne_eq, and_true, and_false, not_false_eq_true, Bool.false_eq_true, false_or]
      by_cases q : i = a + 1 ∧ (j = c ∨ j = c + 1)
      · rw [if_pos q]
        have q := hC.1 q
        refine ⟨fun r => ?_, fun r => by cases r⟩
        rcases q with q | q
        · exact absurd q r.2.1
        · exact absurd q r.2.2
      · rw [if_neg q, yL_iff]
        have q := fun r => q (hC.2 r)
        exact ⟨fun r => r.1, fun r => ⟨r, fun u => q (.inl u), fun u => q (.inr u)⟩⟩
/-- how far two lists are apart. -/
def farL (L M : List Dm) : Nat := far (dif (xL L) (yL L) (xL M) (yL M))
theorem til_part {xs : List Int} {L : List Dm} (h : tilB xs L = true) : partB xs L = true := by unfold tilB at h; rw [Bool.and_eq_true] at h; exact h.1
/-- nothing apart: the same. -/
theorem far_same {xs : List Int} {L M : List Dm} (hL : tilB xs L = true) (hM : tilB xs M = true) (h : ∀ i j, i ≤ 10 → j ≤ 10 → dif (xL L) (yL L) (xL M) (yL M) i j = 0) : L = M := by
  have tL := tl_of hL
  have tM := tl_of hM
  have vL := part_valid (til_part hL)
  have vM := part_valid (til_part hM)
  have kX : ∀ i j, i < 10 → j ≤ 10 → xL L i j = xL M i j := fun i j hi hj => by
    have e := dif_H tL tM hi hj
    rw [h _ _ (by omega) hj, h _ _ (by omega) hj] at e
    have z1 := bi_or (xL L i j)
    have z2 := bi_or (xL M i j)
    have e2 : bi (xL L i j) = bi (xL M i j) := by rcases sg_one i j with q | q <;> rw [q] at e <;> omega
    cases p : xL L i j <;> cases r : xL M i j <;> rw [p, r] at e2 <;> first | rfl | (simp [bi] at e2)
  have kY : ∀ i j, i ≤ 10 → j < 10 → yL L i j = yL M i j := fun i j hi hj => by
    have e := dif_V (xL L) (yL L) (xL M) (yL M) i j
    rw [h _ _ hi (by omega), h _ _ hi (by omega)] at e
    have z1 := bi_or (yL L i j)
    have z2 := bi_or (yL M i j)
    have e2 : bi (yL L i j) = bi (yL M i j) := by rcases sg_one i j with q | q <;> rw [q] at e <;> omega
    cases p : yL L i j <;> cases r : yL M i j <;> rw [p, r] at e2 <;> first | rfl | (simp [bi] at e2)
  have mem : ∀ d : Dm, okM d = true → (d ∈ L ↔ d ∈ M) := fun d hd => by
    obtain ⟨x, y, b⟩ := d
    cases b with
    | true =>
      have o := ok_dn hd
      obtain ⟨i, hi⟩ : ∃ i : Nat, (i : Int) = x + 1 := ⟨(x + 1).toNat, by omega⟩
      obtain ⟨j, hj⟩ : ∃ j : Nat, (j : Int) = y + 2 := ⟨(y + 2).toNat, by omega⟩
      have e := kX i j (by omega) (by omega)
      unfold xL at e
      rw [show (i : Int) - 1 = x by omega, show (j : Int) - 2 = y by omega] at e
      exact decide_eq_decide.1 e
    | false =>
      have o := ok_rt hd
      obtain ⟨i, hi⟩ : ∃ i : Nat, (i : Int) = x + 2 := ⟨(x + 2).toNat, by omega⟩
      obtain ⟨j, hj⟩ : ∃ j : Nat, (j : Int) = y + 1 := ⟨(y + 1).toNat, by omega⟩
      have e := kY i j (by omega) (by omega)
      unfold yL at e
      rw [show (i : Int) - 2 = x by omega, show (j : Int) - 1 = y by omega] at e
      exact decide_eq_decide.1 e
  exact uniq (part_inc (til_part hL)) (part_inc (til_part hM)) (fun d => ⟨fun q => (mem d (vL d q)).1 q, fun q => (mem d (vM d q)).2 q⟩)
theorem far_self (L : List Dm) : farL L L = 0 := by
  unfold farL
  refine far_zero (fun i j hi hj => ?_)
  have key := pot_uniq (E := fun _ _ => 0) (H := eH (xL L) (xL L)) (V := eV (yL L) (yL L)) rfl (fun i _ => by unfold eH; rw [Int.sub_self, Int.mul_zero]; rfl) (fun i j _ _ => by unfold eV; rw [Int.sub_self, Int.mul_zero]; rfl) i j hi hj
  exact key.symm
/-- which pair lies there. -/
theorem kind_of {xs : List Int} {L : List Dm} {x y : Int} {b : Bool} (hp : partB xs L = true) (h6 : 0 ≤ x ∧ x ≤ 6 ∧ 0 ≤ y ∧ y ≤ 6) (hb : has2 L x y b = true) : kindN L x y = if b then 2 else 1 := by
  unfold kindN
  rw [if_pos (in6_iff.2 h6)]
  cases b with
  | false => rw [hb]; rfl
  | true =>
    obtain ⟨n1, n2⟩ := not_other hp h6 hb
    have : has2 L x y false = false := by
      apply Bool.eq_false_iff.2
      intro q
      exact n1 (has2_iff.1 q).1
    rw [this, hb]; rfl
theorem flip_turn {xs : List Int} {L : List Dm} {x y : Int} {b : Bool} (hp : partB xs L = true) (h6 : 0 ≤ x ∧ x ≤ 6 ∧ 0 ≤ y ∧ y ≤ 6) (hb : has2 L x y b = true) : canB L x y = true ∧ flipL L x y = turn L x y b := by
  have hk := kind_of hp h6 hb
  constructor
  · unfold canB; rw [hk]; cases b <;> rfl
  · rw [flip_yes (by rw [hk]; cases b <;> simp), hk]
    cases b <;> rfl
theorem turn_of {xs : List Int} {L : List Dm} {x y : Int} (hc : canB L x y = true) : (0 ≤ x ∧ x ≤ 6 ∧ 0 ≤ y ∧ y ≤ 6) ∧ ∃ b, has2 L x y b = true := by
  unfold canB at hc
  have hc := of_decide_eq_true hc
  obtain ⟨h1, h2⟩ := kind_is (L := L) (x := x) (y := y) (by omega)
  exact ⟨in6_iff.1 h1, _, h2⟩
/-- a flip brings a tiling nearer to another one. -/
theorem step_near {xs : List Int} {L M : List Dm} (hone : One (gX xs)) (hL : tilB xs L = true) (hM : tilB xs M = true) (hne : L ≠ M) :
    ∃ x y b, (0 ≤ x ∧ x ≤ 6 ∧ 0 ≤ y ∧ y ≤ 6) ∧ has2 L x y b = true ∧ farL (turn L x y b) M + 1 = farL L M := by
  have tL := tl_of hL
  have tM := tl_of hM
  have vL := part_valid (til_part hL)
  obtain ⟨a, c, ha, hc, h⟩ := nearer tL tM hone (Classical.byContradiction fun q => hne (far_same hL hM (fun i j hi hj => Classical.byContradiction fun r => q ⟨i, j, hi, hj, r⟩)))
  rcases h with ⟨h1, h2, h3⟩ | ⟨h1, h2, h3⟩
  · have m1 := yL_iff.1 h1
    have m2 := yL_iff.1 h2
    have o1 := ok_rt (vL _ m1)
    have o2 := ok_rt (vL _ m2)
    have h6 : 0 ≤ (a : Int) - 1 ∧ (a : Int) - 1 ≤ 6 ∧ 0 ≤ (c : Int) - 1 ∧ (c : Int) - 1 ≤ 6 := by omega
    refine ⟨(a : Int) - 1, (c : Int) - 1, false, h6, has2_iff.2 ⟨?_, ?_⟩, ?_⟩
    · unfold pr1; rw [show (a : Int) - 1 = ((a + 1 : Nat) : Int) - 2 by omega]; exact m1
    · unfold pr2
      rw [if_neg (by simp), show (a : Int) - 1 = ((a + 1 : Nat) : Int) - 2 by omega, show (c : Int) - 1 + 1 = ((c + 1 : Nat) : Int) - 1 by omega]; exact m2
    · obtain ⟨e1, e2⟩ := turn_X (xs := xs) (L := L) (b := false) vL h6 (a := a) (c := c) (by omega) (by omega)
      unfold farL
      rw [e1, e2]; exact h3
  · have m1 := xL_iff.1 h1
    have m2 := xL_iff.1 h2
    have o1 := ok_dn (vL _ m1)
    have o2 := ok_dn (vL _ m2)
    have h6 : 0 ≤ (a : Int) - 1 ∧ (a : Int) - 1 ≤ 6 ∧ 0 ≤ (c : Int) - 1 ∧ (c : Int) - 1 ≤ 6 := by omega
    refine ⟨(a : Int) - 1, (c : Int) - 1, true, h6, has2_iff.2 ⟨?_, ?_⟩, ?_⟩
    · unfold pr1; rw [show (c : Int) - 1 = ((c + 1 : Nat) : Int) - 2 by omega]; exact m1
    · unfold pr2
      rw [if_pos rfl, show (a : Int) - 1 + 1 = ((a + 1 : Nat) : Int) - 1 by omega, show (c : Int) - 1 = ((c + 1 : Nat) : Int) - 2 by omega]; exact m2
    · obtain ⟨e1, e2⟩ := turn_X (xs := xs) (L := L) (b := true) vL h6 (a := a) (c := c) (by omega) (by omega)
      unfold farL
      rw [e1, e2]; exact h3
/-- a way of flips from each tiling to each other one. -/
theorem way_ex {xs : List Int} (hone : One (gX xs)) {M : List Dm} (hM : tilB xs M = true) (n : Nat) : ∀ L : List Dm, tilB xs L = true → farL L M = n → ∃ w, w.length = n ∧ allF L w = some M := by
  induction n with
  | zero =>
    intro L hL hn
    by_cases e : L = M
    · subst e; exact ⟨[], rfl, rfl⟩
    · obtain ⟨x, y, b, _, _, h⟩ := step_near hone hL hM e
      rw [hn] at h
      exact absurd h (Nat.succ_ne_zero _)
  | succ n ih =>
    intro L hL hn
    by_cases e : L = M
    · subst e
      rw [far_self] at hn
      exact absurd hn.symm (Nat.succ_ne_zero _)
    · obtain ⟨x, y, b, h6, hb, h⟩ := step_near hone hL hM e
      have hp := til_part hL
      rw [hn] at h
      obtain ⟨w, hw, hf⟩ := ih (turn L x y b) (turn_til hp h6 hb hL) (Nat.succ.inj h)
      obtain ⟨c1, c2⟩ := flip_turn hp h6 hb
      refine ⟨(x, y) :: w, by rw [List.length_cons, hw], ?_⟩
      show (if canB L x y then allF (flipL L x y) w else none) = some M
      rw [if_pos c1, c2]; exact hf
end Go.Proofs.Ytieophdbhnpncaa.Hgt

/- Plane graphs, without a program: labels of joined vertices, how many of them are alive, and that of an edge and the edge across it at most one joins. -/
namespace Go.Proofs.Ytieophdbhnpncaa.Euler

/-- the label of a vertex behind the edges (the list's end is laid first). -/
def lab : List (Nat × Nat) → Nat → Nat
  | [], v => v
  | e :: es, v => if lab es v = lab es e.2 then lab es e.1 else lab es v
theorem lab_edge : ∀ (es : List (Nat × Nat)) (e : Nat × Nat), e ∈ es → lab es e.1 = lab es e.2
  | d :: es, e, h => by
    simp only [lab]
    rcases List.mem_cons.1 h with rfl | h
    · simp
    · rw [lab_edge es e h]
/-- what is the same along each edge is the same at the label. -/
theorem lab_keeps {α : Type} (f : Nat → α) : ∀ (es : List (Nat × Nat)), (∀ e, e ∈ es → f e.1 = f e.2) → ∀ v, f (lab es v) = f v
  | [], _, _ => rfl
  | d :: es, h, v => by
    have ih := lab_keeps f es (fun e he => h e (List.mem_cons_of_mem _ he))
    simp only [lab]
    split
    · rename_i e
      rw [ih, h d (by simp), ← ih d.2, ← e, ih]
    · exact ih v
theorem lab_lt : ∀ (es : List (Nat × Nat)) (n : Nat), (∀ e, e ∈ es → e.1 < n ∧ e.2 < n) → ∀ v, v < n → lab es v < n
  | [], _, _, _, hv => hv
  | d :: es, n, h, v, hv => by
    have ih := lab_lt es n (fun e he => h e (List.mem_cons_of_mem _ he))
    simp only [lab]
    split
    · exact ih _ (h d (by simp)).1
    · exact ih _ hv
theorem lab_lab (es : List (Nat × Nat)) (v : Nat) : lab es (lab es v) = lab es v := lab_keeps (lab es) es (lab_edge es) v
/-- how many labels are alive. -/
def live (es : List (Nat × Nat)) : Nat → Nat
  | 0 => 0
  | n + 1 => live es n + if lab es n = n then 1 else 0
theorem live_same {es es' : List (Nat × Nat)} : ∀ (n : Nat), (∀ v, v < n → (lab es v = v ↔ lab es' v = v)) → live es n = live es' n
  | 0, _ => rfl
  | n + 1, h => by
    have ih := live_same n (fun v hv => h v (by omega))
    have h1 := h n (by omega)
    simp only [live, ih]
    by_cases h2 : lab es n = n
    · rw [if_pos h2, if_pos (h1.1 h2)]
    · rw [if_neg h2, if_neg (fun k => h2 (h1.2 k))]
theorem live_nil : ∀ n, live [] n = n
  | 0 => rfl
  | n + 1 => by simp only [live, lab, live_nil n]; simp
theorem live_joined (es : List (Nat × Nat)) (e : Nat × Nat) (n : Nat) (h : lab es e.1 = lab es e.2) : live (e :: es) n = live es n := by
  refine live_same n (fun v _ => ?_)
  simp only [lab]
  split
  · rename_i k; rw [h, ← k]
  · exact Iff.rfl
/-- one label dies. -/
theorem live_less {es es' : List (Nat × Nat)} {d : Nat} (hd : lab es d = d) (h : ∀ v, (lab es' v = v ↔ lab es v = v ∧ v ≠ d)) : ∀ n, d < n → live es' n + 1 = live es n
  | 0, hn => absurd hn (by omega)
  | n + 1, hn => by
    simp only [live]
    by_cases e : d = n
    · subst e
      have h1 : live es' d = live es d := live_same d (fun v hv => ⟨fun k => ((h v).1 k).1, fun k => (h v).2 ⟨k, by omega⟩⟩)
      rw [if_pos hd, if_neg (fun k => ((h d).1 k).2 rfl), h1]
    · have ih := live_less hd h n (by omega)
      have h1 := h n
      by_cases k : lab es n = n
      · rw [if_pos k, if_pos (h1.2 ⟨k, fun q => e q.symm⟩)]; omega
      · rw [if_neg k, if_neg (fun q => k (h1.1 q).1)]; omega
theorem live_join (es : List (Nat × Nat)) (e : Nat × Nat) (n : Nat) (hes : ∀ d, d ∈ es → d.1 < n ∧ d.2 < n) (he : e.2 < n) (h : lab es e.1 ≠ lab es e.2) : live (e :: es) n + 1 = live es n := by
  refine live_less (d := lab es e.2) (lab_lab es e.2) (fun v => ?_) n (lab_lt es n hes _ he)
  simp only [lab]
  constructor
  · intro k
    split at k
    · rename_i q
      -- v is the label of e.1, and lies with e.2: no
      have h1 : lab es v = lab es e.1 := by rw [← k]; exact (lab_lab es e.1).trans rfl |>.trans (by rw [k])
      exact absurd (h1.symm.trans q) h
    · rename_i q
      refine ⟨k, fun z => q ?_⟩
      rw [z]; exact lab_lab es e.2
  · rintro ⟨k, z⟩
    split
    · rename_i q; exact absurd (k.symm.trans q) z
    · exact k
theorem live_cons (es : List (Nat × Nat)) (e : Nat × Nat) (n : Nat) (hes : ∀ d, d ∈ es → d.1 < n ∧ d.2 < n) (he : e.2 < n) : live es n = live (e :: es) n + (if lab es e.1 = lab es e.2 then 0 else 1) := by
  split
  · rename_i h; rw [live_joined es e n h]; rfl
  · rename_i h; exact (live_join es e n hes he h).symm
/-- all joined: one label lives. -/
theorem live_one {es : List (Nat × Nat)} {n : Nat} (hn : 0 < n) (hes : ∀ d, d ∈ es → d.1 < n ∧ d.2 < n) (h : ∀ v, v < n → lab es v = lab es 0) : live es n = 1 := by
  have h1 : ∀ m, m ≤ n → live es m = if lab es 0 < m then 1 else 0 := by
    intro m
    induction m with
    | zero => intro _; simp [live]
    | succ m ih =>
      intro hm
      simp only [live]
      rw [ih (by omega), h m (by omega)]
      by_cases a : lab es 0 < m
      · rw [if_pos a, if_neg (by omega), if_pos (by omega)]
      · by_cases b : lab es 0 = m
        · rw [if_neg a, if_pos b, if_pos (by omega)]
        · rw [if_neg a, if_neg b, if_neg (by omega)]
  rw [h1 n (Nat.le_refl _), if_pos (lab_lt es n hes 0 hn)]

/-- whether odd many of n hold. -/
def odd : Nat → (Nat → Bool) → Bool
  | 0, _ => false
  | n + 1, f => odd n f ^^ f n
theorem odd_same : ∀ (n : Nat) {f g : Nat → Bool}, (∀ v, v < n → f v = g v) → odd n f = odd n g
  | 0, _, _, _ => rfl
  | n + 1, f, g, h => by simp only [odd]; rw [odd_same n (fun v hv => h v (by omega)), h n (by omega)]
theorem odd_false : ∀ n, odd n (fun _ => false) = false
  | 0 => rfl
  | n + 1 => by simp only [odd, odd_false n]; rfl
theorem odd_xor : ∀ (n : Nat) (f g : Nat → Bool), odd n (fun v => f v ^^ g v) = (odd n f ^^ odd n g)
  | 0, _, _ => rfl
  | n + 1, f, g => by
    simp only [odd, odd_xor n f g]
    cases odd n f <;> cases odd n g <;> cases f n <;> cases g n <;> rfl
theorem odd_and : ∀ (n : Nat) (c : Bool) (f : Nat → Bool), odd n (fun v => c && f v) = (c && odd n f)
  | 0, c, _ => by cases c <;> rfl
  | n + 1, c, f => by simp only [odd, odd_and n c f]; cases c <;> cases odd n f <;> cases f n <;> rfl
theorem odd_one : ∀ (n : Nat) (c : Nat → Bool) (a : Nat), odd n (fun v => c v && (v == a)) = (decide (a < n) && c a)
  | 0, _, _ => by simp [odd]
  | n + 1, c, a => by
    simp only [odd, odd_one n c a]
    by_cases h : n = a
    · subst h; simp
    · have e : (n == a) = false := by simpa using h
      rw [e]
      by_cases k : a < n
      · have : a < n + 1 := by omega
        simp [k, this]
      · have : ¬ a < n + 1 := by omega
        simp [k, this]
theorem odd_swap : ∀ (n m : Nat) (h : Nat → Nat → Bool), odd n (fun v => odd m (fun k => h v k)) = odd m (fun k => odd n (fun v => h v k))
  | 0, m, h => by simp only [odd]; exact (odd_false m).symm
  | n + 1, m, h => by simp only [odd]; rw [odd_swap n m h, ← odd_xor]
/-- whether v is one of an edge's two ends, and not both. -/
def inc (e : Nat × Nat) (v : Nat) : Bool := (v == e.1) ^^ (v == e.2)
theorem odd_inc {n : Nat} (c : Nat → Bool) {e : Nat × Nat} (h1 : e.1 < n) (h2 : e.2 < n) : odd n (fun v => c v && inc e v) = (c e.1 ^^ c e.2) := by
  rw [odd_same n (g := fun v => (c v && (v == e.1)) ^^ (c v && (v == e.2))) (fun v _ => by unfold inc; cases c v <;> simp), odd_xor, odd_one, odd_one]
  simp [h1, h2]
/-- of an edge and the one across it at most one joins. -/
theorem across {np nd m : Nat} {E D : Nat → Nat × Nat} (hE : ∀ k, k < m → (E k).1 < np ∧ (E k).2 < np) (hD : ∀ k, k < m → (D k).1 < nd ∧ (D k).2 < nd)
    (hL : ∀ v, v < np → ∀ f, f < nd → odd m (fun k => inc (E k) v && inc (D k) f) = false)
    {P X : List Nat} {i : Nat} (hi : i < m) (hall : ∀ k, k < m → k = i ∨ k ∈ P ∨ k ∈ X) (hd : lab (X.map D) (D i).1 ≠ lab (X.map D) (D i).2) :
    lab (P.map E) (E i).1 = lab (P.map E) (E i).2 := by
  let cd : Nat → Bool := fun f => lab (X.map D) f == lab (X.map D) (D i).1
  let cp : Nat → Bool := fun v => lab (P.map E) v == lab (P.map E) (E i).1
  have z0 : odd m (fun k => (cd (D k).1 ^^ cd (D k).2) && (cp (E k).1 ^^ cp (E k).2)) = false := by
    rw [odd_same m (g := fun k => odd nd (fun f => odd np (fun v => cd f && (cp v && (inc (E k) v && inc (D k) f))))) (fun k hk => ?_)]
    · rw [odd_swap m nd (fun k f => odd np (fun v => cd f && (cp v && (inc (E k) v && inc (D k) f))))]
      rw [odd_same nd (g := fun _ => false) (fun f hf => ?_), odd_false]
      rw [odd_swap m np (fun k v => cd f && (cp v && (inc (E k) v && inc (D k) f)))]
      rw [odd_same np (g := fun _ => false) (fun v hv => ?_), odd_false]
      rw [odd_and, odd_and, hL v hv f hf]
      simp
    · rw [← odd_inc cd (hD k hk).1 (hD k hk).2, ← odd_inc cp (hE k hk).1 (hE k hk).2, Bool.and_comm, ← odd_and]
      refine odd_same nd (fun f _ => ?_)
      rw [Bool.and_comm, ← odd_and]
      refine odd_same np (fun v _ => ?_)
      cases cd f <;> cases cp v <;> cases inc (E k) v <;> cases inc (D k) f <;> rfl
  have z1 : odd m (fun k => (cd (D k).1 ^^ cd (D k).2) && (cp (E k).1 ^^ cp (E k).2)) = odd m (fun k => (!cp (E i).2) && (k == i)) := by
    refine odd_same m (fun k hk => ?_)
    by_cases e : k = i
    · subst e
      have e1 : cd (D k).1 = true := by simp [cd]
      have e2 : cd (D k).2 = false := by simp [cd]; exact fun q => hd q.symm
      have e3 : cp (E k).1 = true := by simp [cp]
      rw [e1, e2, e3]; simp
    · have e0 : (k == i) = false := by simpa using e
      rw [e0]
      rcases (hall k hk).resolve_left e with h | h
      · have := lab_edge (P.map E) (E k) (List.mem_map_of_mem h)
        have q : cp (E k).1 = cp (E k).2 := by simp only [cp, this]
        rw [q]; cases cp (E k).2 <;> simp
      · have := lab_edge (X.map D) (D k) (List.mem_map_of_mem h)
        have q : cd (D k).1 = cd (D k).2 := by simp only [cd, this]
        rw [q]; cases cd (D k).2 <;> simp
  rw [z0, odd_one] at z1
  simp [hi] at z1
  have : cp (E i).2 = true := by simpa using z1
  simp only [cp, beq_iff_eq] at this
  exact this.symm
end Go.Proofs.Ytieophdbhnpncaa.Euler
