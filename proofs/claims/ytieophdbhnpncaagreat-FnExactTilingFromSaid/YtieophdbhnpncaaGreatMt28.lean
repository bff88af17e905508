/- TfP, TfQ in one text. -/
import Derived.Test.YtieophdbhnpncaaGreatMt27

/- TilingFrom, pure: what the program gathers going around all corners, and what the model gathers from pairs of cells, are the dominoes that heights tell: no program here. -/
namespace Go.Proofs.YtieophdbhnpncaaGreat.Hgt
set_option linter.unusedVariables false
set_option linter.unusedSimpArgs false
open Go.RowKit Go.Proofs.YtieophdbhnpncaaGreat.Base Go.Proofs.YtieophdbhnpncaaGreat.Pure Go.Proofs.YtieophdbhnpncaaGreat.Cell Go.Proofs.YtieophdbhnpncaaGreat.Dom Go.Proofs.YtieophdbhnpncaaGreat.Dms Go.Proofs.YtieophdbhnpncaaGreat.Til Go.Proofs.YtieophdbhnpncaaGreat.Grd Go.Proofs.YtieophdbhnpncaaGreat.Flp Go.Joins
open Go.Proofs.YtieophdbhnpncaaGreat.Flo (simB)

/-- the dominoes on cells of the region that heights tell. -/
def tellG (xs hs : List Int) (e : Dm) : Prop := hasB xs e.1 e.2.1 = true ∧ hasB xs (sx e.1 e.2.2) (sy e.2.1 e.2.2) = true ∧ gap hs e
theorem row_gap {xs : List Int} {M : List Dm} {hs : List Int} (r : Row9 xs M hs) (e : Dm) (ho : okM e = true) : e ∈ M ↔ tellG xs hs e := by
  have hp := til_part r.til
  unfold tellG
  have main : hasB xs e.1 e.2.1 = true → hasB xs (sx e.1 e.2.2) (sy e.2.1 e.2.2) = true → (gap hs e ↔ e ∈ M) := fun h1 h2 => by
    obtain ⟨x, y, b⟩ := e
    cases b with
    | true =>
      have o := ok_dn ho
      have e2 : sy y true = y + 1 := by unfold sy; rw [if_pos rfl]; exact wrap_in (by omega) (by omega)
      have e1 : sx x true = x := by unfold sx; rw [if_pos rfl]
      simp only at h1 h2
      rw [e1, e2] at h2
      obtain ⟨u, v, a1, a2, b1, b2, key⟩ := gap_dn r h1 h2
      rw [← key]
      unfold gap gapA gapB
      simp only [if_pos]
      constructor
      · rintro ⟨u', v', c1, c2, c3⟩
        rw [a1] at c1
        rw [a2] at c2
        injection c1 with c1
        injection c2 with c2
        subst c1
        subst c2
        rwa [wrap_small (by omega), wrap_small (by omega)] at c3
      · intro h
        refine ⟨u, v, a1, a2, ?_⟩
        rwa [wrap_small (by omega), wrap_small (by omega)]
    | false =>
      have o := ok_rt ho
      have e1 : sx x false = x + 1 := by unfold sx; rw [if_neg (by simp)]; exact wrap_in (by omega) (by omega)
      have e2 : sy y false = y := by unfold sy; rw [if_neg (by simp)]
      simp only at h1 h2
      rw [e1, e2] at h2
      obtain ⟨u, v, a1, a2, b1, b2, key⟩ := gap_rt r h1 h2
      rw [← key]
      unfold gap gapA gapB
      simp only [Bool.false_eq_true, if_false]
      rw [show 9 * (y.toNat + 1) + (x + 1).toNat = 9 * (y + 1).toNat + (x + 1).toNat by omega]
      constructor
      · rintro ⟨u', v', c1, c2, c3⟩
        rw [a1] at c1
        rw [a2] at c2
        injection c1 with c1
        injection c2 with c2
        subst c1
        subst c2
        rwa [wrap_small (by omega), wrap_small (by omega)] at c3
      · intro h
        refine ⟨u, v, a1, a2, ?_⟩
        rwa [wrap_small (by omega), wrap_small (by omega)]
  constructor
  · intro hm
    have h1 : hasB xs e.1 e.2.1 = true := part_in hp hm (cov_of ho (.inl ⟨rfl, rfl⟩))
    have h2 : hasB xs (sx e.1 e.2.2) (sy e.2.1 e.2.2) = true := part_in hp hm (cov_of ho (.inr ⟨rfl, rfl⟩))
    exact ⟨h1, h2, (main h1 h2).2 hm⟩
  · rintro ⟨h1, h2, h3⟩
    exact (main h1 h2).1 h3
/-- what TilingFrom answers. -/
def tfR (xs hs : List Int) (M : List Dm) (ok : Bool) : Prop :=
  (ok = true ∧ simB xs = true ∧ Row9 xs M hs) ∨ (ok = false ∧ M = [] ∧ ¬ (simB xs = true ∧ ∃ M', Row9 xs M' hs))
theorem tfR_uniq {xs hs : List Int} {M M' : List Dm} {ok ok' : Bool} (h : tfR xs hs M ok) (h' : tfR xs hs M' ok') : M = M' ∧ ok = ok' := by
  rcases h with ⟨rfl, a, b⟩ | ⟨rfl, rfl, c⟩ <;> rcases h' with ⟨rfl, a', b'⟩ | ⟨rfl, rfl, c'⟩
  · refine ⟨?_, rfl⟩
    have e1 := tf_of b (C := M) (fun e ho => row_gap b e ho)
    have e2 := tf_of b' (C := M) (fun e ho => row_gap b e ho)
    rw [← e1]; exact e2
  · exact absurd ⟨a, M, b⟩ c'
  · exact absurd ⟨a', M', b'⟩ c
  · exact ⟨rfl, rfl⟩
theorem tfR_len {xs hs : List Int} {M : List Dm} {ok : Bool} (h : tfR xs hs M ok) : M.length ≤ 32 := by
  rcases h with ⟨_, _, b⟩ | ⟨_, rfl, _⟩
  · have := part_length (til_part b.til); omega
  · simp
/-- the dominoes were gathered and sorted, and their heights are those. -/
theorem tf_yes {xs hs : List Int} {M : List Dm} (h81 : hs.length = 81) {h : List Int} (hr : hgtR xs M h) (e : h = hs) : tfR xs hs M true := by
  subst e
  rcases hr with ⟨a, b⟩ | ⟨_, rfl⟩
  · exact .inl ⟨rfl, a, b⟩
  · simp at h81
theorem tf_no {xs hs : List Int} {C : List Dm} (hC : ∀ e, okM e = true → (e ∈ C ↔ tellG xs hs e)) {h : List Int} (hr : hgtR xs (sortM C) h) (e : h ≠ hs) : tfR xs hs [] false := by
  refine .inr ⟨rfl, rfl, ?_⟩
  rintro ⟨a, M', r⟩
  have e1 := tf_of r hC
  rw [e1] at hr
  rcases hr with ⟨_, b⟩ | ⟨c, _⟩
  · exact e (row_uniq b r)
  · exact c ⟨a, r.til⟩
theorem tf_short {xs hs : List Int} (h : hs.length ≠ 81) : tfR xs hs [] false := .inr ⟨rfl, rfl, fun ⟨_, M', r⟩ => h r.len⟩
theorem tf_bad {xs hs : List Int} (h : ¬ okR xs) : tfR xs hs [] false := .inr ⟨rfl, rfl, fun ⟨_, M', r⟩ => h r.ok⟩
/-- one way along a side: both cells are of the region and the height grows by three. -/
def upG (xs hs : List Int) (x y qx qy : Int) : Prop := hasB xs (sdX x y qx qy) (sdY x y qx qy) = true ∧ hasB xs (loE x qx) (loE y qy) = true ∧ ∃ u v : Int, hs[pl9 (x, y)]? = some u ∧ hs[pl9 (qx, qy)]? = some v ∧ wrap64 (v - u) = 3
/-- what the program has gathered behind the first v corners and k ends of the next one. -/
def walkG (xs hs : List Int) (v k : Nat) (e : Dm) : Prop :=
  ∃ u c, (u < v ∨ (u = v ∧ ∃ i, i < k ∧ (endsP ((u % 9 : Nat) : Int) ((u / 9 : Nat) : Int))[i]? = some c)) ∧ c ∈ endsP ((u % 9 : Nat) : Int) ((u / 9 : Nat) : Int) ∧ upG xs hs ((u % 9 : Nat) : Int) ((u / 9 : Nat) : Int) c.1 c.2 ∧ e = sdM ((u % 9 : Nat) : Int) ((u / 9 : Nat) : Int) c.1 c.2
theorem up_back {x y qx qy : Int} : sdX qx qy x y = sdX x y qx qy ∧ sdY qx qy x y = sdY x y qx qy ∧ loE qx x = loE x qx ∧ loE qy y = loE y qy ∧ sdM qx qy x y = sdM x y qx qy := by
  have l : ∀ a b : Int, loE a b = loE b a := fun a b => by unfold loE; split <;> split <;> omega
  have e : decide (qy = y) = decide (y = qy) := by rw [decide_eq_decide]; exact eq_comm
  have h1 : sdX qx qy x y = sdX x y qx qy := by
    unfold sdX; rw [l qx x]
    by_cases q : qy = y
    · rw [if_pos q, if_pos q.symm]
    · rw [if_neg q, if_neg (fun z => q z.symm)]
  have h2 : sdY qx qy x y = sdY x y qx qy := by
    unfold sdY; rw [l qy y]
    by_cases q : qy = y
    · rw [if_pos q, if_pos q.symm]
    · rw [if_neg q, if_neg (fun z => q z.symm)]
  exact ⟨h1, h2, l _ _, l _ _, by unfold sdM; rw [h1, h2, e]⟩
/-- the corners of a domino's side: one way along it. -/
theorem dom_way {e : Dm} (ho : okM e = true) : ∃ x y qx qy : Int, (0 ≤ x ∧ x ≤ 8 ∧ 0 ≤ y ∧ y ≤ 8) ∧ (0 ≤ qx ∧ qx ≤ 8 ∧ 0 ≤ qy ∧ qy ≤ 8) ∧ (qx, qy) ∈ endsP x y ∧ (x, y) ∈ endsP qx qy ∧ sdM x y qx qy = e ∧
    sdX x y qx qy = e.1 ∧ sdY x y qx qy = e.2.1 ∧ loE x qx = sx e.1 e.2.2 ∧ loE y qy = sy e.2.1 e.2.2 ∧ pl9 (x, y) = gapA e ∧ pl9 (qx, qy) = gapB e := by
  obtain ⟨a, c, b⟩ := e
  have mem : ∀ {x y qx qy : Int}, (0 ≤ qx ∧ qx ≤ 8 ∧ 0 ≤ qy ∧ qy ≤ 8) → ((qx = x ∧ qy = y - 1) ∨ (qx = x - 1 ∧ qy = y) ∨ (qx = x + 1 ∧ qy = y) ∨ (qx = x ∧ qy = y + 1)) → (qx, qy) ∈ endsP x y := fun h1 h2 => by
    unfold endsP
    refine List.mem_filter.2 ⟨?_, inC_iff.2 (by simp only; omega)⟩
    unfold ends4
    simp only [List.mem_cons, List.not_mem_nil, or_false, Prod.mk.injEq]
    exact h2
  cases b with
  | true =>
    have o := ok_dn ho
    have w1 : sx a true = a := by unfold sx; rw [if_pos rfl]
    have w2 : sy c true = c + 1 := by unfold sy; rw [if_pos rfl]; exact wrap_in (by omega) (by omega)
    have s1 : sdX a (c + 1) (a + 1) (c + 1) = a := by unfold sdX loE; rw [if_pos rfl, if_neg (by omega)]
    have s2 : sdY a (c + 1) (a + 1) (c + 1) = c := by unfold sdY loE; rw [if_pos rfl, if_neg (by omega)]; omega
    refine ⟨a, c + 1, a + 1, c + 1, by omega, by omega, mem (by omega) (by omega), mem (by omega) (by omega), ?_, s1, s2, ?_, ?_, ?_, ?_⟩
    · unfold sdM; rw [s1, s2, decide_eq_true (rfl : c + 1 = c + 1)]
    · show loE a (a + 1) = sx a true; rw [w1]; unfold loE; rw [if_neg (by omega)]
    · show loE (c + 1) (c + 1) = sy c true; rw [w2]; unfold loE; rw [if_neg (by omega)]
    · unfold pl9 gapA; simp
    · unfold pl9 gapB; simp; omega
  | false =>
    have o := ok_rt ho
    have w1 : sx a false = a + 1 := by unfold sx; rw [if_neg (by simp)]; exact wrap_in (by omega) (by omega)
    have w2 : sy c false = c := by unfold sy; rw [if_neg (by simp)]
    have s1 : sdX (a + 1) c (a + 1) (c + 1) = a := by unfold sdX loE; rw [if_neg (by omega), if_neg (by omega)]; omega
    have s2 : sdY (a + 1) c (a + 1) (c + 1) = c := by unfold sdY loE; rw [if_neg (by omega), if_neg (by omega)]
    refine ⟨a + 1, c, a + 1, c + 1, by omega, by omega, mem (by omega) (by omega), mem (by omega) (by omega), ?_, s1, s2, ?_, ?_, ?_, ?_⟩
    · unfold sdM; rw [s1, s2, decide_eq_false (by omega : ¬ c = c + 1)]
    · show loE (a + 1) (a + 1) = sx a false; rw [w1]; unfold loE; rw [if_neg (by omega)]
    · show loE c (c + 1) = sy c false; rw [w2]; unfold loE; rw [if_neg (by omega)]
    · unfold pl9 gapA; simp
    · unfold pl9 gapB; simp; omega
theorem mk_dn {a b : Int} (h : 0 ≤ a ∧ a ≤ 7 ∧ 0 ≤ b ∧ b ≤ 6) : okM (a, b, true) = true := by
  show domB a b true = true
  have e : wrap64 (b + 1) = b + 1 := wrap_in (by omega) (by omega)
  unfold domB sx sy
  rw [if_pos rfl, if_pos rfl, e, Bool.and_eq_true, okB_iff, okB_iff]
  unfold Ok
  omega
theorem mk_rt {a b : Int} (h : 0 ≤ a ∧ a ≤ 6 ∧ 0 ≤ b ∧ b ≤ 7) : okM (a, b, false) = true := by
  show domB a b false = true
  have e : wrap64 (a + 1) = a + 1 := wrap_in (by omega) (by omega)
  unfold domB sx sy
  rw [if_neg (by simp), if_neg (by simp), e, Bool.and_eq_true, okB_iff, okB_iff]
  unfold Ok
  omega
/-- the domino over both cells, where both are of the region. -/
theorem up_dom {xs : List Int} {x y : Int} {c : Int × Int} (h1 : hasB xs (sdX x y c.1 c.2) (sdY x y c.1 c.2) = true) (h2 : hasB xs (loE x c.1) (loE y c.2) = true) :
    okM (sdM x y c.1 c.2) = true ∧ loE x c.1 = sx (sdX x y c.1 c.2) (decide (y = c.2)) ∧ loE y c.2 = sy (sdY x y c.1 c.2) (decide (y = c.2)) ∧ nbB (sdX x y c.1 c.2) (sdY x y c.1 c.2) (loE x c.1) (loE y c.2) = true := by
  obtain ⟨_, x0, x7, y0, y7, _⟩ := hasB_iff.1 h1
  obtain ⟨_, u0, u7, v0, v7, _⟩ := hasB_iff.1 h2
  unfold sdM
  by_cases q : y = c.2
  · have eX : sdX x y c.1 c.2 = loE x c.1 := by unfold sdX; rw [if_pos q]
    have eY : sdY x y c.1 c.2 = loE y c.2 - 1 := by unfold sdY; rw [if_pos q]
    rw [eX] at x0 x7
    rw [eY] at y0 y7
    rw [eX, eY, decide_eq_true q]
    clear h1 h2 eX eY
    generalize loE x c.1 = a at *
    generalize loE y c.2 = b at *
    refine ⟨mk_dn (by omega), ?_, ?_, ?_⟩
    · unfold sx; rw [if_pos rfl]
    · unfold sy; rw [if_pos rfl, wrap_in (by omega) (by omega)]; omega
    · rw [nbB_iff]; unfold Ok; omega
  · have eX : sdX x y c.1 c.2 = loE x c.1 - 1 := by unfold sdX; rw [if_neg q]
    have eY : sdY x y c.1 c.2 = loE y c.2 := by unfold sdY; rw [if_neg q]
    rw [eX] at x0 x7
    rw [eY] at y0 y7
    rw [eX, eY, decide_eq_false q]
    clear h1 h2 eX eY
    generalize loE x c.1 = a at *
    generalize loE y c.2 = b at *
    refine ⟨mk_rt (by omega), ?_, ?_, ?_⟩
    · unfold sx; rw [if_neg (by simp), wrap_in (by omega) (by omega)]; omega
    · unfold sy; rw [if_neg (by simp)]
    · rw [nbB_iff]; unfold Ok; omega
/-- the gap along a way is the domino's. -/
theorem up_gap {hs : List Int} {x y : Int} {c : Int × Int} (hx : 0 ≤ x ∧ x ≤ 8 ∧ 0 ≤ y ∧ y ≤ 8) (hc : c ∈ endsP x y) (ho : okM (sdM x y c.1 c.2) = true) :
    (pl9 (x, y) = gapA (sdM x y c.1 c.2) ∧ pl9 c = gapB (sdM x y c.1 c.2)) ∨ (pl9 (x, y) = gapB (sdM x y c.1 c.2) ∧ pl9 c = gapA (sdM x y c.1 c.2)) := by
  obtain ⟨hin, d, hd, e3, e4⟩ := ends_dir hc
  have h4 : d = 0 ∨ d = 1 ∨ d = 2 ∨ d = 3 := by omega
  unfold sdM sdX sdY at ho ⊢
  rcases h4 with rfl | rfl | rfl | rfl
  · have a : c.1 = x + 1 := e3
    have b : c.2 = y := by rw [e4]; show y + 0 = y; omega
    have l1 : loE x c.1 = x := by unfold loE; rw [if_neg (by omega)]
    have l2 : loE y c.2 = y := by unfold loE; rw [if_neg (by omega)]
    rw [if_pos b.symm, if_pos b.symm, decide_eq_true b.symm, l1, l2] at *
    have := ok_dn ho
    left
    unfold pl9 gapA gapB
    simp only [if_pos]
    omega
  · have a : c.1 = x := by rw [e3]; show x + 0 = x; omega
    have b : c.2 = y + 1 := e4
    have nb : ¬ y = c.2 := by omega
    have l1 : loE x c.1 = x := by unfold loE; rw [if_neg (by omega)]
    have l2 : loE y c.2 = y := by unfold loE; rw [if_neg (by omega)]
    rw [if_neg nb, if_neg nb, decide_eq_false nb, l1, l2] at *
    have := ok_rt ho
    left
    unfold pl9 gapA gapB
    simp only [Bool.false_eq_true, if_false]
    omega
  · have a : c.1 = x - 1 := e3
    have b : c.2 = y := by rw [e4]; show y + 0 = y; omega
    have l1 : loE x c.1 = c.1 := by unfold loE; rw [if_pos (by omega)]
    have l2 : loE y c.2 = y := by unfold loE; rw [if_neg (by omega)]
    rw [if_pos b.symm, if_pos b.symm, decide_eq_true b.symm, l1, l2] at *
    have := ok_dn ho
    right
    unfold pl9 gapA gapB
    simp only [if_pos]
    omega
  · have a : c.1 = x := by rw [e3]; show x + 0 = x; omega
    have b : c.2 = y - 1 := e4
    have nb : ¬ y = c.2 := by omega
    have l1 : loE x c.1 = x := by unfold loE; rw [if_neg (by omega)]
    have l2 : loE y c.2 = c.2 := by unfold loE; rw [if_pos (by omega)]
    rw [if_neg nb, if_neg nb, decide_eq_false nb, l1, l2] at *
    have := ok_rt ho
    right
    unfold pl9 gapA gapB
    simp only [Bool.false_eq_true, if_false]
    omega
/-- what the program has gathered at the end is what heights tell. -/
theorem walk_tell {xs hs : List Int} {C : List Dm} (hC : ∀ e, e ∈ C ↔ walkG xs hs 81 0 e) : ∀ e, okM e = true → (e ∈ C ↔ tellG xs hs e) := by
  intro e ho
  rw [hC]
  constructor
  · rintro ⟨u, c, hu, hc, ⟨h1, h2, a, b, ha, hb, h3⟩, rfl⟩
    have hu' : u < 81 := by
      rcases hu with h | ⟨_, i, hi, _⟩
      · exact h
      · omega
    obtain ⟨k1, k2, k3, k4⟩ := up_dom h1 h2
    refine ⟨h1, ?_, ?_⟩
    · unfold sdM
      simp only
      rw [← k2, ← k3]; exact h2
    · rcases up_gap (hs := hs) (by omega) hc k1 with ⟨g1, g2⟩ | ⟨g1, g2⟩
      · exact ⟨a, b, by rw [← g1]; exact ha, by rw [← g2]; exact hb, .inr h3⟩
      · exact ⟨b, a, by rw [← g2]; exact hb, by rw [← g1]; exact ha, .inl h3⟩
  · rintro ⟨h1, h2, a, b, ha, hb, h3⟩
    obtain ⟨x, y, qx, qy, r1, r2, m1, m2, e1, e2, e3, e4, e5, e6, e7⟩ := dom_way ho
    have num : ∀ {x y : Int}, (0 ≤ x ∧ x ≤ 8 ∧ 0 ≤ y ∧ y ≤ 8) → pl9 (x, y) < 81 ∧ ((pl9 (x, y) % 9 : Nat) : Int) = x ∧ ((pl9 (x, y) / 9 : Nat) : Int) = y := fun h => by unfold pl9; simp only; omega
    obtain ⟨n1, n2, n3⟩ := num r1
    obtain ⟨n4, n5, n6⟩ := num r2
    rcases h3 with h3 | h3
    · refine ⟨pl9 (qx, qy), (x, y), .inl n4, by rw [n5, n6]; exact m2, ?_, ?_⟩
      · rw [n5, n6]
        obtain ⟨b1, b2, b3, b4, b5⟩ := @up_back x y qx qy
        unfold upG
        simp only
        rw [b1, b2, b3, b4, e2, e3, e4, e5]
        exact ⟨h1, h2, b, a, by rw [e7]; exact hb, by rw [e6]; exact ha, h3⟩
      · rw [n5, n6]
        simp only
        rw [(@up_back x y qx qy).2.2.2.2]; exact e1.symm
    · refine ⟨pl9 (x, y), (qx, qy), .inl n1, by rw [n2, n3]; exact m1, ?_, ?_⟩
      · rw [n2, n3]
        unfold upG
        simp only
        rw [e2, e3, e4, e5]
        exact ⟨h1, h2, a, b, by rw [e6]; exact ha, by rw [e7]; exact hb, h3⟩
      · rw [n2, n3]; exact e1.symm
/-- one end more. -/
theorem walk_step {xs hs : List Int} {C : List Dm} {v k : Nat} {c : Int × Int} (hk : (endsP ((v % 9 : Nat) : Int) ((v / 9 : Nat) : Int))[k]? = some c) (hC : ∀ e, e ∈ C ↔ walkG xs hs v k e) :
    (upG xs hs ((v % 9 : Nat) : Int) ((v / 9 : Nat) : Int) c.1 c.2 → ∀ e, e ∈ C ++ [sdM ((v % 9 : Nat) : Int) ((v / 9 : Nat) : Int) c.1 c.2] ↔ walkG xs hs v (k + 1) e) ∧
    (¬ upG xs hs ((v % 9 : Nat) : Int) ((v / 9 : Nat) : Int) c.1 c.2 → ∀ e, e ∈ C ↔ walkG xs hs v (k + 1) e) := by
  have hm : c ∈ endsP ((v % 9 : Nat) : Int) ((v / 9 : Nat) : Int) := List.mem_of_getElem? hk
  have key : ∀ e, walkG xs hs v (k + 1) e ↔ walkG xs hs v k e ∨ (upG xs hs ((v % 9 : Nat) : Int) ((v / 9 : Nat) : Int) c.1 c.2 ∧ e = sdM ((v % 9 : Nat) : Int) ((v / 9 : Nat) : Int) c.1 c.2) := fun e => by
    constructor
    · rintro ⟨u, c', hu, hc, h1, h2⟩
      rcases hu with h | ⟨rfl, i, hi, hci⟩
      · exact .inl ⟨u, c', .inl h, hc, h1, h2⟩
      · by_cases q : i = k
        · subst q
          rw [hk] at hci
          injection hci with hci
          subst hci
          exact .inr ⟨h1, h2⟩
        · exact .inl ⟨u, c', .inr ⟨rfl, i, by omega, hci⟩, hc, h1, h2⟩
    · rintro (⟨u, c', hu, hc, h1, h2⟩ | ⟨h1, h2⟩)
      · refine ⟨u, c', ?_, hc, h1, h2⟩
        rcases hu with h | ⟨e, i, hi, hci⟩
        · exact .inl h
        · exact .inr ⟨e, i, by omega, hci⟩
      · exact ⟨v, c, .inr ⟨rfl, k, by omega, hk⟩, hm, h1, h2⟩
  refine ⟨fun hup e => ?_, fun hup e => ?_⟩
  · rw [key, List.mem_append, hC, List.mem_singleton]
    exact ⟨fun h => h.imp id (fun q => ⟨hup, q⟩), fun h => h.imp id (fun q => q.2)⟩
  · rw [key, hC]
    exact ⟨.inl, fun h => h.resolve_right (fun q => hup q.1)⟩
/-- the next corner. -/
theorem walk_next {xs hs : List Int} {C : List Dm} {v : Nat} (hC : ∀ e, e ∈ C ↔ walkG xs hs v (endsP ((v % 9 : Nat) : Int) ((v / 9 : Nat) : Int)).length e) : ∀ e, e ∈ C ↔ walkG xs hs (v + 1) 0 e := by
  intro e
  rw [hC]
  constructor
  · rintro ⟨u, c, hu, hc, h⟩
    refine ⟨u, c, ?_, hc, h⟩
    rcases hu with q | ⟨rfl, _⟩
    · exact .inl (by omega)
    · exact .inl (by omega)
  · rintro ⟨u, c, hu, hc, h⟩
    refine ⟨u, c, ?_, hc, h⟩
    rcases hu with q | ⟨_, i, hi, _⟩
    · by_cases q2 : u = v
      · subst q2
        obtain ⟨i, hi, e2⟩ := List.getElem_of_mem hc
        exact .inr ⟨rfl, i, hi, by rw [List.getElem?_eq_getElem hi, e2]⟩
      · exact .inl (by omega)
    · omega
theorem walk_zero (xs hs : List Int) : ∀ e, e ∈ ([] : List Dm) ↔ walkG xs hs 0 0 e := fun e =>
  ⟨fun h => by simp at h, fun ⟨u, c, hu, _⟩ => by
    rcases hu with q | ⟨_, i, hi, _⟩ <;> omega⟩
end Go.Proofs.YtieophdbhnpncaaGreat.Hgt

/- TilingFrom, pure: what the model gathers from pairs of cells: no program here. -/
namespace Go.Proofs.YtieophdbhnpncaaGreat.Hgt
set_option linter.unusedVariables false
set_option linter.unusedSimpArgs false
open Go.RowKit Go.Proofs.YtieophdbhnpncaaGreat.Base Go.Proofs.YtieophdbhnpncaaGreat.Pure Go.Proofs.YtieophdbhnpncaaGreat.Cell Go.Proofs.YtieophdbhnpncaaGreat.Dom Go.Proofs.YtieophdbhnpncaaGreat.Dms Go.Proofs.YtieophdbhnpncaaGreat.Til Go.Proofs.YtieophdbhnpncaaGreat.Grd Go.Proofs.YtieophdbhnpncaaGreat.Flp Go.Joins

/-- the domino over two neighbors. -/
def dOf (a b : Int × Int) : Dm := (mn a.1 b.1, mn a.2 b.2, decide (a.1 = b.1))
theorem nb_cells {a b : Int × Int} (h : nbB a.1 a.2 b.1 b.2 = true) : okM (dOf a b) = true ∧
    ((((dOf a b).1, (dOf a b).2.1) = a ∧ (sx (dOf a b).1 (dOf a b).2.2, sy (dOf a b).2.1 (dOf a b).2.2) = b) ∨ (((dOf a b).1, (dOf a b).2.1) = b ∧ (sx (dOf a b).1 (dOf a b).2.2, sy (dOf a b).2.1 (dOf a b).2.2) = a)) := by
  obtain ⟨h1, h2, h3⟩ := nbB_iff.1 h
  obtain ⟨x, y⟩ := a
  obtain ⟨u, v⟩ := b
  unfold Ok at h1 h2
  simp only at h1 h2 h3
  unfold dOf
  simp only
  rcases h3 with ⟨rfl, q⟩ | ⟨rfl, q⟩
  · have e0 : mn x x = x := by unfold mn; split <;> rfl
    rw [e0, decide_eq_true (rfl : x = x)]
    rcases q with rfl | rfl
    · have e1 : mn (v + 1) v = v := by unfold mn; rw [if_pos (by omega)]
      have w1 : sy v true = v + 1 := by unfold sy; rw [if_pos rfl]; exact wrap_in (by omega) (by omega)
      have w2 : sx x true = x := by unfold sx; rw [if_pos rfl]
      rw [e1, w1, w2]
      exact ⟨mk_dn (by omega), .inr ⟨rfl, rfl⟩⟩
    · have e1 : mn y (y + 1) = y := by unfold mn; rw [if_neg (by omega)]
      have w1 : sy y true = y + 1 := by unfold sy; rw [if_pos rfl]; exact wrap_in (by omega) (by omega)
      have w2 : sx x true = x := by unfold sx; rw [if_pos rfl]
      rw [e1, w1, w2]
      exact ⟨mk_dn (by omega), .inl ⟨rfl, rfl⟩⟩
  · have e0 : mn y y = y := by unfold mn; split <;> rfl
    rw [e0]
    rcases q with rfl | rfl
    · have e1 : mn (u + 1) u = u := by unfold mn; rw [if_pos (by omega)]
      have w1 : sx u false = u + 1 := by unfold sx; rw [if_neg (by simp)]; exact wrap_in (by omega) (by omega)
      have w2 : sy y false = y := by unfold sy; rw [if_neg (by simp)]
      rw [e1, decide_eq_false (by omega : ¬ u + 1 = u), w1, w2]
      exact ⟨mk_rt (by omega), .inr ⟨rfl, rfl⟩⟩
    · have e1 : mn x (x + 1) = x := by unfold mn; rw [if_neg (by omega)]
      have w1 : sx x false = x + 1 := by unfold sx; rw [if_neg (by simp)]; exact wrap_in (by omega) (by omega)
      have w2 : sy y false = y := by unfold sy; rw [if_neg (by simp)]
      rw [e1, decide_eq_false (by omega : ¬ x = x + 1), w1, w2]
      exact ⟨mk_rt (by omega), .inl ⟨rfl, rfl⟩⟩
/-- what the model has gathered behind k cells and i of those before the next one. -/
def pairG (xs hs : List Int) (k i : Nat) (e : Dm) : Prop :=
  ∃ a b ca cb, (cellsR xs)[a]? = some ca ∧ (cellsR xs)[b]? = some cb ∧ ((b < k ∧ a < b) ∨ (b = k ∧ a < i)) ∧ nbB ca.1 ca.2 cb.1 cb.2 = true ∧ e = dOf ca cb ∧ gap hs e
theorem pair_zero (xs hs : List Int) : ∀ e, e ∈ ([] : List Dm) ↔ pairG xs hs 0 0 e := fun e =>
  ⟨fun h => by simp at h, fun ⟨a, b, ca, cb, _, _, h, _⟩ => by omega⟩
theorem pair_next {xs hs : List Int} {C : List Dm} {k : Nat} (hC : ∀ e, e ∈ C ↔ pairG xs hs k k e) : ∀ e, e ∈ C ↔ pairG xs hs (k + 1) 0 e := fun e => by
  rw [hC]
  constructor
  · rintro ⟨a, b, ca, cb, h1, h2, h3, h4⟩
    exact ⟨a, b, ca, cb, h1, h2, .inl (by omega), h4⟩
  · rintro ⟨a, b, ca, cb, h1, h2, h3, h4⟩
    exact ⟨a, b, ca, cb, h1, h2, by omega, h4⟩
theorem pair_step {xs hs : List Int} {C : List Dm} {k i : Nat} {ca cb : Int × Int} (ha : (cellsR xs)[i]? = some ca) (hb : (cellsR xs)[k]? = some cb) (hC : ∀ e, e ∈ C ↔ pairG xs hs k i e) :
    (nbB ca.1 ca.2 cb.1 cb.2 = true → gap hs (dOf ca cb) → ∀ e, e ∈ C ++ [dOf ca cb] ↔ pairG xs hs k (i + 1) e) ∧
    (¬ (nbB ca.1 ca.2 cb.1 cb.2 = true ∧ gap hs (dOf ca cb)) → ∀ e, e ∈ C ↔ pairG xs hs k (i + 1) e) := by
  have key : ∀ e, pairG xs hs k (i + 1) e ↔ pairG xs hs k i e ∨ (nbB ca.1 ca.2 cb.1 cb.2 = true ∧ gap hs (dOf ca cb) ∧ e = dOf ca cb) := fun e => by
    constructor
    · rintro ⟨a, b, ca', cb', h1, h2, h3, h4, h5, h6⟩
      by_cases q : b = k ∧ a = i
      · obtain ⟨rfl, rfl⟩ := q
        rw [ha] at h1
        rw [hb] at h2
        injection h1 with h1
        injection h2 with h2
        subst h1 h2
        exact .inr ⟨h4, h5 ▸ h6, h5⟩
      · exact .inl ⟨a, b, ca', cb', h1, h2, by omega, h4, h5, h6⟩
    · rintro (⟨a, b, ca', cb', h1, h2, h3, h4⟩ | ⟨h4, h5, rfl⟩)
      · exact ⟨a, b, ca', cb', h1, h2, by omega, h4⟩
      · exact ⟨i, k, ca, cb, ha, hb, .inr ⟨rfl, by omega⟩, h4, rfl, h5⟩
  refine ⟨fun h1 h2 e => ?_, fun hno e => ?_⟩
  · rw [key, List.mem_append, hC, List.mem_singleton]
    exact ⟨fun h => h.imp id (fun q => ⟨h1, h2, q⟩), fun h => h.imp id (fun q => q.2.2)⟩
  · rw [key, hC]
    exact ⟨.inl, fun h => h.resolve_right (fun q => hno ⟨q.1, q.2.1⟩)⟩
theorem pair_tell {xs hs : List Int} {C : List Dm} (hC : ∀ e, e ∈ C ↔ pairG xs hs (cellsR xs).length 0 e) : ∀ e, okM e = true → (e ∈ C ↔ tellG xs hs e) := by
  intro e ho
  rw [hC]
  constructor
  · rintro ⟨a, b, ca, cb, h1, h2, _, h4, rfl, h6⟩
    have m1 : hasB xs ca.1 ca.2 = true := mem_cells.1 (List.mem_of_getElem? h1)
    have m2 : hasB xs cb.1 cb.2 = true := mem_cells.1 (List.mem_of_getElem? h2)
    rcases (nb_cells h4).2 with ⟨e1, e2⟩ | ⟨e1, e2⟩
    · exact ⟨by rw [← e1] at m1; exact m1, by rw [← e2] at m2; exact m2, h6⟩
    · exact ⟨by rw [← e1] at m2; exact m2, by rw [← e2] at m1; exact m1, h6⟩
  · rintro ⟨h1, h2, h3⟩
    obtain ⟨x, y, d⟩ := e
    simp only at h1 h2
    obtain ⟨a, ha, ea⟩ := List.getElem_of_mem (mem_cells.2 h1)
    obtain ⟨b, hb, eb⟩ := List.getElem_of_mem (mem_cells.2 h2)
    have fin : ∀ {u v : Int}, (cellsR xs)[b] = (u, v) → y * 8 + x < v * 8 + u → a < b := fun q hlt => by
      refine Classical.byContradiction fun c => ?_
      rcases Nat.lt_or_ge b a with h | h
      · have := List.pairwise_iff_getElem.1 (cells_inc xs) b a hb ha h
        rw [ea, q] at this
        simp only at this
        omega
      · obtain rfl : a = b := by omega
        rw [ea] at q
        injection q with q1 q2
        omega
    cases d with
    | true =>
      have o := ok_dn ho
      have w1 : sy y true = y + 1 := by unfold sy; rw [if_pos rfl]; exact wrap_in (by omega) (by omega)
      have w2 : sx x true = x := by unfold sx; rw [if_pos rfl]
      rw [w1, w2] at eb
      have hlt := fin eb (by omega)
      refine ⟨a, b, (x, y), (x, y + 1), by rw [List.getElem?_eq_getElem ha, ea], by rw [List.getElem?_eq_getElem hb, eb], .inl ⟨hb, hlt⟩, ?_, ?_, h3⟩
      · rw [nbB_iff]; exact ⟨by unfold Ok; simp only; omega, by unfold Ok; simp only; omega, .inl ⟨rfl, .inr rfl⟩⟩
      · have e1 : mn y (y + 1) = y := by unfold mn; rw [if_neg (by omega)]
        have e2 : mn x x = x := by unfold mn; split <;> rfl
        unfold dOf
        simp only
        rw [e1, e2]; simp
    | false =>
      have o := ok_rt ho
      have w1 : sx x false = x + 1 := by unfold sx; rw [if_neg (by simp)]; exact wrap_in (by omega) (by omega)
      have w2 : sy y false = y := by unfold sy; rw [if_neg (by simp)]
      rw [w1, w2] at eb
      have hlt := fin eb (by omega)
      refine ⟨a, b, (x, y), (x + 1, y), by rw [List.getElem?_eq_getElem ha, ea], by rw [List.getElem?_eq_getElem hb, eb], .inl ⟨hb, hlt⟩, ?_, ?_, h3⟩
      · rw [nbB_iff]; exact ⟨by unfold Ok; simp only; omega, by unfold Ok; simp only; omega, .inr ⟨rfl, .inr rfl⟩⟩
      · have e1 : mn x (x + 1) = x := by unfold mn; rw [if_neg (by omega)]
        have e2 : mn y y = y := by unfold mn; split <;> rfl
        unfold dOf
        simp only
        rw [e1, e2, decide_eq_false (by omega : ¬ x = x + 1)]
/-- where the model looks for the heights at a domino's side. -/
theorem gap_at {e : Dm} (ho : okM e = true) : gapA e < 81 ∧ gapB e < 81 ∧ ((gapA e : Nat) : Int) = sy e.2.1 e.2.2 * 9 + sx e.1 e.2.2 ∧ (0 ≤ sx e.1 e.2.2 ∧ sx e.1 e.2.2 ≤ 7 ∧ 0 ≤ sy e.2.1 e.2.2 ∧ sy e.2.1 e.2.2 ≤ 7) ∧
    (e.2.2 = true → ((gapB e : Nat) : Int) = sy e.2.1 e.2.2 * 9 + sx e.1 e.2.2 + 1) ∧ (e.2.2 = false → ((gapB e : Nat) : Int) = (sy e.2.1 e.2.2 + 1) * 9 + sx e.1 e.2.2) := by
  obtain ⟨x, y, d⟩ := e
  cases d with
  | true =>
    have o := ok_dn ho
    have w1 : sy y true = y + 1 := by unfold sy; rw [if_pos rfl]; exact wrap_in (by omega) (by omega)
    have w2 : sx x true = x := by unfold sx; rw [if_pos rfl]
    unfold gapA gapB
    simp only [if_pos, w1, w2]
    refine ⟨by omega, by omega, by omega, by omega, fun _ => by omega, fun q => by cases q⟩
  | false =>
    have o := ok_rt ho
    have w1 : sx x false = x + 1 := by unfold sx; rw [if_neg (by simp)]; exact wrap_in (by omega) (by omega)
    have w2 : sy y false = y := by unfold sy; rw [if_neg (by simp)]
    unfold gapA gapB
    simp only [Bool.false_eq_true, if_false, w1, w2]
    exact ⟨by omega, by omega, by omega, by omega, (fun q => by cases q), (fun _ => by omega)⟩
theorem gap_iff {hs : List Int} {e : Dm} {u v : Int} (hu : hs[gapA e]? = some u) (hv : hs[gapB e]? = some v) : gap hs e ↔ (wrap64 (u - v) == 3 || wrap64 (v - u) == 3) = true := by
  unfold gap
  rw [Bool.or_eq_true, beq_iff_eq, beq_iff_eq]
  constructor
  · rintro ⟨u', v', a, b, c⟩
    rw [hu] at a
    rw [hv] at b
    injection a with a
    injection b with b
    rw [a, b]; exact c
  · exact fun c => ⟨u, v, hu, hv, c⟩
end Go.Proofs.YtieophdbhnpncaaGreat.Hgt
