/- TilP, GrdP, LisP in one text. -/
import Derived.Test.YtmaghekcpopepaaDoorMgDom
import Derived.Test.YtmaghekcpopepaaDoorDmM
import Derived.Test.YtmaghekcpopepaaDoorPure
import Derived.Test.YtmaghekcpopepaaDoorMgCnt

/- Lists of dominoes, pure: the first domino over a cell, the cells left uncovered, partial tilings and tilings, the dominoes in order: no program here. -/
namespace Go.Proofs.YtmaghekcpopepaaDoor.Til
set_option linter.unusedVariables false
set_option linter.unusedSimpArgs false
open Go.RowKit Go.Proofs.YtmaghekcpopepaaDoor.Base Go.Proofs.YtmaghekcpopepaaDoor.Pure Go.Proofs.YtmaghekcpopepaaDoor.Cell Go.Proofs.YtmaghekcpopepaaDoor.Dom Go.Proofs.YtmaghekcpopepaaDoor.Dms

/-- a valid domino. -/
def okM (d : Dm) : Bool := domB d.1 d.2.1 d.2.2
/-- the cell is one of the domino's two. -/
def covP (d : Dm) (x y : Int) : Bool := eqB x y d.1 d.2.1 || eqB x y (sx d.1 d.2.2) (sy d.2.1 d.2.2)
/-- a valid domino covers the cell. -/
def covM (d : Dm) (x y : Int) : Bool := okM d && covP d x y
/-- one of the dominoes covers the cell. -/
def anyM (L : List Dm) (x y : Int) : Bool := L.any fun d => covM d x y
/-- the index of the first domino that covers the cell. -/
def atN : List Dm → Int → Int → Option Nat
  | [], _, _ => none
  | d :: L, x, y => if covM d x y then some 0 else (atN L x y).map (· + 1)
def atI (L : List Dm) (x y : Int) : Int := match atN L x y with
  | some j => (j : Int)
  | none => -1
theorem atN_hit {L : List Dm} {x y : Int} : ∀ {k : Nat} {d : Dm}, (∀ j e, j < k → L[j]? = some e → covM e x y = false) → L[k]? = some d → covM d x y = true → atN L x y = some k := by
  induction L with
  | nil => intro k d _ h; simp at h
  | cons a L ih =>
    intro k d h1 h2 h3
    unfold atN
    cases k with
    | zero => simp at h2; subst h2; rw [if_pos h3]
    | succ k =>
      rw [if_neg (by rw [h1 0 a (by omega) rfl]; simp), ih (k := k) (d := d) (fun j e hj he => h1 (j + 1) e (by omega) (by simpa using he)) (by simpa using h2) h3]
      rfl
theorem atN_none {L : List Dm} {x y : Int} : atN L x y = none ↔ anyM L x y = false := by
  induction L with
  | nil => simp [atN, anyM]
  | cons a L ih =>
    unfold atN
    cases h : covM a x y with
    | true => simp [anyM, h]
    | false => simpa [anyM, h] using ih
theorem atI_hit {L : List Dm} {x y : Int} {k : Nat} {d : Dm} (h1 : ∀ j e, j < k → L[j]? = some e → covM e x y = false) (h2 : L[k]? = some d) (h3 : covM d x y = true) : atI L x y = (k : Int) := by
  unfold atI; rw [atN_hit h1 h2 h3]
theorem atI_miss {L : List Dm} {x y : Int} (h : ∀ j e, j < L.length → L[j]? = some e → covM e x y = false) : atI L x y = -1 := by
  have : anyM L x y = false := by
    unfold anyM
    rw [List.any_eq_false]
    intro d hd
    obtain ⟨j, hj⟩ := List.getElem?_of_mem hd
    rw [h j d (List.getElem?_eq_some_iff.1 hj).1 hj]; simp
  unfold atI; rw [atN_none.2 this]
theorem atI_neg {L : List Dm} {x y : Int} : decide (atI L x y < 0) = !anyM L x y := by
  unfold atI
  cases h : anyM L x y with
  | false => rw [atN_none.2 h]; rfl
  | true =>
    cases hn : atN L x y with
    | none => rw [atN_none] at hn; rw [hn] at h; cases h
    | some j => simp
theorem atI_le {L : List Dm} {x y : Int} : -1 ≤ atI L x y := by
  unfold atI; split <;> omega
/-- the cells that no domino covers. -/
def unc (L : List Dm) (C : List (Int × Int)) : List (Int × Int) := C.filter fun c => !anyM L c.1 c.2
theorem unc_yes {L : List Dm} {C : List (Int × Int)} {k : Nat} (hk : k < C.length) (h : anyM L C[k].1 C[k].2 = false) : unc L (C.take (k + 1)) = unc L (C.take k) ++ [C[k]] := by
  unfold unc; rw [List.take_succ_eq_append_getElem hk, List.filter_append]; simp [h]
theorem unc_no {L : List Dm} {C : List (Int × Int)} {k : Nat} (hk : k < C.length) (h : anyM L C[k].1 C[k].2 = true) : unc L (C.take (k + 1)) = unc L (C.take k) := by
  unfold unc; rw [List.take_succ_eq_append_getElem hk, List.filter_append]; simp [h]
theorem unc_length (L : List Dm) (C : List (Int × Int)) : (unc L C).length ≤ C.length := List.length_filter_le _ _

theorem tbef_self (x y : Int) (b : Bool) : befB x y b x y b = false := by
  unfold befB
  rw [show befP x y b x y b = false by rw [Bool.eq_false_iff, Ne, befP_iff]; rintro (h | ⟨_, h1, h2⟩); · omega
                                       · rw [h1] at h2; cases h2]
  simp
theorem tbef_ne {x y : Int} {b : Bool} {u v : Int} {c : Bool} (h1 : domB x y b = true) (h2 : domB u v c = true) (hne : ¬ (x = u ∧ y = v ∧ b = c)) : befB u v c x y b = !befB x y b u v c := by
  have o1 := dom_ok h1
  have o2 := dom_ok h2
  obtain ⟨x0, x7, y0, y7⟩ := o1
  obtain ⟨u0, u7, v0, v7⟩ := o2
  unfold befB
  rw [h1, h2]
  simp only [Bool.true_and]
  have hk : befP x y b u v c = false ↔ ¬ (y * 8 + x < v * 8 + u ∨ (y * 8 + x = v * 8 + u ∧ b = false ∧ c = true)) := by rw [← befP_iff]; simp
  rw [Bool.eq_iff_iff, befP_iff, Bool.not_eq_true', hk]
  cases b <;> cases c <;> simp <;> simp at hne <;> omega
/-- one valid domino before another one. -/
def befM (d e : Dm) : Bool := befB d.1 d.2.1 d.2.2 e.1 e.2.1 e.2.2
theorem befM_iff {d e : Dm} : befM d e = true ↔ okM d = true ∧ okM e = true ∧ (d.2.1 * 8 + d.1 < e.2.1 * 8 + e.1 ∨ (d.2.1 * 8 + d.1 = e.2.1 * 8 + e.1 ∧ d.2.2 = false ∧ e.2.2 = true)) := by
  unfold befM befB okM
  rw [Bool.and_eq_true, Bool.and_eq_true, befP_iff, and_assoc]
theorem okM_in {d : Dm} (h : okM d = true) : 0 ≤ d.1 ∧ d.1 ≤ 7 ∧ 0 ≤ d.2.1 ∧ d.2.1 ≤ 7 := by
  have := dom_ok h
  exact this
theorem dm_ext {d e : Dm} (h1 : d.1 = e.1) (h2 : d.2.1 = e.2.1) (h3 : d.2.2 = e.2.2) : d = e := by
  obtain ⟨a, b, c⟩ := d; obtain ⟨a', b', c'⟩ := e; simp only at h1 h2 h3; rw [h1, h2, h3]
theorem befM_irrefl (d : Dm) : befM d d = false := tbef_self _ _ _
theorem befM_trans {a b c : Dm} (h1 : befM a b = true) (h2 : befM b c = true) : befM a c = true := by
  rw [befM_iff] at *
  obtain ⟨p1, p2, p3⟩ := h1
  obtain ⟨q1, q2, q3⟩ := h2
  refine ⟨p1, q2, ?_⟩
  rcases p3 with p | ⟨p, p', p''⟩ <;> rcases q3 with q | ⟨q, q', q''⟩
  · left; omega
  · left; omega
  · left; omega
  · right; exact ⟨by omega, p', q''⟩
theorem befM_total {a b : Dm} (h1 : okM a = true) (h2 : okM b = true) (hne : a ≠ b) : befM b a = !befM a b := by
  refine tbef_ne h1 h2 ?_
  rintro ⟨e1, e2, e3⟩
  exact hne (dm_ext e1 e2 e3)
theorem befM_same {a b : Dm} (h1 : okM a = true) (h2 : okM b = true) (h3 : befM a b = false) (h4 : befM b a = false) : a = b := by
  by_cases e : a = b
  · exact e
  · rw [befM_total h1 h2 e, h3] at h4; cases h4
theorem befM_asymm {a b : Dm} (h : befM a b = true) : befM b a = false := by
  cases h2 : befM b a with
  | false => rfl
  | true =>
    have := befM_trans h h2
    rw [befM_irrefl] at this; cases this

/-- lists in strict order are told by their members. -/
theorem uniq {A : List Dm} : ∀ {B : List Dm}, A.Pairwise (fun a b => befM a b = true) → B.Pairwise (fun a b => befM a b = true) → (∀ d, d ∈ A ↔ d ∈ B) → A = B := by
  induction A with
  | nil =>
    intro B _ _ h
    cases B with
    | nil => rfl
    | cons b B => have := (h b).2 (by simp); simp at this
  | cons a A ih =>
    intro B hA hB h
    cases B with
    | nil => have := (h a).1 (by simp); simp at this
    | cons b B =>
      obtain ⟨a1, a2⟩ := List.pairwise_cons.1 hA
      obtain ⟨b1, b2⟩ := List.pairwise_cons.1 hB
      have hab : a = b := by
        have m1 := (h a).1 (by simp)
        have m2 := (h b).2 (by simp)
        rcases List.mem_cons.1 m1 with e | m1
        · exact e
        · rcases List.mem_cons.1 m2 with e | m2
          · exact e.symm
          · have := befM_asymm (a1 b m2)
            rw [b1 a m1] at this; cases this
      subst hab
      congr 1
      refine ih a2 b2 (fun d => ?_)
      have hd := h d
      simp only [List.mem_cons] at hd
      constructor
      · intro m
        rcases hd.1 (.inr m) with e | m'
        · subst e; have := a1 d m; rw [befM_irrefl] at this; cases this
        · exact m'
      · intro m
        rcases hd.2 (.inr m) with e | m'
        · subst e; have := b1 d m; rw [befM_irrefl] at this; cases this
        · exact m'

/-- a domino is put into its place, if it is not there yet. -/
def cut (M : List Dm) (d : Dm) : Nat := (M.takeWhile fun e => befM e d).length
theorem cut_le (M : List Dm) (d : Dm) : cut M d ≤ M.length := by unfold cut; exact (List.takeWhile_prefix _).length_le
theorem cut_hit {M : List Dm} {d : Dm} : ∀ {k : Nat}, (∀ j e, j < k → M[j]? = some e → befM e d = true) → (∀ e, M[k]? = some e → befM e d = false) → k ≤ M.length → cut M d = k := by
  induction M with
  | nil => intro k _ _ hk; simp at hk; subst hk; rfl
  | cons a M ih =>
    intro k h1 h2 hk
    unfold cut
    cases k with
    | zero => rw [List.takeWhile_cons, if_neg (by rw [h2 a rfl]; simp)]; rfl
    | succ k =>
      rw [List.takeWhile_cons, if_pos (h1 0 a (by omega) rfl)]
      have := ih (k := k) (fun j e hj he => h1 (j + 1) e (by omega) (by simpa using he)) (fun e he => h2 e (by simpa using he)) (by simpa using hk)
      unfold cut at this
      rw [List.length_cons, this]
theorem cut_before {M : List Dm} {d : Dm} : ∀ {j : Nat} {e : Dm}, j < cut M d → M[j]? = some e → befM e d = true := by
  induction M with
  | nil => intro j e hj; simp [cut] at hj
  | cons a M ih =>
    intro j e hj he
    unfold cut at hj
    by_cases h : befM a d = true
    · rw [List.takeWhile_cons, if_pos h, List.length_cons] at hj
      cases j with
      | zero => simp at he; subst he; exact h
      | succ j => exact ih (j := j) (by unfold cut; omega) (by simpa using he)
    · rw [List.takeWhile_cons, if_neg h] at hj; simp at hj
theorem cut_at {M : List Dm} {d e : Dm} : M[cut M d]? = some e → befM e d = false := by
  induction M with
  | nil => intro h; simp at h
  | cons a M ih =>
    intro he
    by_cases h : befM a d = true
    · have e1 : cut (a :: M) d = cut M d + 1 := by unfold cut; rw [List.takeWhile_cons, if_pos h, List.length_cons]
      rw [e1] at he
      exact ih (by simpa using he)
    · have e1 : cut (a :: M) d = 0 := by unfold cut; rw [List.takeWhile_cons, if_neg h]; rfl
      rw [e1] at he
      simp at he; subst he; simpa using h
/-- the list with the domino in its place. -/
def ins (M : List Dm) (d : Dm) : List Dm := if okM d = false ∨ M[cut M d]? = some d then M else M.take (cut M d) ++ d :: M.drop (cut M d)
theorem ins_length (M : List Dm) (d : Dm) : (ins M d).length ≤ M.length + 1 := by
  unfold ins; split
  · omega
  · have := cut_le M d
    simp [List.length_take, List.length_drop]; omega
/-- the valid dominoes, each once, in order. -/
def sortM (L : List Dm) : List Dm := L.foldl ins []
theorem sortM_step {L : List Dm} {k : Nat} (hk : k < L.length) : sortM (L.take (k + 1)) = ins (sortM (L.take k)) L[k] := by
  unfold sortM; rw [List.take_succ_eq_append_getElem hk, List.foldl_append]; rfl
def Inc (M : List Dm) : Prop := M.Pairwise (fun a b => befM a b = true)
theorem ins_good {M : List Dm} {d : Dm} (h : Inc M) (hv : ∀ e ∈ M, okM e = true) : Inc (ins M d) ∧ ∀ e, e ∈ ins M d ↔ e ∈ M ∨ (e = d ∧ okM d = true) := by
  unfold ins
  by_cases h1 : okM d = false
  · rw [if_pos (.inl h1)]
    exact ⟨h, fun e => by simp [h1]⟩
  · have hd : okM d = true := by simpa using h1
    by_cases h2 : M[cut M d]? = some d
    · rw [if_pos (.inr h2)]
      refine ⟨h, fun e => ⟨.inl, ?_⟩⟩
      rintro (h | ⟨rfl, _⟩)
      · exact h
      · exact List.mem_of_getElem? h2
    · rw [if_neg (by rintro (h | h); · exact h1 h
                     · exact h2 h)]
      have hsplit : M.take (cut M d) ++ M.drop (cut M d) = M := List.take_append_drop _ _
      have hpre : ∀ e ∈ M.take (cut M d), befM e d = true := by
        intro e he
        obtain ⟨j, hj⟩ := List.getElem?_of_mem he
        rw [List.getElem?_take] at hj
        by_cases hlt : j < cut M d
        · rw [if_pos hlt] at hj; exact cut_before hlt hj
        · rw [if_neg hlt] at hj; cases hj
      have hInc := h
      unfold Inc at h
      rw [← hsplit, List.pairwise_append] at h
      obtain ⟨p1, p2, p3⟩ := h
      have hpost : ∀ e ∈ M.drop (cut M d), befM d e = true := by
        have hk := fun e => cut_at (M := M) (d := d) (e := e)
        cases hD : M.drop (cut M d) with
        | nil => intro e he; simp at he
        | cons a D =>
          have ha : M[cut M d]? = some a := by
            have := List.getElem?_drop (xs := M) (i := cut M d) (j := 0)
            rw [hD] at this; simpa using this.symm
          have hka := hk a ha
          have hne : a ≠ d := by rintro rfl; exact h2 ha
          have hda : befM d a = true := by
            rw [befM_total (hv a (List.mem_of_getElem? ha)) hd hne, hka]; rfl
          rw [hD] at p2
          intro e he
          rcases List.mem_cons.1 he with rfl | he
          · exact hda
          · exact befM_trans hda ((List.pairwise_cons.1 p2).1 e he)
      refine ⟨?_, fun e => ?_⟩
      · unfold Inc
        rw [List.pairwise_append]
        refine ⟨p1, List.pairwise_cons.2 ⟨hpost, p2⟩, fun a ha b hb => ?_⟩
        rcases List.mem_cons.1 hb with rfl | hb
        · exact hpre a ha
        · exact p3 a ha b hb
      · have : e ∈ M ↔ e ∈ M.take (cut M d) ∨ e ∈ M.drop (cut M d) := by rw [← List.mem_append, hsplit]
        rw [this, List.mem_append, List.mem_cons]
        simp only [hd, and_true]
        constructor
        · rintro (h | h | h)
          · exact .inl (.inl h)
          · exact .inr h
          · exact .inl (.inr h)
        · rintro ((h | h) | h)
          · exact .inl h
          · exact .inr (.inr h)
          · exact .inr (.inl h)
theorem foldl_good (L : List Dm) : ∀ M : List Dm, Inc M → (∀ e ∈ M, okM e = true) → Inc (L.foldl ins M) ∧ ∀ e, e ∈ L.foldl ins M ↔ e ∈ M ∨ (e ∈ L ∧ okM e = true) := by
  induction L with
  | nil => intro M h hv; exact ⟨h, fun e => by simp⟩
  | cons d L ih =>
    intro M h hv
    obtain ⟨g1, g2⟩ := ins_good (d := d) h hv
    obtain ⟨f1, f2⟩ := ih (ins M d) g1 (fun e he => by
      rcases (g2 e).1 he with he | ⟨rfl, hd⟩
      · exact hv e he
      · exact hd)
    refine ⟨f1, fun e => ?_⟩
    rw [List.foldl_cons, f2, g2, List.mem_cons]
    constructor
    · rintro ((h | ⟨rfl, h⟩) | ⟨h, h'⟩)
      · exact .inl h
      · exact .inr ⟨.inl rfl, h⟩
      · exact .inr ⟨.inr h, h'⟩
    · rintro (h | ⟨rfl | h, h'⟩)
      · exact .inl (.inl h)
      · exact .inl (.inr ⟨rfl, h'⟩)
      · exact .inr ⟨h, h'⟩
theorem sortM_good (L : List Dm) : Inc (sortM L) ∧ ∀ e, e ∈ sortM L ↔ e ∈ L ∧ okM e = true := by
  obtain ⟨a, b⟩ := foldl_good L [] List.Pairwise.nil (by simp)
  exact ⟨a, fun e => by rw [show sortM L = L.foldl ins [] from rfl, b]; simp⟩
theorem sortM_of {L M : List Dm} (h : Inc M) (hm : ∀ e, e ∈ M ↔ e ∈ L ∧ okM e = true) : sortM L = M :=
  uniq (sortM_good L).1 h fun d => by rw [(sortM_good L).2, hm]
theorem sortM_length (L : List Dm) : (sortM L).length ≤ L.length := by
  suffices h : ∀ (L M : List Dm), (L.foldl ins M).length ≤ M.length + L.length by
    have := h L []; unfold sortM; simpa using this
  intro L
  induction L with
  | nil => intro M; simp
  | cons d L ih => intro M; rw [List.foldl_cons, List.length_cons]; have := ih (ins M d); have := ins_length M d; omega

/-- a domino may come behind these. -/
def stepB (xs : List Int) (M : List Dm) (d : Dm) : Bool :=
  (match M.getLast? with | none => true | some p => befM p d) && ((hasB xs d.1 d.2.1 && !anyM M d.1 d.2.1) && (hasB xs (sx d.1 d.2.2) (sy d.2.1 d.2.2) && !anyM M (sx d.1 d.2.2) (sy d.2.1 d.2.2)))
def stpAt (xs : List Int) (L : List Dm) (k : Nat) : Bool := stepB xs (L.take k) (L.getD k (0, 0, false))
def partB (xs : List Int) (L : List Dm) : Bool := okRB xs && (List.range L.length).all (stpAt xs L)
theorem stpAt_of {xs : List Int} {L : List Dm} {k : Nat} (hk : k < L.length) : stpAt xs L k = stepB xs (L.take k) L[k] := by
  unfold stpAt; simp [List.getD, List.getElem?_eq_getElem hk]
theorem part_yes {xs : List Int} {L : List Dm} (h : okRB xs = true) (hs : ∀ k, k < L.length → stpAt xs L k = true) : partB xs L = true := by
  unfold partB; rw [h, Bool.true_and, List.all_eq_true]; intro k hk; exact hs k (List.mem_range.1 hk)
theorem part_no {xs : List Int} {L : List Dm} {k : Nat} (hk : k < L.length) (hs : stpAt xs L k = false) : partB xs L = false := by
  unfold partB
  rw [Bool.and_eq_false_iff]
  right
  rw [List.all_eq_false]
  exact ⟨k, List.mem_range.2 hk, by rw [hs]; simp⟩
theorem part_not {xs : List Int} {L : List Dm} (h : okRB xs = false) : partB xs L = false := by unfold partB; rw [h]; rfl
theorem part_iff {xs : List Int} {L : List Dm} : partB xs L = true ↔ okRB xs = true ∧ ∀ k, k < L.length → stpAt xs L k = true := by
  unfold partB; rw [Bool.and_eq_true, List.all_eq_true]
  exact ⟨fun h => ⟨h.1, fun k hk => h.2 k (List.mem_range.2 hk)⟩, fun h => ⟨h.1, fun k hk => h.2 k (List.mem_range.1 hk)⟩⟩
theorem hasB_ok {xs : List Int} {x y : Int} (h : hasB xs x y = true) : okB x y = true := by
  rw [hasB_iff] at h; rw [okB_iff]; exact ⟨h.2.1, h.2.2.1, h.2.2.2.1, h.2.2.2.2.1⟩
theorem stepB_ok {xs : List Int} {M : List Dm} {d : Dm} (h : stepB xs M d = true) : okM d = true := by
  unfold stepB at h
  simp only [Bool.and_eq_true] at h
  obtain ⟨_, ⟨h1, _⟩, h2, _⟩ := h
  unfold okM domB
  rw [hasB_ok h1, hasB_ok h2]; rfl
/-- the cells of a region, and which they are. -/
theorem mem_cells {xs : List Int} {x y : Int} : (x, y) ∈ cellsR xs ↔ hasB xs x y = true := by
  rw [hasB_iff]
  by_cases ho : okR xs
  · rw [cellsR_ok ho]
    unfold cellsTo
    simp only [List.mem_map, List.mem_filter, List.mem_range, Prod.mk.injEq]
    constructor
    · rintro ⟨j, ⟨hj, hb⟩, rfl, rfl⟩
      refine ⟨ho, by omega, by omega, by omega, by omega, ?_⟩
      rw [show ((j / 8 : Nat) : Int).toNat = j / 8 from Int.toNat_natCast _, show ((j % 8 : Nat) : Int).toNat = j % 8 from Int.toNat_natCast _]
      exact hb
    · rintro ⟨_, x0, x7, y0, y7, hb⟩
      refine ⟨y.toNat * 8 + x.toNat, ⟨by omega, ?_⟩, by omega, by omega⟩
      rw [show (y.toNat * 8 + x.toNat) / 8 = y.toNat by omega, show (y.toNat * 8 + x.toNat) % 8 = x.toNat by omega]
      exact hb
  · rw [cellsR_not ho]
    simp [ho]
theorem cellsTo_inc (xs : List Int) (k : Nat) : (cellsTo xs k).Pairwise (fun c d => c.2 * 8 + c.1 < d.2 * 8 + d.1) ∧ ∀ c ∈ cellsTo xs k, c.2 * 8 + c.1 < (k : Int) := by
  induction k with
  | zero => simp [cellsTo]
  | succ k ih =>
    cases h : bitB (rowD xs (k / 8)) (k % 8) with
    | false =>
      rw [cellsTo_no h]
      exact ⟨ih.1, fun c hc => by have := ih.2 c hc; omega⟩
    | true =>
      rw [cellsTo_yes h]
      have e : ((k / 8 : Nat) : Int) * 8 + ((k % 8 : Nat) : Int) = (k : Int) := by omega
      refine ⟨?_, ?_⟩
      · rw [List.pairwise_append]
        refine ⟨ih.1, by simp, fun a ha b hb => ?_⟩
        simp only [List.mem_singleton] at hb
        subst hb
        have := ih.2 a ha
        simp only
        omega
      · intro c hc
        rcases List.mem_append.1 hc with hc | hc
        · have := ih.2 c hc; omega
        · simp only [List.mem_singleton] at hc
          subst hc
          simp only
          omega
theorem cells_inc (xs : List Int) : (cellsR xs).Pairwise (fun c d => c.2 * 8 + c.1 < d.2 * 8 + d.1) := by
  unfold cellsR; split
  · exact (cellsTo_inc xs 64).1
  · exact List.Pairwise.nil
theorem cells_nodup (xs : List Int) : (cellsR xs).Nodup := (cells_inc xs).imp fun {a b} h e => by subst e; omega
/-- two members fewer. -/
theorem two_fewer {U : List (Int × Int)} (hn : U.Nodup) {a b : Int × Int} (ha : a ∈ U) (hb : b ∈ U) (hab : a ≠ b) : (U.filter fun c => !(c == a || c == b)).length + 2 = U.length := by
  have e : (U.filter fun c => !(c == a || c == b)) = (U.erase a).erase b := by
    rw [List.Nodup.erase_eq_filter hn, List.Nodup.erase_eq_filter (List.Pairwise.filter _ hn), List.filter_filter]
    congr 1
    funext c
    cases h1 : c == a <;> cases h2 : c == b <;> simp [bne, h1, h2]
  have hb' : b ∈ U.erase a := (List.mem_erase_of_ne hab.symm).2 hb
  have h1 := List.length_erase_of_mem ha
  have h2 := List.length_erase_of_mem hb'
  have h3 : 0 < U.length := List.length_pos_of_mem ha
  have h4 : 0 < (U.erase a).length := List.length_pos_of_mem hb'
  rw [e, h2, h1]
  omega
theorem other_cell {d : Dm} (h : okM d = true) : ((d.1, d.2.1) : Int × Int) ≠ (sx d.1 d.2.2, sy d.2.1 d.2.2) := by
  obtain ⟨x0, x7, y0, y7⟩ := okM_in h
  obtain ⟨x, y, b⟩ := d
  simp only at x0 x7 y0 y7
  intro e
  simp only [Prod.mk.injEq] at e
  obtain ⟨e1, e2⟩ := e
  cases b <;> simp only [sx, sy, Bool.false_eq_true, if_false, if_true] at e1 e2 <;> unfold wrap64 at * <;> omega
theorem anyM_snoc (M : List Dm) (d : Dm) (x y : Int) : anyM (M ++ [d]) x y = (anyM M x y || covM d x y) := by unfold anyM; simp
/-- one more domino covers two more cells. -/
theorem unc_step {xs : List Int} {M : List Dm} {d : Dm} (h : stepB xs M d = true) : (unc (M ++ [d]) (cellsR xs)).length + 2 = (unc M (cellsR xs)).length := by
  have hd := stepB_ok h
  unfold stepB at h
  simp only [Bool.and_eq_true] at h
  obtain ⟨_, ⟨h1, h2⟩, h3, h4⟩ := h
  have m1 : (d.1, d.2.1) ∈ unc M (cellsR xs) := List.mem_filter.2 ⟨mem_cells.2 h1, h2⟩
  have m2 : (sx d.1 d.2.2, sy d.2.1 d.2.2) ∈ unc M (cellsR xs) := List.mem_filter.2 ⟨mem_cells.2 h3, h4⟩
  have k := two_fewer (U := unc M (cellsR xs)) (List.Pairwise.filter _ (cells_nodup xs)) m1 m2 (other_cell hd)
  rw [← k]
  congr 2
  unfold unc
  rw [List.filter_filter]
  congr 1
  funext c
  rw [anyM_snoc]
  have e : covM d c.1 c.2 = (c == (d.1, d.2.1) || c == (sx d.1 d.2.2, sy d.2.1 d.2.2)) := by
    unfold covM covP
    rw [hd, Bool.true_and, Bool.eq_iff_iff]
    simp only [Bool.or_eq_true, eqB_iff, beq_iff_eq]
    obtain ⟨c1, c2⟩ := c
    simp only [Prod.mk.injEq]
  rw [e, Bool.not_or, Bool.and_comm]
theorem unc_part {xs : List Int} {L : List Dm} (h : partB xs L = true) : (unc L (cellsR xs)).length + 2 * L.length = (cellsR xs).length := by
  obtain ⟨_, h⟩ := part_iff.1 h
  have key : ∀ k, k ≤ L.length → (unc (L.take k) (cellsR xs)).length + 2 * k = (cellsR xs).length := by
    intro k
    induction k with
    | zero => intro _; simp [unc, anyM]
    | succ k ih =>
      intro hk
      have hs := h k (by omega)
      rw [stpAt_of (by omega)] at hs
      have := unc_step hs
      rw [← List.take_succ_eq_append_getElem (by omega)] at this
      have := ih (by omega)
      omega
  have := key L.length (Nat.le_refl _)
  rwa [List.take_length] at this
theorem part_length {xs : List Int} {L : List Dm} (h : partB xs L = true) : 2 * L.length ≤ 64 := by
  have := unc_part h
  have := cellsR_length xs
  omega
/-- a tiling. -/
def tilB (xs : List Int) (L : List Dm) : Bool := partB xs L && decide ((unc L (cellsR xs)).length = 0)
theorem tilB_count {xs : List Int} {L : List Dm} (h : partB xs L = true) : tilB xs L = decide (2 * L.length = (cellsR xs).length) := by
  have := unc_part h
  unfold tilB
  rw [h, Bool.true_and]
  congr 1
  rw [eq_iff_iff]
  omega
end Go.Proofs.YtmaghekcpopepaaDoor.Til

/- Dominoes laid one after the other: pure: they are partial, in order, and each begins at a cell that was looked at. -/
namespace Go.Proofs.YtmaghekcpopepaaDoor.Grd
set_option linter.unusedVariables false
open Go.RowKit Go.Proofs.YtmaghekcpopepaaDoor.Pure Go.Proofs.YtmaghekcpopepaaDoor.Cell Go.Proofs.YtmaghekcpopepaaDoor.Dom Go.Proofs.YtmaghekcpopepaaDoor.Dms Go.Proofs.YtmaghekcpopepaaDoor.Til

/-- the dominoes laid while the first k cells were looked at. -/
def GP (xs : List Int) (k : Nat) (M : List Dm) : Prop :=
  (∀ j, j < M.length → stpAt xs M j = true) ∧ ∀ d ∈ M, (d.1, d.2.1) ∈ (cellsR xs).take k
theorem GP.zero (xs : List Int) : GP xs 0 [] := ⟨fun j hj => by simp at hj, fun d hd => by simp at hd⟩
theorem GP.skip {xs : List Int} {k : Nat} {M : List Dm} (h : GP xs k M) : GP xs (k + 1) M :=
  ⟨h.1, fun d hd => (List.take_subset_take_left (cellsR xs) (by omega)) (h.2 d hd)⟩
theorem stp_app {xs : List Int} {M N : List Dm} {j : Nat} (hj : j < M.length) : stpAt xs (M ++ N) j = stpAt xs M j := by
  rw [stpAt_of (by rw [List.length_append]; omega), stpAt_of hj, List.take_append_of_le_length (by omega), List.getElem_append_left hj]
theorem stp_last {xs : List Int} {M : List Dm} {d : Dm} : stpAt xs (M ++ [d]) M.length = stepB xs M d := by
  rw [stpAt_of (by simp), List.take_left]
  congr 1
  simp
theorem GP.step {xs : List Int} {k : Nat} {M : List Dm} (h : GP xs k M) (hk : k < (cellsR xs).length) {b : Bool}
    (hd : okM ((cellsR xs)[k].1, (cellsR xs)[k].2, b) = true) (h1 : anyM M (cellsR xs)[k].1 (cellsR xs)[k].2 = false)
    (h2 : hasB xs (sx (cellsR xs)[k].1 b) (sy (cellsR xs)[k].2 b) = true) (h3 : anyM M (sx (cellsR xs)[k].1 b) (sy (cellsR xs)[k].2 b) = false) :
    GP xs (k + 1) (M ++ [((cellsR xs)[k].1, (cellsR xs)[k].2, b)]) := by
  have hc : hasB xs (cellsR xs)[k].1 (cellsR xs)[k].2 = true := mem_cells.1 (List.getElem_mem hk)
  have hstep : stepB xs M ((cellsR xs)[k].1, (cellsR xs)[k].2, b) = true := by
    unfold stepB
    simp only
    rw [hc, h1, h2, h3]
    cases hl : M.getLast? with
    | none => rfl
    | some p =>
      have hp : p ∈ M := List.mem_of_getLast? hl
      have hpo : okM p = true := by
        obtain ⟨j, hj, e⟩ := List.getElem_of_mem hp
        have := h.1 j hj
        rw [stpAt_of hj, e] at this
        exact stepB_ok this
      have hpk := h.2 p hp
      rw [List.mem_take_iff_getElem] at hpk
      obtain ⟨i, hi, e⟩ := hpk
      have hinc := cells_inc xs
      rw [List.pairwise_iff_getElem] at hinc
      have := hinc i k (by omega) hk (by omega)
      rw [e] at this
      have hb : befM p ((cellsR xs)[k].1, (cellsR xs)[k].2, b) = true := by
        rw [befM_iff]
        exact ⟨hpo, hd, .inl (by simpa using this)⟩
      simp [hb]
  refine ⟨fun j hj => ?_, fun d hdm => ?_⟩
  · rw [List.length_append, List.length_singleton] at hj
    by_cases e : j < M.length
    · rw [stp_app e]; exact h.1 j e
    · have : j = M.length := by omega
      subst this
      rw [stp_last]; exact hstep
  · rcases List.mem_append.1 hdm with hdm | hdm
    · exact (List.take_subset_take_left (cellsR xs) (by omega)) (h.2 d hdm)
    · rw [List.mem_singleton] at hdm
      subst hdm
      rw [List.take_succ_eq_append_getElem hk]
      exact List.mem_append_right _ (by simp)
theorem GP.part {xs : List Int} {k : Nat} {M : List Dm} (h : GP xs k M) (ho : okR xs) : partB xs M = true := part_yes (okRB_of ho) h.1
theorem GP.fits {xs : List Int} {k : Nat} {M : List Dm} (h : GP xs k M) : ∀ d ∈ M, okM d = true := by
  intro d hd
  obtain ⟨j, hj, e⟩ := List.getElem_of_mem hd
  have := h.1 j hj
  rw [stpAt_of hj, e] at this
  exact stepB_ok this
theorem fits_ok {M : List Dm} (h : ∀ d ∈ M, okM d = true) : Fits M := fun d hd => by
  have := okM_in (h d hd)
  exact ⟨⟨by omega, by omega⟩, ⟨by omega, by omega⟩⟩
theorem GP.length {xs : List Int} {k : Nat} {M : List Dm} (h : GP xs k M) (ho : okR xs) : M.length ≤ 32 := by
  have := part_length (h.part ho); omega

/-! What a partial list is. -/
theorem part_inc {xs : List Int} {L : List Dm} (h : partB xs L = true) : Inc L := by
  obtain ⟨_, h⟩ := part_iff.1 h
  have key : ∀ k, k ≤ L.length → Inc (L.take k) := by
    intro k
    induction k with
    | zero => intro _; simp [Inc]
    | succ k ih =>
      intro hk
      have hs := h k (by omega)
      rw [stpAt_of (by omega)] at hs
      rw [List.take_succ_eq_append_getElem (by omega)]
      have hI := ih (by omega)
      unfold Inc
      rw [List.pairwise_append]
      refine ⟨hI, by simp, fun a ha b hb => ?_⟩
      rw [List.mem_singleton] at hb
      subst hb
      unfold stepB at hs
      simp only [Bool.and_eq_true] at hs
      obtain ⟨hp, _⟩ := hs
      cases hl : (L.take k).getLast? with
      | none => rw [List.getLast?_eq_none_iff] at hl; rw [hl] at ha; simp at ha
      | some p =>
        rw [hl] at hp
        simp only at hp
        obtain ⟨i, hi, e⟩ := List.getElem_of_mem ha
        have hlast : (L.take k)[(L.take k).length - 1]? = some p := by rw [← List.getLast?_eq_getElem?]; exact hl
        have hl1 : (L.take k).length - 1 < (L.take k).length := by omega
        rw [List.getElem?_eq_getElem hl1] at hlast
        injection hlast with hlast
        by_cases hie : i = (L.take k).length - 1
        · subst hie; rw [← e, hlast]; exact hp
        · unfold Inc at hI
          rw [List.pairwise_iff_getElem] at hI
          have := hI i ((L.take k).length - 1) hi hl1 (by omega)
          rw [e, hlast] at this
          exact befM_trans this hp
  have := key L.length (Nat.le_refl _)
  rwa [List.take_length] at this
theorem part_valid {xs : List Int} {L : List Dm} (h : partB xs L = true) : ∀ d ∈ L, okM d = true := by
  obtain ⟨_, h⟩ := part_iff.1 h
  intro d hd
  obtain ⟨j, hj, e⟩ := List.getElem_of_mem hd
  have := h j hj
  rw [stpAt_of hj, e] at this
  exact stepB_ok this
theorem part_sort {xs : List Int} {L : List Dm} (h : partB xs L = true) : sortM L = L :=
  sortM_of (part_inc h) fun e => ⟨fun he => ⟨he, part_valid h e he⟩, fun he => he.1⟩
theorem sort_rev (L M : List Dm) (hm : ∀ d, d ∈ M ↔ d ∈ L) : sortM M = sortM L :=
  sortM_of (sortM_good L).1 fun e => by rw [(sortM_good L).2, hm]
theorem part_at {xs : List Int} {L : List Dm} (h : partB xs L = true) {k : Nat} (hk : k < L.length) : atI L L[k].1 L[k].2.1 = (k : Int) ∧ atI L (sx L[k].1 L[k].2.2) (sy L[k].2.1 L[k].2.2) = (k : Int) := by
  have hv := part_valid h L[k] (List.getElem_mem hk)
  obtain ⟨_, h⟩ := part_iff.1 h
  have hs := h k hk
  rw [stpAt_of hk] at hs
  unfold stepB at hs
  simp only [Bool.and_eq_true, Bool.not_eq_true'] at hs
  obtain ⟨_, ⟨_, h1⟩, _, h2⟩ := hs
  have no : ∀ {x y : Int}, anyM (L.take k) x y = false → ∀ j e, j < k → L[j]? = some e → covM e x y = false := by
    intro x y hn j e hj he
    unfold anyM at hn
    rw [List.any_eq_false] at hn
    have := hn e (List.mem_of_getElem? (i := j) (by rw [List.getElem?_take, if_pos hj]; exact he))
    simpa using this
  refine ⟨atI_hit (no h1) (List.getElem?_eq_getElem hk) ?_, atI_hit (no h2) (List.getElem?_eq_getElem hk) ?_⟩
  · unfold covM covP; rw [hv]; simp [eqB_iff]
  · unfold covM covP; rw [hv]; simp [eqB_iff]
theorem tilB_part {xs : List Int} {L : List Dm} (h : partB xs L = true) : tilB xs L = decide ((unc L (cellsR xs)).length = 0) := by unfold tilB; rw [h]; rfl
end Go.Proofs.YtmaghekcpopepaaDoor.Grd

/- The coverings of a set of cells as a list, in order, pure: as many as counted, each a tiling, one before the other: no program here. -/
namespace Go.Proofs.YtmaghekcpopepaaDoor.Lis
set_option linter.unusedVariables false
set_option linter.unusedSimpArgs false
open Go.RowKit Go.Proofs.YtmaghekcpopepaaDoor.Base Go.Proofs.YtmaghekcpopepaaDoor.Pure Go.Proofs.YtmaghekcpopepaaDoor.Cell Go.Proofs.YtmaghekcpopepaaDoor.Dom Go.Proofs.YtmaghekcpopepaaDoor.Dms Go.Proofs.YtmaghekcpopepaaDoor.Til Go.Proofs.YtmaghekcpopepaaDoor.Grd Go.Proofs.YtmaghekcpopepaaDoor.Cnt

/-- the domino at a place. -/
def dmN (k : Nat) (b : Bool) : Dm := (((k % 8 : Nat) : Int), ((k / 8 : Nat) : Int), b)
/-- the coverings of the cells k to k + n - 1 of a set: the domino to the right first. -/
def Ls : Nat → Nat → (Nat → Bool) → List (List Dm)
  | 0, _, _ => [[]]
  | n + 1, k, g => if g k = true then (if k % 8 ≠ 7 ∧ g (k + 1) = true then (Ls n (k + 1) (rem g k (k + 1))).map (dmN k false :: ·) else []) ++ (if g (k + 8) = true then (Ls n (k + 1) (rem g k (k + 8))).map (dmN k true :: ·) else []) else Ls n (k + 1) g
theorem Ls_no {n k : Nat} {g : Nat → Bool} (h : g k = false) : Ls (n + 1) k g = Ls n (k + 1) g := by
  show (if g k = true then _ else _) = _
  rw [if_neg (by rw [h]; simp)]
theorem Ls_yes {n k : Nat} {g : Nat → Bool} (h : g k = true) : Ls (n + 1) k g = (if k % 8 ≠ 7 ∧ g (k + 1) = true then (Ls n (k + 1) (rem g k (k + 1))).map (dmN k false :: ·) else []) ++ (if g (k + 8) = true then (Ls n (k + 1) (rem g k (k + 8))).map (dmN k true :: ·) else []) := by
  show (if g k = true then _ else _) = _
  rw [if_pos h]
/-- no cell below k, none from 64 on. -/
def Frm (k : Nat) (g : Nat → Bool) : Prop := (∀ i, i < k → g i = false) ∧ ∀ i, 64 ≤ i → g i = false
theorem Frm.step {k : Nat} {g : Nat → Bool} (h : Frm k g) (e : Nat) : Frm (k + 1) (rem g k e) := by
  refine ⟨fun i hi => ?_, fun i hi => ?_⟩ <;> rw [Bool.eq_false_iff, Ne, rem_iff] <;> rintro ⟨h1, h2, h3⟩
  · rw [h.1 i (by omega)] at h1; cases h1
  · rw [h.2 i hi] at h1; cases h1
theorem Frm.skip {k : Nat} {g : Nat → Bool} (h : Frm k g) (hk : g k = false) : Frm (k + 1) g :=
  ⟨fun i hi => by by_cases e : i = k
                  · rw [e]; exact hk
                  · exact h.1 i (by omega), h.2⟩
/-- the coverings of the first cell. -/
theorem T_step {n k : Nat} {g : Nat → Bool} (hf : Frm k g) (hk : k < 64) (h : g k = true) : T (n + 1) k g = (if k % 8 ≠ 7 ∧ g (k + 1) = true then T n (k + 1) (rem g k (k + 1)) else 0) + (if g (k + 8) = true then T n (k + 1) (rem g k (k + 8)) else 0) := by
  rw [T_yes h]
  have e : ∀ b, b < 64 → (if adj k b = true ∧ g b = true then T n (k + 1) (rem g k b) else 0) = (if adj k b = true then (if g b = true then T n (k + 1) (rem g k b) else 0) else 0) := by
    intro b _
    by_cases p : adj k b = true <;> by_cases q : g b = true <;> simp [p, q]
  rw [sm_congr e, sm_four hk (fun b => if g b = true then T n (k + 1) (rem g k b) else 0)]
  have e3 : (if k % 8 ≠ 0 then (if g (k - 1) = true then T n (k + 1) (rem g k (k - 1)) else 0) else 0) = 0 := by
    by_cases q : k % 8 ≠ 0
    · rw [if_pos q, if_neg]; rw [hf.1 (k - 1) (by omega)]; simp
    · rw [if_neg q]
  have e4 : (if 8 ≤ k then (if g (k - 8) = true then T n (k + 1) (rem g k (k - 8)) else 0) else 0) = 0 := by
    by_cases q : 8 ≤ k
    · rw [if_pos q, if_neg]; rw [hf.1 (k - 8) (by omega)]; simp
    · rw [if_neg q]
  rw [e3, e4]
  have e1 : (if k % 8 ≠ 7 then (if g (k + 1) = true then T n (k + 1) (rem g k (k + 1)) else 0) else 0) = (if k % 8 ≠ 7 ∧ g (k + 1) = true then T n (k + 1) (rem g k (k + 1)) else 0) := by
    by_cases p : k % 8 ≠ 7 <;> by_cases q : g (k + 1) = true <;> simp [p, q]
  have e2 : (if k + 8 < 64 then (if g (k + 8) = true then T n (k + 1) (rem g k (k + 8)) else 0) else 0) = (if g (k + 8) = true then T n (k + 1) (rem g k (k + 8)) else 0) := by
    by_cases p : k + 8 < 64
    · rw [if_pos p]
    · rw [if_neg p, if_neg]; rw [hf.2 (k + 8) (by omega)]; simp
  rw [e1, e2]
  omega
/-- as many as counted. -/
theorem Ls_length : ∀ (n k : Nat) (g : Nat → Bool), k + n = 64 → Frm k g → (Ls n k g).length = T n k g
  | 0, _, _, _, _ => rfl
  | n + 1, k, g, hk, hf => by
    by_cases q : g k = true
    · rw [Ls_yes q, T_step hf (by omega) q, List.length_append]
      have r1 := Ls_length n (k + 1) (rem g k (k + 1)) (by omega) (hf.step _)
      have r2 := Ls_length n (k + 1) (rem g k (k + 8)) (by omega) (hf.step _)
      congr 1
      · split
        · rw [List.length_map]; exact r1
        · rfl
      · split
        · rw [List.length_map]; exact r2
        · rfl
    · have q : g k = false := by simpa using q
      rw [Ls_no q, T_no q]
      exact Ls_length n (k + 1) g (by omega) (hf.skip q)
/-- no more than two dominoes at each second cell. -/
theorem T_bound : ∀ (n k : Nat) (g : Nat → Bool), k + n = 64 → Frm k g → T n k g ≤ 2 ^ (cnt n k g / 2)
  | 0, _, _, _, _ => by show 1 ≤ 2 ^ (0 / 2); decide
  | n + 1, k, g, hk, hf => by
    have hc : cnt (n + 1) k g = (if g k = true then 1 else 0) + cnt n (k + 1) g := rfl
    by_cases q : g k = true
    · rw [T_step hf (by omega) q]
      rw [if_pos q] at hc
      have key : ∀ e, k < e → e < 64 → g e = true → T n (k + 1) (rem g k e) ≤ 2 ^ (cnt (n + 1) k g / 2 - 1) ∧ 1 ≤ cnt (n + 1) k g / 2 := by
        intro e h1 h2 h3
        have h := cnt_rem (n := n) (k := k + 1) (a := k) (b := e) (g := g) (by omega) (by omega) (by omega) h3
        have := T_bound n (k + 1) (rem g k e) (by omega) (hf.step e)
        rw [show cnt n (k + 1) (rem g k e) / 2 = cnt (n + 1) k g / 2 - 1 by omega] at this
        exact ⟨this, by omega⟩
      have lt : ∀ e, g e = true → e < 64 := by
        intro e he
        by_cases r : e < 64
        · exact r
        · rw [hf.2 e (by omega)] at he; cases he
      by_cases a : k % 8 ≠ 7 ∧ g (k + 1) = true
      · have ka := key (k + 1) (by omega) (lt _ a.2) a.2
        have hp : 2 ^ (cnt (n + 1) k g / 2) = 2 ^ (cnt (n + 1) k g / 2 - 1) + 2 ^ (cnt (n + 1) k g / 2 - 1) := by
          conv => lhs; rw [show cnt (n + 1) k g / 2 = (cnt (n + 1) k g / 2 - 1) + 1 by omega, Nat.pow_succ]
          omega
        rw [if_pos a]
        by_cases b : g (k + 8) = true
        · have kb := key (k + 8) (by omega) (lt _ b) b
          rw [if_pos b]; omega
        · rw [if_neg b]; omega
      · rw [if_neg a]
        by_cases b : g (k + 8) = true
        · have kb := key (k + 8) (by omega) (lt _ b) b
          have hp : 2 ^ (cnt (n + 1) k g / 2) = 2 ^ (cnt (n + 1) k g / 2 - 1) + 2 ^ (cnt (n + 1) k g / 2 - 1) := by
            conv => lhs; rw [show cnt (n + 1) k g / 2 = (cnt (n + 1) k g / 2 - 1) + 1 by omega, Nat.pow_succ]
            omega
          rw [if_pos b]; omega
        · rw [if_neg b]; exact Nat.zero_le _
    · have q : g k = false := by simpa using q
      rw [T_no q]
      have := T_bound n (k + 1) g (by omega) (hf.skip q)
      rw [if_neg (by rw [q]; simp)] at hc
      rw [hc, Nat.zero_add]; exact this
theorem cnt_le : ∀ (n k : Nat) (g : Nat → Bool), cnt n k g ≤ n
  | 0, _, _ => Nat.le_refl _
  | n + 1, k, g => by
    show (if g k = true then 1 else 0) + cnt n (k + 1) g ≤ n + 1
    have := cnt_le n (k + 1) g
    split <;> omega
theorem frm_zero (xs : List Int) : Frm 0 (gR xs) := ⟨fun i hi => by omega, gR_out xs⟩
theorem tiles_small {g : Nat → Bool} (h : ∀ i, 64 ≤ i → g i = false) : tiles g ≤ 4294967296 := by
  have h1 := T_bound 64 0 g rfl ⟨fun i hi => by omega, h⟩
  have h2 := cnt_le 64 0 g
  have h3 : 2 ^ (cnt 64 0 g / 2) ≤ 2 ^ 32 := Nat.pow_le_pow_right (by omega) (by omega)
  exact Nat.le_trans h1 (Nat.le_trans h3 (by decide))
/-- the count is what it is. -/
theorem tilesR_is {xs : List Int} (h : okR xs) : tilesR xs = (tiles (gR xs) : Int) := by
  rw [tilesR_ok h]
  have := tiles_small (gR_out xs)
  unfold wrap64
  omega
theorem tilesR_nonneg (xs : List Int) : 0 ≤ tilesR xs := by
  by_cases h : okR xs
  · rw [tilesR_is h]; omega
  · rw [tilesR_not h]; omega

/-- all coverings. -/
def LsG (g : Nat → Bool) : List (List Dm) := Ls 64 0 g
theorem Ls_skip : ∀ (m n k : Nat) (g : Nat → Bool), (∀ i, k ≤ i → i < k + m → g i = false) → Ls (n + m) k g = Ls n (k + m) g
  | 0, _, _, _, _ => rfl
  | m + 1, n, k, g, h => by
    rw [show n + (m + 1) = (n + m) + 1 by omega, Ls_no (h k (by omega) (by omega)), Ls_skip m n (k + 1) g (fun i h1 h2 => h i (by omega) (by omega)), show k + 1 + m = k + (m + 1) by omega]
theorem LsG_from {g : Nat → Bool} {k : Nat} (h : ∀ i, i < k → g i = false) (hk : k ≤ 64) : LsG g = Ls (64 - k) k g := by
  unfold LsG
  have := Ls_skip k (64 - k) 0 g (fun i _ hi => h i (by omega))
  rw [show 64 - k + k = 64 by omega, Nat.zero_add] at this
  exact this
theorem LsG_none {g : Nat → Bool} (h : ∀ i, i < 64 → g i = false) : LsG g = [[]] := by
  rw [LsG_from h (Nat.le_refl _)]; rfl
/-- by the first cell. -/
theorem LsG_first {g : Nat → Bool} {c : Nat} (h : ∀ i, i < c → g i = false) (hc : c < 64) (hg : g c = true) :
    LsG g = (if c % 8 ≠ 7 ∧ g (c + 1) = true then (LsG (rem g c (c + 1))).map (dmN c false :: ·) else []) ++ (if g (c + 8) = true then (LsG (rem g c (c + 8))).map (dmN c true :: ·) else []) := by
  have hr : ∀ e i, i < c + 1 → rem g c e i = false := by
    intro e i hi
    rw [Bool.eq_false_iff, Ne, rem_iff]
    rintro ⟨h1, h2, h3⟩
    rw [h i (by omega)] at h1; cases h1
  rw [LsG_from h (by omega), LsG_from (hr (c + 1)) (by omega), LsG_from (hr (c + 8)) (by omega), show 64 - c = (64 - (c + 1)) + 1 by omega, Ls_yes hg]
theorem LsG_length {g : Nat → Bool} (h : ∀ i, 64 ≤ i → g i = false) : (LsG g).length = tiles g := Ls_length 64 0 g rfl ⟨fun i hi => by omega, h⟩

/-! Lists in order. -/
/-- one list is before another: at the first domino in which they differ, it has the one to the right. -/
def Bfr : List Dm → List Dm → Prop
  | a :: A, b :: B => (a = b ∧ Bfr A B) ∨ (a.2.2 = false ∧ b.2.2 = true)
  | _, _ => False
theorem Bfr.cons {d : Dm} {A B : List Dm} (h : Bfr A B) : Bfr (d :: A) (d :: B) := .inl ⟨rfl, h⟩
/-- at the first domino in which they differ. -/
theorem Bfr.at {A : List Dm} : ∀ {B : List Dm}, Bfr A B → ∃ i, ∃ (h1 : i < A.length) (h2 : i < B.length), (∀ j (h : j < i), A[j] = B[j]) ∧ A[i].2.2 = false ∧ B[i].2.2 = true := by
  induction A with
  | nil => intro B h; exact h.elim
  | cons a A ih =>
    intro B h
    cases B with
    | nil => exact h.elim
    | cons b B =>
      rcases h with ⟨rfl, h⟩ | h
      · obtain ⟨i, h1, h2, h3, h4⟩ := ih h
        refine ⟨i + 1, by simp; omega, by simp; omega, fun j hj => ?_, by simpa using h4⟩
        cases j with
        | zero => rfl
        | succ j => simpa using h3 j (by omega)
      · exact ⟨0, by simp, by simp, fun j hj => by omega, h⟩
theorem Bfr.ne {A B : List Dm} (h : Bfr A B) : A ≠ B := by
  obtain ⟨i, h1, h2, _, h4, h5⟩ := h.at
  rintro rfl
  rw [h4] at h5; cases h5
theorem Ls_order : ∀ (n k : Nat) (g : Nat → Bool), (Ls n k g).Pairwise Bfr
  | 0, _, _ => by unfold Ls; simp
  | n + 1, k, g => by
    by_cases q : g k = true
    · rw [Ls_yes q, List.pairwise_append]
      have key : ∀ (e : Nat) (b : Bool), ((Ls n (k + 1) (rem g k e)).map (dmN k b :: ·)).Pairwise Bfr := by
        intro e b
        rw [List.pairwise_map]
        exact (Ls_order n (k + 1) (rem g k e)).imp Bfr.cons
      refine ⟨?_, ?_, fun a ha b hb => ?_⟩
      · split
        · exact key _ _
        · exact List.Pairwise.nil
      · split
        · exact key _ _
        · exact List.Pairwise.nil
      · have ha' : ∃ A, a = dmN k false :: A := by
          split at ha
          · obtain ⟨A, _, e⟩ := List.mem_map.1 ha; exact ⟨A, e.symm⟩
          · cases ha
        have hb' : ∃ B, b = dmN k true :: B := by
          split at hb
          · obtain ⟨B, _, e⟩ := List.mem_map.1 hb; exact ⟨B, e.symm⟩
          · cases hb
        obtain ⟨A, rfl⟩ := ha'
        obtain ⟨B, rfl⟩ := hb'
        exact .inr ⟨rfl, rfl⟩
    · rw [Ls_no (by simpa using q)]
      exact Ls_order n (k + 1) g
theorem LsG_order (g : Nat → Bool) : (LsG g).Pairwise Bfr := Ls_order 64 0 g
theorem LsG_nodup (g : Nat → Bool) : (LsG g).Nodup := (LsG_order g).imp Bfr.ne

/-! Each is a tiling. -/
theorem sx_dm {k : Nat} {b : Bool} (hk : k < 64) (h : b = false → k % 8 ≠ 7) : sx ((k % 8 : Nat) : Int) b = (((if b then k + 8 else k + 1) % 8 : Nat) : Int) ∧ (k + 8 < 128 → sy ((k / 8 : Nat) : Int) b = (((if b then k + 8 else k + 1) / 8 : Nat) : Int)) := by
  cases b
  · have := h rfl
    simp only [sx, sy, Bool.false_eq_true, if_false]
    unfold wrap64
    exact ⟨by omega, fun _ => by omega⟩
  · simp only [sx, sy, if_true]
    unfold wrap64
    exact ⟨by omega, fun _ => by omega⟩
/-- the cells that a list leaves. -/
def gM (xs : List Int) (M : List Dm) : Nat → Bool := fun j => gR xs j && !anyM M ((j % 8 : Nat) : Int) ((j / 8 : Nat) : Int)
theorem gM_nil (xs : List Int) : gM xs [] = gR xs := by funext j; unfold gM anyM; simp
theorem gM_iff {xs : List Int} {M : List Dm} {j : Nat} : gM xs M j = true ↔ gR xs j = true ∧ anyM M ((j % 8 : Nat) : Int) ((j / 8 : Nat) : Int) = false := by unfold gM; simp
theorem gM_out (xs : List Int) (M : List Dm) : ∀ j, 64 ≤ j → gM xs M j = false := fun j h => by unfold gM; rw [gR_out xs j h]; rfl
/-- a domino's other place. -/
def oth (k : Nat) (b : Bool) : Nat := if b then k + 8 else k + 1
theorem oth_ok {k : Nat} {b : Bool} (hk : oth k b < 64) (h : b = false → k % 8 ≠ 7) : okM (dmN k b) = true ∧ sx (dmN k b).1 b = ((oth k b % 8 : Nat) : Int) ∧ sy (dmN k b).2.1 b = ((oth k b / 8 : Nat) : Int) := by
  have hk' : k < 64 := by unfold oth at hk; split at hk <;> omega
  obtain ⟨e1, e2⟩ := sx_dm hk' h
  have e2 := e2 (by omega)
  refine ⟨?_, e1, e2⟩
  unfold okM domB dmN
  simp only
  rw [e1, e2]
  have : okB ((k % 8 : Nat) : Int) ((k / 8 : Nat) : Int) = true := by rw [okB_iff]; unfold Ok; omega
  rw [this]
  have : okB (((if b = true then k + 8 else k + 1) % 8 : Nat) : Int) (((if b = true then k + 8 else k + 1) / 8 : Nat) : Int) = true := by
    unfold oth at hk
    rw [okB_iff]; unfold Ok; omega
  rw [this]; rfl
theorem cov_dm {k : Nat} {b : Bool} (hk : oth k b < 64) (h : b = false → k % 8 ≠ 7) (j : Nat) : covM (dmN k b) ((j % 8 : Nat) : Int) ((j / 8 : Nat) : Int) = (decide (j = k) || decide (j = oth k b)) := by
  obtain ⟨h1, h2, h3⟩ := oth_ok hk h
  unfold covM covP
  rw [h1, Bool.true_and, Bool.eq_iff_iff]
  simp only [Bool.or_eq_true, eqB_iff, decide_eq_true_eq]
  show (_ ∧ _) ∨ (_ = sx (dmN k b).1 b ∧ _ = sy (dmN k b).2.1 b) ↔ _
  rw [h2, h3]
  show (((j % 8 : Nat) : Int) = ((k % 8 : Nat) : Int) ∧ ((j / 8 : Nat) : Int) = ((k / 8 : Nat) : Int)) ∨ _ ↔ _
  constructor
  · rintro (⟨a, b⟩ | ⟨a, b⟩)
    · left; omega
    · right; omega
  · rintro (a | a)
    · left; subst a; exact ⟨rfl, rfl⟩
    · right; subst a; exact ⟨rfl, rfl⟩
/-- one domino more takes two cells more. -/
theorem gM_snoc {xs : List Int} {M : List Dm} {k : Nat} {b : Bool} (hk : oth k b < 64) (h : b = false → k % 8 ≠ 7) : gM xs (M ++ [dmN k b]) = rem (gM xs M) k (oth k b) := by
  funext j
  rw [Bool.eq_iff_iff, rem_iff, gM_iff, gM_iff, anyM_snoc, cov_dm hk h, Bool.or_eq_false_iff, Bool.or_eq_false_iff]
  simp only [decide_eq_false_iff_not]
  constructor
  · rintro ⟨a, b, c, d⟩; exact ⟨⟨a, b⟩, c, d⟩
  · rintro ⟨⟨a, b⟩, c, d⟩; exact ⟨a, b, c, d⟩
/-- the cells left, by their indexes. -/
theorem unc_cells {xs : List Int} (ho : okR xs) (M : List Dm) : unc M (cellsR xs) = ((List.range 64).filter (gM xs M)).map fun j => (((j % 8 : Nat) : Int), ((j / 8 : Nat) : Int)) := by
  rw [cellsR_ok ho, idxs_cells]
  unfold unc idxs
  rw [List.filter_map, List.filter_filter]
  congr 1
  refine List.filter_congr (fun j _ => ?_)
  rw [Bool.and_comm]; rfl
/-- the first cell left. -/
theorem unc_first {xs : List Int} (ho : okR xs) {M : List Dm} {j : Nat} (hk : 0 < (unc M (cellsR xs)).length) : ∃ c, c < 64 ∧ gM xs M c = true ∧ (∀ i, i < c → gM xs M i = false) ∧ (unc M (cellsR xs))[0] = (((c % 8 : Nat) : Int), ((c / 8 : Nat) : Int)) := by
  have e := unc_cells ho M
  have hp : 0 < ((List.range 64).filter (gM xs M)).length := by rw [e, List.length_map] at hk; exact hk
  refine ⟨((List.range 64).filter (gM xs M))[0], ?_, ?_, ?_, ?_⟩
  · exact List.mem_range.1 (List.mem_filter.1 (List.getElem_mem hp)).1
  · exact (List.mem_filter.1 (List.getElem_mem hp)).2
  · intro i hi
    by_cases q : gM xs M i = true
    · have h64 : i < 64 := by
        by_cases r : i < 64
        · exact r
        · rw [gM_out xs M i (by omega)] at q; cases q
      obtain ⟨m, hm, e2⟩ := List.getElem_of_mem (List.mem_filter.2 ⟨List.mem_range.2 h64, q⟩ : i ∈ (List.range 64).filter (gM xs M))
      have hpw : ((List.range 64).filter (gM xs M)).Pairwise (· < ·) := List.Pairwise.filter _ List.pairwise_lt_range
      by_cases m0 : m = 0
      · subst m0; omega
      · have := List.pairwise_iff_getElem.1 hpw 0 m hp hm (by omega)
        omega
    · simpa using q
  · have : (unc M (cellsR xs))[0]? = some (((((List.range 64).filter (gM xs M))[0] % 8 : Nat) : Int), ((((List.range 64).filter (gM xs M))[0] / 8 : Nat) : Int)) := by
      rw [e, List.getElem?_map, List.getElem?_eq_getElem hp]; rfl
    rw [List.getElem?_eq_getElem hk] at this
    exact Option.some.inj this
theorem unc_none {xs : List Int} (ho : okR xs) {M : List Dm} (hk : (unc M (cellsR xs)).length = 0) : ∀ i, i < 64 → gM xs M i = false := by
  intro i hi
  rw [unc_cells ho, List.length_map] at hk
  have h := List.filter_eq_nil_iff.1 (List.eq_nil_of_length_eq_zero hk) i (List.mem_range.2 hi)
  simpa using h
/-- the lists that go on with a head. -/
def cont (xs : List Int) (M : List Dm) : List (List Dm) := (LsG (gM xs M)).map (M ++ ·)
theorem cont_nil (xs : List Int) : cont xs [] = LsG (gR xs) := by unfold cont; rw [gM_nil]; simp
theorem cont_done {xs : List Int} (ho : okR xs) {M : List Dm} (hk : (unc M (cellsR xs)).length = 0) : cont xs M = [M] := by
  unfold cont; rw [LsG_none (unc_none ho hk)]; simp
/-- a domino at the first cell left can be laid. -/
def canB (xs : List Int) (M : List Dm) (c : Nat) (b : Bool) : Bool := (b || decide (c % 8 ≠ 7)) && gM xs M (oth c b)
theorem can_lt {xs : List Int} {M : List Dm} {c : Nat} {b : Bool} (h : canB xs M c b = true) : oth c b < 64 ∧ (b = false → c % 8 ≠ 7) ∧ gM xs M (oth c b) = true := by
  unfold canB at h
  rw [Bool.and_eq_true, Bool.or_eq_true, decide_eq_true_eq] at h
  refine ⟨?_, fun hb => ?_, h.2⟩
  · by_cases r : oth c b < 64
    · exact r
    · rw [gM_out xs M _ (by omega)] at h; cases h.2
  · rcases h.1 with q | q
    · rw [hb] at q; cases q
    · exact q
def one (xs : List Int) (M : List Dm) (c : Nat) (b : Bool) : List (List Dm) := if canB xs M c b = true then cont xs (M ++ [dmN c b]) else []
theorem cont_step {xs : List Int} {M : List Dm} {c : Nat} (hc : c < 64) (hg : gM xs M c = true) (h : ∀ i, i < c → gM xs M i = false) : cont xs M = one xs M c false ++ one xs M c true := by
  have key : ∀ b, canB xs M c b = true → cont xs (M ++ [dmN c b]) = (LsG (rem (gM xs M) c (oth c b))).map (fun L => M ++ dmN c b :: L) := by
    intro b hb
    obtain ⟨h1, h2, h3⟩ := can_lt hb
    unfold cont
    rw [gM_snoc h1 h2]
    refine List.map_congr_left (fun L _ => ?_)
    simp
  unfold cont
  rw [LsG_first h hc hg, List.map_append]
  congr 1
  · unfold one
    have e : (c % 8 ≠ 7 ∧ gM xs M (c + 1) = true) ↔ canB xs M c false = true := by unfold canB oth; simp
    by_cases q : canB xs M c false = true
    · rw [if_pos (e.2 q), if_pos q, key false q, List.map_map]; rfl
    · rw [if_neg (fun h => q (e.1 h)), if_neg q]; rfl
  · unfold one
    have e : (gM xs M (c + 8) = true) ↔ canB xs M c true = true := by unfold canB oth; simp
    by_cases q : canB xs M c true = true
    · rw [if_pos (e.2 q), if_pos q, key true q, List.map_map]; rfl
    · rw [if_neg (fun h => q (e.1 h)), if_neg q]; rfl
/-- partial, and behind each other. -/
def Beg (xs : List Int) (k : Nat) (M : List Dm) : Prop := (∀ j, j < M.length → stpAt xs M j = true) ∧ ∀ d ∈ M, d.2.1 * 8 + d.1 < (k : Int)
theorem Beg.zero (xs : List Int) : Beg xs 0 [] := ⟨fun j hj => by simp at hj, fun d hd => by simp at hd⟩
theorem Beg.mono {xs : List Int} {k k' : Nat} {M : List Dm} (h : Beg xs k M) (hk : k ≤ k') : Beg xs k' M := ⟨h.1, fun d hd => by have := h.2 d hd; omega⟩
theorem has_place {xs : List Int} (ho : okR xs) {j : Nat} (h : gR xs j = true) : hasB xs ((j % 8 : Nat) : Int) ((j / 8 : Nat) : Int) = true := by
  have h64 : j < 64 := by
    by_cases r : j < 64
    · exact r
    · rw [gR_out xs j (by omega)] at h; cases h
  rw [gR_in h64] at h
  rw [hasB_iff]
  refine ⟨ho, by omega, by omega, by omega, by omega, ?_⟩
  rw [show ((j / 8 : Nat) : Int).toNat = j / 8 from Int.toNat_natCast _, show ((j % 8 : Nat) : Int).toNat = j % 8 from Int.toNat_natCast _]
  exact h
theorem place_has {xs : List Int} {j : Nat} (hj : j < 64) (h : hasB xs ((j % 8 : Nat) : Int) ((j / 8 : Nat) : Int) = true) : gR xs j = true := by
  rw [hasB_iff] at h
  obtain ⟨_, _, _, _, _, h⟩ := h
  rw [show ((j / 8 : Nat) : Int).toNat = j / 8 from Int.toNat_natCast _, show ((j % 8 : Nat) : Int).toNat = j % 8 from Int.toNat_natCast _] at h
  rw [gR_in hj]; exact h
theorem Beg.step {xs : List Int} (ho : okR xs) {k : Nat} {M : List Dm} (h : Beg xs k M) {b : Bool} (hg : gM xs M k = true) (hc : canB xs M k b = true) : Beg xs (k + 1) (M ++ [dmN k b]) := by
  obtain ⟨h1, h2, h3⟩ := can_lt hc
  obtain ⟨o1, o2, o3⟩ := oth_ok h1 h2
  rw [gM_iff] at hg h3
  have hstep : stepB xs M (dmN k b) = true := by
    unfold stepB
    rw [show (dmN k b).2.2 = b from rfl, o2, o3, has_place ho h3.1, h3.2]
    show (_ && ((hasB xs ((k % 8 : Nat) : Int) ((k / 8 : Nat) : Int) && !anyM M ((k % 8 : Nat) : Int) ((k / 8 : Nat) : Int)) && _)) = true
    rw [has_place ho hg.1, hg.2]
    cases hl : M.getLast? with
    | none => rfl
    | some p =>
      have hp : p ∈ M := List.mem_of_getLast? hl
      have hpo : okM p = true := by
        obtain ⟨j, hj, e⟩ := List.getElem_of_mem hp
        have := h.1 j hj
        rw [stpAt_of hj, e] at this
        exact stepB_ok this
      have hpk := h.2 p hp
      have hb : befM p (dmN k b) = true := by
        rw [befM_iff]
        refine ⟨hpo, o1, .inl ?_⟩
        show p.2.1 * 8 + p.1 < ((k / 8 : Nat) : Int) * 8 + ((k % 8 : Nat) : Int)
        omega
      simp [hb]
  refine ⟨fun j hj => ?_, fun d hd => ?_⟩
  · rw [List.length_append, List.length_singleton] at hj
    by_cases e : j < M.length
    · rw [stp_app e]; exact h.1 j e
    · have : j = M.length := by omega
      subst this
      rw [stp_last]; exact hstep
  · rcases List.mem_append.1 hd with hd | hd
    · have := h.2 d hd; omega
    · rw [List.mem_singleton] at hd
      subst hd
      show ((k / 8 : Nat) : Int) * 8 + ((k % 8 : Nat) : Int) < ((k + 1 : Nat) : Int)
      omega
/-- every list is a tiling. -/
theorem Ls_til {xs : List Int} (ho : okR xs) : ∀ (n k : Nat) (M : List Dm), k + n = 64 → Beg xs k M → (∀ i, i < k → gM xs M i = false) → ∀ L ∈ Ls n k (gM xs M), tilB xs (M ++ L) = true
  | 0, k, M, hk, hb, h0, L, hL => by
    have : L = [] := by unfold Ls at hL; simpa using hL
    subst this
    rw [List.append_nil]
    have hp : partB xs M = true := part_yes (okRB_of ho) hb.1
    unfold tilB
    rw [hp, Bool.true_and, decide_eq_true_eq, unc_cells ho, List.length_map]
    have : (List.range 64).filter (gM xs M) = [] := List.filter_eq_nil_iff.2 (fun i hi => by rw [h0 i (by have := List.mem_range.1 hi; omega)]; simp)
    rw [this]; rfl
  | n + 1, k, M, hk, hb, h0, L, hL => by
    by_cases q : gM xs M k = true
    · have key : ∀ b, canB xs M k b = true → ∀ L' ∈ Ls n (k + 1) (rem (gM xs M) k (oth k b)), tilB xs (M ++ dmN k b :: L') = true := by
        intro b hc L' hL'
        obtain ⟨h1, h2, h3⟩ := can_lt hc
        rw [← gM_snoc h1 h2] at hL'
        have := Ls_til ho n (k + 1) (M ++ [dmN k b]) (by omega) (hb.step ho q hc) (fun i hi => by
          rw [gM_snoc h1 h2, Bool.eq_false_iff, Ne, rem_iff]
          rintro ⟨a1, a2, a3⟩
          rw [h0 i (by omega)] at a1; cases a1) L' hL'
        simpa using this
      rw [Ls_yes q] at hL
      rcases List.mem_append.1 hL with hL | hL
      · split at hL
        · rename_i a
          obtain ⟨L', hL', rfl⟩ := List.mem_map.1 hL
          exact key false (by unfold canB oth; simp [a.1, a.2]) L' hL'
        · cases hL
      · split at hL
        · rename_i a
          obtain ⟨L', hL', rfl⟩ := List.mem_map.1 hL
          exact key true (by unfold canB oth; simp [a]) L' hL'
        · cases hL
    · have q : gM xs M k = false := by simpa using q
      rw [Ls_no q] at hL
      exact Ls_til ho n (k + 1) M (by omega) (hb.mono (by omega)) (fun i hi => by
        by_cases e : i = k
        · rw [e]; exact q
        · exact h0 i (by omega)) L hL
/-- the tilings of a region. -/
def allT (xs : List Int) : List (List Dm) := LsG (gR xs)
theorem all_til {xs : List Int} (ho : okR xs) : ∀ L ∈ allT xs, tilB xs L = true := by
  intro L hL
  have := Ls_til ho 64 0 [] rfl (Beg.zero xs) (fun i hi => by omega) L (by rw [gM_nil]; exact hL)
  simpa using this
theorem all_length {xs : List Int} (ho : okR xs) : ((allT xs).length : Int) = tilesR xs := by
  rw [tilesR_is ho]; unfold allT; rw [LsG_length (gR_out xs)]
theorem til_half {xs : List Int} {L : List Dm} (h : tilB xs L = true) : L.length = (cellsR xs).length / 2 := by
  have hp : partB xs L = true := by unfold tilB at h; rw [Bool.and_eq_true] at h; exact h.1
  have := tilB_count hp
  rw [h] at this
  have := of_decide_eq_true this.symm
  omega
theorem all_half {xs : List Int} (ho : okR xs) : ∀ L ∈ allT xs, L.length = (cellsR xs).length / 2 := fun L hL => til_half (all_til ho L hL)
theorem all_order (xs : List Int) : (allT xs).Pairwise Bfr := LsG_order _
/-- what the model lists: as many as wanted. -/
theorem take_two {α : Type} (X Y : List α) (m : Nat) : (X ++ Y).take m = X.take m ++ Y.take (m - X.length) := List.take_append
end Go.Proofs.YtmaghekcpopepaaDoor.Lis
