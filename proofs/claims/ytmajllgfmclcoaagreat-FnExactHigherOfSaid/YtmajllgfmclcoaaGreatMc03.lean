/- TilP, GrdP, CntP, Kun, CntW, CntS, CntR, LisP, FlpP in one text. -/
import Derived.Test.YtmajllgfmclcoaaGreatMc01
import Derived.Test.YtmajllgfmclcoaaGreatMc02

namespace Go.Proofs.YtmajllgfmclcoaaGreat.Til
set_option linter.unusedVariables false
set_option linter.unusedSimpArgs false
open Go.RowKit Go.Proofs.YtmajllgfmclcoaaGreat.Pure Go.Proofs.YtmajllgfmclcoaaGreat.Cell Go.Proofs.YtmajllgfmclcoaaGreat.Dom Go.Proofs.YtmajllgfmclcoaaGreat.Dms

def okM (d : Dm) : Bool := domB d.1 d.2.1 d.2.2
def covP (d : Dm) (x y : Int) : Bool := eqB x y d.1 d.2.1 || eqB x y (sx d.1 d.2.2) (sy d.2.1 d.2.2)
def covM (d : Dm) (x y : Int) : Bool := okM d && covP d x y
def anyM (L : List Dm) (x y : Int) : Bool := L.any fun d => covM d x y
def atN : List Dm → Int → Int → Option Nat
  | [], _, _ => none
  | d :: L, x, y => if covM d x y then some 0 else (atN L x y).map (· + 1)
def atI (L : List Dm) (x y : Int) : Int := match atN L x y with
  | some j => (j : Int)
  | none => -1
theorem atN_hit {L : List Dm} {x y : Int} : ∀ {k : Nat} {d : Dm}, (∀ j e, j < k → L[j]? = some e → covM e x y = false) → L[k]? = some d → covM d x y = true → atN L x y = some k := by
  induction L with
  | nil => intro k d _ h; simp at h
  | cons a L ih =>
    intro k d h1 h2 h3
    unfold atN
    cases k with
    | zero => simp at h2; subst h2; rw [if_pos h3]
    | succ k =>
      rw [if_neg (by rw [h1 0 a (by omega) rfl]; simp), ih (k := k) (d := d) (fun j e hj he => h1 (j + 1) e (by omega) (by simpa using he)) (by simpa using h2) h3]
      rfl
theorem atN_none {L : List Dm} {x y : Int} : atN L x y = none ↔ anyM L x y = false := by
  induction L with
  | nil => simp [atN, anyM]
  | cons a L ih =>
    unfold atN
    cases h : covM a x y with
    | true => simp [anyM, h]
    | false => simpa [anyM, h] using ih
theorem atI_hit {L : List Dm} {x y : Int} {k : Nat} {d : Dm} (h1 : ∀ j e, j < k → L[j]? = some e → covM e x y = false) (h2 : L[k]? = some d) (h3 : covM d x y = true) : atI L x y = (k : Int) := by
  unfold atI; rw [atN_hit h1 h2 h3]
theorem atI_miss {L : List Dm} {x y : Int} (h : ∀ j e, j < L.length → L[j]? = some e → covM e x y = false) : atI L x y = -1 := by
  have : anyM L x y = false := by
    unfold anyM
    rw [List.any_eq_false]
    intro d hd
    obtain ⟨j, hj⟩ := List.getElem?_of_mem hd
    rw [h j d (List.getElem?_eq_some_iff.1 hj).1 hj]; simp
  unfold atI; rw [atN_none.2 this]
theorem atI_neg {L : List Dm} {x y : Int} : decide (atI L x y < 0) = !anyM L x y := by
  unfold atI
  cases h : anyM L x y with
  | false => rw [atN_none.2 h]; rfl
  | true =>
    cases hn : atN L x y with
    | none => rw [atN_none] at hn; rw [hn] at h; cases h
    | some j => simp
def unc (L : List Dm) (C : List (Int × Int)) : List (Int × Int) := C.filter fun c => !anyM L c.1 c.2
theorem unc_yes {L : List Dm} {C : List (Int × Int)} {k : Nat} (hk : k < C.length) (h : anyM L C[k].1 C[k].2 = false) : unc L (C.take (k + 1)) = unc L (C.take k) ++ [C[k]] := by
  unfold unc; rw [List.take_succ_eq_append_getElem hk, List.filter_append]; simp [h]
theorem unc_no {L : List Dm} {C : List (Int × Int)} {k : Nat} (hk : k < C.length) (h : anyM L C[k].1 C[k].2 = true) : unc L (C.take (k + 1)) = unc L (C.take k) := by
  unfold unc; rw [List.take_succ_eq_append_getElem hk, List.filter_append]; simp [h]
theorem unc_length (L : List Dm) (C : List (Int × Int)) : (unc L C).length ≤ C.length := List.length_filter_le _ _

theorem tbef_self (x y : Int) (b : Bool) : befB x y b x y b = false := by
  unfold befB
  rw [show befP x y b x y b = false by rw [Bool.eq_false_iff, Ne, befP_iff]; rintro (h | ⟨_, h1, h2⟩); · omega
                                       · rw [h1] at h2; cases h2]
  simp
theorem tbef_ne {x y : Int} {b : Bool} {u v : Int} {c : Bool} (h1 : domB x y b = true) (h2 : domB u v c = true) (hne : ¬ (x = u ∧ y = v ∧ b = c)) : befB u v c x y b = !befB x y b u v c := by
  have o1 := dom_ok h1
  have o2 := dom_ok h2
  obtain ⟨x0, x7, y0, y7⟩ := o1
  obtain ⟨u0, u7, v0, v7⟩ := o2
  unfold befB
  rw [h1, h2]
  simp only [Bool.true_and]
  have hk : befP x y b u v c = false ↔ ¬ (y * 8 + x < v * 8 + u ∨ (y * 8 + x = v * 8 + u ∧ b = false ∧ c = true)) := by rw [← befP_iff]; simp
  rw [Bool.eq_iff_iff, befP_iff, Bool.not_eq_true', hk]
  cases b <;> cases c <;> simp <;> simp at hne <;> omega
def befM (d e : Dm) : Bool := befB d.1 d.2.1 d.2.2 e.1 e.2.1 e.2.2
theorem befM_iff {d e : Dm} : befM d e = true ↔ okM d = true ∧ okM e = true ∧ (d.2.1 * 8 + d.1 < e.2.1 * 8 + e.1 ∨ (d.2.1 * 8 + d.1 = e.2.1 * 8 + e.1 ∧ d.2.2 = false ∧ e.2.2 = true)) := by
  unfold befM befB okM
  rw [Bool.and_eq_true, Bool.and_eq_true, befP_iff, and_assoc]
theorem okM_in {d : Dm} (h : okM d = true) : 0 ≤ d.1 ∧ d.1 ≤ 7 ∧ 0 ≤ d.2.1 ∧ d.2.1 ≤ 7 := by
  have := dom_ok h
  exact this
theorem dm_ext {d e : Dm} (h1 : d.1 = e.1) (h2 : d.2.1 = e.2.1) (h3 : d.2.2 = e.2.2) : d = e := by
  obtain ⟨a, b, c⟩ := d; obtain ⟨a', b', c'⟩ := e; simp only at h1 h2 h3; rw [h1, h2, h3]
theorem befM_irrefl (d : Dm) : befM d d = false := tbef_self _ _ _
theorem befM_trans {a b c : Dm} (h1 : befM a b = true) (h2 : befM b c = true) : befM a c = true := by
  rw [befM_iff] at *
  obtain ⟨p1, p2, p3⟩ := h1
  obtain ⟨q1, q2, q3⟩ := h2
  refine ⟨p1, q2, ?_⟩
  rcases p3 with p | ⟨p, p', p''⟩ <;> rcases q3 with q | ⟨q, q', q''⟩
  · left; omega
  · left; omega
  · left; omega
  · right; exact ⟨by omega, p', q''⟩
theorem befM_total {a b : Dm} (h1 : okM a = true) (h2 : okM b = true) (hne : a ≠ b) : befM b a = !befM a b := by
  refine tbef_ne h1 h2 ?_
  rintro ⟨e1, e2, e3⟩
  exact hne (dm_ext e1 e2 e3)
theorem befM_same {a b : Dm} (h1 : okM a = true) (h2 : okM b = true) (h3 : befM a b = false) (h4 : befM b a = false) : a = b := by
  by_cases e : a = b
  · exact e
  · rw [befM_total h1 h2 e, h3] at h4; cases h4
theorem befM_asymm {a b : Dm} (h : befM a b = true) : befM b a = false := by
  cases h2 : befM b a with
  | false => rfl
  | true =>
    have := befM_trans h h2
    rw [befM_irrefl] at this; cases this

theorem uniq {A : List Dm} : ∀ {B : List Dm}, A.Pairwise (fun a b => befM a b = true) → B.Pairwise (fun a b => befM a b = true) → (∀ d, d ∈ A ↔ d ∈ B) → A = B := by
  induction A with
  | nil =>
    intro B _ _ h
    cases B with
    | nil => rfl
    | cons b B => have := (h b).2 (by simp); simp at this
  | cons a A ih =>
    intro B hA hB h
    cases B with
    | nil => have := (h a).1 (by simp); simp at this
    | cons b B =>
      obtain ⟨a1, a2⟩ := List.pairwise_cons.1 hA
      obtain ⟨b1, b2⟩ := List.pairwise_cons.1 hB
      have hab : a = b := by
        have m1 := (h a).1 (by simp)
        have m2 := (h b).2 (by simp)
        rcases List.mem_cons.1 m1 with e | m1
        · exact e
        · rcases List.mem_cons.1 m2 with e | m2
          · exact e.symm
          · have := befM_asymm (a1 b m2)
            rw [b1 a m1] at this; cases this
      subst hab
      congr 1
      refine ih a2 b2 (fun d => ?_)
      have hd := h d
      simp only [List.mem_cons] at hd
      constructor
      · intro m
        rcases hd.1 (.inr m) with e | m'
        · subst e; have := a1 d m; rw [befM_irrefl] at this; cases this
        · exact m'
      · intro m
        rcases hd.2 (.inr m) with e | m'
        · subst e; have := b1 d m; rw [befM_irrefl] at this; cases this
        · exact m'

def cut (M : List Dm) (d : Dm) : Nat := (M.takeWhile fun e => befM e d).length
theorem cut_le (M : List Dm) (d : Dm) : cut M d ≤ M.length := by unfold cut; exact (List.takeWhile_prefix _).length_le
theorem cut_hit {M : List Dm} {d : Dm} : ∀ {k : Nat}, (∀ j e, j < k → M[j]? = some e → befM e d = true) → (∀ e, M[k]? = some e → befM e d = false) → k ≤ M.length → cut M d = k := by
  induction M with
  | nil => intro k _ _ hk; simp at hk; subst hk; rfl
  | cons a M ih =>
    intro k h1 h2 hk
    unfold cut
    cases k with
    | zero => rw [List.takeWhile_cons, if_neg (by rw [h2 a rfl]; simp)]; rfl
    | succ k =>
      rw [List.takeWhile_cons, if_pos (h1 0 a (by omega) rfl)]
      have := ih (k := k) (fun j e hj he => h1 (j + 1) e (by omega) (by simpa using he)) (fun e he => h2 e (by simpa using he)) (by simpa using hk)
      unfold cut at this
      rw [List.length_cons, this]
theorem cut_before {M : List Dm} {d : Dm} : ∀ {j : Nat} {e : Dm}, j < cut M d → M[j]? = some e → befM e d = true := by
  induction M with
  | nil => intro j e hj; simp [cut] at hj
  | cons a M ih =>
    intro j e hj he
    unfold cut at hj
    by_cases h : befM a d = true
    · rw [List.takeWhile_cons, if_pos h, List.length_cons] at hj
      cases j with
      | zero => simp at he; subst he; exact h
      | succ j => exact ih (j := j) (by unfold cut; omega) (by simpa using he)
    · rw [List.takeWhile_cons, if_neg h] at hj; simp at hj
theorem cut_at {M : List Dm} {d e : Dm} : M[cut M d]? = some e → befM e d = false := by
  induction M with
  | nil => intro h; simp at h
  | cons a M ih =>
    intro he
    by_cases h : befM a d = true
    · have e1 : cut (a :: M) d = cut M d + 1 := by unfold cut; rw [List.takeWhile_cons, if_pos h, List.length_cons]
      rw [e1] at he
      exact ih (by simpa using he)
    · have e1 : cut (a :: M) d = 0 := by unfold cut; rw [List.takeWhile_cons, if_neg h]; rfl
      rw [e1] at he
      simp at he; subst he; simpa using h
def ins (M : List Dm) (d : Dm) : List Dm := if okM d = false ∨ M[cut M d]? = some d then M else M.take (cut M d) ++ d :: M.drop (cut M d)
theorem ins_length (M : List Dm) (d : Dm) : (ins M d).length ≤ M.length + 1 := by
  unfold ins; split
  · omega
  · have := cut_le M d
    simp [List.length_take, List.length_drop]; omega
def sortM (L : List Dm) : List Dm := L.foldl ins []
theorem sortM_step {L : List Dm} {k : Nat} (hk : k < L.length) : sortM (L.take (k + 1)) = ins (sortM (L.take k)) L[k] := by
  unfold sortM; rw [List.take_succ_eq_append_getElem hk, List.foldl_append]; rfl
def Inc (M : List Dm) : Prop := M.Pairwise (fun a b => befM a b = true)
theorem ins_good {M : List Dm} {d : Dm} (h : Inc M) (hv : ∀ e ∈ M, okM e = true) : Inc (ins M d) ∧ ∀ e, e ∈ ins M d ↔ e ∈ M ∨ (e = d ∧ okM d = true) := by
  unfold ins
  by_cases h1 : okM d = false
  · rw [if_pos (.inl h1)]
    exact ⟨h, fun e => by simp [h1]⟩
  · have hd : okM d = true := by simpa using h1
    by_cases h2 : M[cut M d]? = some d
    · rw [if_pos (.inr h2)]
      refine ⟨h, fun e => ⟨.inl, ?_⟩⟩
      rintro (h | ⟨rfl, _⟩)
      · exact h
      · exact List.mem_of_getElem? h2
    · rw [if_neg (by rintro (h | h); · exact h1 h
                     · exact h2 h)]
      have hsplit : M.take (cut M d) ++ M.drop (cut M d) = M := List.take_append_drop _ _
      have hpre : ∀ e ∈ M.take (cut M d), befM e d = true := by
        intro e he
        obtain ⟨j, hj⟩ := List.getElem?_of_mem he
        rw [List.getElem?_take] at hj
        by_cases hlt : j < cut M d
        · rw [if_pos hlt] at hj; exact cut_before hlt hj
        · rw [if_neg hlt] at hj; cases hj
      have hInc := h
      unfold Inc at h
      rw [← hsplit, List.pairwise_append] at h
      obtain ⟨p1, p2, p3⟩ := h
      have hpost : ∀ e ∈ M.drop (cut M d), befM d e = true := by
        have hk := fun e => cut_at (M := M) (d := d) (e := e)
        cases hD : M.drop (cut M d) with
        | nil => intro e he; simp at he
        | cons a D =>
          have ha : M[cut M d]? = some a := by
            have := List.getElem?_drop (xs := M) (i := cut M d) (j := 0)
            rw [hD] at this; simpa using this.symm
          have hka := hk a ha
          have hne : a ≠ d := by rintro rfl; exact h2 ha
          have hda : befM d a = true := by
            rw [befM_total (hv a (List.mem_of_getElem? ha)) hd hne, hka]; rfl
          rw [hD] at p2
          intro e he
          rcases List.mem_cons.1 he with rfl | he
          · exact hda
          · exact befM_trans hda ((List.pairwise_cons.1 p2).1 e he)
      refine ⟨?_, fun e => ?_⟩
      · unfold Inc
        rw [List.pairwise_append]
        refine ⟨p1, List.pairwise_cons.2 ⟨hpost, p2⟩, fun a ha b hb => ?_⟩
        rcases List.mem_cons.1 hb with rfl | hb
        · exact hpre a ha
        · exact p3 a ha b hb
      · have : e ∈ M ↔ e ∈ M.take (cut M d) ∨ e ∈ M.drop (cut M d) := by rw [← List.mem_append, hsplit]
        rw [this, List.mem_append, List.mem_cons]
        simp only [hd, and_true]
        constructor
        · rintro (h | h | h)
          · exact .inl (.inl h)
          · exact .inr h
          · exact .inl (.inr h)
        · rintro ((h | h) | h)
          · exact .inl h
          · exact .inr (.inr h)
          · exact .inr (.inl h)
theorem foldl_good (L : List Dm) : ∀ M : List Dm, Inc M → (∀ e ∈ M, okM e = true) → Inc (L.foldl ins M) ∧ ∀ e, e ∈ L.foldl ins M ↔ e ∈ M ∨ (e ∈ L ∧ okM e = true) := by
  induction L with
  | nil => intro M h hv; exact ⟨h, fun e => by simp⟩
  | cons d L ih =>
    intro M h hv
    obtain ⟨g1, g2⟩ := ins_good (d := d) h hv
    obtain ⟨f1, f2⟩ := ih (ins M d) g1 (fun e he => by
      rcases (g2 e).1 he with he | ⟨rfl, hd⟩
      · exact hv e he
      · exact hd)
    refine ⟨f1, fun e => ?_⟩
    rw [List.foldl_cons, f2, g2, List.mem_cons]
    constructor
    · rintro ((h | ⟨rfl, h⟩) | ⟨h, h'⟩)
      · exact .inl h
      · exact .inr ⟨.inl rfl, h⟩
      · exact .inr ⟨.inr h, h'⟩
    · rintro (h | ⟨rfl | h, h'⟩)
      · exact .inl (.inl h)
      · exact .inl (.inr ⟨rfl, h'⟩)
      · exact .inr ⟨h, h'⟩
theorem sortM_good (L : List Dm) : Inc (sortM L) ∧ ∀ e, e ∈ sortM L ↔ e ∈ L ∧ okM e = true := by
  obtain ⟨a, b⟩ := foldl_good L [] List.Pairwise.nil (by simp)
  exact ⟨a, fun e => by rw [show sortM L = L.foldl ins [] from rfl, b]; simp⟩
theorem sortM_of {L M : List Dm} (h : Inc M) (hm : ∀ e, e ∈ M ↔ e ∈ L ∧ okM e = true) : sortM L = M :=
  uniq (sortM_good L).1 h fun d => by rw [(sortM_good L).2, hm]
theorem sortM_length (L : List Dm) : (sortM L).length ≤ L.length := by
  suffices h : ∀ (L M : List Dm), (L.foldl ins M).length ≤ M.length + L.length by
    have := h L []; unfold sortM; simpa using this
  intro L
  induction L with
  | nil => intro M; simp
  | cons d L ih => intro M; rw [List.foldl_cons, List.length_cons]; have := ih (ins M d); have := ins_length M d; omega

def stepB (xs : List Int) (M : List Dm) (d : Dm) : Bool :=
  (match M.getLast? with | none => true | some p => befM p d) && ((hasB xs d.1 d.2.1 && !anyM M d.1 d.2.1) && (hasB xs (sx d.1 d.2.2) (sy d.2.1 d.2.2) && !anyM M (sx d.1 d.2.2) (sy d.2.1 d.2.2)))
def stpAt (xs : List Int) (L : List Dm) (k : Nat) : Bool := stepB xs (L.take k) (L.getD k (0, 0, false))
def partB (xs : List Int) (L : List Dm) : Bool := okRB xs && (List.range L.length).all (stpAt xs L)
theorem stpAt_of {xs : List Int} {L : List Dm} {k : Nat} (hk : k < L.length) : stpAt xs L k = stepB xs (L.take k) L[k] := by
  unfold stpAt; simp [List.getD, List.getElem?_eq_getElem hk]
theorem part_yes {xs : List Int} {L : List Dm} (h : okRB xs = true) (hs : ∀ k, k < L.length → stpAt xs L k = true) : partB xs L = true := by
  unfold partB; rw [h, Bool.true_and, List.all_eq_true]; intro k hk; exact hs k (List.mem_range.1 hk)
theorem part_no {xs : List Int} {L : List Dm} {k : Nat} (hk : k < L.length) (hs : stpAt xs L k = false) : partB xs L = false := by
  unfold partB
  rw [Bool.and_eq_false_iff]
  right
  rw [List.all_eq_false]
  exact ⟨k, List.mem_range.2 hk, by rw [hs]; simp⟩
theorem part_not {xs : List Int} {L : List Dm} (h : okRB xs = false) : partB xs L = false := by unfold partB; rw [h]; rfl
theorem part_iff {xs : List Int} {L : List Dm} : partB xs L = true ↔ okRB xs = true ∧ ∀ k, k < L.length → stpAt xs L k = true := by
  unfold partB; rw [Bool.and_eq_true, List.all_eq_true]
  exact ⟨fun h => ⟨h.1, fun k hk => h.2 k (List.mem_range.2 hk)⟩, fun h => ⟨h.1, fun k hk => h.2 k (List.mem_range.1 hk)⟩⟩
theorem hasB_ok {xs : List Int} {x y : Int} (h : hasB xs x y = true) : okB x y = true := by
  rw [hasB_iff] at h; rw [okB_iff]; exact ⟨h.2.1, h.2.2.1, h.2.2.2.1, h.2.2.2.2.1⟩
theorem stepB_ok {xs : List Int} {M : List Dm} {d : Dm} (h : stepB xs M d = true) : okM d = true := by
  unfold stepB at h
  simp only [Bool.and_eq_true] at h
  obtain ⟨_, ⟨h1, _⟩, h2, _⟩ := h
  unfold okM domB
  rw [hasB_ok h1, hasB_ok h2]; rfl
theorem mem_cells {xs : List Int} {x y : Int} : (x, y) ∈ cellsR xs ↔ hasB xs x y = true := by
  rw [hasB_iff]
  by_cases ho : okR xs
  · rw [cellsR_ok ho]
    unfold cellsTo
    simp only [List.mem_map, List.mem_filter, List.mem_range, Prod.mk.injEq]
    constructor
    · rintro ⟨j, ⟨hj, hb⟩, rfl, rfl⟩
      refine ⟨ho, by omega, by omega, by omega, by omega, ?_⟩
      rw [show ((j / 8 : Nat) : Int).toNat = j / 8 from Int.toNat_natCast _, show ((j % 8 : Nat) : Int).toNat = j % 8 from Int.toNat_natCast _]
      exact hb
    · rintro ⟨_, x0, x7, y0, y7, hb⟩
      refine ⟨y.toNat * 8 + x.toNat, ⟨by omega, ?_⟩, by omega, by omega⟩
      rw [show (y.toNat * 8 + x.toNat) / 8 = y.toNat by omega, show (y.toNat * 8 + x.toNat) % 8 = x.toNat by omega]
      exact hb
  · rw [cellsR_not ho]
    simp [ho]
theorem cellsTo_inc (xs : List Int) (k : Nat) : (cellsTo xs k).Pairwise (fun c d => c.2 * 8 + c.1 < d.2 * 8 + d.1) ∧ ∀ c ∈ cellsTo xs k, c.2 * 8 + c.1 < (k : Int) := by
  induction k with
  | zero => simp [cellsTo]
  | succ k ih =>
    cases h : bitB (rowD xs (k / 8)) (k % 8) with
    | false =>
      rw [cellsTo_no h]
      exact ⟨ih.1, fun c hc => by have := ih.2 c hc; omega⟩
    | true =>
      rw [cellsTo_yes h]
      have e : ((k / 8 : Nat) : Int) * 8 + ((k % 8 : Nat) : Int) = (k : Int) := by omega
      refine ⟨?_, ?_⟩
      · rw [List.pairwise_append]
        refine ⟨ih.1, by simp, fun a ha b hb => ?_⟩
        simp only [List.mem_singleton] at hb
        subst hb
        have := ih.2 a ha
        simp only
        omega
      · intro c hc
        rcases List.mem_append.1 hc with hc | hc
        · have := ih.2 c hc; omega
        · simp only [List.mem_singleton] at hc
          subst hc
          simp only
          omega
theorem cells_inc (xs : List Int) : (cellsR xs).Pairwise (fun c d => c.2 * 8 + c.1 < d.2 * 8 + d.1) := by
  unfold cellsR; split
  · exact (cellsTo_inc xs 64).1
  · exact List.Pairwise.nil
theorem cells_nodup (xs : List Int) : (cellsR xs).Nodup := (cells_inc xs).imp fun {a b} h e => by subst e; omega
theorem two_fewer {U : List (Int × Int)} (hn : U.Nodup) {a b : Int × Int} (ha : a ∈ U) (hb : b ∈ U) (hab : a ≠ b) : (U.filter fun c => !(c == a || c == b)).length + 2 = U.length := by
  have e : (U.filter fun c => !(c == a || c == b)) = (U.erase a).erase b := by
    rw [List.Nodup.erase_eq_filter hn, List.Nodup.erase_eq_filter (List.Pairwise.filter _ hn), List.filter_filter]
    congr 1
    funext c
    cases h1 : c == a <;> cases h2 : c == b <;> simp [bne, h1, h2]
  have hb' : b ∈ U.erase a := (List.mem_erase_of_ne hab.symm).2 hb
  have h1 := List.length_erase_of_mem ha
  have h2 := List.length_erase_of_mem hb'
  have h3 : 0 < U.length := List.length_pos_of_mem ha
  have h4 : 0 < (U.erase a).length := List.length_pos_of_mem hb'
  rw [e, h2, h1]
  omega
theorem other_cell {d : Dm} (h : okM d = true) : ((d.1, d.2.1) : Int × Int) ≠ (sx d.1 d.2.2, sy d.2.1 d.2.2) := by
  obtain ⟨x0, x7, y0, y7⟩ := okM_in h
  obtain ⟨x, y, b⟩ := d
  simp only at x0 x7 y0 y7
  intro e
  simp only [Prod.mk.injEq] at e
  obtain ⟨e1, e2⟩ := e
  cases b <;> simp only [sx, sy, Bool.false_eq_true, if_false, if_true] at e1 e2 <;> unfold wrap64 at * <;> omega
theorem anyM_snoc (M : List Dm) (d : Dm) (x y : Int) : anyM (M ++ [d]) x y = (anyM M x y || covM d x y) := by unfold anyM; simp
theorem unc_step {xs : List Int} {M : List Dm} {d : Dm} (h : stepB xs M d = true) : (unc (M ++ [d]) (cellsR xs)).length + 2 = (unc M (cellsR xs)).length := by
  have hd := stepB_ok h
  unfold stepB at h
  simp only [Bool.and_eq_true] at h
  obtain ⟨_, ⟨h1, h2⟩, h3, h4⟩ := h
  have m1 : (d.1, d.2.1) ∈ unc M (cellsR xs) := List.mem_filter.2 ⟨mem_cells.2 h1, h2⟩
  have m2 : (sx d.1 d.2.2, sy d.2.1 d.2.2) ∈ unc M (cellsR xs) := List.mem_filter.2 ⟨mem_cells.2 h3, h4⟩
  have k := two_fewer (U := unc M (cellsR xs)) (List.Pairwise.filter _ (cells_nodup xs)) m1 m2 (other_cell hd)
  rw [← k]
  congr 2
  unfold unc
  rw [List.filter_filter]
  congr 1
  funext c
  rw [anyM_snoc]
  have e : covM d c.1 c.2 = (c == (d.1, d.2.1) || c == (sx d.1 d.2.2, sy d.2.1 d.2.2)) := by
    unfold covM covP
    rw [hd, Bool.true_and, Bool.eq_iff_iff]
    simp only [Bool.or_eq_true, eqB_iff, beq_iff_eq]
    obtain ⟨c1, c2⟩ := c
    simp only [Prod.mk.injEq]
  rw [e, Bool.not_or, Bool.and_comm]
theorem unc_part {xs : List Int} {L : List Dm} (h : partB xs L = true) : (unc L (cellsR xs)).length + 2 * L.length = (cellsR xs).length := by
  obtain ⟨_, h⟩ := part_iff.1 h
  have key : ∀ k, k ≤ L.length → (unc (L.take k) (cellsR xs)).length + 2 * k = (cellsR xs).length := by
    intro k
    induction k with
    | zero => intro _; simp [unc, anyM]
    | succ k ih =>
      intro hk
      have hs := h k (by omega)
      rw [stpAt_of (by omega)] at hs
      have := unc_step hs
      rw [← List.take_succ_eq_append_getElem (by omega)] at this
      have := ih (by omega)
      omega
  have := key L.length (Nat.le_refl _)
  rwa [List.take_length] at this
theorem part_length {xs : List Int} {L : List Dm} (h : partB xs L = true) : 2 * L.length ≤ 64 := by
  have := unc_part h
  have := cellsR_length xs
  omega
def tilB (xs : List Int) (L : List Dm) : Bool := partB xs L && decide ((unc L (cellsR xs)).length = 0)
theorem tilB_count {xs : List Int} {L : List Dm} (h : partB xs L = true) : tilB xs L = decide (2 * L.length = (cellsR xs).length) := by
  have := unc_part h
  unfold tilB
  rw [h, Bool.true_and]
  congr 1
  rw [eq_iff_iff]
  omega
end Go.Proofs.YtmajllgfmclcoaaGreat.Til

namespace Go.Proofs.YtmajllgfmclcoaaGreat.Grd
set_option linter.unusedVariables false
open Go.RowKit Go.Proofs.YtmajllgfmclcoaaGreat.Pure Go.Proofs.YtmajllgfmclcoaaGreat.Cell Go.Proofs.YtmajllgfmclcoaaGreat.Dom Go.Proofs.YtmajllgfmclcoaaGreat.Dms Go.Proofs.YtmajllgfmclcoaaGreat.Til

theorem part_inc {xs : List Int} {L : List Dm} (h : partB xs L = true) : Inc L := by
 obtain ⟨_, h⟩ := part_iff.1 h
 have key : ∀ k, k ≤ L.length → Inc (L.take k) := by
  intro k
  induction k with
  | zero => intro _; simp [Inc]
  | succ k ih =>
   intro hk
   have hs := h k (by omega)
   rw [stpAt_of (by omega)] at hs
   rw [List.take_succ_eq_append_getElem (by omega)]
   have hI := ih (by omega)
   unfold Inc
   rw [List.pairwise_append]
   refine ⟨hI, by simp, fun a ha b hb => ?_⟩
   rw [List.mem_singleton] at hb
   subst hb
   unfold stepB at hs
   simp only [Bool.and_eq_true] at hs
   obtain ⟨hp, _⟩ := hs
   cases hl : (L.take k).getLast? with
   | none => rw [List.getLast?_eq_none_iff] at hl; rw [hl] at ha; simp at ha
   | some p =>
    rw [hl] at hp
    simp only at hp
    obtain ⟨i, hi, e⟩ := List.getElem_of_mem ha
    have hlast : (L.take k)[(L.take k).length - 1]? = some p := by rw [← List.getLast?_eq_getElem?]; exact hl
    have hl1 : (L.take k).length - 1 < (L.take k).length := by omega
    rw [List.getElem?_eq_getElem hl1] at hlast
    injection hlast with hlast
    by_cases hie : i = (L.take k).length - 1
    ·subst hie; rw [← e, hlast]; exact hp
    ·unfold Inc at hI
     rw [List.pairwise_iff_getElem] at hI
     have := hI i ((L.take k).length - 1) hi hl1 (by omega)
     rw [e, hlast] at this
     exact befM_trans this hp
 have := key L.length (Nat.le_refl _)
 rwa [List.take_length] at this
theorem part_valid {xs : List Int} {L : List Dm} (h : partB xs L = true) : ∀ d ∈ L, okM d = true := by
 obtain ⟨_, h⟩ := part_iff.1 h
 intro d hd
 obtain ⟨j, hj, e⟩ := List.getElem_of_mem hd
 have := h j hj
 rw [stpAt_of hj, e] at this
 exact stepB_ok this
theorem part_at {xs : List Int} {L : List Dm} (h : partB xs L = true) {k : Nat} (hk : k < L.length) : atI L L[k].1 L[k].2.1 = (k : Int) ∧ atI L (sx L[k].1 L[k].2.2) (sy L[k].2.1 L[k].2.2) = (k : Int) := by
 have hv := part_valid h L[k] (List.getElem_mem hk)
 obtain ⟨_, h⟩ := part_iff.1 h
 have hs := h k hk
 rw [stpAt_of hk] at hs
 unfold stepB at hs
 simp only [Bool.and_eq_true, Bool.not_eq_true'] at hs
 obtain ⟨_, ⟨_, h1⟩, _, h2⟩ := hs
 have no : ∀ {x y : Int}, anyM (L.take k) x y = false → ∀ j e, j < k → L[j]? = some e → covM e x y = false := by
  intro x y hn j e hj he
  unfold anyM at hn
  rw [List.any_eq_false] at hn
  have := hn e (List.mem_of_getElem? (i := j) (by rw [List.getElem?_take, if_pos hj]; exact he))
  simpa using this
 refine ⟨atI_hit (no h1) (List.getElem?_eq_getElem hk) ?_, atI_hit (no h2) (List.getElem?_eq_getElem hk) ?_⟩
 ·unfold covM covP; rw [hv]; simp [eqB_iff]
 ·unfold covM covP; rw [hv]; simp [eqB_iff]
theorem tilB_part {xs : List Int} {L : List Dm} (h : partB xs L = true) : tilB xs L = decide ((unc L (cellsR xs)).length = 0) := by unfold tilB; rw [h]; rfl
end Go.Proofs.YtmajllgfmclcoaaGreat.Grd

namespace Go.Proofs.YtmajllgfmclcoaaGreat.Cnt
set_option linter.unusedVariables false
set_option linter.unusedSimpArgs false

def sm : Nat → (Nat → Nat) → Nat
 | 0, _ => 0
 | n + 1, f => sm n f + f n
def adj (a b : Nat) : Bool := decide ((b = a + 1 ∧ a % 8 ≠ 7) ∨ b = a + 8 ∨ (a = b + 1 ∧ b % 8 ≠ 7) ∨ a = b + 8)
def rem (g : Nat → Bool) (a b : Nat) : Nat → Bool := fun i => g i && decide (i ≠ a) && decide (i ≠ b)
def T : Nat → Nat → (Nat → Bool) → Nat
 | 0, _, _ => 1
 | n + 1, k, g => if g k = true then sm 64 (fun e => if adj k e = true ∧ g e = true then T n (k + 1) (rem g k e) else 0) else T n (k + 1) g
def cnt : Nat → Nat → (Nat → Bool) → Nat
 | 0, _, _ => 0
 | n + 1, k, g => (if g k = true then 1 else 0) + cnt n (k + 1) g
def P : Nat → Nat → Nat → (Nat → Bool) → Nat
 | _, _, 0, _ => 1
 | 0, _, _ + 1, _ => 0
 | n + 1, k, m + 1, g => P n (k + 1) (m + 1) g + if g k = true then sm 64 (fun e => if adj k e = true ∧ g e = true ∧ k < e then P n (k + 1) m (rem g k e) else 0) else 0
end Go.Proofs.YtmajllgfmclcoaaGreat.Cnt

namespace Go.Proofs.YtmajllgfmclcoaaGreat.Kun
set_option linter.unusedVariables false
set_option linter.unusedSimpArgs false
open Go.Proofs.YtmajllgfmclcoaaGreat.Cnt (adj)

def put {α : Type} (J : Nat → α) (i : Nat) (x : α) : Nat → α := fun k => if k = i then x else J k
end Go.Proofs.YtmajllgfmclcoaaGreat.Kun

namespace Go.Proofs.YtmajllgfmclcoaaGreat.Cnt
set_option linter.unusedVariables false
set_option linter.unusedSimpArgs false

def W (g : Nat → Bool) : Nat → Nat → Nat → Nat
 | 0, _, s => if s = 0 then 1 else 0
 | n + 1, k, s => if g k = true then
   if s.testBit (k % 8) = true then W g n (k + 1) (s - 2 ^ (k % 8))
   else (if g (k + 8) = true then W g n (k + 1) (s + 2 ^ (k % 8)) else 0) + (if k % 8 ≠ 7 ∧ g (k + 1) = true ∧ s.testBit (k % 8 + 1) = false then W g n (k + 1) (s + 2 ^ (k % 8 + 1)) else 0)
  else if s.testBit (k % 8) = true then 0 else W g n (k + 1) s
theorem W_out {g : Nat → Bool} {n k s : Nat} (h : g k = false) (hs : s.testBit (k % 8) = true) : W g (n + 1) k s = 0 := by
 show (if g k = true then _ else _) = _
 rw [if_neg (by rw [h]; simp), if_pos hs]
def G (g : Nat → Bool) (k s : Nat) : Nat → Bool := fun j => g j && decide (k ≤ j) && !(decide (j < k + 8) && s.testBit (j % 8))
end Go.Proofs.YtmajllgfmclcoaaGreat.Cnt

namespace Go.Proofs.YtmajllgfmclcoaaGreat.Cnt
set_option linter.unusedVariables false
set_option linter.unusedSimpArgs false
open Go.RowKit

def D (x y : Int) : Prop := ∃ q : Int, x = y + 18446744073709551616 * q
theorem D.refl (x : Int) : D x x := ⟨0, by omega⟩
theorem D.symm {x y : Int} (h : D x y) : D y x := by obtain ⟨q, h⟩ := h; exact ⟨-q, by omega⟩
theorem D.trans {x y z : Int} (h : D x y) (h' : D y z) : D x z := by
 obtain ⟨q, h⟩ := h; obtain ⟨q', h'⟩ := h'; exact ⟨q + q', by omega⟩
theorem D.wrap {x y : Int} (h : D x y) : wrap64 x = wrap64 y := by
 obtain ⟨q, h⟩ := h; unfold wrap64; omega
def si : Nat → (Nat → Int) → Int
 | 0, _ => 0
 | n + 1, f => si n f + f n
theorem si_zero {n : Nat} {f : Nat → Int} (e : ∀ i, i < n → f i = 0) : si n f = 0 := by
 induction n with
 | zero => rfl
 | succ n ih => unfold si; rw [ih (fun i hi => e i (by omega)), e n (by omega)]; rfl
def upd (b : Nat → Int) (t : Nat) (v : Int) : Nat → Int := fun i => if i = t then v else b i
def sumW (g : Nat → Bool) (n k s : Nat) (a : Nat → Int) : Int := si s (fun i => a i * (W g n k i : Int))
def St (g : Nat → Bool) (n k : Nat) (a b : Nat → Int) (s : Nat) : Prop := D (sumW g (n + 1) k s a) (sumW g n (k + 1) 256 b)
theorem St.start (g : Nat → Bool) (n k : Nat) (a : Nat → Int) : St g n k a (fun _ => 0) 0 := by
 unfold St sumW
 rw [si_zero (n := 256) (fun i _ => by simp)]
 exact D.refl 0
theorem St.skip {g : Nat → Bool} {n k s : Nat} {a b : Nat → Int} (h : St g n k a b s) (e : a s = 0) : St g n k a b (s + 1) := by
 unfold St at h ⊢
 show D (sumW g (n + 1) k s a + a s * _) _
 rw [e, Int.zero_mul, Int.add_zero]; exact h
theorem St.out {g : Nat → Bool} {n k s : Nat} {a b : Nat → Int} (h : St g n k a b s) (hg : g k = false) (hb : s.testBit (k % 8) = true) : St g n k a b (s + 1) := by
 unfold St at h ⊢
 show D (sumW g (n + 1) k s a + a s * (W g (n + 1) k s : Int)) _
 rw [W_out hg hb]; simpa using h
def dn (g : Nat → Bool) (k s : Nat) (v : Int) (b : Nat → Int) : Nat → Int := if g (k + 8) = true then upd b (s + 2 ^ (k % 8)) (wrap64 (b (s + 2 ^ (k % 8)) + v)) else b
def R (C : Nat → Nat) (L : Nat) : Nat → Nat → Nat → (Nat → Bool) → Nat
 | _, _, 0, _ => 1
 | 0, _, _ + 1, _ => 0
 | n + 1, f, m + 1, u => R C L n (f + 1) (m + 1) u + if u f = true then 0 else sm L (fun k => if f < k ∧ u k = false ∧ adj (C f) (C k) = true then R C L n (f + 1) m (fun i => u i || decide (i = k)) else 0)
end Go.Proofs.YtmajllgfmclcoaaGreat.Cnt

namespace Go.Proofs.YtmajllgfmclcoaaGreat.Cnt
set_option linter.unusedVariables false
set_option linter.unusedSimpArgs false
open Go.RowKit Go.Proofs.YtmajllgfmclcoaaGreat.Pure

def gR (xs : List Int) : Nat → Bool := fun j => decide (j < 64) && bitB (rowD xs (j / 8)) (j % 8)
def gq (a b : Nat) : Nat → Bool := fun j => decide (j % 8 < a) && decide (j / 8 < b)
end Go.Proofs.YtmajllgfmclcoaaGreat.Cnt

namespace Go.Proofs.YtmajllgfmclcoaaGreat.Lis
set_option linter.unusedVariables false
set_option linter.unusedSimpArgs false
open Go.RowKit Go.Proofs.YtmajllgfmclcoaaGreat.Dms Go.Proofs.YtmajllgfmclcoaaGreat.Til Go.Proofs.YtmajllgfmclcoaaGreat.Cnt

def dmN (k : Nat) (b : Bool) : Dm := (((k % 8 : Nat) : Int), ((k / 8 : Nat) : Int), b)
def Ls : Nat → Nat → (Nat → Bool) → List (List Dm)
 | 0, _, _ => [[]]
 | n + 1, k, g => if g k = true then (if k % 8 ≠ 7 ∧ g (k + 1) = true then (Ls n (k + 1) (rem g k (k + 1))).map (dmN k false :: ·) else []) ++ (if g (k + 8) = true then (Ls n (k + 1) (rem g k (k + 8))).map (dmN k true :: ·) else []) else Ls n (k + 1) g
def LsG (g : Nat → Bool) : List (List Dm) := Ls 64 0 g
def gM (xs : List Int) (M : List Dm) : Nat → Bool := fun j => gR xs j && !anyM M ((j % 8 : Nat) : Int) ((j / 8 : Nat) : Int)
def oth (k : Nat) (b : Bool) : Nat := if b then k + 8 else k + 1
def cont (xs : List Int) (M : List Dm) : List (List Dm) := (LsG (gM xs M)).map (M ++ ·)
def canB (xs : List Int) (M : List Dm) (c : Nat) (b : Bool) : Bool := (b || decide (c % 8 ≠ 7)) && gM xs M (oth c b)
def one (xs : List Int) (M : List Dm) (c : Nat) (b : Bool) : List (List Dm) := if canB xs M c b = true then cont xs (M ++ [dmN c b]) else []
end Go.Proofs.YtmajllgfmclcoaaGreat.Lis

namespace Go.Proofs.YtmajllgfmclcoaaGreat.Flp
set_option linter.unusedVariables false
set_option linter.unusedSimpArgs false
open Go.RowKit Go.Proofs.YtmajllgfmclcoaaGreat.Pure Go.Proofs.YtmajllgfmclcoaaGreat.Cell Go.Proofs.YtmajllgfmclcoaaGreat.Dom Go.Proofs.YtmajllgfmclcoaaGreat.Dms Go.Proofs.YtmajllgfmclcoaaGreat.Til Go.Proofs.YtmajllgfmclcoaaGreat.Grd Go.Joins

def pr1 (x y : Int) (b : Bool) : Dm := (x, y, b)
def pr2 (x y : Int) (b : Bool) : Dm := if b then (x + 1, y, true) else (x, y + 1, false)
def has2 (L : List Dm) (x y : Int) (b : Bool) : Bool := decide (pr1 x y b ∈ L) && decide (pr2 x y b ∈ L)
theorem has2_iff {L : List Dm} {x y : Int} {b : Bool} : has2 L x y b = true ↔ pr1 x y b ∈ L ∧ pr2 x y b ∈ L := by
 unfold has2; rw [Bool.and_eq_true, decide_eq_true_eq, decide_eq_true_eq]
def Dj (L : List Dm) : Prop := ∀ d ∈ L, ∀ e ∈ L, ∀ x y, covM d x y = true → covM e x y = true → d = e
theorem cov_two {d : Dm} {x y : Int} (h : covM d x y = true) : okM d = true ∧ ((x = d.1 ∧ y = d.2.1) ∨ (x = sx d.1 d.2.2 ∧ y = sy d.2.1 d.2.2)) := by
 unfold covM covP at h
 rw [Bool.and_eq_true, Bool.or_eq_true, eqB_iff, eqB_iff] at h
 exact h
theorem cov_of {d : Dm} {x y : Int} (h0 : okM d = true) (h : (x = d.1 ∧ y = d.2.1) ∨ (x = sx d.1 d.2.2 ∧ y = sy d.2.1 d.2.2)) : covM d x y = true := by
 unfold covM covP
 rw [Bool.and_eq_true, Bool.or_eq_true, eqB_iff, eqB_iff]
 exact ⟨h0, h⟩
theorem part_dj {xs : List Int} {L : List Dm} (h : partB xs L = true) : Dj L := by
 have key : ∀ k (hk : k < L.length) x y, covM L[k] x y = true → atI L x y = (k : Int) := fun k hk x y hc => by
  obtain ⟨h1, h2⟩ := part_at h hk
  rcases (cov_two hc).2 with ⟨rfl, rfl⟩ | ⟨rfl, rfl⟩
  ·exact h1
  ·exact h2
 intro d hd e he x y hc1 hc2
 obtain ⟨i, hi, rfl⟩ := List.getElem_of_mem hd
 obtain ⟨j, hj, rfl⟩ := List.getElem_of_mem he
 have h1 := key i hi x y hc1
 have h2 := key j hj x y hc2
 have : i = j := by omega
 subst this; rfl
theorem part_in {xs : List Int} {L : List Dm} (h : partB xs L = true) {d : Dm} (hd : d ∈ L) {x y : Int} (hc : covM d x y = true) : hasB xs x y = true := by
 obtain ⟨k, hk, rfl⟩ := List.getElem_of_mem hd
 have hs := (part_iff.1 h).2 k hk
 rw [stpAt_of hk] at hs
 unfold stepB at hs
 simp only [Bool.and_eq_true] at hs
 obtain ⟨_, ⟨h1, _⟩, h2, _⟩ := hs
 rcases (cov_two hc).2 with ⟨rfl, rfl⟩ | ⟨rfl, rfl⟩
 ·exact h1
 ·exact h2
end Go.Proofs.YtmajllgfmclcoaaGreat.Flp
