/- TilP, GrdP, CntP, Kun in one text. -/
import Derived.Test.YtjfagpmklifjlaaMg01
import Derived.Test.YtjfagpmklifjlaaMg02

namespace Go.Proofs.Ytjfagpmklifjlaa.Til
set_option linter.unusedVariables false
set_option linter.unusedSimpArgs false
open Go.RowKit Go.Proofs.Ytjfagpmklifjlaa.Pure Go.Proofs.Ytjfagpmklifjlaa.Cell Go.Proofs.Ytjfagpmklifjlaa.Dom Go.Proofs.Ytjfagpmklifjlaa.Dms

def okM (d : Dm) : Bool := domB d.1 d.2.1 d.2.2
def covP (d : Dm) (x y : Int) : Bool := eqB x y d.1 d.2.1 || eqB x y (sx d.1 d.2.2) (sy d.2.1 d.2.2)
def covM (d : Dm) (x y : Int) : Bool := okM d && covP d x y
def anyM (L : List Dm) (x y : Int) : Bool := L.any fun d => covM d x y
def atN : List Dm → Int → Int → Option Nat
  | [], _, _ => none
  | d :: L, x, y => if covM d x y then some 0 else (atN L x y).map (· + 1)
def atI (L : List Dm) (x y : Int) : Int := match atN L x y with
  | some j => (j : Int)
  | none => -1
theorem atN_hit {L : List Dm} {x y : Int} : ∀ {k : Nat} {d : Dm}, (∀ j e, j < k → L[j]? = some e → covM e x y = false) → L[k]? = some d → covM d x y = true → atN L x y = some k := by
  induction L with
  | nil => intro k d _ h; simp at h
  | cons a L ih =>
    intro k d h1 h2 h3
    unfold atN
    cases k with
    | zero => simp at h2; subst h2; rw [if_pos h3]
    | succ k =>
      rw [if_neg (by rw [h1 0 a (by omega) rfl]; simp), ih (k := k) (d := d) (fun j e hj he => h1 (j + 1) e (by omega) (by simpa using he)) (by simpa using h2) h3]
      rfl
theorem atN_none {L : List Dm} {x y : Int} : atN L x y = none ↔ anyM L x y = false := by
  induction L with
  | nil => simp [atN, anyM]
  | cons a L ih =>
    unfold atN
    cases h : covM a x y with
    | true => simp [anyM, h]
    | false => simpa [anyM, h] using ih
theorem atI_hit {L : List Dm} {x y : Int} {k : Nat} {d : Dm} (h1 : ∀ j e, j < k → L[j]? = some e → covM e x y = false) (h2 : L[k]? = some d) (h3 : covM d x y = true) : atI L x y = (k : Int) := by
  unfold atI; rw [atN_hit h1 h2 h3]
theorem atI_miss {L : List Dm} {x y : Int} (h : ∀ j e, j < L.length → L[j]? = some e → covM e x y = false) : atI L x y = -1 := by
  have : anyM L x y = false := by
    unfold anyM
    rw [List.any_eq_false]
    intro d hd
    obtain ⟨j, hj⟩ := List.getElem?_of_mem hd
    rw [h j d (List.getElem?_eq_some_iff.1 hj).1 hj]; simp
  unfold atI; rw [atN_none.2 this]
theorem atI_neg {L : List Dm} {x y : Int} : decide (atI L x y < 0) = !anyM L x y := by
  unfold atI
  cases h : anyM L x y with
  | false => rw [atN_none.2 h]; rfl
  | true =>
    cases hn : atN L x y with
    | none => rw [atN_none] at hn; rw [hn] at h; cases h
    | some j => simp
def unc (L : List Dm) (C : List (Int × Int)) : List (Int × Int) := C.filter fun c => !anyM L c.1 c.2
theorem unc_yes {L : List Dm} {C : List (Int × Int)} {k : Nat} (hk : k < C.length) (h : anyM L C[k].1 C[k].2 = false) : unc L (C.take (k + 1)) = unc L (C.take k) ++ [C[k]] := by
  unfold unc; rw [List.take_succ_eq_append_getElem hk, List.filter_append]; simp [h]
theorem unc_no {L : List Dm} {C : List (Int × Int)} {k : Nat} (hk : k < C.length) (h : anyM L C[k].1 C[k].2 = true) : unc L (C.take (k + 1)) = unc L (C.take k) := by
  unfold unc; rw [List.take_succ_eq_append_getElem hk, List.filter_append]; simp [h]
theorem unc_length (L : List Dm) (C : List (Int × Int)) : (unc L C).length ≤ C.length := List.length_filter_le _ _

theorem tbef_self (x y : Int) (b : Bool) : befB x y b x y b = false := by
  unfold befB
  rw [show befP x y b x y b = false by rw [Bool.eq_false_iff, Ne, befP_iff]; rintro (h | ⟨_, h1, h2⟩); · omega
                                       · rw [h1] at h2; cases h2]
  simp
theorem tbef_ne {x y : Int} {b : Bool} {u v : Int} {c : Bool} (h1 : domB x y b = true) (h2 : domB u v c = true) (hne : ¬ (x = u ∧ y = v ∧ b = c)) : befB u v c x y b = !befB x y b u v c := by
  have o1 := dom_ok h1
  have o2 := dom_ok h2
  obtain ⟨x0, x7, y0, y7⟩ := o1
  obtain ⟨u0, u7, v0, v7⟩ := o2
  unfold befB
  rw [h1, h2]
  simp only [Bool.true_and]
  have hk : befP x y b u v c = false ↔ ¬ (y * 8 + x < v * 8 + u ∨ (y * 8 + x = v * 8 + u ∧ b = false ∧ c = true)) := by rw [← befP_iff]; simp
  rw [Bool.eq_iff_iff, befP_iff, Bool.not_eq_true', hk]
  cases b <;> cases c <;> simp <;> simp at hne <;> omega
def befM (d e : Dm) : Bool := befB d.1 d.2.1 d.2.2 e.1 e.2.1 e.2.2
theorem befM_iff {d e : Dm} : befM d e = true ↔ okM d = true ∧ okM e = true ∧ (d.2.1 * 8 + d.1 < e.2.1 * 8 + e.1 ∨ (d.2.1 * 8 + d.1 = e.2.1 * 8 + e.1 ∧ d.2.2 = false ∧ e.2.2 = true)) := by
  unfold befM befB okM
  rw [Bool.and_eq_true, Bool.and_eq_true, befP_iff, and_assoc]
theorem okM_in {d : Dm} (h : okM d = true) : 0 ≤ d.1 ∧ d.1 ≤ 7 ∧ 0 ≤ d.2.1 ∧ d.2.1 ≤ 7 := by
  have := dom_ok h
  exact this
theorem dm_ext {d e : Dm} (h1 : d.1 = e.1) (h2 : d.2.1 = e.2.1) (h3 : d.2.2 = e.2.2) : d = e := by
  obtain ⟨a, b, c⟩ := d; obtain ⟨a', b', c'⟩ := e; simp only at h1 h2 h3; rw [h1, h2, h3]
theorem befM_irrefl (d : Dm) : befM d d = false := tbef_self _ _ _
theorem befM_trans {a b c : Dm} (h1 : befM a b = true) (h2 : befM b c = true) : befM a c = true := by
  rw [befM_iff] at *
  obtain ⟨p1, p2, p3⟩ := h1
  obtain ⟨q1, q2, q3⟩ := h2
  refine ⟨p1, q2, ?_⟩
  rcases p3 with p | ⟨p, p', p''⟩ <;> rcases q3 with q | ⟨q, q', q''⟩
  · left; omega
  · left; omega
  · left; omega
  · right; exact ⟨by omega, p', q''⟩
theorem befM_total {a b : Dm} (h1 : okM a = true) (h2 : okM b = true) (hne : a ≠ b) : befM b a = !befM a b := by
  refine tbef_ne h1 h2 ?_
  rintro ⟨e1, e2, e3⟩
  exact hne (dm_ext e1 e2 e3)
theorem befM_same {a b : Dm} (h1 : okM a = true) (h2 : okM b = true) (h3 : befM a b = false) (h4 : befM b a = false) : a = b := by
  by_cases e : a = b
  · exact e
  · rw [befM_total h1 h2 e, h3] at h4; cases h4
theorem befM_asymm {a b : Dm} (h : befM a b = true) : befM b a = false := by
  cases h2 : befM b a with
  | false => rfl
  | true =>
    have := befM_trans h h2
    rw [befM_irrefl] at this; cases this

theorem uniq {A : List Dm} : ∀ {B : List Dm}, A.Pairwise (fun a b => befM a b = true) → B.Pairwise (fun a b => befM a b = true) → (∀ d, d ∈ A ↔ d ∈ B) → A = B := by
  induction A with
  | nil =>
    intro B _ _ h
    cases B with
    | nil => rfl
    | cons b B => have := (h b).2 (by simp); simp at this
  | cons a A ih =>
    intro B hA hB h
    cases B with
    | nil => have := (h a).1 (by simp); simp at this
    | cons b B =>
      obtain ⟨a1, a2⟩ := List.pairwise_cons.1 hA
      obtain ⟨b1, b2⟩ := List.pairwise_cons.1 hB
      have hab : a = b := by
        have m1 := (h a).1 (by simp)
        have m2 := (h b).2 (by simp)
        rcases List.mem_cons.1 m1 with e | m1
        · exact e
        · rcases List.mem_cons.1 m2 with e | m2
          · exact e.symm
          · have := befM_asymm (a1 b m2)
            rw [b1 a m1] at this; cases this
      subst hab
      congr 1
      refine ih a2 b2 (fun d => ?_)
      have hd := h d
      simp only [List.mem_cons] at hd
      constructor
      · intro m
        rcases hd.1 (.inr m) with e | m'
        · subst e; have := a1 d m; rw [befM_irrefl] at this; cases this
        · exact m'
      · intro m
        rcases hd.2 (.inr m) with e | m'
        · subst e; have := b1 d m; rw [befM_irrefl] at this; cases this
        · exact m'

def cut (M : List Dm) (d : Dm) : Nat := (M.takeWhile fun e => befM e d).length
theorem cut_before {M : List Dm} {d : Dm} : ∀ {j : Nat} {e : Dm}, j < cut M d → M[j]? = some e → befM e d = true := by
  induction M with
  | nil => intro j e hj; simp [cut] at hj
  | cons a M ih =>
    intro j e hj he
    unfold cut at hj
    by_cases h : befM a d = true
    · rw [List.takeWhile_cons, if_pos h, List.length_cons] at hj
      cases j with
      | zero => simp at he; subst he; exact h
      | succ j => exact ih (j := j) (by unfold cut; omega) (by simpa using he)
    · rw [List.takeWhile_cons, if_neg h] at hj; simp at hj
theorem cut_at {M : List Dm} {d e : Dm} : M[cut M d]? = some e → befM e d = false := by
  induction M with
  | nil => intro h; simp at h
  | cons a M ih =>
    intro he
    by_cases h : befM a d = true
    · have e1 : cut (a :: M) d = cut M d + 1 := by unfold cut; rw [List.takeWhile_cons, if_pos h, List.length_cons]
      rw [e1] at he
      exact ih (by simpa using he)
    · have e1 : cut (a :: M) d = 0 := by unfold cut; rw [List.takeWhile_cons, if_neg h]; rfl
      rw [e1] at he
      simp at he; subst he; simpa using h
def ins (M : List Dm) (d : Dm) : List Dm := if okM d = false ∨ M[cut M d]? = some d then M else M.take (cut M d) ++ d :: M.drop (cut M d)
def sortM (L : List Dm) : List Dm := L.foldl ins []
def Inc (M : List Dm) : Prop := M.Pairwise (fun a b => befM a b = true)
theorem ins_good {M : List Dm} {d : Dm} (h : Inc M) (hv : ∀ e ∈ M, okM e = true) : Inc (ins M d) ∧ ∀ e, e ∈ ins M d ↔ e ∈ M ∨ (e = d ∧ okM d = true) := by
  unfold ins
  by_cases h1 : okM d = false
  · rw [if_pos (.inl h1)]
    exact ⟨h, fun e => by simp [h1]⟩
  · have hd : okM d = true := by simpa using h1
    by_cases h2 : M[cut M d]? = some d
    · rw [if_pos (.inr h2)]
      refine ⟨h, fun e => ⟨.inl, ?_⟩⟩
      rintro (h | ⟨rfl, _⟩)
      · exact h
      · exact List.mem_of_getElem? h2
    · rw [if_neg (by rintro (h | h); · exact h1 h
                     · exact h2 h)]
      have hsplit : M.take (cut M d) ++ M.drop (cut M d) = M := List.take_append_drop _ _
      have hpre : ∀ e ∈ M.take (cut M d), befM e d = true := by
        intro e he
        obtain ⟨j, hj⟩ := List.getElem?_of_mem he
        rw [List.getElem?_take] at hj
        by_cases hlt : j < cut M d
        · rw [if_pos hlt] at hj; exact cut_before hlt hj
        · rw [if_neg hlt] at hj; cases hj
      have hInc := h
      unfold Inc at h
      rw [← hsplit, List.pairwise_append] at h
      obtain ⟨p1, p2, p3⟩ := h
      have hpost : ∀ e ∈ M.drop (cut M d), befM d e = true := by
        have hk := fun e => cut_at (M := M) (d := d) (e := e)
        cases hD : M.drop (cut M d) with
        | nil => intro e he; simp at he
        | cons a D =>
          have ha : M[cut M d]? = some a := by
            have := List.getElem?_drop (xs := M) (i := cut M d) (j := 0)
            rw [hD] at this; simpa using this.symm
          have hka := hk a ha
          have hne : a ≠ d := by rintro rfl; exact h2 ha
          have hda : befM d a = true := by
            rw [befM_total (hv a (List.mem_of_getElem? ha)) hd hne, hka]; rfl
          rw [hD] at p2
          intro e he
          rcases List.mem_cons.1 he with rfl | he
          · exact hda
          · exact befM_trans hda ((List.pairwise_cons.1 p2).1 e he)
      refine ⟨?_, fun e => ?_⟩
      · unfold Inc
        rw [List.pairwise_append]
        refine ⟨p1, List.pairwise_cons.2 ⟨hpost, p2⟩, fun a ha b hb => ?_⟩
        rcases List.mem_cons.1 hb with rfl | hb
        · exact hpre a ha
        · exact p3 a ha b hb
      · have : e ∈ M ↔ e ∈ M.take (cut M d) ∨ e ∈ M.drop (cut M d) := by rw [← List.mem_append, hsplit]
        rw [this, List.mem_append, List.mem_cons]
        simp only [hd, and_true]
        constructor
        · rintro (h | h | h)
          · exact .inl (.inl h)
          · exact .inr h
          · exact .inl (.inr h)
        · rintro ((h | h) | h)
          · exact .inl h
          · exact .inr (.inr h)
          · exact .inr (.inl h)
theorem foldl_good (L : List Dm) : ∀ M : List Dm, Inc M → (∀ e ∈ M, okM e = true) → Inc (L.foldl ins M) ∧ ∀ e, e ∈ L.foldl ins M ↔ e ∈ M ∨ (e ∈ L ∧ okM e = true) := by
  induction L with
  | nil => intro M h hv; exact ⟨h, fun e => by simp⟩
  | cons d L ih =>
    intro M h hv
    obtain ⟨g1, g2⟩ := ins_good (d := d) h hv
    obtain ⟨f1, f2⟩ := ih (ins M d) g1 (fun e he => by
      rcases (g2 e).1 he with he | ⟨rfl, hd⟩
      · exact hv e he
      · exact hd)
    refine ⟨f1, fun e => ?_⟩
    rw [List.foldl_cons, f2, g2, List.mem_cons]
    constructor
    · rintro ((h | ⟨rfl, h⟩) | ⟨h, h'⟩)
      · exact .inl h
      · exact .inr ⟨.inl rfl, h⟩
      · exact .inr ⟨.inr h, h'⟩
    · rintro (h | ⟨rfl | h, h'⟩)
      · exact .inl (.inl h)
      · exact .inl (.inr ⟨rfl, h'⟩)
      · exact .inr ⟨h, h'⟩
theorem sortM_good (L : List Dm) : Inc (sortM L) ∧ ∀ e, e ∈ sortM L ↔ e ∈ L ∧ okM e = true := by
  obtain ⟨a, b⟩ := foldl_good L [] List.Pairwise.nil (by simp)
  exact ⟨a, fun e => by rw [show sortM L = L.foldl ins [] from rfl, b]; simp⟩
theorem sortM_of {L M : List Dm} (h : Inc M) (hm : ∀ e, e ∈ M ↔ e ∈ L ∧ okM e = true) : sortM L = M :=
  uniq (sortM_good L).1 h fun d => by rw [(sortM_good L).2, hm]
def stepB (xs : List Int) (M : List Dm) (d : Dm) : Bool :=
  (match M.getLast? with | none => true | some p => befM p d) && ((hasB xs d.1 d.2.1 && !anyM M d.1 d.2.1) && (hasB xs (sx d.1 d.2.2) (sy d.2.1 d.2.2) && !anyM M (sx d.1 d.2.2) (sy d.2.1 d.2.2)))
def stpAt (xs : List Int) (L : List Dm) (k : Nat) : Bool := stepB xs (L.take k) (L.getD k (0, 0, false))
def partB (xs : List Int) (L : List Dm) : Bool := okRB xs && (List.range L.length).all (stpAt xs L)
theorem stpAt_of {xs : List Int} {L : List Dm} {k : Nat} (hk : k < L.length) : stpAt xs L k = stepB xs (L.take k) L[k] := by
  unfold stpAt; simp [List.getD, List.getElem?_eq_getElem hk]
theorem part_yes {xs : List Int} {L : List Dm} (h : okRB xs = true) (hs : ∀ k, k < L.length → stpAt xs L k = true) : partB xs L = true := by
  unfold partB; rw [h, Bool.true_and, List.all_eq_true]; intro k hk; exact hs k (List.mem_range.1 hk)
theorem part_iff {xs : List Int} {L : List Dm} : partB xs L = true ↔ okRB xs = true ∧ ∀ k, k < L.length → stpAt xs L k = true := by
  unfold partB; rw [Bool.and_eq_true, List.all_eq_true]
  exact ⟨fun h => ⟨h.1, fun k hk => h.2 k (List.mem_range.2 hk)⟩, fun h => ⟨h.1, fun k hk => h.2 k (List.mem_range.1 hk)⟩⟩
theorem hasB_ok {xs : List Int} {x y : Int} (h : hasB xs x y = true) : okB x y = true := by
  rw [hasB_iff] at h; rw [okB_iff]; exact ⟨h.2.1, h.2.2.1, h.2.2.2.1, h.2.2.2.2.1⟩
theorem stepB_ok {xs : List Int} {M : List Dm} {d : Dm} (h : stepB xs M d = true) : okM d = true := by
  unfold stepB at h
  simp only [Bool.and_eq_true] at h
  obtain ⟨_, ⟨h1, _⟩, h2, _⟩ := h
  unfold okM domB
  rw [hasB_ok h1, hasB_ok h2]; rfl
theorem mem_cells {xs : List Int} {x y : Int} : (x, y) ∈ cellsR xs ↔ hasB xs x y = true := by
  rw [hasB_iff]
  by_cases ho : okR xs
  · rw [cellsR_ok ho]
    unfold cellsTo
    simp only [List.mem_map, List.mem_filter, List.mem_range, Prod.mk.injEq]
    constructor
    · rintro ⟨j, ⟨hj, hb⟩, rfl, rfl⟩
      refine ⟨ho, by omega, by omega, by omega, by omega, ?_⟩
      rw [show ((j / 8 : Nat) : Int).toNat = j / 8 from Int.toNat_natCast _, show ((j % 8 : Nat) : Int).toNat = j % 8 from Int.toNat_natCast _]
      exact hb
    · rintro ⟨_, x0, x7, y0, y7, hb⟩
      refine ⟨y.toNat * 8 + x.toNat, ⟨by omega, ?_⟩, by omega, by omega⟩
      rw [show (y.toNat * 8 + x.toNat) / 8 = y.toNat by omega, show (y.toNat * 8 + x.toNat) % 8 = x.toNat by omega]
      exact hb
  · rw [cellsR_not ho]
    simp [ho]
theorem cellsTo_inc (xs : List Int) (k : Nat) : (cellsTo xs k).Pairwise (fun c d => c.2 * 8 + c.1 < d.2 * 8 + d.1) ∧ ∀ c ∈ cellsTo xs k, c.2 * 8 + c.1 < (k : Int) := by
  induction k with
  | zero => simp [cellsTo]
  | succ k ih =>
    cases h : bitB (rowD xs (k / 8)) (k % 8) with
    | false =>
      rw [cellsTo_no h]
      exact ⟨ih.1, fun c hc => by have := ih.2 c hc; omega⟩
    | true =>
      rw [cellsTo_yes h]
      have e : ((k / 8 : Nat) : Int) * 8 + ((k % 8 : Nat) : Int) = (k : Int) := by omega
      refine ⟨?_, ?_⟩
      · rw [List.pairwise_append]
        refine ⟨ih.1, by simp, fun a ha b hb => ?_⟩
        simp only [List.mem_singleton] at hb
        subst hb
        have := ih.2 a ha
        simp only
        omega
      · intro c hc
        rcases List.mem_append.1 hc with hc | hc
        · have := ih.2 c hc; omega
        · simp only [List.mem_singleton] at hc
          subst hc
          simp only
          omega
theorem cells_inc (xs : List Int) : (cellsR xs).Pairwise (fun c d => c.2 * 8 + c.1 < d.2 * 8 + d.1) := by
  unfold cellsR; split
  · exact (cellsTo_inc xs 64).1
  · exact List.Pairwise.nil
theorem cells_nodup (xs : List Int) : (cellsR xs).Nodup := (cells_inc xs).imp fun {a b} h e => by subst e; omega
theorem two_fewer {U : List (Int × Int)} (hn : U.Nodup) {a b : Int × Int} (ha : a ∈ U) (hb : b ∈ U) (hab : a ≠ b) : (U.filter fun c => !(c == a || c == b)).length + 2 = U.length := by
  have e : (U.filter fun c => !(c == a || c == b)) = (U.erase a).erase b := by
    rw [List.Nodup.erase_eq_filter hn, List.Nodup.erase_eq_filter (List.Pairwise.filter _ hn), List.filter_filter]
    congr 1
    funext c
    cases h1 : c == a <;> cases h2 : c == b <;> simp [bne, h1, h2]
  have hb' : b ∈ U.erase a := (List.mem_erase_of_ne hab.symm).2 hb
  have h1 := List.length_erase_of_mem ha
  have h2 := List.length_erase_of_mem hb'
  have h3 : 0 < U.length := List.length_pos_of_mem ha
  have h4 : 0 < (U.erase a).length := List.length_pos_of_mem hb'
  rw [e, h2, h1]
  omega
theorem other_cell {d : Dm} (h : okM d = true) : ((d.1, d.2.1) : Int × Int) ≠ (sx d.1 d.2.2, sy d.2.1 d.2.2) := by
  obtain ⟨x0, x7, y0, y7⟩ := okM_in h
  obtain ⟨x, y, b⟩ := d
  simp only at x0 x7 y0 y7
  intro e
  simp only [Prod.mk.injEq] at e
  obtain ⟨e1, e2⟩ := e
  cases b <;> simp only [sx, sy, Bool.false_eq_true, if_false, if_true] at e1 e2 <;> unfold wrap64 at * <;> omega
theorem anyM_snoc (M : List Dm) (d : Dm) (x y : Int) : anyM (M ++ [d]) x y = (anyM M x y || covM d x y) := by unfold anyM; simp
theorem unc_step {xs : List Int} {M : List Dm} {d : Dm} (h : stepB xs M d = true) : (unc (M ++ [d]) (cellsR xs)).length + 2 = (unc M (cellsR xs)).length := by
  have hd := stepB_ok h
  unfold stepB at h
  simp only [Bool.and_eq_true] at h
  obtain ⟨_, ⟨h1, h2⟩, h3, h4⟩ := h
  have m1 : (d.1, d.2.1) ∈ unc M (cellsR xs) := List.mem_filter.2 ⟨mem_cells.2 h1, h2⟩
  have m2 : (sx d.1 d.2.2, sy d.2.1 d.2.2) ∈ unc M (cellsR xs) := List.mem_filter.2 ⟨mem_cells.2 h3, h4⟩
  have k := two_fewer (U := unc M (cellsR xs)) (List.Pairwise.filter _ (cells_nodup xs)) m1 m2 (other_cell hd)
  rw [← k]
  congr 2
  unfold unc
  rw [List.filter_filter]
  congr 1
  funext c
  rw [anyM_snoc]
  have e : covM d c.1 c.2 = (c == (d.1, d.2.1) || c == (sx d.1 d.2.2, sy d.2.1 d.2.2)) := by
    unfold covM covP
    rw [hd, Bool.true_and, Bool.eq_iff_iff]
    simp only [Bool.or_eq_true, eqB_iff, beq_iff_eq]
    obtain ⟨c1, c2⟩ := c
    simp only [Prod.mk.injEq]
  rw [e, Bool.not_or, Bool.and_comm]
theorem unc_part {xs : List Int} {L : List Dm} (h : partB xs L = true) : (unc L (cellsR xs)).length + 2 * L.length = (cellsR xs).length := by
  obtain ⟨_, h⟩ := part_iff.1 h
  have key : ∀ k, k ≤ L.length → (unc (L.take k) (cellsR xs)).length + 2 * k = (cellsR xs).length := by
    intro k
    induction k with
    | zero => intro _; simp [unc, anyM]
    | succ k ih =>
      intro hk
      have hs := h k (by omega)
      rw [stpAt_of (by omega)] at hs
      have := unc_step hs
      rw [← List.take_succ_eq_append_getElem (by omega)] at this
      have := ih (by omega)
      omega
  have := key L.length (Nat.le_refl _)
  rwa [List.take_length] at this
theorem part_length {xs : List Int} {L : List Dm} (h : partB xs L = true) : 2 * L.length ≤ 64 := by
  have := unc_part h
  have := cellsR_length xs
  omega
def tilB (xs : List Int) (L : List Dm) : Bool := partB xs L && decide ((unc L (cellsR xs)).length = 0)
theorem tilB_count {xs : List Int} {L : List Dm} (h : partB xs L = true) : tilB xs L = decide (2 * L.length = (cellsR xs).length) := by
  have := unc_part h
  unfold tilB
  rw [h, Bool.true_and]
  congr 1
  rw [eq_iff_iff]
  omega
end Go.Proofs.Ytjfagpmklifjlaa.Til

namespace Go.Proofs.Ytjfagpmklifjlaa.Grd
set_option linter.unusedVariables false
open Go.RowKit Go.Proofs.Ytjfagpmklifjlaa.Pure Go.Proofs.Ytjfagpmklifjlaa.Cell Go.Proofs.Ytjfagpmklifjlaa.Dom Go.Proofs.Ytjfagpmklifjlaa.Dms Go.Proofs.Ytjfagpmklifjlaa.Til

theorem stp_app {xs : List Int} {M N : List Dm} {j : Nat} (hj : j < M.length) : stpAt xs (M ++ N) j = stpAt xs M j := by
 rw [stpAt_of (by rw [List.length_append]; omega), stpAt_of hj, List.take_append_of_le_length (by omega), List.getElem_append_left hj]
theorem stp_last {xs : List Int} {M : List Dm} {d : Dm} : stpAt xs (M ++ [d]) M.length = stepB xs M d := by
 rw [stpAt_of (by simp), List.take_left]
 congr 1
 simp
theorem part_inc {xs : List Int} {L : List Dm} (h : partB xs L = true) : Inc L := by
 obtain ⟨_, h⟩ := part_iff.1 h
 have key : ∀ k, k ≤ L.length → Inc (L.take k) := by
  intro k
  induction k with
  | zero => intro _; simp [Inc]
  | succ k ih =>
   intro hk
   have hs := h k (by omega)
   rw [stpAt_of (by omega)] at hs
   rw [List.take_succ_eq_append_getElem (by omega)]
   have hI := ih (by omega)
   unfold Inc
   rw [List.pairwise_append]
   refine ⟨hI, by simp, fun a ha b hb => ?_⟩
   rw [List.mem_singleton] at hb
   subst hb
   unfold stepB at hs
   simp only [Bool.and_eq_true] at hs
   obtain ⟨hp, _⟩ := hs
   cases hl : (L.take k).getLast? with
   | none => rw [List.getLast?_eq_none_iff] at hl; rw [hl] at ha; simp at ha
   | some p =>
    rw [hl] at hp
    simp only at hp
    obtain ⟨i, hi, e⟩ := List.getElem_of_mem ha
    have hlast : (L.take k)[(L.take k).length - 1]? = some p := by rw [← List.getLast?_eq_getElem?]; exact hl
    have hl1 : (L.take k).length - 1 < (L.take k).length := by omega
    rw [List.getElem?_eq_getElem hl1] at hlast
    injection hlast with hlast
    by_cases hie : i = (L.take k).length - 1
    ·subst hie; rw [← e, hlast]; exact hp
    ·unfold Inc at hI
     rw [List.pairwise_iff_getElem] at hI
     have := hI i ((L.take k).length - 1) hi hl1 (by omega)
     rw [e, hlast] at this
     exact befM_trans this hp
 have := key L.length (Nat.le_refl _)
 rwa [List.take_length] at this
theorem part_valid {xs : List Int} {L : List Dm} (h : partB xs L = true) : ∀ d ∈ L, okM d = true := by
 obtain ⟨_, h⟩ := part_iff.1 h
 intro d hd
 obtain ⟨j, hj, e⟩ := List.getElem_of_mem hd
 have := h j hj
 rw [stpAt_of hj, e] at this
 exact stepB_ok this
theorem part_at {xs : List Int} {L : List Dm} (h : partB xs L = true) {k : Nat} (hk : k < L.length) : atI L L[k].1 L[k].2.1 = (k : Int) ∧ atI L (sx L[k].1 L[k].2.2) (sy L[k].2.1 L[k].2.2) = (k : Int) := by
 have hv := part_valid h L[k] (List.getElem_mem hk)
 obtain ⟨_, h⟩ := part_iff.1 h
 have hs := h k hk
 rw [stpAt_of hk] at hs
 unfold stepB at hs
 simp only [Bool.and_eq_true, Bool.not_eq_true'] at hs
 obtain ⟨_, ⟨_, h1⟩, _, h2⟩ := hs
 have no : ∀ {x y : Int}, anyM (L.take k) x y = false → ∀ j e, j < k → L[j]? = some e → covM e x y = false := by
  intro x y hn j e hj he
  unfold anyM at hn
  rw [List.any_eq_false] at hn
  have := hn e (List.mem_of_getElem? (i := j) (by rw [List.getElem?_take, if_pos hj]; exact he))
  simpa using this
 refine ⟨atI_hit (no h1) (List.getElem?_eq_getElem hk) ?_, atI_hit (no h2) (List.getElem?_eq_getElem hk) ?_⟩
 ·unfold covM covP; rw [hv]; simp [eqB_iff]
 ·unfold covM covP; rw [hv]; simp [eqB_iff]
theorem tilB_part {xs : List Int} {L : List Dm} (h : partB xs L = true) : tilB xs L = decide ((unc L (cellsR xs)).length = 0) := by unfold tilB; rw [h]; rfl
end Go.Proofs.Ytjfagpmklifjlaa.Grd

namespace Go.Proofs.Ytjfagpmklifjlaa.Cnt
set_option linter.unusedVariables false
set_option linter.unusedSimpArgs false

def sm : Nat → (Nat → Nat) → Nat
 | 0, _ => 0
 | n + 1, f => sm n f + f n
theorem sm_congr {n : Nat} {f h : Nat → Nat} (e : ∀ i, i < n → f i = h i) : sm n f = sm n h := by
 induction n with
 | zero => rfl
 | succ n ih => unfold sm; rw [ih (fun i hi => e i (by omega)), e n (by omega)]
theorem sm_zero {n : Nat} {f : Nat → Nat} (e : ∀ i, i < n → f i = 0) : sm n f = 0 := by
 induction n with
 | zero => rfl
 | succ n ih => unfold sm; rw [ih (fun i hi => e i (by omega)), e n (by omega)]
theorem sm_add {n : Nat} {f h : Nat → Nat} : sm n (fun i => f i + h i) = sm n f + sm n h := by
 induction n with
 | zero => rfl
 | succ n ih =>
  show sm n (fun i => f i + h i) + (f n + h n) = (sm n f + f n) + (sm n h + h n)
  rw [ih]; omega
theorem sm_one {n c : Nat} (hc : c < n) {f : Nat → Nat} (h : ∀ i, i < n → i ≠ c → f i = 0) : sm n f = f c := by
 induction n with
 | zero => omega
 | succ n ih =>
  unfold sm
  by_cases e : c = n
  ·subst e; rw [sm_zero (fun i hi => h i (by omega) (by omega))]; omega
  ·rw [ih (by omega) (fun i hi hne => h i (by omega) hne), h n (by omega) (by omega)]; omega
theorem sm_out {n c : Nat} (hc : c < n) (f : Nat → Nat) : sm n f = f c + sm n (fun i => if i = c then 0 else f i) := by
 have e : sm n f = sm n (fun i => (if i = c then f i else 0) + (if i = c then 0 else f i)) := sm_congr (fun i _ => by by_cases h : i = c <;> simp [h])
 rw [e, sm_add, sm_one hc (f := fun i => if i = c then f i else 0) (fun i _ hne => if_neg hne), if_pos rfl]

def adj (a b : Nat) : Bool := decide ((b = a + 1 ∧ a % 8 ≠ 7) ∨ b = a + 8 ∨ (a = b + 1 ∧ b % 8 ≠ 7) ∨ a = b + 8)
theorem adj_iff {a b : Nat} : adj a b = true ↔ ((b = a + 1 ∧ a % 8 ≠ 7) ∨ b = a + 8 ∨ (a = b + 1 ∧ b % 8 ≠ 7) ∨ a = b + 8) := by unfold adj; simp
theorem adj_ne {a b : Nat} (h : adj a b = true) : a ≠ b := by rw [adj_iff] at h; omega
def rem (g : Nat → Bool) (a b : Nat) : Nat → Bool := fun i => g i && decide (i ≠ a) && decide (i ≠ b)
theorem rem_iff {g : Nat → Bool} {a b i : Nat} : rem g a b i = true ↔ g i = true ∧ i ≠ a ∧ i ≠ b := by unfold rem; simp [and_assoc]
def T : Nat → Nat → (Nat → Bool) → Nat
 | 0, _, _ => 1
 | n + 1, k, g => if g k = true then sm 64 (fun e => if adj k e = true ∧ g e = true then T n (k + 1) (rem g k e) else 0) else T n (k + 1) g
theorem T_no {n k : Nat} {g : Nat → Bool} (h : g k = false) : T (n + 1) k g = T n (k + 1) g := by
 show (if g k = true then _ else _) = _
 rw [if_neg (by rw [h]; simp)]
theorem T_yes {n k : Nat} {g : Nat → Bool} (h : g k = true) : T (n + 1) k g = sm 64 (fun e => if adj k e = true ∧ g e = true then T n (k + 1) (rem g k e) else 0) := by
 show (if g k = true then _ else _) = _
 rw [if_pos h]
def tiles (g : Nat → Bool) : Nat := T 64 0 g
theorem sm_four {c : Nat} (hc : c < 64) (f : Nat → Nat) : sm 64 (fun b => if adj c b = true then f b else 0)
  = (if c % 8 ≠ 7 then f (c + 1) else 0) + (if c + 8 < 64 then f (c + 8) else 0) + (if c % 8 ≠ 0 then f (c - 1) else 0) + (if 8 ≤ c then f (c - 8) else 0) := by
 have e : ∀ b, b < 64 → (if adj c b = true then f b else 0) = ((if b = c + 1 ∧ c % 8 ≠ 7 then f b else 0) + (if b = c + 8 then f b else 0)) + ((if c = b + 1 ∧ b % 8 ≠ 7 then f b else 0) + (if c = b + 8 then f b else 0)) := by
  intro b hb
  by_cases h1 : b = c + 1 ∧ c % 8 ≠ 7
  ·rw [if_pos h1, if_pos (adj_iff.2 (Or.inl h1)), if_neg (by omega), if_neg (by omega), if_neg (by omega)]; omega
  ·by_cases h2 : b = c + 8
   ·rw [if_neg h1, if_pos h2, if_pos (adj_iff.2 (Or.inr (Or.inl h2))), if_neg (by omega), if_neg (by omega)]; omega
   ·by_cases h3 : c = b + 1 ∧ b % 8 ≠ 7
    ·rw [if_neg h1, if_neg h2, if_pos h3, if_pos (adj_iff.2 (Or.inr (Or.inr (Or.inl h3)))), if_neg (by omega)]; omega
    ·by_cases h4 : c = b + 8
     ·rw [if_neg h1, if_neg h2, if_neg h3, if_pos h4, if_pos (adj_iff.2 (Or.inr (Or.inr (Or.inr h4))))]; omega
     ·rw [if_neg h1, if_neg h2, if_neg h3, if_neg h4, if_neg (by rw [adj_iff]; rintro (h | h | h | h) <;> contradiction)]
 rw [sm_congr e, sm_add, sm_add, sm_add]
 have a1 : sm 64 (fun b => if b = c + 1 ∧ c % 8 ≠ 7 then f b else 0) = if c % 8 ≠ 7 then f (c + 1) else 0 := by
  by_cases h : c % 8 ≠ 7
  ·rw [sm_one (c := c + 1) (by omega) (fun i _ hi => by rw [if_neg]; rintro ⟨h, _⟩; exact hi h), if_pos ⟨rfl, h⟩, if_pos h]
  ·rw [sm_zero (fun i _ => by rw [if_neg]; rintro ⟨_, q⟩; exact h q), if_neg h]
 have a2 : sm 64 (fun b => if b = c + 8 then f b else 0) = if c + 8 < 64 then f (c + 8) else 0 := by
  by_cases h : c + 8 < 64
  ·rw [sm_one (c := c + 8) h (fun i _ hi => by rw [if_neg]; exact hi), if_pos rfl, if_pos h]
  ·rw [sm_zero (fun i _ => by rw [if_neg]; omega), if_neg h]
 have a3 : sm 64 (fun b => if c = b + 1 ∧ b % 8 ≠ 7 then f b else 0) = if c % 8 ≠ 0 then f (c - 1) else 0 := by
  by_cases h : c % 8 ≠ 0
  ·rw [sm_one (c := c - 1) (by omega) (fun i _ hi => by rw [if_neg]; omega), if_pos (by omega), if_pos h]
  ·rw [sm_zero (fun i _ => by rw [if_neg]; omega), if_neg h]
 have a4 : sm 64 (fun b => if c = b + 8 then f b else 0) = if 8 ≤ c then f (c - 8) else 0 := by
  by_cases h : 8 ≤ c
  ·rw [sm_one (c := c - 8) (by omega) (fun i _ hi => by rw [if_neg]; omega), if_pos (by omega), if_pos h]
  ·rw [sm_zero (fun i _ => by rw [if_neg]; omega), if_neg h]
 rw [a1, a2, a3, a4]; omega

def cnt : Nat → Nat → (Nat → Bool) → Nat
 | 0, _, _ => 0
 | n + 1, k, g => (if g k = true then 1 else 0) + cnt n (k + 1) g
theorem cnt_congr : ∀ {n k : Nat} {g h : Nat → Bool}, (∀ i, k ≤ i → i < k + n → g i = h i) → cnt n k g = cnt n k h
 | 0, _, _, _, _ => rfl
 | n + 1, k, g, h, e => by
  show (if g k = true then 1 else 0) + cnt n (k + 1) g = (if h k = true then 1 else 0) + cnt n (k + 1) h
  rw [e k (by omega) (by omega), cnt_congr (n := n) (k := k + 1) (fun i h1 h2 => e i (by omega) (by omega))]
theorem cnt_rem : ∀ {n k a b : Nat} {g : Nat → Bool}, a < k → k ≤ b → b < k + n → g b = true → cnt n k (rem g a b) + 1 = cnt n k g
 | 0, k, a, b, g, _, h1, h2, _ => by omega
 | n + 1, k, a, b, g, ha, h1, h2, hb => by
  show (if rem g a b k = true then 1 else 0) + cnt n (k + 1) (rem g a b) + 1 = (if g k = true then 1 else 0) + cnt n (k + 1) g
  by_cases e : b = k
  ·subst e
   rw [if_neg (by rw [rem_iff]; rintro ⟨_, _, h⟩; exact h rfl), if_pos hb, cnt_congr (n := n) (k := b + 1) (g := rem g a b) (h := g) (fun i q _ => by
    rw [Bool.eq_iff_iff, rem_iff]; exact ⟨fun h => h.1, fun h => ⟨h, by omega, by omega⟩⟩)]
   omega
  ·have ih := cnt_rem (n := n) (k := k + 1) (a := a) (b := b) (g := g) (by omega) (by omega) (by omega) hb
   have : (rem g a b k = true) ↔ (g k = true) := by rw [rem_iff]; exact ⟨fun h => h.1, fun h => ⟨h, by omega, fun q => e q.symm⟩⟩
   by_cases q : g k = true
   ·rw [if_pos (this.2 q), if_pos q]; omega
   ·rw [if_neg (fun h => q (this.1 h)), if_neg q]; omega
def P : Nat → Nat → Nat → (Nat → Bool) → Nat
 | _, _, 0, _ => 1
 | 0, _, _ + 1, _ => 0
 | n + 1, k, m + 1, g => P n (k + 1) (m + 1) g + if g k = true then sm 64 (fun e => if adj k e = true ∧ g e = true ∧ k < e then P n (k + 1) m (rem g k e) else 0) else 0
theorem P_zero (n k : Nat) (g : Nat → Bool) : P n k 0 g = 1 := by cases n <;> rfl
end Go.Proofs.Ytjfagpmklifjlaa.Cnt

namespace Go.Proofs.Ytjfagpmklifjlaa.Kun
set_option linter.unusedVariables false
set_option linter.unusedSimpArgs false
open Go.Proofs.Ytjfagpmklifjlaa.Cnt (adj adj_iff)

def put {α : Type} (J : Nat → α) (i : Nat) (x : α) : Nat → α := fun k => if k = i then x else J k
theorem not_true {b : Bool} (h : b = true → False) : b = false := by
 cases b
 ·rfl
 ·exact absurd (h rfl) id
end Go.Proofs.Ytjfagpmklifjlaa.Kun
