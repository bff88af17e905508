/- Dominoes laid one after the other: pure: they are partial, in order, and each begins at a cell that was looked at. -/
import Derived.Test.YtkjoonmnedofiaaTilP
namespace Go.Proofs.Ytkjoonmnedofiaa.Grd
set_option linter.unusedVariables false
open Go.RowKit Go.Proofs.Ytkjoonmnedofiaa.Pure Go.Proofs.Ytkjoonmnedofiaa.Cell Go.Proofs.Ytkjoonmnedofiaa.Dom Go.Proofs.Ytkjoonmnedofiaa.Dms Go.Proofs.Ytkjoonmnedofiaa.Til

/-- the dominoes laid while the first k cells were looked at. -/
def GP (xs : List Int) (k : Nat) (M : List Dm) : Prop :=
  (∀ j, j < M.length → stpAt xs M j = true) ∧ ∀ d ∈ M, (d.1, d.2.1) ∈ (cellsR xs).take k
theorem GP.zero (xs : List Int) : GP xs 0 [] := ⟨fun j hj => by simp at hj, fun d hd => by simp at hd⟩
theorem GP.skip {xs : List Int} {k : Nat} {M : List Dm} (h : GP xs k M) : GP xs (k + 1) M :=
  ⟨h.1, fun d hd => (List.take_subset_take_left (cellsR xs) (by omega)) (h.2 d hd)⟩
theorem stp_app {xs : List Int} {M N : List Dm} {j : Nat} (hj : j < M.length) : stpAt xs (M ++ N) j = stpAt xs M j := by
  rw [stpAt_of (by rw [List.length_append]; omega), stpAt_of hj, List.take_append_of_le_length (by omega), List.getElem_append_left hj]
theorem stp_last {xs : List Int} {M : List Dm} {d : Dm} : stpAt xs (M ++ [d]) M.length = stepB xs M d := by
  rw [stpAt_of (by simp), List.take_left]
  congr 1
  simp
theorem GP.step {xs : List Int} {k : Nat} {M : List Dm} (h : GP xs k M) (hk : k < (cellsR xs).length) {b : Bool}
    (hd : okM ((cellsR xs)[k].1, (cellsR xs)[k].2, b) = true) (h1 : anyM M (cellsR xs)[k].1 (cellsR xs)[k].2 = false)
    (h2 : hasB xs (sx (cellsR xs)[k].1 b) (sy (cellsR xs)[k].2 b) = true) (h3 : anyM M (sx (cellsR xs)[k].1 b) (sy (cellsR xs)[k].2 b) = false) :
    GP xs (k + 1) (M ++ [((cellsR xs)[k].1, (cellsR xs)[k].2, b)]) := by
  have hc : hasB xs (cellsR xs)[k].1 (cellsR xs)[k].2 = true := mem_cells.1 (List.getElem_mem hk)
  have hstep : stepB xs M ((cellsR xs)[k].1, (cellsR xs)[k].2, b) = true := by
    unfold stepB
    simp only
    rw [hc, h1, h2, h3]
    cases hl : M.getLast? with
    | none => rfl
    | some p =>
      have hp : p ∈ M := List.mem_of_getLast? hl
      have hpo : okM p = true := by
        obtain ⟨j, hj, e⟩ := List.getElem_of_mem hp
        have := h.1 j hj
        rw [stpAt_of hj, e] at this
        exact stepB_ok this
      have hpk := h.2 p hp
      rw [List.mem_take_iff_getElem] at hpk
      obtain ⟨i, hi, e⟩ := hpk
      have hinc := cells_inc xs
      rw [List.pairwise_iff_getElem] at hinc
      have := hinc i k (by omega) hk (by omega)
      rw [e] at this
      have hb : befM p ((cellsR xs)[k].1, (cellsR xs)[k].2, b) = true := by
        rw [befM_iff]
        exact ⟨hpo, hd, .inl (by simpa using this)⟩
      simp [hb]
  refine ⟨fun j hj => ?_, fun d hdm => ?_⟩
  · rw [List.length_append, List.length_singleton] at hj
    by_cases e : j < M.length
    · rw [stp_app e]; exact h.1 j e
    · have : j = M.length := by omega
      subst this
      rw [stp_last]; exact hstep
  · rcases List.mem_append.1 hdm with hdm | hdm
    · exact (List.take_subset_take_left (cellsR xs) (by omega)) (h.2 d hdm)
    · rw [List.mem_singleton] at hdm
      subst hdm
      rw [List.take_succ_eq_append_getElem hk]
      exact List.mem_append_right _ (by simp)
theorem GP.part {xs : List Int} {k : Nat} {M : List Dm} (h : GP xs k M) (ho : okR xs) : partB xs M = true := part_yes (okRB_of ho) h.1
theorem GP.fits {xs : List Int} {k : Nat} {M : List Dm} (h : GP xs k M) : ∀ d ∈ M, okM d = true := by
  intro d hd
  obtain ⟨j, hj, e⟩ := List.getElem_of_mem hd
  have := h.1 j hj
  rw [stpAt_of hj, e] at this
  exact stepB_ok this
theorem fits_ok {M : List Dm} (h : ∀ d ∈ M, okM d = true) : Fits M := fun d hd => by
  have := okM_in (h d hd)
  exact ⟨⟨by omega, by omega⟩, ⟨by omega, by omega⟩⟩
theorem GP.length {xs : List Int} {k : Nat} {M : List Dm} (h : GP xs k M) (ho : okR xs) : M.length ≤ 32 := by
  have := part_length (h.part ho); omega

/-! What a partial list is. -/
theorem part_inc {xs : List Int} {L : List Dm} (h : partB xs L = true) : Inc L := by
  obtain ⟨_, h⟩ := part_iff.1 h
  have key : ∀ k, k ≤ L.length → Inc (L.take k) := by
    intro k
    induction k with
    | zero => intro _; simp [Inc]
    | succ k ih =>
      intro hk
      have hs := h k (by omega)
      rw [stpAt_of (by omega)] at hs
      rw [List.take_succ_eq_append_getElem (by omega)]
      have hI := ih (by omega)
      unfold Inc
      rw [List.pairwise_append]
      refine ⟨hI, by simp, fun a ha b hb => ?_⟩
      rw [List.mem_singleton] at hb
      subst hb
      unfold stepB at hs
      simp only [Bool.and_eq_true] at hs
      obtain ⟨hp, _⟩ := hs
      cases hl : (L.take k).getLast? with
      | none => rw [List.getLast?_eq_none_iff] at hl; rw [hl] at ha; simp at ha
      | some p =>
        rw [hl] at hp
        simp only at hp
        obtain ⟨i, hi, e⟩ := List.getElem_of_mem ha
        have hlast : (L.take k)[(L.take k).length - 1]? = some p := by rw [← List.getLast?_eq_getElem?]; exact hl
        have hl1 : (L.take k).length - 1 < (L.take k).length := by omega
        rw [List.getElem?_eq_getElem hl1] at hlast
        injection hlast with hlast
        by_cases hie : i = (L.take k).length - 1
        · subst hie; rw [← e, hlast]; exact hp
        · unfold Inc at hI
          rw [List.pairwise_iff_getElem] at hI
          have := hI i ((L.take k).length - 1) hi hl1 (by omega)
          rw [e, hlast] at this
          exact befM_trans this hp
  have := key L.length (Nat.le_refl _)
  rwa [List.take_length] at this
theorem part_valid {xs : List Int} {L : List Dm} (h : partB xs L = true) : ∀ d ∈ L, okM d = true := by
  obtain ⟨_, h⟩ := part_iff.1 h
  intro d hd
  obtain ⟨j, hj, e⟩ := List.getElem_of_mem hd
  have := h j hj
  rw [stpAt_of hj, e] at this
  exact stepB_ok this
theorem part_sort {xs : List Int} {L : List Dm} (h : partB xs L = true) : sortM L = L :=
  sortM_of (part_inc h) fun e => ⟨fun he => ⟨he, part_valid h e he⟩, fun he => he.1⟩
theorem sort_rev (L M : List Dm) (hm : ∀ d, d ∈ M ↔ d ∈ L) : sortM M = sortM L :=
  sortM_of (sortM_good L).1 fun e => by rw [(sortM_good L).2, hm]
theorem part_at {xs : List Int} {L : List Dm} (h : partB xs L = true) {k : Nat} (hk : k < L.length) : atI L L[k].1 L[k].2.1 = (k : Int) ∧ atI L (sx L[k].1 L[k].2.2) (sy L[k].2.1 L[k].2.2) = (k : Int) := by
  have hv := part_valid h L[k] (List.getElem_mem hk)
  obtain ⟨_, h⟩ := part_iff.1 h
  have hs := h k hk
  rw [stpAt_of hk] at hs
  unfold stepB at hs
  simp only [Bool.and_eq_true, Bool.not_eq_true'] at hs
  obtain ⟨_, ⟨_, h1⟩, _, h2⟩ := hs
  have no : ∀ {x y : Int}, anyM (L.take k) x y = false → ∀ j e, j < k → L[j]? = some e → covM e x y = false := by
    intro x y hn j e hj he
    unfold anyM at hn
    rw [List.any_eq_false] at hn
    have := hn e (List.mem_of_getElem? (i := j) (by rw [List.getElem?_take, if_pos hj]; exact he))
    simpa using this
  refine ⟨atI_hit (no h1) (List.getElem?_eq_getElem hk) ?_, atI_hit (no h2) (List.getElem?_eq_getElem hk) ?_⟩
  · unfold covM covP; rw [hv]; simp [eqB_iff]
  · unfold covM covP; rw [hv]; simp [eqB_iff]
theorem tilB_part {xs : List Int} {L : List Dm} (h : partB xs L = true) : tilB xs L = decide ((unc L (cellsR xs)).length = 0) := by unfold tilB; rw [h]; rfl
end Go.Proofs.Ytkjoonmnedofiaa.Grd
