/- CmpP in one text. -/
import Derived.Test.YtmajllgfmclcoaaGreatMc03

namespace Go.Proofs.YtmajllgfmclcoaaGreat.Cmp
set_option linter.unusedVariables false
open Go.RowKit Go.Proofs.YtmajllgfmclcoaaGreat.Dms Go.Proofs.YtmajllgfmclcoaaGreat.Til

def cmpT : List Dm → Nat → List Dm
  | _, 0 => []
  | M, j + 1 => if j = 0 ∨ M.getD j (0, 0, false) ≠ M.getD (j - 1) (0, 0, false) then cmpT M j ++ [M.getD j (0, 0, false)] else cmpT M j
theorem cmpT_keep {M : List Dm} {j : Nat} (hj : j < M.length) (h : j = 0 ∨ M[j] ≠ M[j - 1]'(by omega)) : cmpT M (j + 1) = cmpT M j ++ [M[j]] := by
  have e1 : M.getD j (0, 0, false) = M[j] := by simp [List.getD, List.getElem?_eq_getElem hj]
  have e2 : M.getD (j - 1) (0, 0, false) = M[j - 1]'(by omega) := by simp [List.getD, List.getElem?_eq_getElem (show j - 1 < M.length by omega)]
  show (if _ then _ else _) = _
  rw [e1, e2, if_pos h]
theorem cmpT_skip {M : List Dm} {j : Nat} (hj : j < M.length) (h0 : 0 < j) (h : M[j] = M[j - 1]'(by omega)) : cmpT M (j + 1) = cmpT M j := by
  have e1 : M.getD j (0, 0, false) = M[j] := by simp [List.getD, List.getElem?_eq_getElem hj]
  have e2 : M.getD (j - 1) (0, 0, false) = M[j - 1]'(by omega) := by simp [List.getD, List.getElem?_eq_getElem (show j - 1 < M.length by omega)]
  show (if _ then _ else _) = _
  rw [e1, e2, if_neg (by rintro (h' | h'); · omega
                         · exact h' h)]
theorem cmpT_all {M : List Dm} : ∀ {j : Nat}, j ≤ M.length → (∀ i, (h0 : 0 < i) → (hi : i < j) → (hm : i < M.length) → M[i] ≠ M[i - 1]'(by omega)) → cmpT M j = M.take j := by
  intro j
  induction j with
  | zero => intro _ _; simp [cmpT]
  | succ j ih =>
    intro hj h
    rw [cmpT_keep (by omega) (by
      by_cases h0 : j = 0
      · exact .inl h0
      · exact .inr (h j (by omega) (by omega) (by omega))), ih (by omega) (fun i h0 hi hm => h i h0 (by omega) hm), List.take_succ_eq_append_getElem (by omega)]
theorem cmpT_good {M : List Dm} (hs : M.Pairwise (fun a b => befM b a = false)) (hv : ∀ d ∈ M, okM d = true) : ∀ j, j ≤ M.length →
    Inc (cmpT M j) ∧ (∀ d ∈ cmpT M j, ∃ p, M[j - 1]? = some p ∧ (d = p ∨ befM d p = true)) ∧ ∀ d, d ∈ cmpT M j ↔ d ∈ M.take j := by
  intro j
  induction j with
  | zero => intro _; simp [cmpT, Inc]
  | succ j ih =>
    intro hj
    obtain ⟨i1, i2, i3⟩ := ih (by omega)
    have hjl : j < M.length := by omega
    have htk : ∀ d, d ∈ M.take (j + 1) ↔ d ∈ M.take j ∨ d = M[j] := fun d => by rw [List.take_succ_eq_append_getElem hjl, List.mem_append, List.mem_singleton]
    by_cases h0 : j = 0
    · subst h0
      rw [cmpT_keep hjl (.inl rfl)]
      refine ⟨by simp [Inc, cmpT], fun d hd => ?_, fun d => ?_⟩
      · simp [cmpT] at hd; exact ⟨M[0], by simp, .inl hd⟩
      · rw [htk]; simp [cmpT]
    · have hp : j - 1 < M.length := by omega
      have hord : befM M[j] (M[j - 1]'hp) = false := by
        rw [List.pairwise_iff_getElem] at hs
        exact hs (j - 1) j hp hjl (by omega)
      by_cases he : M[j] = M[j - 1]'hp
      · rw [cmpT_skip hjl (by omega) he]
        refine ⟨i1, fun d hd => ?_, fun d => ?_⟩
        · obtain ⟨p, hp1, hp2⟩ := i2 d hd
          refine ⟨p, ?_, hp2⟩
          rw [Nat.add_sub_cancel, List.getElem?_eq_getElem hjl, he, ← hp1, List.getElem?_eq_getElem hp]
        · rw [i3, htk]
          constructor
          · exact .inl
          · rintro (h | h)
            · exact h
            · rw [h, he, List.mem_take_iff_getElem]
              exact ⟨j - 1, by omega, rfl⟩
      · have hlt : befM (M[j - 1]'hp) M[j] = true := by
          rw [befM_total (hv _ (List.getElem_mem hjl)) (hv _ (List.getElem_mem hp)) he, hord]; rfl
        have hall : ∀ d ∈ cmpT M j, befM d M[j] = true := fun d hd => by
          obtain ⟨p, hp1, hp2⟩ := i2 d hd
          rw [List.getElem?_eq_getElem hp] at hp1
          injection hp1 with hp1
          subst hp1
          rcases hp2 with rfl | hp2
          · exact hlt
          · exact befM_trans hp2 hlt
        rw [cmpT_keep hjl (.inr he)]
        refine ⟨?_, fun d hd => ⟨M[j], by simp, ?_⟩, fun d => ?_⟩
        · unfold Inc
          rw [List.pairwise_append]
          exact ⟨i1, by simp, fun a ha b hb => by rw [List.mem_singleton] at hb; subst hb; exact hall a ha⟩
        · rcases List.mem_append.1 hd with hd | hd
          · exact .inr (hall d hd)
          · exact .inl (List.mem_singleton.1 hd)
        · rw [List.mem_append, List.mem_singleton, i3, htk]
theorem cmpT_sort {L M : List Dm} (hs : M.Pairwise (fun a b => befM b a = false)) (hp : M.Perm (L.filter okM)) : cmpT M M.length = sortM L := by
  have hv : ∀ d ∈ M, okM d = true := fun d hd => (List.mem_filter.1 (hp.mem_iff.1 hd)).2
  obtain ⟨h1, _, h3⟩ := cmpT_good hs hv M.length (Nat.le_refl _)
  refine (sortM_of h1 fun d => ?_).symm
  rw [h3, List.take_length, hp.mem_iff, List.mem_filter]
end Go.Proofs.YtmajllgfmclcoaaGreat.Cmp
