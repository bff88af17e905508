/- What chapter 10 asks of lists of cells, pure: no program here. -/
import Derived.Test.YtkjoonmnedofiaaRegL
import Derived.Test.YtkjoonmnedofiaaCell
namespace Go.Proofs.Ytkjoonmnedofiaa.Def
set_option linter.unusedVariables false
set_option linter.unusedSimpArgs false
open Go.RowKit Go.Proofs.Ytkjoonmnedofiaa.Base Go.Proofs.Ytkjoonmnedofiaa.Pure Go.Proofs.Ytkjoonmnedofiaa.Cell Go.Proofs.Ytkjoonmnedofiaa.Reg Go.Joins

/-- are these black cells of the region? -/
def okBl (xs : List Int) (L : List (Int × Int)) : Bool := okRB xs && L.all fun c => hasB xs c.1 c.2 && blackB c.1 c.2
theorem okBl_iff {xs : List Int} {L : List (Int × Int)} : okBl xs L = true ↔ okRB xs = true ∧ ∀ c ∈ L, hasB xs c.1 c.2 = true ∧ blackB c.1 c.2 = true := by
  unfold okBl
  rw [Bool.and_eq_true, List.all_eq_true]
  exact and_congr_right fun _ => ⟨fun h c hc => by have := h c hc; rw [Bool.and_eq_true] at this; exact this, fun h c hc => by rw [Bool.and_eq_true]; exact h c hc⟩
/-- is a cell a neighbor of one of these? -/
def arL (L : List (Int × Int)) (c : Int × Int) : Bool := L.any fun b => nbB c.1 c.2 b.1 b.2
/-- WhiteAround. -/
def whtR (xs : List Int) (L : List (Int × Int)) : List (Int × Int) := if okBl xs L then (cellsR xs).filter (arL L) else []
theorem whtR_ok {xs : List Int} {L : List (Int × Int)} (h : okBl xs L = true) : whtR xs L = (cellsR xs).filter (arL L) := by unfold whtR; rw [if_pos h]
theorem whtR_not {xs : List Int} {L : List (Int × Int)} (h : okBl xs L = false) : whtR xs L = [] := by unfold whtR; rw [if_neg (by rw [h]; simp)]
theorem whtR_length (xs : List Int) (L : List (Int × Int)) : (whtR xs L).length ≤ 64 := by
  unfold whtR
  split
  · exact Nat.le_trans (List.length_filter_le _ _) (cellsR_length xs)
  · exact Nat.zero_le _
/-- how many different ones are among the first k. -/
def difK (L : List (Int × Int)) : Nat → Nat
  | 0 => 0
  | k + 1 => if L.getD k (0, 0) ∈ L.take k then difK L k else difK L k + 1
theorem getD_at {L : List (Int × Int)} {k : Nat} (hk : k < L.length) : L.getD k (0, 0) = L[k] := by simp [List.getD, hk]
theorem difK_old {L : List (Int × Int)} {k : Nat} (hk : k < L.length) (h : L[k] ∈ L.take k) : difK L (k + 1) = difK L k := by
  show (if L.getD k (0, 0) ∈ L.take k then difK L k else difK L k + 1) = _
  rw [getD_at hk, if_pos h]
theorem difK_new {L : List (Int × Int)} {k : Nat} (hk : k < L.length) (h : L[k] ∉ L.take k) : difK L (k + 1) = difK L k + 1 := by
  show (if L.getD k (0, 0) ∈ L.take k then difK L k else difK L k + 1) = _
  rw [getD_at hk, if_neg h]
theorem difK_le (L : List (Int × Int)) : ∀ k, difK L k ≤ k
  | 0 => Nat.le_refl _
  | k + 1 => by
    have := difK_le L k
    unfold difK
    split <;> omega
def difN (L : List (Int × Int)) : Nat := difK L L.length
theorem difK_nodup {L : List (Int × Int)} (h : L.Nodup) : ∀ k, k ≤ L.length → difK L k = k
  | 0, _ => rfl
  | k + 1, hk => by
    have ih := difK_nodup h k (by omega)
    rw [difK_new (by omega) (fun hm => ?_), ih]
    have hs : (L.take k ++ [L[k]'(by omega)]).Nodup := by
      rw [← List.take_succ_eq_append_getElem (by omega)]
      exact h.sublist (List.take_sublist _ _)
    exact (List.nodup_append.1 hs).2.2 _ hm _ (List.mem_singleton.2 rfl) rfl
theorem difN_nodup {L : List (Int × Int)} (h : L.Nodup) : difN L = L.length := difK_nodup h _ (Nat.le_refl _)
/-- Deficit. -/
def defR (xs : List Int) (L : List (Int × Int)) : Int := if okBl xs L then (difN L : Int) - ((whtR xs L).length : Int) else 0
theorem defR_ok {xs : List Int} {L : List (Int × Int)} (h : okBl xs L = true) : defR xs L = (difN L : Int) - ((whtR xs L).length : Int) := by unfold defR; rw [if_pos h]
theorem defR_not {xs : List Int} {L : List (Int × Int)} (h : okBl xs L = false) : defR xs L = 0 := by unfold defR; rw [if_neg (by rw [h]; simp)]
/-- IsProofOf. -/
def prfB (xs : List Int) (L : List (Int × Int)) (f : Int) : Bool := decide (0 < f) && decide (f ≤ defR xs L)
theorem mem_take_no {L : List (Int × Int)} {k : Nat} {c : Int × Int} (hk : k < L.length) (h : c ∉ L.take k) (hn : L[k] ≠ c) : c ∉ L.take (k + 1) := by
  rw [List.take_succ_eq_append_getElem hk, List.mem_append]
  rintro (q | q)
  · exact h q
  · exact hn (List.mem_singleton.1 q).symm
/-- the first k are black cells of the region. -/
def OkK (xs : List Int) (L : List (Int × Int)) (k : Nat) : Prop := ∀ c ∈ L.take k, hasB xs c.1 c.2 = true ∧ blackB c.1 c.2 = true
theorem OkK.zero (xs : List Int) (L : List (Int × Int)) : OkK xs L 0 := fun c hc => by simp at hc
theorem OkK.next {xs : List Int} {L : List (Int × Int)} {k : Nat} (h : OkK xs L k) (hk : k < L.length) (h1 : hasB xs L[k].1 L[k].2 = true) (h2 : blackB L[k].1 L[k].2 = true) : OkK xs L (k + 1) := fun c hc => by
  rw [List.take_succ_eq_append_getElem hk, List.mem_append] at hc
  rcases hc with q | q
  · exact h c q
  · rw [List.mem_singleton.1 q]; exact ⟨h1, h2⟩
theorem OkK.fin {xs : List Int} {L : List (Int × Int)} {k : Nat} (h : OkK xs L k) (hk : L.length ≤ k) : okBl xs L = okRB xs := by
  have : (L.all fun c => hasB xs c.1 c.2 && blackB c.1 c.2) = true := by
    rw [List.all_eq_true]
    intro c hc
    have := h c (by rw [List.take_of_length_le hk]; exact hc)
    rw [this.1, this.2]; rfl
  unfold okBl
  rw [this, Bool.and_true]
theorem okBl_no {xs : List Int} {L : List (Int × Int)} {k : Nat} (hk : k < L.length) (h : (hasB xs L[k].1 L[k].2 && blackB L[k].1 L[k].2) = false) : okBl xs L = false := by
  apply Bool.eq_false_iff.2
  intro q
  have := (okBl_iff.1 q).2 L[k] (List.getElem_mem hk)
  rw [this.1, this.2] at h
  cases h
/-- the cells around, among the first k of the region. -/
def whtK (xs : List Int) (L : List (Int × Int)) (k : Nat) : List (Int × Int) := ((cellsR xs).take k).filter (arL L)
theorem whtK_yes {xs : List Int} {L : List (Int × Int)} {k : Nat} (hk : k < (cellsR xs).length) (h : arL L (cellsR xs)[k] = true) : whtK xs L (k + 1) = whtK xs L k ++ [(cellsR xs)[k]] := by
  unfold whtK; rw [List.take_succ_eq_append_getElem hk, List.filter_append, List.filter_cons_of_pos h, List.filter_nil]
theorem whtK_no {xs : List Int} {L : List (Int × Int)} {k : Nat} (hk : k < (cellsR xs).length) (h : arL L (cellsR xs)[k] = false) : whtK xs L (k + 1) = whtK xs L k := by
  unfold whtK; rw [List.take_succ_eq_append_getElem hk, List.filter_append, List.filter_cons_of_neg (by rw [h]; simp), List.filter_nil, List.append_nil]
theorem whtK_fin {xs : List Int} {L : List (Int × Int)} {k : Nat} (hk : (cellsR xs).length ≤ k) (h : okBl xs L = true) : whtK xs L k = whtR xs L := by
  unfold whtK; rw [List.take_of_length_le hk, whtR_ok h]
theorem whtK_zero (xs : List Int) (L : List (Int × Int)) : whtK xs L 0 = [] := rfl
/-- none of the first i is a neighbor. -/
theorem arL_no {L : List (Int × Int)} {c : Int × Int} (h : ∀ j (hj : j < L.length), nbB c.1 c.2 L[j].1 L[j].2 = false) : arL L c = false := by
  unfold arL
  rw [List.any_eq_false]
  intro b hb
  obtain ⟨j, hj, rfl⟩ := List.getElem_of_mem hb
  rw [h j hj]; simp
theorem arL_yes {L : List (Int × Int)} {c : Int × Int} {j : Nat} (hj : j < L.length) (h : nbB c.1 c.2 L[j].1 L[j].2 = true) : arL L c = true := by
  unfold arL
  rw [List.any_eq_true]
  exact ⟨L[j], List.getElem_mem hj, h⟩
end Go.Proofs.Ytkjoonmnedofiaa.Def
