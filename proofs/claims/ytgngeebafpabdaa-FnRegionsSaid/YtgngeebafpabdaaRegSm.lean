/- SameCells: the program's function and the model's say the same of every two regions. -/
import Derived.Test.YtgngeebafpabdaaRegHas
import Derived.Test.YtgngeebafpabdaaRegL
namespace Go.Proofs.Ytgngeebafpabdaa.Reg
set_option linter.unusedVariables false
set_option linter.unusedSimpArgs false
open Go.RowKit Go.Proofs.Ytgngeebafpabdaa.Base Go.Proofs.Ytgngeebafpabdaa.Pure Go.Proofs.Ytgngeebafpabdaa.Cell Go.Joins

/-- two parameters' boxes. -/
def RR (w : World) (v u : Value) (W : World) : Prop :=
  Below w.heap.size w W ∧ w.heap.size + 2 ≤ W.heap.size ∧ W.cell? ⟨w.heap.size, 0, none⟩ = some v ∧ W.cell? ⟨w.heap.size + 1, 0, none⟩ = some u
theorem rr_start {T T' : TypeId} (v u : Value) (w : World) : RR w v u ((w.alloc (.cells #[v] T)).alloc (.cells #[u] T')) := by
  have e1 : ((w.alloc (.cells #[v] T)).alloc (.cells #[u] T')).heap[w.heap.size]? = some (.cells #[v] T) := by
    show ((w.heap.push _).push _)[w.heap.size]? = _
    rw [Array.getElem?_push_lt (by simp)]
    simp
  have e2 : ((w.alloc (.cells #[v] T)).alloc (.cells #[u] T')).heap[w.heap.size + 1]? = some (.cells #[u] T') := by
    show ((w.heap.push _).push _)[w.heap.size + 1]? = _
    have : w.heap.size + 1 = (w.heap.push (.cells #[v] T)).size := by simp
    rw [this]
    exact Array.getElem?_push_size
  exact ⟨below_alloc2 w _ _, by simp, (cell_of_row _ _ 0 _ _ _ e1).trans rfl, (cell_of_row _ _ 0 _ _ _ e2).trans rfl⟩
theorem RR.onB {w W W' : World} {v u : Value} {B : Nat} (h : RR w v u W) (hb : Below B W W') (hB : w.heap.size + 2 ≤ B) : RR w v u W' := by
  obtain ⟨h0, h1, h2, h3⟩ := h
  have hz := hb.size
  refine ⟨h0.trans (hb.mono (by omega)), by omega, ?_, ?_⟩
  · rw [hb.cell (by show w.heap.size < _; omega)]; exact h2
  · rw [hb.cell (by show w.heap.size + 1 < _; omega)]; exact h3
theorem RR.on {w W W' : World} {v u : Value} (h : RR w v u W) (hb : Below W.heap.size W W') : RR w v u W' := h.onB hb h.2.1
theorem RR.drew {w W : World} {v u : Value} (h : RR w v u W) : RR w v u W.drew := ⟨h.1.drew, h.2⟩

theorem same_no_left {a b : List Int} (h : ¬ okR a) : sameR a b = false := by rw [Bool.eq_false_iff]; intro k; exact h (sameR_iff.1 k).1
theorem same_no_right {a b : List Int} (h : ¬ okR b) : sameR a b = false := by rw [Bool.eq_false_iff]; intro k; exact h (sameR_iff.1 k).2.1
theorem same_no_row {a b : List Int} {y : Nat} (hy : y < 8) (h : rowD a y ≠ rowD b y) : sameR a b = false := by rw [Bool.eq_false_iff]; intro k; exact h ((sameR_iff.1 k).2.2 y hy)
/-- the rows below y are the same. -/
def RowsTo (a b : List Int) (y : Nat) : Prop := ∀ z, z < y → rowD a z = rowD b z
theorem RowsTo.zero (a b : List Int) : RowsTo a b 0 := fun z hz => by omega
theorem RowsTo.next {a b : List Int} {y : Nat} (h : RowsTo a b y) (k : rowD a y = rowD b y) : RowsTo a b (y + 1) := by
  intro z hz
  by_cases e : z = y
  · subst e; exact k
  · exact h z (by omega)

set_option maxRecDepth 100000 in
set_option maxHeartbeats 4000000 in
theorem iSameCells (w : World) (A : Option Addr) (n cap B : Nat) (xs : List Int) (hx : xs.length = n) (hn : (n : Int) ≤ 9223372036854775807) (h : RowB w B A xs) (hB : B ≤ w.heap.size)
    (A' : Option Addr) (n' cap' B' : Nat) (ys : List Int) (hx' : ys.length = n') (hn' : (n' : Int) ≤ 9223372036854775807) (h' : RowB w B' A' ys) (hB' : B' ≤ w.heap.size) :
    Calls Try.prog 21 #[.agg #[.slice A n cap], .agg #[.slice A' n' cap']] w (Bol (sameR xs ys) w) := by
  have T0 := Lib.hid (fun T T' => rr_start (T := T) (T' := T') (.slice A n cap) (.slice A' n' cap') w)
  have HOa := Lib.hid (fun W (hr : RR w (.slice A n cap) (.slice A' n' cap') W) => iRegionOk W A n cap B xs hx hn (h.below hr.1 hB) (by have := hr.2.1; omega))
  have HOb := Lib.hid (fun W (hr : RR w (.slice A n cap) (.slice A' n' cap') W) => iRegionOk W A' n' cap' B' ys hx' hn' (h'.below hr.1 hB') (by have := hr.2.1; omega))
  have HRa := Lib.hid (fun W y (hr : RR w (.slice A n cap) (.slice A' n' cap') W) => iRowAt W A n cap B xs hx hn (h.below hr.1 hB) (by have := hr.2.1; omega) y)
  have HRb := Lib.hid (fun W y (hr : RR w (.slice A n cap) (.slice A' n' cap') W) => iRowAt W A' n' cap' B' ys hx' hn' (h'.below hr.1 hB') (by have := hr.2.1; omega) y)
  clear hx hn h hB hx' hn' h' hB'
  go_enter Try.func21, Try.ntmps21
  go_wp2_with fail
  have T1 := T0.out 26 26
  refine (HOa.out _ T1).mono ?_
  rintro e w1 ⟨rfl, hb1⟩
  have T2 := T1.on hb1
  clear T0 T1 hb1 HOa
  by_cases ho : okR xs
  · rw [okRB_of ho]
    obtain ⟨_, _, c0, c1⟩ := id T2
    go_wp2_with fail
    refine (HOb.out _ T2).mono ?_
    rintro e w2 ⟨rfl, hb2⟩
    have T3 := T2.on hb2
    clear T2 c0 c1 hb2 HOb
    by_cases ho' : okR ys
    · rw [okRB_of ho']
      have HAll := Lib.hid (fun (k : RowsTo xs ys 8) => (sameR_iff.2 ⟨ho, ho', k⟩))
      clear ho ho'
      go_wp2_with fail
      go_loopw [14] (fun i wr => ∃ y : Nat, y ≤ 8 ∧ i = .int .i64 y ∧ Hid (RowsTo xs ys y) ∧ RR w (.slice A n cap) (.slice A' n' cap') wr) (fun i _ => 8 - (intOf i).toNat)
      case atStart => exact ⟨0, Nat.zero_le _, rfl, Lib.hid (RowsTo.zero _ _), T3⟩
      case round =>
        clear T3
        obtain ⟨y, hy, rfl, HT, T4⟩ := hrel
        by_cases hlt : y < 8
        · have HCa := Lib.hid (fun W hr => HRa.out W y hr)
          have HCb := Lib.hid (fun W hr => HRb.out W y hr)
          have hcs : rowD xs y = rowD ys y ∧ Hid (RowsTo xs ys (y + 1)) ∨ rowD xs y ≠ rowD ys y ∧ Hid (sameR xs ys = false) := by
            by_cases k : rowD xs y = rowD ys y
            · exact .inl ⟨k, Lib.hid (HT.out.next k)⟩
            · exact .inr ⟨k, Lib.hid (same_no_row hlt k)⟩
          generalize rowD xs y = ra at HCa hcs
          generalize rowD ys y = rb at HCb hcs
          have hne : (ra != rb) = false ∧ Hid (RowsTo xs ys (y + 1)) ∨ (ra != rb) = true ∧ Hid (sameR xs ys = false) := by
            rcases hcs with ⟨rfl, k⟩ | ⟨q, k⟩
            · exact .inl ⟨by simp, k⟩
            · exact .inr ⟨by simp [q], k⟩
          clear hcs HT
          rcases hne with ⟨hq, HN⟩ | ⟨hq, HN⟩
          all_goals
            go_wp2_with fail
            refine wp_region_noPanic ?_
            refine wp_region_held_drew (S := (fun w' => Below w.heap.size w w' ∧ w.heap.size + 2 ≤ w'.heap.size ∧ w'.cell? ⟨w.heap.size, 0, none⟩ = some (.slice A n cap) ∧ w'.cell? ⟨w.heap.size + 1, 0, none⟩ = some (.slice A' n' cap'))) (by kernel_rfl) (RR.drew T4) (fun hHeld => ?_)
            refine wpAnyH_take (i := 0) (v := ?_) rfl (by kernel_rfl) (by kernel_rfl) (by kernel_rfl) (fun _ _ _ h => h) (Or.inl ⟨by rfl, ?_⟩) (by assumption) ?_
            rotate_left
            · (intro w' hS; (try dsimp only at hS); go_simp; try with_reducible rfl)
            try simp only [Act.put, List.getElem_toArray, List.getElem_cons_succ, List.getElem_cons_zero, List.setIfInBounds_toArray, List.set_cons_zero, List.set_cons_succ]
            refine wpAnyH_take (i := 1) (v := ?_) rfl (by kernel_rfl) (by kernel_rfl) (by kernel_rfl) (fun _ _ _ h => h) (Or.inl ⟨by rfl, ?_⟩) (by assumption) ?_
            rotate_left
            · (intro w' hS; (try dsimp only at hS); go_simp; try with_reducible rfl)
            try simp only [Act.put, List.getElem_toArray, List.getElem_cons_succ, List.getElem_cons_zero, List.setIfInBounds_toArray, List.set_cons_zero, List.set_cons_succ]
            refine wpAnyH_take (i := 3) (v := ?_) rfl (by kernel_rfl) (by kernel_rfl) (by kernel_rfl) (fun _ _ _ h => h) (Or.inl ⟨by rfl, ?_⟩) (by assumption) ?_
            rotate_left
            · (intro w' hS; (try dsimp only at hS); go_simp; try with_reducible rfl)
            try simp only [Act.put, List.getElem_toArray, List.getElem_cons_succ, List.getElem_cons_zero, List.setIfInBounds_toArray, List.set_cons_zero, List.set_cons_succ]
            refine wpAnyH_take (i := 4) (v := ?_) rfl (by kernel_rfl) (by kernel_rfl) (by kernel_rfl) (fun _ _ _ h => h) (Or.inl ⟨by rfl, ?_⟩) (by assumption) ?_
            rotate_left
            · (intro w' hS; (try dsimp only at hS); go_simp; try with_reducible rfl)
            try simp only [Act.put, List.getElem_toArray, List.getElem_cons_succ, List.getElem_cons_zero, List.setIfInBounds_toArray, List.set_cons_zero, List.set_cons_succ]
            refine wpAnyH_ready (rs := [2]) (by kernel_rfl) (by simp) ?_
            refine AllReadyH.cons rfl (fun K hK => ?_) AllReadyH.nil
            go_simp
            refine (HCa.out _ (by assumption)).mono ?_
            rintro e wx ⟨rfl, hbx⟩
            go_wp2_with fail
            refine hK.out _ _ (RR.on (by assumption) hbx) (fun hHeld => ?_)
            clear hK K
            try simp only [Act.put, List.getElem_toArray, List.getElem_cons_succ, List.getElem_cons_zero, List.setIfInBounds_toArray, List.set_cons_zero, List.set_cons_succ]
            refine wpAnyH_ready (rs := [5]) (by kernel_rfl) (by simp) ?_
            refine AllReadyH.cons rfl (fun K hK => ?_) AllReadyH.nil
            go_simp
            refine (HCb.out _ (by assumption)).mono ?_
            rintro e wx ⟨rfl, hbx⟩
            go_wp2_with fail
            refine hK.out _ _ (RR.on (by assumption) hbx) (fun hHeld => ?_)
            clear hK K
            try simp only [Act.put, List.getElem_toArray, List.getElem_cons_succ, List.getElem_cons_zero, List.setIfInBounds_toArray, List.set_cons_zero, List.set_cons_succ]
            refine wpAnyH_take (i := 6) (v := ?_) rfl (by kernel_rfl) (by kernel_rfl) (by kernel_rfl) (fun _ _ _ h => h) (Or.inl ⟨by rfl, ?_⟩) (by assumption) ?_
            rotate_left
            · (intro w' hS; (try dsimp only at hS); go_simp; try with_reducible rfl)
            try simp only [Act.put, List.getElem_toArray, List.getElem_cons_succ, List.getElem_cons_zero, List.setIfInBounds_toArray, List.set_cons_zero, List.set_cons_succ]
            refine wpAnyH_done (by kernel_rfl) ?_ _
            refine NoPanic.normal ?_
          · all_goals
              have T5 : RR w (.slice A n cap) (.slice A' n' cap') wx := by assumption
              clear HCa HCb T4
              go_wp2
              go_roundw
              case rel => exact ⟨y + 1, by omega, by go_num, HN, T5⟩
              case measure => (simp [intOf] <;> omega)
          · all_goals
              have hb := (show RR w (.slice A n cap) (.slice A' n' cap') wx by assumption).1
              clear HCa HCb T4
              go_wp2
              go_ret
              exact mkBol HN.out.symm hb
        · obtain rfl : y = 8 := by omega
          have HN := Lib.hid (HAll.out HT.out)
          have hb := T4.1
          clear T4
          go_wp2
          go_ret
          exact mkBol HN.out.symm hb
    · rw [okRB_not ho']
      have HN := Lib.hid (same_no_right (a := xs) ho')
      have hb := T3.1
      clear ho ho' T3
      go_wp2
      go_ret
      exact mkBol HN.out.symm hb
  · rw [okRB_not ho]
    have HN := Lib.hid (same_no_left (b := ys) ho)
    have hb := T2.1
    clear ho T2
    go_wp2
    go_ret
    exact mkBol HN.out.symm hb
end Go.Proofs.Ytgngeebafpabdaa.Reg
