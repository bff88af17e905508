/- RegCel in one text. -/
import Derived.Test.YtmajllgfmclcoaaMb11

namespace Go.Proofs.Ytmajllgfmclcoaa.Reg
set_option linter.unusedVariables false
open Go.RowKit Go.Proofs.Ytmajllgfmclcoaa.Pure Go.Proofs.Ytmajllgfmclcoaa.Cell Go.Joins

def RC (w : World) (v : Value) (x y : Int) (W : World) : Prop :=
 Below w.heap.size w W ∧ w.heap.size + 2 ≤ W.heap.size ∧ W.cell? ⟨w.heap.size, 0, none⟩ = some v ∧ W.cell? ⟨w.heap.size + 1, 0, none⟩ = some (.int .i64 x) ∧ W.cell? ⟨w.heap.size + 1, 1, none⟩ = some (.int .i64 y)
theorem rc_start {T T' : TypeId} (v : Value) (x y : Int) (w : World) : RC w v x y ((w.alloc (.cells #[v] T)).alloc (.cells #[.int .i64 x, .int .i64 y] T')) := by
 have e1 : ((w.alloc (.cells #[v] T)).alloc (.cells #[.int .i64 x, .int .i64 y] T')).heap[w.heap.size]? = some (.cells #[v] T) := by
  show ((w.heap.push _).push _)[w.heap.size]? = _
  rw [Array.getElem?_push_lt (by simp)]
  simp
 have e2 : ((w.alloc (.cells #[v] T)).alloc (.cells #[.int .i64 x, .int .i64 y] T')).heap[w.heap.size + 1]? = some (.cells #[.int .i64 x, .int .i64 y] T') := by
  show ((w.heap.push _).push _)[w.heap.size + 1]? = _
  have : w.heap.size + 1 = (w.heap.push (.cells #[v] T)).size := by simp
  rw [this]
  exact Array.getElem?_push_size
 exact ⟨below_alloc2 w _ _, by simp, (cell_of_row _ _ 0 _ _ _ e1).trans rfl, (cell_of_row _ _ 0 _ _ _ e2).trans rfl, (cell_of_row _ _ 1 _ _ _ e2).trans rfl⟩
theorem RC.on {w W W' : World} {v : Value} {x y : Int} (h : RC w v x y W) (hb : Below W.heap.size W W') : RC w v x y W' := by
 obtain ⟨h0, h1, h2, h3, h4⟩ := h
 have hz := hb.size
 refine ⟨h0.trans (hb.mono h0.size), by omega, ?_, ?_, ?_⟩
 ·rw [hb.cell (by show w.heap.size < _; omega)]; exact h2
 ·rw [hb.cell (by show w.heap.size + 1 < _; omega)]; exact h3
 ·rw [hb.cell (by show w.heap.size + 1 < _; omega)]; exact h4
theorem RC.drew {w W : World} {v : Value} {x y : Int} (h : RC w v x y W) : RC w v x y W.drew := ⟨h.1.drew, h.2⟩
theorem has_no_ok {xs : List Int} (h : ¬ okR xs) (x y : Int) : hasB xs x y = false := by
 rw [Bool.eq_false_iff]; intro k; exact h (hasB_iff.1 k).1
theorem has_no_cell {xs : List Int} {x y : Int} (h : ¬ Ok x y) : hasB xs x y = false := by
 rw [Bool.eq_false_iff]; intro k; exact h ⟨(hasB_iff.1 k).2.1, (hasB_iff.1 k).2.2.1, (hasB_iff.1 k).2.2.2.1, (hasB_iff.1 k).2.2.2.2.1⟩
theorem has_at {xs : List Int} (h : okR xs) {x y : Nat} (hx : x < 8) (hy : y < 8) : hasB xs (x : Int) (y : Int) = bitB (rowD xs y) x := by
 rw [Bool.eq_iff_iff, hasB_iff, Int.toNat_natCast, Int.toNat_natCast]
 constructor
 ·exact fun k => k.2.2.2.2.2
 ·exact fun k => ⟨h, by omega, by omega, by omega, by omega, k⟩
theorem ok_nat {x y : Int} (h : Ok x y) : ∃ (x' y' : Nat), x = (x' : Int) ∧ y = (y' : Int) ∧ x' < 8 ∧ y' < 8 := by
 obtain ⟨a, b, c, d⟩ := h
 exact ⟨x.toNat, y.toNat, by omega, by omega, by omega, by omega⟩

set_option maxRecDepth 100000 in
set_option maxHeartbeats 1000000 in
theorem sHasCell (w : World) (A : Option Addr) (n cap B : Nat) (xs : List Int) (hx : xs.length = n) (hn : (n : Int) ≤ 9223372036854775807) (h : RowB w B A xs) (hB : B ≤ w.heap.size) (x y : Int) :
  Calls Try.prog 30 #[.agg #[.slice A n cap], .agg #[.int .i64 x, .int .i64 y]] w (Bol (hasB xs x y) w) := by
 have T0 := Lib.hid (fun T T' => rc_start (T := T) (T' := T') (.slice A n cap) x y w)
 have HOk := Lib.hid (fun W (hr : RC w (.slice A n cap) x y W) => sRegionOk W A n cap B xs hx hn (h.below hr.1 hB) (by have := hr.2.1; omega))
 have HHs := Lib.hid (fun W (x' y' : Nat) (ho : okR xs) (hr : RC w (.slice A n cap) x y W) hx8 hy8 => sHas W A n cap B xs hx ho (h.below hr.1 hB) (by have := hr.2.1; omega) x' y' hx8 hy8)
 clear hx hn h hB
 go_enter Try.func30, Try.ntmps30
 go_wp2_with fail
 have T1 := T0.out 29 56
 refine (HOk.out _ T1).mono ?_
 rintro e w1 ⟨rfl, hb1⟩
 have T2 := T1.on hb1
 clear T0 T1 hb1 HOk
 by_cases ho : okR xs
 ·rw [okRB_of ho]
  obtain ⟨_, _, c0, c1, c2⟩ := id T2
  go_wp2_with fail
  refine (sCellOk x y _).mono ?_
  rintro e w2 ⟨rfl, hb2⟩
  have T3 := T2.on hb2
  clear T2 c0 c1 c2 hb2
  by_cases hok : Ok x y
  ·rw [okB_of hok]
   obtain ⟨x', y', rfl, rfl, hx8, hy8⟩ := ok_nat hok
   have HE := Lib.hid (has_at ho hx8 hy8)
   obtain ⟨_, _, c0, c1, c2⟩ := id T3
   have HC := Lib.hid (HHs.out w2 x' y' ho T3 hx8 hy8)
   clear HHs hok hx8 hy8 ho
   go_wp2_with fail
   refine HC.out.mono ?_
   rintro e w3 ⟨rfl, hb3⟩
   have hb := (T3.on hb3).1
   clear T3 HC hb3 c0 c1 c2
   go_wp2
   go_ret
   exact mkBol HE.out.symm hb
  ·rw [okB_not hok]
   have HE := Lib.hid (has_no_cell (xs := xs) hok)
   have hb := T3.1
   clear T3 hok ho HHs
   go_wp2
   go_ret
   exact mkBol HE.out.symm hb
 ·rw [okRB_not ho]
  have HE := Lib.hid (has_no_ok ho x y)
  have hb := T2.1
  clear T2 ho HHs
  go_wp2
  go_ret
  exact mkBol HE.out.symm hb

theorem kindN' (r : Int) (k : Nat) (h0 : 0 ≤ r) (h1 : r ≤ 255) (hk : k < 8) (w : World) :
  Calls Try.prog 66 #[.int .i64 r, .int .i64 (k : Int)] w (Num (kindN r k) w) := by
 refine (iKindAt r k h0 h1 hk w).mono ?_
 rintro e w' ⟨rfl, rfl⟩
 exact ⟨rfl, Below.refl _ _⟩

set_option maxRecDepth 100000 in
set_option maxHeartbeats 2000000 in
theorem iHasCell (w : World) (A : Option Addr) (n cap B : Nat) (xs : List Int) (hx : xs.length = n) (hn : (n : Int) ≤ 9223372036854775807) (h : RowB w B A xs) (hB : B ≤ w.heap.size) (x y : Int) :
  Calls Try.prog 73 #[.agg #[.slice A n cap], .agg #[.int .i64 x, .int .i64 y]] w (Bol (hasB xs x y) w) := by
 have T0 := Lib.hid (fun T T' => rc_start (T := T) (T' := T') (.slice A n cap) x y w)
 have HOk := Lib.hid (fun W (hr : RC w (.slice A n cap) x y W) => iRegionOk W A n cap B xs hx hn (h.below hr.1 hB) (by have := hr.2.1; omega))
 have HRw := Lib.hid (fun W (y' : Nat) (hr : RC w (.slice A n cap) x y W) => iRowAt W A n cap B xs hx hn (h.below hr.1 hB) (by have := hr.2.1; omega) y')
 clear hx hn h hB
 by_cases ho : okR xs
 ·rw [okRB_of ho] at HOk
  by_cases hok : Ok x y
  ·have HCk := Lib.hid (fun W => cellOk x y W)
   rw [okB_of hok] at HCk
   obtain ⟨x', y', rfl, rfl, hx8, hy8⟩ := ok_nat hok
   have HE := Lib.hid (has_at ho hx8 hy8)
   have HRo := Lib.hid (fun W => HRw.out W y')
   have hr := rowD_ok ho y'
   clear HRw
   generalize rowD xs y' = r at HE HRo hr
   have HKd := Lib.hid (fun W => kindN' r x' hr.1 hr.2 hx8 W)
   have hkn : bitB r x' = true ∧ kindN r x' = 1 ∨ bitB r x' = false ∧ kindN r x' = 0 := by
    cases hb : bitB r x' with
    | true => exact .inl ⟨rfl, kindN_yes hb⟩
    | false => exact .inr ⟨rfl, kindN_no hb⟩
   generalize kindN r x' = kd at HKd hkn
   rw [HE.out]
   clear hr hx8 hy8 ho hok HE
   rcases hkn with ⟨hb, rfl⟩ | ⟨hb, rfl⟩
   all_goals
    rw [hb]
    clear hb
    go_enter Try.func73, Try.ntmps73
    go_wp2_with fail
    have T1 := T0.out 29 56
    generalize (w.alloc (.cells #[.slice A n cap] 29)).alloc (.cells #[.int .i64 (x' : Int), .int .i64 (y' : Int)] 56) = W at T1 ⊢
    clear T0
    go_region_held3 (fun w' => Below w.heap.size w w' ∧ w.heap.size + 2 ≤ w'.heap.size ∧ w'.cell? ⟨w.heap.size, 0, none⟩ = some (.slice A n cap) ∧ w'.cell? ⟨w.heap.size + 1, 0, none⟩ = some (.int .i64 (x' : Int)) ∧ w'.cell? ⟨w.heap.size + 1, 1, none⟩ = some (.int .i64 (y' : Int)))
     (first | assumption | exact RC.drew (by assumption) | exact RC.on (by assumption) (by assumption))
     (first | (go_at_call 59; refine (HOk.out _ (by assumption)).mono ?_; rintro e wx ⟨rfl, hbx⟩) | (go_at_call 85; refine (HCk.out _).mono ?_; rintro e wx ⟨rfl, hbx⟩) | (go_at_call 86; refine (HRo.out _ (by assumption)).mono ?_; rintro e wx ⟨rfl, hbx⟩) | (go_at_call 66; refine (HKd.out _).mono ?_; rintro e wx ⟨rfl, hbx⟩))
    all_goals
     have T9 : RC w (.slice A n cap) (x' : Int) (y' : Int) wx := by assumption
     have hb := T9.1
     clear T9
     go_wp2
     go_ret
     exact mkBol rfl hb
  ·have HCk := Lib.hid (fun W => cellOk x y W)
   rw [okB_not hok] at HCk
   have HE := Lib.hid (has_no_cell (xs := xs) hok)
   clear HRw hok ho
   go_enter Try.func73, Try.ntmps73
   go_wp2_with fail
   have T1 := T0.out 29 56
   generalize (w.alloc (.cells #[.slice A n cap] 29)).alloc (.cells #[.int .i64 x, .int .i64 y] 56) = W at T1 ⊢
   clear T0
   refine wp_region_noPanic ?_
   refine wp_region_held_drew (S := (fun w' => Below w.heap.size w w' ∧ w.heap.size + 2 ≤ w'.heap.size ∧ w'.cell? ⟨w.heap.size, 0, none⟩ = some (.slice A n cap) ∧ w'.cell? ⟨w.heap.size + 1, 0, none⟩ = some (.int .i64 x) ∧ w'.cell? ⟨w.heap.size + 1, 1, none⟩ = some (.int .i64 y))) (by kernel_rfl) (RC.drew T1) (fun hHeld => ?_)
   refine wpAnyH_take (i := 0) (v := ?_) rfl (by kernel_rfl) (by kernel_rfl) (by kernel_rfl) (fun _ _ _ h => h) (Or.inl ⟨by rfl, ?_⟩) (by assumption) ?_
   rotate_left
   ·(intro w' hS; (try dsimp only at hS); go_simp; try with_reducible rfl)
   try simp only [Act.put, List.getElem_toArray, List.getElem_cons_zero, List.setIfInBounds_toArray, List.set_cons_zero, List.set_cons_succ]
   refine wpAnyH_ready (rs := [1]) (by kernel_rfl) (by simp) ?_
   refine AllReadyH.cons rfl (fun K hK => ?_) AllReadyH.nil
   go_simp
   refine (HOk.out _ (by assumption)).mono ?_
   rintro e wx ⟨rfl, hbx⟩
   go_wp2_with fail
   refine hK.out _ _ (RC.on (by assumption) hbx) (fun hHeld => ?_)
   clear hK K
   try simp only [Act.put, List.getElem_toArray, List.getElem_cons_succ, List.getElem_cons_zero, List.setIfInBounds_toArray, List.set_cons_zero, List.set_cons_succ]
   refine wpAnyH_take (i := 2) (v := ?_) rfl (by kernel_rfl) (by kernel_rfl) (by kernel_rfl) (fun _ _ _ h => h) (Or.inl ⟨by rfl, ?_⟩) (by assumption) ?_
   rotate_left
   ·(intro w' hS; (try dsimp only at hS); go_simp; try with_reducible rfl)
   try simp only [Act.put, List.getElem_toArray, List.getElem_cons_succ, List.getElem_cons_zero, List.setIfInBounds_toArray, List.set_cons_zero, List.set_cons_succ]
   refine wpAnyH_take (i := 3) (v := ?_) rfl (by kernel_rfl) (by kernel_rfl) (by kernel_rfl) (fun _ _ _ h => h) (Or.inl ⟨by rfl, ?_⟩) (by assumption) ?_
   rotate_left
   ·(intro w' hS; (try dsimp only at hS); go_simp; try with_reducible rfl)
   try simp only [Act.put, List.getElem_toArray, List.getElem_cons_succ, List.getElem_cons_zero, List.setIfInBounds_toArray, List.set_cons_zero, List.set_cons_succ]
   refine wpAnyH_ready (rs := [4]) (by kernel_rfl) (by simp) ?_
   refine AllReadyH.cons rfl (fun K hK => ?_) AllReadyH.nil
   go_simp
   refine (HCk.out _).mono ?_
   rintro e wx ⟨rfl, hbx⟩
   go_wp2_with fail
   refine hK.out _ _ (RC.on (by assumption) hbx) (fun hHeld => ?_)
   clear hK K
   try simp only [Act.put, List.getElem_toArray, List.getElem_cons_succ, List.getElem_cons_zero, List.setIfInBounds_toArray, List.set_cons_zero, List.set_cons_succ]
   refine wpAnyH_take (i := 5) (v := ?_) rfl (by kernel_rfl) (by kernel_rfl) (by kernel_rfl) (fun _ _ _ h => h) (Or.inl ⟨by rfl, ?_⟩) (by assumption) ?_
   rotate_left
   ·(intro w' hS; (try dsimp only at hS); go_simp; try with_reducible rfl)
   try simp only [Act.put, List.getElem_toArray, List.getElem_cons_succ, List.getElem_cons_zero, List.setIfInBounds_toArray, List.set_cons_zero, List.set_cons_succ]
   refine wpAnyH_take (i := 6) (v := ?_) rfl (by kernel_rfl) (by kernel_rfl) (by kernel_rfl) (fun _ _ _ h => h) (Or.inl ⟨by rfl, ?_⟩) (by assumption) ?_
   rotate_left
   ·(intro w' hS; (try dsimp only at hS); go_simp; try with_reducible rfl)
   try simp only [Act.put, List.getElem_toArray, List.getElem_cons_succ, List.getElem_cons_zero, List.setIfInBounds_toArray, List.set_cons_zero, List.set_cons_succ]
   refine wpAnyH_take (i := 7) (v := undef) rfl (by kernel_rfl) (by kernel_rfl) (by kernel_rfl) (fun _ _ _ h => h) (Or.inr ⟨by rfl, rfl⟩) (by assumption) ?_
   try simp only [Act.put, List.getElem_toArray, List.getElem_cons_succ, List.getElem_cons_zero, List.setIfInBounds_toArray, List.set_cons_zero, List.set_cons_succ]
   refine wpAnyH_take (i := 8) (v := undef) rfl (by kernel_rfl) (by kernel_rfl) (by kernel_rfl) (fun _ _ _ h => h) (Or.inr ⟨by rfl, rfl⟩) (by assumption) ?_
   try simp only [Act.put, List.getElem_toArray, List.getElem_cons_succ, List.getElem_cons_zero, List.setIfInBounds_toArray, List.set_cons_zero, List.set_cons_succ]
   refine wpAnyH_take (i := 9) (v := undef) rfl (by kernel_rfl) (by kernel_rfl) (by kernel_rfl) (fun _ _ _ h => h) (Or.inr ⟨by rfl, rfl⟩) (by assumption) ?_
   try simp only [Act.put, List.getElem_toArray, List.getElem_cons_succ, List.getElem_cons_zero, List.setIfInBounds_toArray, List.set_cons_zero, List.set_cons_succ]
   refine wpAnyH_take (i := 10) (v := undef) rfl (by kernel_rfl) (by kernel_rfl) (by kernel_rfl) (fun _ _ _ h => h) (Or.inr ⟨by rfl, rfl⟩) (by assumption) ?_
   try simp only [Act.put, List.getElem_toArray, List.getElem_cons_succ, List.getElem_cons_zero, List.setIfInBounds_toArray, List.set_cons_zero, List.set_cons_succ]
   refine wpAnyH_take (i := 11) (v := undef) rfl (by kernel_rfl) (by kernel_rfl) (by kernel_rfl) (fun _ _ _ h => h) (Or.inr ⟨by rfl, rfl⟩) (by assumption) ?_
   try simp only [Act.put, List.getElem_toArray, List.getElem_cons_succ, List.getElem_cons_zero, List.setIfInBounds_toArray, List.set_cons_zero, List.set_cons_succ]
   refine wpAnyH_take (i := 12) (v := undef) rfl (by kernel_rfl) (by kernel_rfl) (by kernel_rfl) (fun _ _ _ h => h) (Or.inr ⟨by rfl, rfl⟩) (by assumption) ?_
   try simp only [Act.put, List.getElem_toArray, List.getElem_cons_succ, List.getElem_cons_zero, List.setIfInBounds_toArray, List.set_cons_zero, List.set_cons_succ]
   refine wpAnyH_take (i := 13) (v := undef) rfl (by kernel_rfl) (by kernel_rfl) (by kernel_rfl) (fun _ _ _ h => h) (Or.inr ⟨by rfl, rfl⟩) (by assumption) ?_
   try simp only [Act.put, List.getElem_toArray, List.getElem_cons_succ, List.getElem_cons_zero, List.setIfInBounds_toArray, List.set_cons_zero, List.set_cons_succ]
   refine wpAnyH_take (i := 14) (v := undef) rfl (by kernel_rfl) (by kernel_rfl) (by kernel_rfl) (fun _ _ _ h => h) (Or.inr ⟨by rfl, rfl⟩) (by assumption) ?_
   try simp only [Act.put, List.getElem_toArray, List.getElem_cons_succ, List.getElem_cons_zero, List.setIfInBounds_toArray, List.set_cons_zero, List.set_cons_succ]
   refine wpAnyH_take (i := 15) (v := ?_) rfl (by kernel_rfl) (by kernel_rfl) (by kernel_rfl) (fun _ _ _ h => h) (Or.inl ⟨by rfl, ?_⟩) (by assumption) ?_
   rotate_left
   ·(intro w' hS; (try dsimp only at hS); go_simp; try with_reducible rfl)
   try simp only [Act.put, List.getElem_toArray, List.getElem_cons_succ, List.getElem_cons_zero, List.setIfInBounds_toArray, List.set_cons_zero, List.set_cons_succ]
   refine wpAnyH_take (i := 16) (v := ?_) rfl (by kernel_rfl) (by kernel_rfl) (by kernel_rfl) (fun _ _ _ h => h) (Or.inl ⟨by rfl, ?_⟩) (by assumption) ?_
   rotate_left
   ·(intro w' hS; (try dsimp only at hS); go_simp; try with_reducible rfl)
   try simp only [Act.put, List.getElem_toArray, List.getElem_cons_succ, List.getElem_cons_zero, List.setIfInBounds_toArray, List.set_cons_zero, List.set_cons_succ]
   refine wpAnyH_done (by kernel_rfl) ?_ _
   refine NoPanic.normal ?_
   have T9 : RC w (.slice A n cap) x y wx := by assumption
   have hb := T9.1
   clear T9
   go_wp2
   go_ret
   exact mkBol HE.out.symm hb
 ·rw [okRB_not ho] at HOk
  have HE := Lib.hid (has_no_ok ho x y)
  clear HRw ho
  go_enter Try.func73, Try.ntmps73
  go_wp2_with fail
  have T1 := T0.out 29 56
  generalize (w.alloc (.cells #[.slice A n cap] 29)).alloc (.cells #[.int .i64 x, .int .i64 y] 56) = W at T1 ⊢
  clear T0
  refine wp_region_noPanic ?_
  refine wp_region_held_drew (S := (fun w' => Below w.heap.size w w' ∧ w.heap.size + 2 ≤ w'.heap.size ∧ w'.cell? ⟨w.heap.size, 0, none⟩ = some (.slice A n cap) ∧ w'.cell? ⟨w.heap.size + 1, 0, none⟩ = some (.int .i64 x) ∧ w'.cell? ⟨w.heap.size + 1, 1, none⟩ = some (.int .i64 y))) (by kernel_rfl) (RC.drew T1) (fun hHeld => ?_)
  refine wpAnyH_take (i := 0) (v := ?_) rfl (by kernel_rfl) (by kernel_rfl) (by kernel_rfl) (fun _ _ _ h => h) (Or.inl ⟨by rfl, ?_⟩) (by assumption) ?_
  rotate_left
  ·(intro w' hS; (try dsimp only at hS); go_simp; try with_reducible rfl)
  try simp only [Act.put, List.getElem_toArray, List.getElem_cons_zero, List.setIfInBounds_toArray, List.set_cons_zero, List.set_cons_succ]
  refine wpAnyH_ready (rs := [1]) (by kernel_rfl) (by simp) ?_
  refine AllReadyH.cons rfl (fun K hK => ?_) AllReadyH.nil
  go_simp
  refine (HOk.out _ (by assumption)).mono ?_
  rintro e wx ⟨rfl, hbx⟩
  go_wp2_with fail
  refine hK.out _ _ (RC.on (by assumption) hbx) (fun hHeld => ?_)
  clear hK K
  try simp only [Act.put, List.getElem_toArray, List.getElem_cons_succ, List.getElem_cons_zero, List.setIfInBounds_toArray, List.set_cons_zero, List.set_cons_succ]
  refine wpAnyH_take (i := 2) (v := ?_) rfl (by kernel_rfl) (by kernel_rfl) (by kernel_rfl) (fun _ _ _ h => h) (Or.inl ⟨by rfl, ?_⟩) (by assumption) ?_
  rotate_left
  ·(intro w' hS; (try dsimp only at hS); go_simp; try with_reducible rfl)
  try simp only [Act.put, List.getElem_toArray, List.getElem_cons_succ, List.getElem_cons_zero, List.setIfInBounds_toArray, List.set_cons_zero, List.set_cons_succ]
  refine wpAnyH_take (i := 3) (v := undef) rfl (by kernel_rfl) (by kernel_rfl) (by kernel_rfl) (fun _ _ _ h => h) (Or.inr ⟨by rfl, rfl⟩) (by assumption) ?_
  try simp only [Act.put, List.getElem_toArray, List.getElem_cons_succ, List.getElem_cons_zero, List.setIfInBounds_toArray, List.set_cons_zero, List.set_cons_succ]
  refine wpAnyH_take (i := 4) (v := undef) rfl (by kernel_rfl) (by kernel_rfl) (by kernel_rfl) (fun _ _ _ h => h) (Or.inr ⟨by rfl, rfl⟩) (by assumption) ?_
  try simp only [Act.put, List.getElem_toArray, List.getElem_cons_succ, List.getElem_cons_zero, List.setIfInBounds_toArray, List.set_cons_zero, List.set_cons_succ]
  refine wpAnyH_take (i := 5) (v := ?_) rfl (by kernel_rfl) (by kernel_rfl) (by kernel_rfl) (fun _ _ _ h => h) (Or.inl ⟨by rfl, ?_⟩) (by assumption) ?_
  rotate_left
  ·(intro w' hS; (try dsimp only at hS); go_simp; try with_reducible rfl)
  try simp only [Act.put, List.getElem_toArray, List.getElem_cons_succ, List.getElem_cons_zero, List.setIfInBounds_toArray, List.set_cons_zero, List.set_cons_succ]
  refine wpAnyH_take (i := 6) (v := ?_) rfl (by kernel_rfl) (by kernel_rfl) (by kernel_rfl) (fun _ _ _ h => h) (Or.inl ⟨by rfl, ?_⟩) (by assumption) ?_
  rotate_left
  ·(intro w' hS; (try dsimp only at hS); go_simp; try with_reducible rfl)
  try simp only [Act.put, List.getElem_toArray, List.getElem_cons_succ, List.getElem_cons_zero, List.setIfInBounds_toArray, List.set_cons_zero, List.set_cons_succ]
  refine wpAnyH_take (i := 7) (v := undef) rfl (by kernel_rfl) (by kernel_rfl) (by kernel_rfl) (fun _ _ _ h => h) (Or.inr ⟨by rfl, rfl⟩) (by assumption) ?_
  try simp only [Act.put, List.getElem_toArray, List.getElem_cons_succ, List.getElem_cons_zero, List.setIfInBounds_toArray, List.set_cons_zero, List.set_cons_succ]
  refine wpAnyH_take (i := 8) (v := undef) rfl (by kernel_rfl) (by kernel_rfl) (by kernel_rfl) (fun _ _ _ h => h) (Or.inr ⟨by rfl, rfl⟩) (by assumption) ?_
  try simp only [Act.put, List.getElem_toArray, List.getElem_cons_succ, List.getElem_cons_zero, List.setIfInBounds_toArray, List.set_cons_zero, List.set_cons_succ]
  refine wpAnyH_take (i := 9) (v := undef) rfl (by kernel_rfl) (by kernel_rfl) (by kernel_rfl) (fun _ _ _ h => h) (Or.inr ⟨by rfl, rfl⟩) (by assumption) ?_
  try simp only [Act.put, List.getElem_toArray, List.getElem_cons_succ, List.getElem_cons_zero, List.setIfInBounds_toArray, List.set_cons_zero, List.set_cons_succ]
  refine wpAnyH_take (i := 10) (v := undef) rfl (by kernel_rfl) (by kernel_rfl) (by kernel_rfl) (fun _ _ _ h => h) (Or.inr ⟨by rfl, rfl⟩) (by assumption) ?_
  try simp only [Act.put, List.getElem_toArray, List.getElem_cons_succ, List.getElem_cons_zero, List.setIfInBounds_toArray, List.set_cons_zero, List.set_cons_succ]
  refine wpAnyH_take (i := 11) (v := undef) rfl (by kernel_rfl) (by kernel_rfl) (by kernel_rfl) (fun _ _ _ h => h) (Or.inr ⟨by rfl, rfl⟩) (by assumption) ?_
  try simp only [Act.put, List.getElem_toArray, List.getElem_cons_succ, List.getElem_cons_zero, List.setIfInBounds_toArray, List.set_cons_zero, List.set_cons_succ]
  refine wpAnyH_take (i := 12) (v := undef) rfl (by kernel_rfl) (by kernel_rfl) (by kernel_rfl) (fun _ _ _ h => h) (Or.inr ⟨by rfl, rfl⟩) (by assumption) ?_
  try simp only [Act.put, List.getElem_toArray, List.getElem_cons_succ, List.getElem_cons_zero, List.setIfInBounds_toArray, List.set_cons_zero, List.set_cons_succ]
  refine wpAnyH_take (i := 13) (v := undef) rfl (by kernel_rfl) (by kernel_rfl) (by kernel_rfl) (fun _ _ _ h => h) (Or.inr ⟨by rfl, rfl⟩) (by assumption) ?_
  try simp only [Act.put, List.getElem_toArray, List.getElem_cons_succ, List.getElem_cons_zero, List.setIfInBounds_toArray, List.set_cons_zero, List.set_cons_succ]
  refine wpAnyH_take (i := 14) (v := undef) rfl (by kernel_rfl) (by kernel_rfl) (by kernel_rfl) (fun _ _ _ h => h) (Or.inr ⟨by rfl, rfl⟩) (by assumption) ?_
  try simp only [Act.put, List.getElem_toArray, List.getElem_cons_succ, List.getElem_cons_zero, List.setIfInBounds_toArray, List.set_cons_zero, List.set_cons_succ]
  refine wpAnyH_take (i := 15) (v := ?_) rfl (by kernel_rfl) (by kernel_rfl) (by kernel_rfl) (fun _ _ _ h => h) (Or.inl ⟨by rfl, ?_⟩) (by assumption) ?_
  rotate_left
  ·(intro w' hS; (try dsimp only at hS); go_simp; try with_reducible rfl)
  try simp only [Act.put, List.getElem_toArray, List.getElem_cons_succ, List.getElem_cons_zero, List.setIfInBounds_toArray, List.set_cons_zero, List.set_cons_succ]
  refine wpAnyH_take (i := 16) (v := ?_) rfl (by kernel_rfl) (by kernel_rfl) (by kernel_rfl) (fun _ _ _ h => h) (Or.inl ⟨by rfl, ?_⟩) (by assumption) ?_
  rotate_left
  ·(intro w' hS; (try dsimp only at hS); go_simp; try with_reducible rfl)
  try simp only [Act.put, List.getElem_toArray, List.getElem_cons_succ, List.getElem_cons_zero, List.setIfInBounds_toArray, List.set_cons_zero, List.set_cons_succ]
  refine wpAnyH_done (by kernel_rfl) ?_ _
  refine NoPanic.normal ?_
  have T9 : RC w (.slice A n cap) x y wx := by assumption
  have hb := T9.1
  clear T9
  go_wp2
  go_ret
  exact mkBol HE.out.symm hb
end Go.Proofs.Ytmajllgfmclcoaa.Reg
