/- RegCel, RegL, Tch, RegL2 in one text. -/
import Derived.Test.YtmajllgfmclcoaaGreatDoorMe10
import Derived.Test.YtmajllgfmclcoaaGreatDoorMe00
import Derived.Deep.RegionHeld3
import Derived.Test.YtmajllgfmclcoaaGreatDoorMe07

namespace Go.Proofs.YtmajllgfmclcoaaGreatDoor.Reg
set_option linter.unusedVariables false
open Go.RowKit Go.Proofs.YtmajllgfmclcoaaGreatDoor.Pure Go.Proofs.YtmajllgfmclcoaaGreatDoor.Cell Go.Joins

def RC (w : World) (v : Value) (x y : Int) (W : World) : Prop :=
 Below w.heap.size w W ∧ w.heap.size + 2 ≤ W.heap.size ∧ W.cell? ⟨w.heap.size, 0, none⟩ = some v ∧ W.cell? ⟨w.heap.size + 1, 0, none⟩ = some (.int .i64 x) ∧ W.cell? ⟨w.heap.size + 1, 1, none⟩ = some (.int .i64 y)
theorem rc_start {T T' : TypeId} (v : Value) (x y : Int) (w : World) : RC w v x y ((w.alloc (.cells #[v] T)).alloc (.cells #[.int .i64 x, .int .i64 y] T')) := by
 have e1 : ((w.alloc (.cells #[v] T)).alloc (.cells #[.int .i64 x, .int .i64 y] T')).heap[w.heap.size]? = some (.cells #[v] T) := by
  show ((w.heap.push _).push _)[w.heap.size]? = _
  rw [Array.getElem?_push_lt (by simp)]
  simp
 have e2 : ((w.alloc (.cells #[v] T)).alloc (.cells #[.int .i64 x, .int .i64 y] T')).heap[w.heap.size + 1]? = some (.cells #[.int .i64 x, .int .i64 y] T') := by
  show ((w.heap.push _).push _)[w.heap.size + 1]? = _
  have : w.heap.size + 1 = (w.heap.push (.cells #[v] T)).size := by simp
  rw [this]
  exact Array.getElem?_push_size
 exact ⟨below_alloc2 w _ _, by simp, (cell_of_row _ _ 0 _ _ _ e1).trans rfl, (cell_of_row _ _ 0 _ _ _ e2).trans rfl, (cell_of_row _ _ 1 _ _ _ e2).trans rfl⟩
theorem RC.on {w W W' : World} {v : Value} {x y : Int} (h : RC w v x y W) (hb : Below W.heap.size W W') : RC w v x y W' := by
 obtain ⟨h0, h1, h2, h3, h4⟩ := h
 have hz := hb.size
 refine ⟨h0.trans (hb.mono h0.size), by omega, ?_, ?_, ?_⟩
 ·rw [hb.cell (by show w.heap.size < _; omega)]; exact h2
 ·rw [hb.cell (by show w.heap.size + 1 < _; omega)]; exact h3
 ·rw [hb.cell (by show w.heap.size + 1 < _; omega)]; exact h4
theorem RC.drew {w W : World} {v : Value} {x y : Int} (h : RC w v x y W) : RC w v x y W.drew := ⟨h.1.drew, h.2⟩
theorem has_no_ok {xs : List Int} (h : ¬ okR xs) (x y : Int) : hasB xs x y = false := by
 rw [Bool.eq_false_iff]; intro k; exact h (hasB_iff.1 k).1
theorem has_no_cell {xs : List Int} {x y : Int} (h : ¬ Ok x y) : hasB xs x y = false := by
 rw [Bool.eq_false_iff]; intro k; exact h ⟨(hasB_iff.1 k).2.1, (hasB_iff.1 k).2.2.1, (hasB_iff.1 k).2.2.2.1, (hasB_iff.1 k).2.2.2.2.1⟩
theorem has_at {xs : List Int} (h : okR xs) {x y : Nat} (hx : x < 8) (hy : y < 8) : hasB xs (x : Int) (y : Int) = bitB (rowD xs y) x := by
 rw [Bool.eq_iff_iff, hasB_iff, Int.toNat_natCast, Int.toNat_natCast]
 constructor
 ·exact fun k => k.2.2.2.2.2
 ·exact fun k => ⟨h, by omega, by omega, by omega, by omega, k⟩
theorem ok_nat {x y : Int} (h : Ok x y) : ∃ (x' y' : Nat), x = (x' : Int) ∧ y = (y' : Int) ∧ x' < 8 ∧ y' < 8 := by
 obtain ⟨a, b, c, d⟩ := h
 exact ⟨x.toNat, y.toNat, by omega, by omega, by omega, by omega⟩

set_option maxRecDepth 100000 in
set_option maxHeartbeats 1000000 in
theorem sHasCell (w : World) (A : Option Addr) (n cap B : Nat) (xs : List Int) (hx : xs.length = n) (hn : (n : Int) ≤ 9223372036854775807) (h : RowB w B A xs) (hB : B ≤ w.heap.size) (x y : Int) :
  Calls Tryz.prog 63 #[.agg #[.slice A n cap], .agg #[.int .i64 x, .int .i64 y]] w (Bol (hasB xs x y) w) := by
 have T0 := Lib.hid (fun T T' => rc_start (T := T) (T' := T') (.slice A n cap) x y w)
 have HOk := Lib.hid (fun W (hr : RC w (.slice A n cap) x y W) => sRegionOk W A n cap B xs hx hn (h.below hr.1 hB) (by have := hr.2.1; omega))
 have HHs := Lib.hid (fun W (x' y' : Nat) (ho : okR xs) (hr : RC w (.slice A n cap) x y W) hx8 hy8 => sHas W A n cap B xs hx ho (h.below hr.1 hB) (by have := hr.2.1; omega) x' y' hx8 hy8)
 clear hx hn h hB
 go_enter Tryz.func63, Tryz.ntmps63
 go_wp2_with fail
 have T1 := T0.out 26 79
 refine (HOk.out _ T1).mono ?_
 rintro e w1 ⟨rfl, hb1⟩
 have T2 := T1.on hb1
 clear T0 T1 hb1 HOk
 by_cases ho : okR xs
 ·rw [okRB_of ho]
  obtain ⟨_, _, c0, c1, c2⟩ := id T2
  go_wp2_with fail
  refine (sCellOk x y _).mono ?_
  rintro e w2 ⟨rfl, hb2⟩
  have T3 := T2.on hb2
  clear T2 c0 c1 c2 hb2
  by_cases hok : Ok x y
  ·rw [okB_of hok]
   obtain ⟨x', y', rfl, rfl, hx8, hy8⟩ := ok_nat hok
   have HE := Lib.hid (has_at ho hx8 hy8)
   obtain ⟨_, _, c0, c1, c2⟩ := id T3
   have HC := Lib.hid (HHs.out w2 x' y' ho T3 hx8 hy8)
   clear HHs hok hx8 hy8 ho
   go_wp2_with fail
   refine HC.out.mono ?_
   rintro e w3 ⟨rfl, hb3⟩
   have hb := (T3.on hb3).1
   clear T3 HC hb3 c0 c1 c2
   go_wp2
   go_ret
   exact mkBol HE.out.symm hb
  ·rw [okB_not hok]
   have HE := Lib.hid (has_no_cell (xs := xs) hok)
   have hb := T3.1
   clear T3 hok ho HHs
   go_wp2
   go_ret
   exact mkBol HE.out.symm hb
 ·rw [okRB_not ho]
  have HE := Lib.hid (has_no_ok ho x y)
  have hb := T2.1
  clear T2 ho HHs
  go_wp2
  go_ret
  exact mkBol HE.out.symm hb

theorem kindN' (r : Int) (k : Nat) (h0 : 0 ≤ r) (h1 : r ≤ 255) (hk : k < 8) (w : World) :
  Calls Tryz.prog 118 #[.int .i64 r, .int .i64 (k : Int)] w (Num (kindN r k) w) := by
 refine (iKindAt r k h0 h1 hk w).mono ?_
 rintro e w' ⟨rfl, rfl⟩
 exact ⟨rfl, Below.refl _ _⟩

set_option maxRecDepth 100000 in
set_option maxHeartbeats 2000000 in
theorem iHasCell (w : World) (A : Option Addr) (n cap B : Nat) (xs : List Int) (hx : xs.length = n) (hn : (n : Int) ≤ 9223372036854775807) (h : RowB w B A xs) (hB : B ≤ w.heap.size) (x y : Int) :
  Calls Tryz.prog 104 #[.agg #[.slice A n cap], .agg #[.int .i64 x, .int .i64 y]] w (Bol (hasB xs x y) w) := by
 have T0 := Lib.hid (fun T T' => rc_start (T := T) (T' := T') (.slice A n cap) x y w)
 have HOk := Lib.hid (fun W (hr : RC w (.slice A n cap) x y W) => iRegionOk W A n cap B xs hx hn (h.below hr.1 hB) (by have := hr.2.1; omega))
 have HRw := Lib.hid (fun W (y' : Nat) (hr : RC w (.slice A n cap) x y W) => iRowAt W A n cap B xs hx hn (h.below hr.1 hB) (by have := hr.2.1; omega) y')
 clear hx hn h hB
 by_cases ho : okR xs
 ·rw [okRB_of ho] at HOk
  by_cases hok : Ok x y
  ·have HCk := Lib.hid (fun W => cellOk x y W)
   rw [okB_of hok] at HCk
   obtain ⟨x', y', rfl, rfl, hx8, hy8⟩ := ok_nat hok
   have HE := Lib.hid (has_at ho hx8 hy8)
   have HRo := Lib.hid (fun W => HRw.out W y')
   have hr := rowD_ok ho y'
   clear HRw
   generalize rowD xs y' = r at HE HRo hr
   have HKd := Lib.hid (fun W => kindN' r x' hr.1 hr.2 hx8 W)
   have hkn : bitB r x' = true ∧ kindN r x' = 1 ∨ bitB r x' = false ∧ kindN r x' = 0 := by
    cases hb : bitB r x' with
    | true => exact .inl ⟨rfl, kindN_yes hb⟩
    | false => exact .inr ⟨rfl, kindN_no hb⟩
   generalize kindN r x' = kd at HKd hkn
   rw [HE.out]
   clear hr hx8 hy8 ho hok HE
   rcases hkn with ⟨hb, rfl⟩ | ⟨hb, rfl⟩
   all_goals
    rw [hb]
    clear hb
    go_enter Tryz.func104, Tryz.ntmps104
    go_wp2_with fail
    have T1 := T0.out 26 79
    generalize (w.alloc (.cells #[.slice A n cap] 26)).alloc (.cells #[.int .i64 (x' : Int), .int .i64 (y' : Int)] 79) = W at T1 ⊢
    clear T0
    go_region_held3 (fun w' => Below w.heap.size w w' ∧ w.heap.size + 2 ≤ w'.heap.size ∧ w'.cell? ⟨w.heap.size, 0, none⟩ = some (.slice A n cap) ∧ w'.cell? ⟨w.heap.size + 1, 0, none⟩ = some (.int .i64 (x' : Int)) ∧ w'.cell? ⟨w.heap.size + 1, 1, none⟩ = some (.int .i64 (y' : Int)))
     (first | assumption | exact RC.drew (by assumption) | exact RC.on (by assumption) (by assumption))
     (first | (go_at_call 75; refine (HOk.out _ (by assumption)).mono ?_; rintro e wx ⟨rfl, hbx⟩) | (go_at_call 126; refine (HCk.out _).mono ?_; rintro e wx ⟨rfl, hbx⟩) | (go_at_call 127; refine (HRo.out _ (by assumption)).mono ?_; rintro e wx ⟨rfl, hbx⟩) | (go_at_call 118; refine (HKd.out _).mono ?_; rintro e wx ⟨rfl, hbx⟩))
    all_goals
     have T9 : RC w (.slice A n cap) (x' : Int) (y' : Int) wx := by assumption
     have hb := T9.1
     clear T9
     go_wp2
     go_ret
     exact mkBol rfl hb
  ·have HCk := Lib.hid (fun W => cellOk x y W)
   rw [okB_not hok] at HCk
   have HE := Lib.hid (has_no_cell (xs := xs) hok)
   clear HRw hok ho
   go_enter Tryz.func104, Tryz.ntmps104
   go_wp2_with fail
   have T1 := T0.out 26 79
   generalize (w.alloc (.cells #[.slice A n cap] 26)).alloc (.cells #[.int .i64 x, .int .i64 y] 79) = W at T1 ⊢
   clear T0
   refine wp_region_noPanic ?_
   refine wp_region_held_drew (S := (fun w' => Below w.heap.size w w' ∧ w.heap.size + 2 ≤ w'.heap.size ∧ w'.cell? ⟨w.heap.size, 0, none⟩ = some (.slice A n cap) ∧ w'.cell? ⟨w.heap.size + 1, 0, none⟩ = some (.int .i64 x) ∧ w'.cell? ⟨w.heap.size + 1, 1, none⟩ = some (.int .i64 y))) (by kernel_rfl) (RC.drew T1) (fun hHeld => ?_)
   refine wpAnyH_take (i := 0) (v := ?_) rfl (by kernel_rfl) (by kernel_rfl) (by kernel_rfl) (fun _ _ _ h => h) (Or.inl ⟨by rfl, ?_⟩) (by assumption) ?_
   rotate_left
   ·(intro w' hS; (try dsimp only at hS); go_simp; try with_reducible rfl)
   try simp only [Act.put, List.getElem_toArray, List.getElem_cons_zero, List.setIfInBounds_toArray, List.set_cons_zero, List.set_cons_succ]
   refine wpAnyH_ready (rs := [1]) (by kernel_rfl) (by simp) ?_
   refine AllReadyH.cons rfl (fun K hK => ?_) AllReadyH.nil
   go_simp
   refine (HOk.out _ (by assumption)).mono ?_
   rintro e wx ⟨rfl, hbx⟩
   go_wp2_with fail
   refine hK.out _ _ (RC.on (by assumption) hbx) (fun hHeld => ?_)
   clear hK K
   try simp only [Act.put, List.getElem_toArray, List.getElem_cons_succ, List.getElem_cons_zero, List.setIfInBounds_toArray, List.set_cons_zero, List.set_cons_succ]
   refine wpAnyH_take (i := 2) (v := ?_) rfl (by kernel_rfl) (by kernel_rfl) (by kernel_rfl) (fun _ _ _ h => h) (Or.inl ⟨by rfl, ?_⟩) (by assumption) ?_
   rotate_left
   ·(intro w' hS; (try dsimp only at hS); go_simp; try with_reducible rfl)
   try simp only [Act.put, List.getElem_toArray, List.getElem_cons_succ, List.getElem_cons_zero, List.setIfInBounds_toArray, List.set_cons_zero, List.set_cons_succ]
   refine wpAnyH_take (i := 3) (v := ?_) rfl (by kernel_rfl) (by kernel_rfl) (by kernel_rfl) (fun _ _ _ h => h) (Or.inl ⟨by rfl, ?_⟩) (by assumption) ?_
   rotate_left
   ·(intro w' hS; (try dsimp only at hS); go_simp; try with_reducible rfl)
   try simp only [Act.put, List.getElem_toArray, List.getElem_cons_succ, List.getElem_cons_zero, List.setIfInBounds_toArray, List.set_cons_zero, List.set_cons_succ]
   refine wpAnyH_ready (rs := [4]) (by kernel_rfl) (by simp) ?_
   refine AllReadyH.cons rfl (fun K hK => ?_) AllReadyH.nil
   go_simp
   refine (HCk.out _).mono ?_
   rintro e wx ⟨rfl, hbx⟩
   go_wp2_with fail
   refine hK.out _ _ (RC.on (by assumption) hbx) (fun hHeld => ?_)
   clear hK K
   try simp only [Act.put, List.getElem_toArray, List.getElem_cons_succ, List.getElem_cons_zero, List.setIfInBounds_toArray, List.set_cons_zero, List.set_cons_succ]
   refine wpAnyH_take (i := 5) (v := ?_) rfl (by kernel_rfl) (by kernel_rfl) (by kernel_rfl) (fun _ _ _ h => h) (Or.inl ⟨by rfl, ?_⟩) (by assumption) ?_
   rotate_left
   ·(intro w' hS; (try dsimp only at hS); go_simp; try with_reducible rfl)
   try simp only [Act.put, List.getElem_toArray, List.getElem_cons_succ, List.getElem_cons_zero, List.setIfInBounds_toArray, List.set_cons_zero, List.set_cons_succ]
   refine wpAnyH_take (i := 6) (v := ?_) rfl (by kernel_rfl) (by kernel_rfl) (by kernel_rfl) (fun _ _ _ h => h) (Or.inl ⟨by rfl, ?_⟩) (by assumption) ?_
   rotate_left
   ·(intro w' hS; (try dsimp only at hS); go_simp; try with_reducible rfl)
   try simp only [Act.put, List.getElem_toArray, List.getElem_cons_succ, List.getElem_cons_zero, List.setIfInBounds_toArray, List.set_cons_zero, List.set_cons_succ]
   refine wpAnyH_take (i := 7) (v := undef) rfl (by kernel_rfl) (by kernel_rfl) (by kernel_rfl) (fun _ _ _ h => h) (Or.inr ⟨by rfl, rfl⟩) (by assumption) ?_
   try simp only [Act.put, List.getElem_toArray, List.getElem_cons_succ, List.getElem_cons_zero, List.setIfInBounds_toArray, List.set_cons_zero, List.set_cons_succ]
   refine wpAnyH_take (i := 8) (v := undef) rfl (by kernel_rfl) (by kernel_rfl) (by kernel_rfl) (fun _ _ _ h => h) (Or.inr ⟨by rfl, rfl⟩) (by assumption) ?_
   try simp only [Act.put, List.getElem_toArray, List.getElem_cons_succ, List.getElem_cons_zero, List.setIfInBounds_toArray, List.set_cons_zero, List.set_cons_succ]
   refine wpAnyH_take (i := 9) (v := undef) rfl (by kernel_rfl) (by kernel_rfl) (by kernel_rfl) (fun _ _ _ h => h) (Or.inr ⟨by rfl, rfl⟩) (by assumption) ?_
   try simp only [Act.put, List.getElem_toArray, List.getElem_cons_succ, List.getElem_cons_zero, List.setIfInBounds_toArray, List.set_cons_zero, List.set_cons_succ]
   refine wpAnyH_take (i := 10) (v := undef) rfl (by kernel_rfl) (by kernel_rfl) (by kernel_rfl) (fun _ _ _ h => h) (Or.inr ⟨by rfl, rfl⟩) (by assumption) ?_
   try simp only [Act.put, List.getElem_toArray, List.getElem_cons_succ, List.getElem_cons_zero, List.setIfInBounds_toArray, List.set_cons_zero, List.set_cons_succ]
   refine wpAnyH_take (i := 11) (v := undef) rfl (by kernel_rfl) (by kernel_rfl) (by kernel_rfl) (fun _ _ _ h => h) (Or.inr ⟨by rfl, rfl⟩) (by assumption) ?_
   try simp only [Act.put, List.getElem_toArray, List.getElem_cons_succ, List.getElem_cons_zero, List.setIfInBounds_toArray, List.set_cons_zero, List.set_cons_succ]
   refine wpAnyH_take (i := 12) (v := undef) rfl (by kernel_rfl) (by kernel_rfl) (by kernel_rfl) (fun _ _ _ h => h) (Or.inr ⟨by rfl, rfl⟩) (by assumption) ?_
   try simp only [Act.put, List.getElem_toArray, List.getElem_cons_succ, List.getElem_cons_zero, List.setIfInBounds_toArray, List.set_cons_zero, List.set_cons_succ]
   refine wpAnyH_take (i := 13) (v := undef) rfl (by kernel_rfl) (by kernel_rfl) (by kernel_rfl) (fun _ _ _ h => h) (Or.inr ⟨by rfl, rfl⟩) (by assumption) ?_
   try simp only [Act.put, List.getElem_toArray, List.getElem_cons_succ, List.getElem_cons_zero, List.setIfInBounds_toArray, List.set_cons_zero, List.set_cons_succ]
   refine wpAnyH_take (i := 14) (v := undef) rfl (by kernel_rfl) (by kernel_rfl) (by kernel_rfl) (fun _ _ _ h => h) (Or.inr ⟨by rfl, rfl⟩) (by assumption) ?_
   try simp only [Act.put, List.getElem_toArray, List.getElem_cons_succ, List.getElem_cons_zero, List.setIfInBounds_toArray, List.set_cons_zero, List.set_cons_succ]
   refine wpAnyH_take (i := 15) (v := ?_) rfl (by kernel_rfl) (by kernel_rfl) (by kernel_rfl) (fun _ _ _ h => h) (Or.inl ⟨by rfl, ?_⟩) (by assumption) ?_
   rotate_left
   ·(intro w' hS; (try dsimp only at hS); go_simp; try with_reducible rfl)
   try simp only [Act.put, List.getElem_toArray, List.getElem_cons_succ, List.getElem_cons_zero, List.setIfInBounds_toArray, List.set_cons_zero, List.set_cons_succ]
   refine wpAnyH_take (i := 16) (v := ?_) rfl (by kernel_rfl) (by kernel_rfl) (by kernel_rfl) (fun _ _ _ h => h) (Or.inl ⟨by rfl, ?_⟩) (by assumption) ?_
   rotate_left
   ·(intro w' hS; (try dsimp only at hS); go_simp; try with_reducible rfl)
   try simp only [Act.put, List.getElem_toArray, List.getElem_cons_succ, List.getElem_cons_zero, List.setIfInBounds_toArray, List.set_cons_zero, List.set_cons_succ]
   refine wpAnyH_done (by kernel_rfl) ?_ _
   refine NoPanic.normal ?_
   have T9 : RC w (.slice A n cap) x y wx := by assumption
   have hb := T9.1
   clear T9
   go_wp2
   go_ret
   exact mkBol HE.out.symm hb
 ·rw [okRB_not ho] at HOk
  have HE := Lib.hid (has_no_ok ho x y)
  clear HRw ho
  go_enter Tryz.func104, Tryz.ntmps104
  go_wp2_with fail
  have T1 := T0.out 26 79
  generalize (w.alloc (.cells #[.slice A n cap] 26)).alloc (.cells #[.int .i64 x, .int .i64 y] 79) = W at T1 ⊢
  clear T0
  refine wp_region_noPanic ?_
  refine wp_region_held_drew (S := (fun w' => Below w.heap.size w w' ∧ w.heap.size + 2 ≤ w'.heap.size ∧ w'.cell? ⟨w.heap.size, 0, none⟩ = some (.slice A n cap) ∧ w'.cell? ⟨w.heap.size + 1, 0, none⟩ = some (.int .i64 x) ∧ w'.cell? ⟨w.heap.size + 1, 1, none⟩ = some (.int .i64 y))) (by kernel_rfl) (RC.drew T1) (fun hHeld => ?_)
  refine wpAnyH_take (i := 0) (v := ?_) rfl (by kernel_rfl) (by kernel_rfl) (by kernel_rfl) (fun _ _ _ h => h) (Or.inl ⟨by rfl, ?_⟩) (by assumption) ?_
  rotate_left
  ·(intro w' hS; (try dsimp only at hS); go_simp; try with_reducible rfl)
  try simp only [Act.put, List.getElem_toArray, List.getElem_cons_zero, List.setIfInBounds_toArray, List.set_cons_zero, List.set_cons_succ]
  refine wpAnyH_ready (rs := [1]) (by kernel_rfl) (by simp) ?_
  refine AllReadyH.cons rfl (fun K hK => ?_) AllReadyH.nil
  go_simp
  refine (HOk.out _ (by assumption)).mono ?_
  rintro e wx ⟨rfl, hbx⟩
  go_wp2_with fail
  refine hK.out _ _ (RC.on (by assumption) hbx) (fun hHeld => ?_)
  clear hK K
  try simp only [Act.put, List.getElem_toArray, List.getElem_cons_succ, List.getElem_cons_zero, List.setIfInBounds_toArray, List.set_cons_zero, List.set_cons_succ]
  refine wpAnyH_take (i := 2) (v := ?_) rfl (by kernel_rfl) (by kernel_rfl) (by kernel_rfl) (fun _ _ _ h => h) (Or.inl ⟨by rfl, ?_⟩) (by assumption) ?_
  rotate_left
  ·(intro w' hS; (try dsimp only at hS); go_simp; try with_reducible rfl)
  try simp only [Act.put, List.getElem_toArray, List.getElem_cons_succ, List.getElem_cons_zero, List.setIfInBounds_toArray, List.set_cons_zero, List.set_cons_succ]
  refine wpAnyH_take (i := 3) (v := undef) rfl (by kernel_rfl) (by kernel_rfl) (by kernel_rfl) (fun _ _ _ h => h) (Or.inr ⟨by rfl, rfl⟩) (by assumption) ?_
  try simp only [Act.put, List.getElem_toArray, List.getElem_cons_succ, List.getElem_cons_zero, List.setIfInBounds_toArray, List.set_cons_zero, List.set_cons_succ]
  refine wpAnyH_take (i := 4) (v := undef) rfl (by kernel_rfl) (by kernel_rfl) (by kernel_rfl) (fun _ _ _ h => h) (Or.inr ⟨by rfl, rfl⟩) (by assumption) ?_
  try simp only [Act.put, List.getElem_toArray, List.getElem_cons_succ, List.getElem_cons_zero, List.setIfInBounds_toArray, List.set_cons_zero, List.set_cons_succ]
  refine wpAnyH_take (i := 5) (v := ?_) rfl (by kernel_rfl) (by kernel_rfl) (by kernel_rfl) (fun _ _ _ h => h) (Or.inl ⟨by rfl, ?_⟩) (by assumption) ?_
  rotate_left
  ·(intro w' hS; (try dsimp only at hS); go_simp; try with_reducible rfl)
  try simp only [Act.put, List.getElem_toArray, List.getElem_cons_succ, List.getElem_cons_zero, List.setIfInBounds_toArray, List.set_cons_zero, List.set_cons_succ]
  refine wpAnyH_take (i := 6) (v := ?_) rfl (by kernel_rfl) (by kernel_rfl) (by kernel_rfl) (fun _ _ _ h => h) (Or.inl ⟨by rfl, ?_⟩) (by assumption) ?_
  rotate_left
  ·(intro w' hS; (try dsimp only at hS); go_simp; try with_reducible rfl)
  try simp only [Act.put, List.getElem_toArray, List.getElem_cons_succ, List.getElem_cons_zero, List.setIfInBounds_toArray, List.set_cons_zero, List.set_cons_succ]
  refine wpAnyH_take (i := 7) (v := undef) rfl (by kernel_rfl) (by kernel_rfl) (by kernel_rfl) (fun _ _ _ h => h) (Or.inr ⟨by rfl, rfl⟩) (by assumption) ?_
  try simp only [Act.put, List.getElem_toArray, List.getElem_cons_succ, List.getElem_cons_zero, List.setIfInBounds_toArray, List.set_cons_zero, List.set_cons_succ]
  refine wpAnyH_take (i := 8) (v := undef) rfl (by kernel_rfl) (by kernel_rfl) (by kernel_rfl) (fun _ _ _ h => h) (Or.inr ⟨by rfl, rfl⟩) (by assumption) ?_
  try simp only [Act.put, List.getElem_toArray, List.getElem_cons_succ, List.getElem_cons_zero, List.setIfInBounds_toArray, List.set_cons_zero, List.set_cons_succ]
  refine wpAnyH_take (i := 9) (v := undef) rfl (by kernel_rfl) (by kernel_rfl) (by kernel_rfl) (fun _ _ _ h => h) (Or.inr ⟨by rfl, rfl⟩) (by assumption) ?_
  try simp only [Act.put, List.getElem_toArray, List.getElem_cons_succ, List.getElem_cons_zero, List.setIfInBounds_toArray, List.set_cons_zero, List.set_cons_succ]
  refine wpAnyH_take (i := 10) (v := undef) rfl (by kernel_rfl) (by kernel_rfl) (by kernel_rfl) (fun _ _ _ h => h) (Or.inr ⟨by rfl, rfl⟩) (by assumption) ?_
  try simp only [Act.put, List.getElem_toArray, List.getElem_cons_succ, List.getElem_cons_zero, List.setIfInBounds_toArray, List.set_cons_zero, List.set_cons_succ]
  refine wpAnyH_take (i := 11) (v := undef) rfl (by kernel_rfl) (by kernel_rfl) (by kernel_rfl) (fun _ _ _ h => h) (Or.inr ⟨by rfl, rfl⟩) (by assumption) ?_
  try simp only [Act.put, List.getElem_toArray, List.getElem_cons_succ, List.getElem_cons_zero, List.setIfInBounds_toArray, List.set_cons_zero, List.set_cons_succ]
  refine wpAnyH_take (i := 12) (v := undef) rfl (by kernel_rfl) (by kernel_rfl) (by kernel_rfl) (fun _ _ _ h => h) (Or.inr ⟨by rfl, rfl⟩) (by assumption) ?_
  try simp only [Act.put, List.getElem_toArray, List.getElem_cons_succ, List.getElem_cons_zero, List.setIfInBounds_toArray, List.set_cons_zero, List.set_cons_succ]
  refine wpAnyH_take (i := 13) (v := undef) rfl (by kernel_rfl) (by kernel_rfl) (by kernel_rfl) (fun _ _ _ h => h) (Or.inr ⟨by rfl, rfl⟩) (by assumption) ?_
  try simp only [Act.put, List.getElem_toArray, List.getElem_cons_succ, List.getElem_cons_zero, List.setIfInBounds_toArray, List.set_cons_zero, List.set_cons_succ]
  refine wpAnyH_take (i := 14) (v := undef) rfl (by kernel_rfl) (by kernel_rfl) (by kernel_rfl) (fun _ _ _ h => h) (Or.inr ⟨by rfl, rfl⟩) (by assumption) ?_
  try simp only [Act.put, List.getElem_toArray, List.getElem_cons_succ, List.getElem_cons_zero, List.setIfInBounds_toArray, List.set_cons_zero, List.set_cons_succ]
  refine wpAnyH_take (i := 15) (v := ?_) rfl (by kernel_rfl) (by kernel_rfl) (by kernel_rfl) (fun _ _ _ h => h) (Or.inl ⟨by rfl, ?_⟩) (by assumption) ?_
  rotate_left
  ·(intro w' hS; (try dsimp only at hS); go_simp; try with_reducible rfl)
  try simp only [Act.put, List.getElem_toArray, List.getElem_cons_succ, List.getElem_cons_zero, List.setIfInBounds_toArray, List.set_cons_zero, List.set_cons_succ]
  refine wpAnyH_take (i := 16) (v := ?_) rfl (by kernel_rfl) (by kernel_rfl) (by kernel_rfl) (fun _ _ _ h => h) (Or.inl ⟨by rfl, ?_⟩) (by assumption) ?_
  rotate_left
  ·(intro w' hS; (try dsimp only at hS); go_simp; try with_reducible rfl)
  try simp only [Act.put, List.getElem_toArray, List.getElem_cons_succ, List.getElem_cons_zero, List.setIfInBounds_toArray, List.set_cons_zero, List.set_cons_succ]
  refine wpAnyH_done (by kernel_rfl) ?_ _
  refine NoPanic.normal ?_
  have T9 : RC w (.slice A n cap) x y wx := by assumption
  have hb := T9.1
  clear T9
  go_wp2
  go_ret
  exact mkBol HE.out.symm hb
end Go.Proofs.YtmajllgfmclcoaaGreatDoor.Reg

namespace Go.Proofs.YtmajllgfmclcoaaGreatDoor.Reg
set_option linter.unusedVariables false
open Go.RowKit Go.Joins

def Yes (w : World) (e : Ending) (w' : World) : Prop := e = .returned (.bool true) ∧ Below w.heap.size w w'
def RB (w : World) (v : Value) (W : World) : Prop :=
 Below w.heap.size w W ∧ w.heap.size + 1 ≤ W.heap.size ∧ W.cell? ⟨w.heap.size, 0, none⟩ = some v
theorem rb_start {T : TypeId} (v : Value) (w : World) : RB w v (w.alloc (.cells #[v] T)) :=
 ⟨below_alloc1 w _, by simp, (cell_of_row _ _ 0 _ _ _ (heap_alloc_new w _)).trans rfl⟩
theorem RB.onB {w W W' : World} {v : Value} {B : Nat} (h : RB w v W) (hb : Below B W W') (hB : w.heap.size + 1 ≤ B) : RB w v W' := by
 obtain ⟨h0, h1, h2⟩ := h
 have hz := hb.size
 refine ⟨h0.trans (hb.mono (by omega)), by omega, ?_⟩
 rw [hb.cell (by show w.heap.size < _; omega)]; exact h2
theorem RB.on {w W W' : World} {v : Value} (h : RB w v W) (hb : Below W.heap.size W W') : RB w v W' := h.onB hb h.2.1
theorem RB.drew {w W : World} {v : Value} (h : RB w v W) : RB w v W.drew := ⟨h.1.drew, h.2⟩
theorem szR_no {n : Nat} (h : ¬ (n : Int) ≤ 1048576) : szR 1048576 n = -1 := by unfold szR; rw [if_neg h]
theorem szR_yes {n : Nat} (h : (n : Int) ≤ 1048576) : 0 ≤ szR 1048576 n ∧ szR 1048576 n ≤ 1048576 := by unfold szR; rw [if_pos h]; omega
end Go.Proofs.YtmajllgfmclcoaaGreatDoor.Reg

namespace Go.Proofs.YtmajllgfmclcoaaGreatDoor.Flo
set_option linter.unusedVariables false
set_option linter.unusedSimpArgs false
open Go.RowKit Go.Proofs.YtmajllgfmclcoaaGreatDoor.Pure Go.Proofs.YtmajllgfmclcoaaGreatDoor.Euler Go.Proofs.YtmajllgfmclcoaaGreatDoor.Bal Go.Proofs.YtmajllgfmclcoaaGreatDoor.Cell Go.Proofs.YtmajllgfmclcoaaGreatDoor.Reg Go.Joins

def touchB (xs : List Int) : Bool := (List.range 64).any fun i => decide (i % 8 < 7) && decide (i / 8 < 7) && touchAt xs i
theorem touchB_iff {xs : List Int} : touchB xs = true ↔ Bal.Touch xs := by
  unfold touchB Bal.Touch
  rw [List.any_eq_true]
  constructor
  · rintro ⟨i, hi, h⟩
    simp only [Bool.and_eq_true, decide_eq_true_eq] at h
    exact ⟨i, List.mem_range.1 hi, h.1.1, h.1.2, h.2⟩
  · rintro ⟨i, hi, h1, h2, h3⟩
    exact ⟨i, List.mem_range.2 hi, by rw [h3, decide_eq_true h1, decide_eq_true h2]; rfl⟩
def NoT (xs : List Int) (y x : Nat) : Prop := ∀ i, i % 8 < 7 → i / 8 < 7 → (i / 8 < y ∨ (i / 8 = y ∧ i % 8 < x)) → touchAt xs i = false
theorem NoT.start (xs : List Int) : NoT xs 0 0 := fun i _ _ h => by omega
theorem NoT.next {xs : List Int} {y x : Nat} (h : NoT xs y x) (hx : x < 7) (ht : touchAt xs (8 * y + x) = false) : NoT xs y (x + 1) := by
  intro i h1 h2 h3
  by_cases e : i = 8 * y + x
  · subst e; exact ht
  · exact h i h1 h2 (by omega)
theorem NoT.row {xs : List Int} {y : Nat} (h : NoT xs y 7) : NoT xs (y + 1) 0 := fun i h1 h2 h3 => h i h1 h2 (by omega)
theorem NoT.done {xs : List Int} (h : NoT xs 7 0) : touchB xs = false := by
  cases q : touchB xs
  · rfl
  · obtain ⟨i, _, h1, h2, h3⟩ := touchB_iff.1 q
    rw [h i h1 h2 (by omega)] at h3; cases h3
theorem touch_yes {xs : List Int} {y x : Nat} (hx : x < 7) (hy : y < 7) (ht : touchAt xs (8 * y + x) = true) : touchB xs = true := touchB_iff.2 ⟨8 * y + x, by omega, by omega, by omega, ht⟩
theorem four {xs : List Int} (ho : okR xs) {y x : Nat} (hx : x < 7) (hy : y < 7) : touchAt xs (8 * y + x) = ((bitB (rowD xs y) x == bitB (rowD xs (y + 1)) (x + 1)) && (bitB (rowD xs y) (x + 1) == bitB (rowD xs (y + 1)) x) && (bitB (rowD xs y) x != bitB (rowD xs y) (x + 1))) := by
  unfold touchAt bitI
  rw [show (8 * y + x) / 8 = y by omega, show (8 * y + x) % 8 = x by omega, show (8 * y + x + 9) / 8 = y + 1 by omega, show (8 * y + x + 9) % 8 = x + 1 by omega, show (8 * y + x + 1) / 8 = y by omega, show (8 * y + x + 1) % 8 = x + 1 by omega, show (8 * y + x + 8) / 8 = y + 1 by omega, show (8 * y + x + 8) % 8 = x by omega]

set_option maxRecDepth 100000 in
set_option maxHeartbeats 4000000 in
theorem sTouches (w : World) (A : Option Addr) (n cap B : Nat) (xs : List Int) (hx : xs.length = n) (hn : (n : Int) ≤ 9223372036854775807) (ho : okR xs) (h : RowB w B A xs) (hB : B ≤ w.heap.size) :
    Calls Tryz.prog 96 #[.agg #[.slice A n cap]] w (Bol (touchB xs) w) := by
  have HH := Lib.hid (fun W (x y : Nat) (X Y : Int) (hX : X = (x : Int)) (hY : Y = (y : Int)) (hb : Below w.heap.size w W) hx8 hy8 => show Calls Tryz.prog 93 #[.agg #[.slice A n cap], .agg #[.int .i64 X, .int .i64 Y]] W (Bol (bitB (rowD xs y) x) W) by
    rw [hX, hY]; exact sHas W A n cap B xs hx ho (h.below hb hB) (by have := hb.size; omega) x y hx8 hy8)
  have T0 := Lib.hid (fun T => rb_start (T := T) (.slice A n cap) w)
  have HF := Lib.hid (fun (y x : Nat) hx hy => four (y := y) (x := x) ho hx hy)
  clear hx hn h ho
  go_enter Tryz.func96, Tryz.ntmps96
  go_wp2_with fail
  have T1 := T0.out 26
  clear T0
  generalize w.alloc (.cells #[.slice A n cap] 26) = W1 at T1 ⊢
  go_loopw [3] (fun i wr => ∃ y : Nat, y ≤ 7 ∧ i = .int .i64 y ∧ NoT xs y 0 ∧ RB w (.slice A n cap) wr) (fun i _ => 7 - (intOf i).toNat)
  case atStart => exact ⟨0, by omega, rfl, NoT.start xs, T1⟩
  case round =>
    clear T1
    obtain ⟨y, hy, rfl, hno, T⟩ := hrel
    have HNo := Lib.hid hno
    have HT := Lib.hid T
    by_cases hlt : y < 7
    · clear hno T
      go_wp2_with fail
      have hdy : decide ((y : Int) + 1 < 8) = true := decide_eq_true (by omega)
      go_loopw [4] (fun i wr => ∃ x : Nat, x ≤ 7 ∧ i = .int .i64 x ∧ NoT xs y x ∧ RB w (.slice A n cap) wr) (fun i _ => 7 - (intOf i).toNat)
      case atStart => exact ⟨0, by omega, rfl, HNo.out, HT.out⟩
      case round =>
        clear HNo HT
        obtain ⟨x, hx, rfl, hno, T⟩ := hrel
        have HNo := Lib.hid hno
        clear hno
        by_cases hlx : x < 7
        · have hf := HF.out y x hlx hlt
          have H1 := Lib.hid (fun W hb => HH.out W x y (x : Int) (y : Int) rfl rfl hb (by omega) (by omega))
          have H2 := Lib.hid (fun W hb => HH.out W (x + 1) y ((x : Int) + 1) (y : Int) rfl rfl hb (by omega) (by omega))
          have H3 := Lib.hid (fun W hb => HH.out W x (y + 1) (x : Int) ((y : Int) + 1) rfl rfl hb (by omega) (by omega))
          have H4 := Lib.hid (fun W hb => HH.out W (x + 1) (y + 1) ((x : Int) + 1) ((y : Int) + 1) rfl rfl hb (by omega) (by omega))
          have HFf := Lib.hid hf
          clear hf
          generalize bitB (rowD xs y) x = b1 at H1 HFf
          generalize bitB (rowD xs y) (x + 1) = b2 at H2 HFf
          generalize bitB (rowD xs (y + 1)) x = b3 at H3 HFf
          generalize bitB (rowD xs (y + 1)) (x + 1) = b4 at H4 HFf
          obtain ⟨_, _, c0⟩ := id T
          go_wp2_with fail
          refine (H1.out _ T.1).mono ?_
          rintro e w2 ⟨rfl, hb2⟩
          have T2 := T.on hb2
          obtain ⟨_, _, c2⟩ := id T2
          clear T c0 hb2
          go_wp2_with fail
          refine (H2.out _ T2.1).mono ?_
          rintro e w3 ⟨rfl, hb3⟩
          have T3 := T2.on hb3
          obtain ⟨_, _, c3⟩ := id T3
          clear T2 c2 hb3
          go_wp2_with fail
          refine (H3.out _ T3.1).mono ?_
          rintro e w4 ⟨rfl, hb4⟩
          have T4 := T3.on hb4
          obtain ⟨_, _, c4⟩ := id T4
          clear T3 c3 hb4
          go_wp2_with fail
          refine (H4.out _ T4.1).mono ?_
          rintro e w5 ⟨rfl, hb5⟩
          have T5 := Lib.hid (T4.on hb5)
          clear T4 c4 hb5 H1 H2 H3 H4
          cases ht : touchAt xs (8 * y + x) with
          | true =>
            have HR := Lib.hid (touch_yes hlx hlt ht)
            have hb := T5.out.1
            rw [ht] at HFf
            clear ht
            have hff := HFf.out
            cases b1 <;> cases b2 <;> cases b3 <;> cases b4 <;> first
              | (exact absurd hff (by decide))
              | (clear hff HFf
                 go_wp2
                 go_ret
                 exact mkBol HR.out.symm hb)
          | false =>
            have HNx := Lib.hid (HNo.out.next hlx ht)
            rw [ht] at HFf
            clear ht
            have hff := HFf.out
            cases b1 <;> cases b2 <;> cases b3 <;> cases b4 <;> first
              | (exact absurd hff (by decide))
              | (clear hff HFf
                 go_wp2
                 go_roundw
                 case rel =>
                   repeat apply Exists.intro
                   refine ⟨⟨x + 1, by omega, ?_, HNx.out, T5.out⟩, ?_⟩
                   rotate_left
                   · rw [hdy]
                   · go_num
                 case measure => (simp [intOf] <;> omega))
        · obtain rfl : x = 7 := by omega
          have HNx := Lib.hid HNo.out.row
          go_wp2
          go_roundw
          case rel => exact ⟨y + 1, by omega, by go_num, HNx.out, T⟩
          case measure => (simp [intOf] <;> omega)
    · obtain rfl : y = 7 := by omega
      have HR := Lib.hid HNo.out.done
      have hb := T.1
      clear hno T
      go_wp2
      go_ret
      exact mkBol HR.out.symm hb
end Go.Proofs.YtmajllgfmclcoaaGreatDoor.Flo

namespace Go.Proofs.YtmajllgfmclcoaaGreatDoor.Reg
set_option linter.unusedVariables false
open Go.RowKit Go.Joins

theorem RowIn.belowB {W W' : World} {lo hi B e size n : Nat} {v : Value} {xs : List Value} (h : RowIn W lo hi e size v n xs) (hb : Below B W W') (hB : hi ≤ B) : RowIn W' lo hi e size v n xs := by
 refine ⟨⟨h.1.1, ?_⟩, h.2⟩
 rcases h.1.2 with hn | ⟨g, cap, cur, rfl, hg, hgg, rest⟩
 ·exact .inl hn
 ·refine .inr ⟨g, cap, cur, rfl, hg, ?_, rest⟩
  have h2 := h.2 g rfl
  rw [hb.block g (by omega)]
  exact hgg
def LS (w : World) (v : Value) (p : Nat) (va : Value) (lx hx n : Nat) (xs : List Value) (lw hw e size : Nat) (vw : Value) (m : Nat) (cs : List Value) (W : World) : Prop :=
 Below w.heap.size w W ∧ w.heap.size + 1 ≤ W.heap.size ∧ W.cell? ⟨w.heap.size, 0, none⟩ = some v ∧ W.cell? ⟨p, 0, none⟩ = some va ∧ (p < W.heap.size ∧ RowIn W lx hx 3 1 va n xs ∧ RowIn W lw hw e size vw m cs)
section
variable {w : World} {v : Value} {p : Nat} {va : Value} {lx hx n : Nat} {xs : List Value} {lw hw e size : Nat} {vw : Value} {m : Nat} {cs : List Value} {W W' : World}
theorem LS.rb (h : LS w v p va lx hx n xs lw hw e size vw m cs W) : RB w v W := ⟨h.1, h.2.1, h.2.2.1⟩
theorem LS.x (h : LS w v p va lx hx n xs lw hw e size vw m cs W) : RowIn W lx hx 3 1 va n xs := h.2.2.2.2.2.1
theorem LS.on (h : LS w v p va lx hx n xs lw hw e size vw m cs W) (hb : Below W.heap.size W W') : LS w v p va lx hx n xs lw hw e size vw m cs W' := by
 obtain ⟨a, b, c⟩ := h.rb.on hb
 obtain ⟨_, _, _, d, f, g1, g2⟩ := h
 exact ⟨a, b, c, (hb.cell (by show p < _; omega)).trans d, by have := hb.size; omega, g1.on hb, g2.on hb⟩
theorem LS.drew (h : LS w v p va lx hx n xs lw hw e size vw m cs W) : LS w v p va lx hx n xs lw hw e size vw m cs W.drew := ⟨h.1.drew, h.2⟩
theorem LS.onB {B : Nat} (h : LS w v p va lx hx n xs lw hw e size vw m cs W) (hb : Below B W W') (h1 : w.heap.size + 1 ≤ B) (h2 : p < B) (h3 : hx ≤ B) (h4 : hw ≤ B) : LS w v p va lx hx n xs lw hw e size vw m cs W' := by
 obtain ⟨a, b, c⟩ := h.rb.onB hb h1
 obtain ⟨_, _, _, d, f, g1, g2⟩ := h
 exact ⟨a, b, c, (hb.cell (by show p < _; omega)).trans d, by have := hb.size; omega, g1.belowB hb h3, g2.belowB hb h4⟩
theorem LS.marked {ys : List Value} (h : LS w v p va lx hx n xs lw hw e size vw m cs W) (hr : RowIn W' lx hx 3 1 va n ys) (ha : Apart lx hx W W') (h1 : w.heap.size + 1 ≤ lx) (h2 : hx ≤ p) (h3 : hw ≤ lx) : LS w v p va lx hx n ys lw hw e size vw m cs W' := by
 obtain ⟨a, b, c, d, f, _, g2⟩ := h
 have hz := ha.size
 exact ⟨a.trans (ha.below (by omega) (by omega)), by omega, (ha.cell (by show w.heap.size < _; omega) (by show w.heap.size < _ ∨ _; omega)).trans c, (ha.cell (by show p < _; omega) (by show p < _ ∨ _ ≤ p; omega)).trans d, by omega, hr, g2.apart ha (by omega)⟩
theorem ls_start {T : TypeId} (h : RB w v W) (hx1 : RowIn W lx hx 3 1 va n xs) (hw1 : RowIn W lw hw e size vw m cs) : LS w v W.heap.size va lx hx n xs lw hw e size vw m cs (W.alloc (.cells #[va] T)) := by
 have hb := below_alloc1 W (.cells #[va] T)
 obtain ⟨a, b, c⟩ := h.on hb
 exact ⟨a, b, c, (cell_of_row _ _ 0 _ _ _ (heap_alloc_new W _)).trans rfl, by simp, hx1.on hb, hw1.on hb⟩
end
end Go.Proofs.YtmajllgfmclcoaaGreatDoor.Reg
