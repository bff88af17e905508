/- RegHas, RegCel, FrC, RegL in one text. -/
import Derived.Test.YtjfagpmklifjlaaMg06
import Derived.Deep.RegionHeld3
import Derived.Test.YtjfagpmklifjlaaMg04
import Derived.Test.YtjfagpmklifjlaaMg05
import Derived.Test.YtjfagpmklifjlaaMg00

namespace Go.Proofs.Ytjfagpmklifjlaa.Reg
set_option linter.unusedVariables false
open Go.RowKit Go.Proofs.Ytjfagpmklifjlaa.Pure Go.Proofs.Ytjfagpmklifjlaa.Cell Go.Joins

def kindN (r : Int) (k : Nat) : Int := if bitB r k then 1 else 0
theorem kindN_no {r : Int} {k : Nat} (h : bitB r k = false) : kindN r k = 0 := by unfold kindN; rw [h]; rfl
theorem kindN_yes {r : Int} {k : Nat} (h : bitB r k = true) : kindN r k = 1 := by unfold kindN; rw [h]; rfl

set_option maxHeartbeats 1000000 in
theorem iKindAt (r : Int) (k : Nat) (h0 : 0 ≤ r) (h1 : r ≤ 255) (hk : k < 8) (w : World) :
  Calls Try.prog 94 #[.int .i64 r, .int .i64 (k : Int)] w fun e w' => e = .returned (.int .i64 (kindN r k)) ∧ w' = w := by
 cases hb : bitB r k with
 | false =>
  have hz := and_no h0 h1 hk hb
  have HK := Lib.hid (kindN_no hb)
  clear hb h0 h1
  have hcs : k = 0 ∨ k = 1 ∨ k = 2 ∨ k = 3 ∨ k = 4 ∨ k = 5 ∨ k = 6 ∨ k = 7 := by omega
  clear hk
  rcases hcs with rfl | rfl | rfl | rfl | rfl | rfl | rfl | rfl
  all_goals
   simp only [Int.reducePow] at hz
   go_enter Try.func94, Try.ntmps94
   go_wp2
   go_ret
   exact ⟨by rw [HK.out]; rfl, rfl⟩
 | true =>
  have hz := and_yes h0 h1 hk hb
  have HK := Lib.hid (kindN_yes hb)
  clear hb h0 h1
  have hcs : k = 0 ∨ k = 1 ∨ k = 2 ∨ k = 3 ∨ k = 4 ∨ k = 5 ∨ k = 6 ∨ k = 7 := by omega
  clear hk
  rcases hcs with rfl | rfl | rfl | rfl | rfl | rfl | rfl | rfl
  all_goals
   simp only [Int.reducePow] at hz
   go_enter Try.func94, Try.ntmps94
   go_wp2
   go_ret
   exact ⟨by rw [HK.out]; rfl, rfl⟩

set_option maxRecDepth 100000 in
set_option maxHeartbeats 1000000 in
theorem iRowAt (w : World) (A : Option Addr) (n cap B : Nat) (xs : List Int) (hx : xs.length = n) (hn : (n : Int) ≤ 9223372036854775807) (h : RowB w B A xs) (hB : B ≤ w.heap.size) (y : Nat) :
  Calls Try.prog 98 #[.agg #[.slice A n cap], .int .i64 (y : Int)] w (Num (rowD xs y) w) := by
 obtain ⟨b, off, hA, hc⟩ := h
 have HBw := Lib.hid (fun (o : Obj) => below_alloc1 w o)
 by_cases hlt : y < n
 ·have hkx : y < xs.length := by omega
  obtain ⟨rfl, hbw⟩ := hA (by omega)
  have hc1 : (w.alloc (.cells #[.slice (some ⟨b, off, none⟩) n cap] 26)).cell? ⟨b, off + y, none⟩ = some (.int .i64 xs[y]) :=
   ((HBw.out _).cell (p := ⟨b, off + y, none⟩) (by show b < _; omega)).trans (hc y xs[y] (List.getElem?_eq_getElem hkx))
  have HR := Lib.hid (rowD_at (List.getElem?_eq_getElem hkx))
  generalize xs[y] = r at hc1 HR
  clear hA hc hx hkx
  go_enter Try.func98, Try.ntmps98
  go_wp2
  go_ret
  exact mkNum (by rw [HR.out]) (HBw.out _)
 ·have HR := Lib.hid (rowD_out (xs := xs) (y := y) (by omega))
  clear hA hc hx
  go_enter Try.func98, Try.ntmps98
  go_wp2
  go_ret
  exact mkNum (by rw [HR.out]) (HBw.out _)

set_option maxRecDepth 100000 in
set_option maxHeartbeats 4000000 in
theorem sHas (w : World) (A : Option Addr) (n cap B : Nat) (xs : List Int) (hx : xs.length = n) (ho : okR xs) (h : RowB w B A xs) (hB : B ≤ w.heap.size) (x y : Nat) (hx8 : x < 8) (hy8 : y < 8) :
  Calls Try.prog 51 #[.agg #[.slice A n cap], .agg #[.int .i64 (x : Int), .int .i64 (y : Int)]] w (Bol (bitB (rowD xs y) x) w) := by
 obtain ⟨b, off, hA, hc⟩ := h
 have HBw := Lib.hid (fun (o o' : Obj) => below_alloc2 w o o')
 have hn8 : n ≤ 8 := by have := ho.1; omega
 have HR := Lib.hid (rowD_ok ho y)
 by_cases hlt : y < n
 ·have hkx : y < xs.length := by omega
  obtain ⟨rfl, hbw⟩ := hA (by omega)
  have hc1 : ∀ W, Below w.heap.size w W → W.cell? ⟨b, off + y, none⟩ = some (.int .i64 (rowD xs y)) := fun W hW =>
   (hW.cell (p := ⟨b, off + y, none⟩) (by show b < _; omega)).trans (by rw [rowD_at (List.getElem?_eq_getElem hkx)]; exact hc y xs[y] (List.getElem?_eq_getElem hkx))
  have HC := Lib.hid (fun (o o' : Obj) => hc1 _ (HBw.out o o'))
  clear hA hc hx hkx hc1 ho
  generalize rowD xs y = r at HC HR ⊢
  obtain ⟨r0, r1⟩ := HR.out
  cases hb : bitB r x with
  | false =>
   have hz := shr_no r0 r1 hx8 hb
   clear hb r0 r1 HR
   have hcs : x = 0 ∨ x = 1 ∨ x = 2 ∨ x = 3 ∨ x = 4 ∨ x = 5 ∨ x = 6 ∨ x = 7 := by omega
   clear hx8
   rcases hcs with rfl | rfl | rfl | rfl | rfl | rfl | rfl | rfl
   all_goals
    have hcell := HC.out
    (try simp only [Int.reducePow, Int.pow_zero, Int.ediv_one] at hz)
    go_enter Try.func51, Try.ntmps51
    go_wp2_with fail
    go_quiet (fail)
    go_wp2
    go_ret
    exact mkBol rfl (drewN_below (HBw.out _ _) _)
  | true =>
   have hz := shr_yes r0 r1 hx8 hb
   clear hb r0 r1 HR
   have hcs : x = 0 ∨ x = 1 ∨ x = 2 ∨ x = 3 ∨ x = 4 ∨ x = 5 ∨ x = 6 ∨ x = 7 := by omega
   clear hx8
   rcases hcs with rfl | rfl | rfl | rfl | rfl | rfl | rfl | rfl
   all_goals
    have hcell := HC.out
    (try simp only [Int.reducePow, Int.pow_zero, Int.ediv_one] at hz)
    go_enter Try.func51, Try.ntmps51
    go_wp2_with fail
    go_quiet (fail)
    go_wp2
    go_ret
    exact mkBol rfl (drewN_below (HBw.out _ _) _)
 ·have hE := Lib.hid (show bitB (rowD xs y) x = false by rw [rowD_out (by omega)]; exact bitB_zero x)
  clear hA hc hx ho HR hx8
  go_enter Try.func51, Try.ntmps51
  go_wp2_with fail
  go_quiet (fail)
  go_wp2
  go_ret
  exact mkBol hE.out.symm (drewN_below (HBw.out _ _) _)
end Go.Proofs.Ytjfagpmklifjlaa.Reg

namespace Go.Proofs.Ytjfagpmklifjlaa.Reg
set_option linter.unusedVariables false
open Go.RowKit Go.Proofs.Ytjfagpmklifjlaa.Pure Go.Proofs.Ytjfagpmklifjlaa.Cell Go.Joins

def RC (w : World) (v : Value) (x y : Int) (W : World) : Prop :=
 Below w.heap.size w W ∧ w.heap.size + 2 ≤ W.heap.size ∧ W.cell? ⟨w.heap.size, 0, none⟩ = some v ∧ W.cell? ⟨w.heap.size + 1, 0, none⟩ = some (.int .i64 x) ∧ W.cell? ⟨w.heap.size + 1, 1, none⟩ = some (.int .i64 y)
theorem rc_start {T T' : TypeId} (v : Value) (x y : Int) (w : World) : RC w v x y ((w.alloc (.cells #[v] T)).alloc (.cells #[.int .i64 x, .int .i64 y] T')) := by
 have e1 : ((w.alloc (.cells #[v] T)).alloc (.cells #[.int .i64 x, .int .i64 y] T')).heap[w.heap.size]? = some (.cells #[v] T) := by
  show ((w.heap.push _).push _)[w.heap.size]? = _
  rw [Array.getElem?_push_lt (by simp)]
  simp
 have e2 : ((w.alloc (.cells #[v] T)).alloc (.cells #[.int .i64 x, .int .i64 y] T')).heap[w.heap.size + 1]? = some (.cells #[.int .i64 x, .int .i64 y] T') := by
  show ((w.heap.push _).push _)[w.heap.size + 1]? = _
  have : w.heap.size + 1 = (w.heap.push (.cells #[v] T)).size := by simp
  rw [this]
  exact Array.getElem?_push_size
 exact ⟨below_alloc2 w _ _, by simp, (cell_of_row _ _ 0 _ _ _ e1).trans rfl, (cell_of_row _ _ 0 _ _ _ e2).trans rfl, (cell_of_row _ _ 1 _ _ _ e2).trans rfl⟩
theorem RC.on {w W W' : World} {v : Value} {x y : Int} (h : RC w v x y W) (hb : Below W.heap.size W W') : RC w v x y W' := by
 obtain ⟨h0, h1, h2, h3, h4⟩ := h
 have hz := hb.size
 refine ⟨h0.trans (hb.mono h0.size), by omega, ?_, ?_, ?_⟩
 ·rw [hb.cell (by show w.heap.size < _; omega)]; exact h2
 ·rw [hb.cell (by show w.heap.size + 1 < _; omega)]; exact h3
 ·rw [hb.cell (by show w.heap.size + 1 < _; omega)]; exact h4
theorem RC.drew {w W : World} {v : Value} {x y : Int} (h : RC w v x y W) : RC w v x y W.drew := ⟨h.1.drew, h.2⟩
theorem has_no_ok {xs : List Int} (h : ¬ okR xs) (x y : Int) : hasB xs x y = false := by
 rw [Bool.eq_false_iff]; intro k; exact h (hasB_iff.1 k).1
theorem has_no_cell {xs : List Int} {x y : Int} (h : ¬ Ok x y) : hasB xs x y = false := by
 rw [Bool.eq_false_iff]; intro k; exact h ⟨(hasB_iff.1 k).2.1, (hasB_iff.1 k).2.2.1, (hasB_iff.1 k).2.2.2.1, (hasB_iff.1 k).2.2.2.2.1⟩
theorem has_at {xs : List Int} (h : okR xs) {x y : Nat} (hx : x < 8) (hy : y < 8) : hasB xs (x : Int) (y : Int) = bitB (rowD xs y) x := by
 rw [Bool.eq_iff_iff, hasB_iff, Int.toNat_natCast, Int.toNat_natCast]
 constructor
 ·exact fun k => k.2.2.2.2.2
 ·exact fun k => ⟨h, by omega, by omega, by omega, by omega, k⟩
theorem ok_nat {x y : Int} (h : Ok x y) : ∃ (x' y' : Nat), x = (x' : Int) ∧ y = (y' : Int) ∧ x' < 8 ∧ y' < 8 := by
 obtain ⟨a, b, c, d⟩ := h
 exact ⟨x.toNat, y.toNat, by omega, by omega, by omega, by omega⟩

set_option maxRecDepth 100000 in
set_option maxHeartbeats 1000000 in
theorem sHasCell (w : World) (A : Option Addr) (n cap B : Nat) (xs : List Int) (hx : xs.length = n) (hn : (n : Int) ≤ 9223372036854775807) (h : RowB w B A xs) (hB : B ≤ w.heap.size) (x y : Int) :
  Calls Try.prog 58 #[.agg #[.slice A n cap], .agg #[.int .i64 x, .int .i64 y]] w (Bol (hasB xs x y) w) := by
 have T0 := Lib.hid (fun T T' => rc_start (T := T) (T' := T') (.slice A n cap) x y w)
 have HOk := Lib.hid (fun W (hr : RC w (.slice A n cap) x y W) => sRegionOk W A n cap B xs hx hn (h.below hr.1 hB) (by have := hr.2.1; omega))
 have HHs := Lib.hid (fun W (x' y' : Nat) (ho : okR xs) (hr : RC w (.slice A n cap) x y W) hx8 hy8 => sHas W A n cap B xs hx ho (h.below hr.1 hB) (by have := hr.2.1; omega) x' y' hx8 hy8)
 clear hx hn h hB
 go_enter Try.func58, Try.ntmps58
 go_wp2_with fail
 have T1 := T0.out 26 38
 refine (HOk.out _ T1).mono ?_
 rintro e w1 ⟨rfl, hb1⟩
 have T2 := T1.on hb1
 clear T0 T1 hb1 HOk
 by_cases ho : okR xs
 ·rw [okRB_of ho]
  obtain ⟨_, _, c0, c1, c2⟩ := id T2
  go_wp2_with fail
  refine (sCellOk x y _).mono ?_
  rintro e w2 ⟨rfl, hb2⟩
  have T3 := T2.on hb2
  clear T2 c0 c1 c2 hb2
  by_cases hok : Ok x y
  ·rw [okB_of hok]
   obtain ⟨x', y', rfl, rfl, hx8, hy8⟩ := ok_nat hok
   have HE := Lib.hid (has_at ho hx8 hy8)
   obtain ⟨_, _, c0, c1, c2⟩ := id T3
   have HC := Lib.hid (HHs.out w2 x' y' ho T3 hx8 hy8)
   clear HHs hok hx8 hy8 ho
   go_wp2_with fail
   refine HC.out.mono ?_
   rintro e w3 ⟨rfl, hb3⟩
   have hb := (T3.on hb3).1
   clear T3 HC hb3 c0 c1 c2
   go_wp2
   go_ret
   exact mkBol HE.out.symm hb
  ·rw [okB_not hok]
   have HE := Lib.hid (has_no_cell (xs := xs) hok)
   have hb := T3.1
   clear T3 hok ho HHs
   go_wp2
   go_ret
   exact mkBol HE.out.symm hb
 ·rw [okRB_not ho]
  have HE := Lib.hid (has_no_ok ho x y)
  have hb := T2.1
  clear T2 ho HHs
  go_wp2
  go_ret
  exact mkBol HE.out.symm hb

theorem kindN' (r : Int) (k : Nat) (h0 : 0 ≤ r) (h1 : r ≤ 255) (hk : k < 8) (w : World) :
  Calls Try.prog 94 #[.int .i64 r, .int .i64 (k : Int)] w (Num (kindN r k) w) := by
 refine (iKindAt r k h0 h1 hk w).mono ?_
 rintro e w' ⟨rfl, rfl⟩
 exact ⟨rfl, Below.refl _ _⟩

set_option maxRecDepth 100000 in
set_option maxHeartbeats 2000000 in
theorem iHasCell (w : World) (A : Option Addr) (n cap B : Nat) (xs : List Int) (hx : xs.length = n) (hn : (n : Int) ≤ 9223372036854775807) (h : RowB w B A xs) (hB : B ≤ w.heap.size) (x y : Int) :
  Calls Try.prog 87 #[.agg #[.slice A n cap], .agg #[.int .i64 x, .int .i64 y]] w (Bol (hasB xs x y) w) := by
 have T0 := Lib.hid (fun T T' => rc_start (T := T) (T' := T') (.slice A n cap) x y w)
 have HOk := Lib.hid (fun W (hr : RC w (.slice A n cap) x y W) => iRegionOk W A n cap B xs hx hn (h.below hr.1 hB) (by have := hr.2.1; omega))
 have HRw := Lib.hid (fun W (y' : Nat) (hr : RC w (.slice A n cap) x y W) => iRowAt W A n cap B xs hx hn (h.below hr.1 hB) (by have := hr.2.1; omega) y')
 clear hx hn h hB
 by_cases ho : okR xs
 ·rw [okRB_of ho] at HOk
  by_cases hok : Ok x y
  ·have HCk := Lib.hid (fun W => cellOk x y W)
   rw [okB_of hok] at HCk
   obtain ⟨x', y', rfl, rfl, hx8, hy8⟩ := ok_nat hok
   have HE := Lib.hid (has_at ho hx8 hy8)
   have HRo := Lib.hid (fun W => HRw.out W y')
   have hr := rowD_ok ho y'
   clear HRw
   generalize rowD xs y' = r at HE HRo hr
   have HKd := Lib.hid (fun W => kindN' r x' hr.1 hr.2 hx8 W)
   have hkn : bitB r x' = true ∧ kindN r x' = 1 ∨ bitB r x' = false ∧ kindN r x' = 0 := by
    cases hb : bitB r x' with
    | true => exact .inl ⟨rfl, kindN_yes hb⟩
    | false => exact .inr ⟨rfl, kindN_no hb⟩
   generalize kindN r x' = kd at HKd hkn
   rw [HE.out]
   clear hr hx8 hy8 ho hok HE
   rcases hkn with ⟨hb, rfl⟩ | ⟨hb, rfl⟩
   all_goals
    rw [hb]
    clear hb
    go_enter Try.func87, Try.ntmps87
    go_wp2_with fail
    have T1 := T0.out 26 38
    generalize (w.alloc (.cells #[.slice A n cap] 26)).alloc (.cells #[.int .i64 (x' : Int), .int .i64 (y' : Int)] 38) = W at T1 ⊢
    clear T0
    go_region_held3 (fun w' => Below w.heap.size w w' ∧ w.heap.size + 2 ≤ w'.heap.size ∧ w'.cell? ⟨w.heap.size, 0, none⟩ = some (.slice A n cap) ∧ w'.cell? ⟨w.heap.size + 1, 0, none⟩ = some (.int .i64 (x' : Int)) ∧ w'.cell? ⟨w.heap.size + 1, 1, none⟩ = some (.int .i64 (y' : Int)))
     (first | assumption | exact RC.drew (by assumption) | exact RC.on (by assumption) (by assumption))
     (first | (go_at_call 75; refine (HOk.out _ (by assumption)).mono ?_; rintro e wx ⟨rfl, hbx⟩) | (go_at_call 97; refine (HCk.out _).mono ?_; rintro e wx ⟨rfl, hbx⟩) | (go_at_call 98; refine (HRo.out _ (by assumption)).mono ?_; rintro e wx ⟨rfl, hbx⟩) | (go_at_call 94; refine (HKd.out _).mono ?_; rintro e wx ⟨rfl, hbx⟩))
    all_goals
     have T9 : RC w (.slice A n cap) (x' : Int) (y' : Int) wx := by assumption
     have hb := T9.1
     clear T9
     go_wp2
     go_ret
     exact mkBol rfl hb
  ·have HCk := Lib.hid (fun W => cellOk x y W)
   rw [okB_not hok] at HCk
   have HE := Lib.hid (has_no_cell (xs := xs) hok)
   clear HRw hok ho
   go_enter Try.func87, Try.ntmps87
   go_wp2_with fail
   have T1 := T0.out 26 38
   generalize (w.alloc (.cells #[.slice A n cap] 26)).alloc (.cells #[.int .i64 x, .int .i64 y] 38) = W at T1 ⊢
   clear T0
   refine wp_region_noPanic ?_
   refine wp_region_held_drew (S := (fun w' => Below w.heap.size w w' ∧ w.heap.size + 2 ≤ w'.heap.size ∧ w'.cell? ⟨w.heap.size, 0, none⟩ = some (.slice A n cap) ∧ w'.cell? ⟨w.heap.size + 1, 0, none⟩ = some (.int .i64 x) ∧ w'.cell? ⟨w.heap.size + 1, 1, none⟩ = some (.int .i64 y))) (by kernel_rfl) (RC.drew T1) (fun hHeld => ?_)
   refine wpAnyH_take (i := 0) (v := ?_) rfl (by kernel_rfl) (by kernel_rfl) (by kernel_rfl) (fun _ _ _ h => h) (Or.inl ⟨by rfl, ?_⟩) (by assumption) ?_
   rotate_left
   ·(intro w' hS; (try dsimp only at hS); go_simp; try with_reducible rfl)
   try simp only [Act.put, List.getElem_toArray, List.getElem_cons_zero, List.setIfInBounds_toArray, List.set_cons_zero, List.set_cons_succ]
   refine wpAnyH_ready (rs := [1]) (by kernel_rfl) (by simp) ?_
   refine AllReadyH.cons rfl (fun K hK => ?_) AllReadyH.nil
   go_simp
   refine (HOk.out _ (by assumption)).mono ?_
   rintro e wx ⟨rfl, hbx⟩
   go_wp2_with fail
   refine hK.out _ _ (RC.on (by assumption) hbx) (fun hHeld => ?_)
   clear hK K
   try simp only [Act.put, List.getElem_toArray, List.getElem_cons_succ, List.getElem_cons_zero, List.setIfInBounds_toArray, List.set_cons_zero, List.set_cons_succ]
   refine wpAnyH_take (i := 2) (v := ?_) rfl (by kernel_rfl) (by kernel_rfl) (by kernel_rfl) (fun _ _ _ h => h) (Or.inl ⟨by rfl, ?_⟩) (by assumption) ?_
   rotate_left
   ·(intro w' hS; (try dsimp only at hS); go_simp; try with_reducible rfl)
   try simp only [Act.put, List.getElem_toArray, List.getElem_cons_succ, List.getElem_cons_zero, List.setIfInBounds_toArray, List.set_cons_zero, List.set_cons_succ]
   refine wpAnyH_take (i := 3) (v := ?_) rfl (by kernel_rfl) (by kernel_rfl) (by kernel_rfl) (fun _ _ _ h => h) (Or.inl ⟨by rfl, ?_⟩) (by assumption) ?_
   rotate_left
   ·(intro w' hS; (try dsimp only at hS); go_simp; try with_reducible rfl)
   try simp only [Act.put, List.getElem_toArray, List.getElem_cons_succ, List.getElem_cons_zero, List.setIfInBounds_toArray, List.set_cons_zero, List.set_cons_succ]
   refine wpAnyH_ready (rs := [4]) (by kernel_rfl) (by simp) ?_
   refine AllReadyH.cons rfl (fun K hK => ?_) AllReadyH.nil
   go_simp
   refine (HCk.out _).mono ?_
   rintro e wx ⟨rfl, hbx⟩
   go_wp2_with fail
   refine hK.out _ _ (RC.on (by assumption) hbx) (fun hHeld => ?_)
   clear hK K
   try simp only [Act.put, List.getElem_toArray, List.getElem_cons_succ, List.getElem_cons_zero, List.setIfInBounds_toArray, List.set_cons_zero, List.set_cons_succ]
   refine wpAnyH_take (i := 5) (v := ?_) rfl (by kernel_rfl) (by kernel_rfl) (by kernel_rfl) (fun _ _ _ h => h) (Or.inl ⟨by rfl, ?_⟩) (by assumption) ?_
   rotate_left
   ·(intro w' hS; (try dsimp only at hS); go_simp; try with_reducible rfl)
   try simp only [Act.put, List.getElem_toArray, List.getElem_cons_succ, List.getElem_cons_zero, List.setIfInBounds_toArray, List.set_cons_zero, List.set_cons_succ]
   refine wpAnyH_take (i := 6) (v := ?_) rfl (by kernel_rfl) (by kernel_rfl) (by kernel_rfl) (fun _ _ _ h => h) (Or.inl ⟨by rfl, ?_⟩) (by assumption) ?_
   rotate_left
   ·(intro w' hS; (try dsimp only at hS); go_simp; try with_reducible rfl)
   try simp only [Act.put, List.getElem_toArray, List.getElem_cons_succ, List.getElem_cons_zero, List.setIfInBounds_toArray, List.set_cons_zero, List.set_cons_succ]
   refine wpAnyH_take (i := 7) (v := undef) rfl (by kernel_rfl) (by kernel_rfl) (by kernel_rfl) (fun _ _ _ h => h) (Or.inr ⟨by rfl, rfl⟩) (by assumption) ?_
   try simp only [Act.put, List.getElem_toArray, List.getElem_cons_succ, List.getElem_cons_zero, List.setIfInBounds_toArray, List.set_cons_zero, List.set_cons_succ]
   refine wpAnyH_take (i := 8) (v := undef) rfl (by kernel_rfl) (by kernel_rfl) (by kernel_rfl) (fun _ _ _ h => h) (Or.inr ⟨by rfl, rfl⟩) (by assumption) ?_
   try simp only [Act.put, List.getElem_toArray, List.getElem_cons_succ, List.getElem_cons_zero, List.setIfInBounds_toArray, List.set_cons_zero, List.set_cons_succ]
   refine wpAnyH_take (i := 9) (v := undef) rfl (by kernel_rfl) (by kernel_rfl) (by kernel_rfl) (fun _ _ _ h => h) (Or.inr ⟨by rfl, rfl⟩) (by assumption) ?_
   try simp only [Act.put, List.getElem_toArray, List.getElem_cons_succ, List.getElem_cons_zero, List.setIfInBounds_toArray, List.set_cons_zero, List.set_cons_succ]
   refine wpAnyH_take (i := 10) (v := undef) rfl (by kernel_rfl) (by kernel_rfl) (by kernel_rfl) (fun _ _ _ h => h) (Or.inr ⟨by rfl, rfl⟩) (by assumption) ?_
   try simp only [Act.put, List.getElem_toArray, List.getElem_cons_succ, List.getElem_cons_zero, List.setIfInBounds_toArray, List.set_cons_zero, List.set_cons_succ]
   refine wpAnyH_take (i := 11) (v := undef) rfl (by kernel_rfl) (by kernel_rfl) (by kernel_rfl) (fun _ _ _ h => h) (Or.inr ⟨by rfl, rfl⟩) (by assumption) ?_
   try simp only [Act.put, List.getElem_toArray, List.getElem_cons_succ, List.getElem_cons_zero, List.setIfInBounds_toArray, List.set_cons_zero, List.set_cons_succ]
   refine wpAnyH_take (i := 12) (v := undef) rfl (by kernel_rfl) (by kernel_rfl) (by kernel_rfl) (fun _ _ _ h => h) (Or.inr ⟨by rfl, rfl⟩) (by assumption) ?_
   try simp only [Act.put, List.getElem_toArray, List.getElem_cons_succ, List.getElem_cons_zero, List.setIfInBounds_toArray, List.set_cons_zero, List.set_cons_succ]
   refine wpAnyH_take (i := 13) (v := undef) rfl (by kernel_rfl) (by kernel_rfl) (by kernel_rfl) (fun _ _ _ h => h) (Or.inr ⟨by rfl, rfl⟩) (by assumption) ?_
   try simp only [Act.put, List.getElem_toArray, List.getElem_cons_succ, List.getElem_cons_zero, List.setIfInBounds_toArray, List.set_cons_zero, List.set_cons_succ]
   refine wpAnyH_take (i := 14) (v := undef) rfl (by kernel_rfl) (by kernel_rfl) (by kernel_rfl) (fun _ _ _ h => h) (Or.inr ⟨by rfl, rfl⟩) (by assumption) ?_
   try simp only [Act.put, List.getElem_toArray, List.getElem_cons_succ, List.getElem_cons_zero, List.setIfInBounds_toArray, List.set_cons_zero, List.set_cons_succ]
   refine wpAnyH_take (i := 15) (v := ?_) rfl (by kernel_rfl) (by kernel_rfl) (by kernel_rfl) (fun _ _ _ h => h) (Or.inl ⟨by rfl, ?_⟩) (by assumption) ?_
   rotate_left
   ·(intro w' hS; (try dsimp only at hS); go_simp; try with_reducible rfl)
   try simp only [Act.put, List.getElem_toArray, List.getElem_cons_succ, List.getElem_cons_zero, List.setIfInBounds_toArray, List.set_cons_zero, List.set_cons_succ]
   refine wpAnyH_take (i := 16) (v := ?_) rfl (by kernel_rfl) (by kernel_rfl) (by kernel_rfl) (fun _ _ _ h => h) (Or.inl ⟨by rfl, ?_⟩) (by assumption) ?_
   rotate_left
   ·(intro w' hS; (try dsimp only at hS); go_simp; try with_reducible rfl)
   try simp only [Act.put, List.getElem_toArray, List.getElem_cons_succ, List.getElem_cons_zero, List.setIfInBounds_toArray, List.set_cons_zero, List.set_cons_succ]
   refine wpAnyH_done (by kernel_rfl) ?_ _
   refine NoPanic.normal ?_
   have T9 : RC w (.slice A n cap) x y wx := by assumption
   have hb := T9.1
   clear T9
   go_wp2
   go_ret
   exact mkBol HE.out.symm hb
 ·rw [okRB_not ho] at HOk
  have HE := Lib.hid (has_no_ok ho x y)
  clear HRw ho
  go_enter Try.func87, Try.ntmps87
  go_wp2_with fail
  have T1 := T0.out 26 38
  generalize (w.alloc (.cells #[.slice A n cap] 26)).alloc (.cells #[.int .i64 x, .int .i64 y] 38) = W at T1 ⊢
  clear T0
  refine wp_region_noPanic ?_
  refine wp_region_held_drew (S := (fun w' => Below w.heap.size w w' ∧ w.heap.size + 2 ≤ w'.heap.size ∧ w'.cell? ⟨w.heap.size, 0, none⟩ = some (.slice A n cap) ∧ w'.cell? ⟨w.heap.size + 1, 0, none⟩ = some (.int .i64 x) ∧ w'.cell? ⟨w.heap.size + 1, 1, none⟩ = some (.int .i64 y))) (by kernel_rfl) (RC.drew T1) (fun hHeld => ?_)
  refine wpAnyH_take (i := 0) (v := ?_) rfl (by kernel_rfl) (by kernel_rfl) (by kernel_rfl) (fun _ _ _ h => h) (Or.inl ⟨by rfl, ?_⟩) (by assumption) ?_
  rotate_left
  ·(intro w' hS; (try dsimp only at hS); go_simp; try with_reducible rfl)
  try simp only [Act.put, List.getElem_toArray, List.getElem_cons_zero, List.setIfInBounds_toArray, List.set_cons_zero, List.set_cons_succ]
  refine wpAnyH_ready (rs := [1]) (by kernel_rfl) (by simp) ?_
  refine AllReadyH.cons rfl (fun K hK => ?_) AllReadyH.nil
  go_simp
  refine (HOk.out _ (by assumption)).mono ?_
  rintro e wx ⟨rfl, hbx⟩
  go_wp2_with fail
  refine hK.out _ _ (RC.on (by assumption) hbx) (fun hHeld => ?_)
  clear hK K
  try simp only [Act.put, List.getElem_toArray, List.getElem_cons_succ, List.getElem_cons_zero, List.setIfInBounds_toArray, List.set_cons_zero, List.set_cons_succ]
  refine wpAnyH_take (i := 2) (v := ?_) rfl (by kernel_rfl) (by kernel_rfl) (by kernel_rfl) (fun _ _ _ h => h) (Or.inl ⟨by rfl, ?_⟩) (by assumption) ?_
  rotate_left
  ·(intro w' hS; (try dsimp only at hS); go_simp; try with_reducible rfl)
  try simp only [Act.put, List.getElem_toArray, List.getElem_cons_succ, List.getElem_cons_zero, List.setIfInBounds_toArray, List.set_cons_zero, List.set_cons_succ]
  refine wpAnyH_take (i := 3) (v := undef) rfl (by kernel_rfl) (by kernel_rfl) (by kernel_rfl) (fun _ _ _ h => h) (Or.inr ⟨by rfl, rfl⟩) (by assumption) ?_
  try simp only [Act.put, List.getElem_toArray, List.getElem_cons_succ, List.getElem_cons_zero, List.setIfInBounds_toArray, List.set_cons_zero, List.set_cons_succ]
  refine wpAnyH_take (i := 4) (v := undef) rfl (by kernel_rfl) (by kernel_rfl) (by kernel_rfl) (fun _ _ _ h => h) (Or.inr ⟨by rfl, rfl⟩) (by assumption) ?_
  try simp only [Act.put, List.getElem_toArray, List.getElem_cons_succ, List.getElem_cons_zero, List.setIfInBounds_toArray, List.set_cons_zero, List.set_cons_succ]
  refine wpAnyH_take (i := 5) (v := ?_) rfl (by kernel_rfl) (by kernel_rfl) (by kernel_rfl) (fun _ _ _ h => h) (Or.inl ⟨by rfl, ?_⟩) (by assumption) ?_
  rotate_left
  ·(intro w' hS; (try dsimp only at hS); go_simp; try with_reducible rfl)
  try simp only [Act.put, List.getElem_toArray, List.getElem_cons_succ, List.getElem_cons_zero, List.setIfInBounds_toArray, List.set_cons_zero, List.set_cons_succ]
  refine wpAnyH_take (i := 6) (v := ?_) rfl (by kernel_rfl) (by kernel_rfl) (by kernel_rfl) (fun _ _ _ h => h) (Or.inl ⟨by rfl, ?_⟩) (by assumption) ?_
  rotate_left
  ·(intro w' hS; (try dsimp only at hS); go_simp; try with_reducible rfl)
  try simp only [Act.put, List.getElem_toArray, List.getElem_cons_succ, List.getElem_cons_zero, List.setIfInBounds_toArray, List.set_cons_zero, List.set_cons_succ]
  refine wpAnyH_take (i := 7) (v := undef) rfl (by kernel_rfl) (by kernel_rfl) (by kernel_rfl) (fun _ _ _ h => h) (Or.inr ⟨by rfl, rfl⟩) (by assumption) ?_
  try simp only [Act.put, List.getElem_toArray, List.getElem_cons_succ, List.getElem_cons_zero, List.setIfInBounds_toArray, List.set_cons_zero, List.set_cons_succ]
  refine wpAnyH_take (i := 8) (v := undef) rfl (by kernel_rfl) (by kernel_rfl) (by kernel_rfl) (fun _ _ _ h => h) (Or.inr ⟨by rfl, rfl⟩) (by assumption) ?_
  try simp only [Act.put, List.getElem_toArray, List.getElem_cons_succ, List.getElem_cons_zero, List.setIfInBounds_toArray, List.set_cons_zero, List.set_cons_succ]
  refine wpAnyH_take (i := 9) (v := undef) rfl (by kernel_rfl) (by kernel_rfl) (by kernel_rfl) (fun _ _ _ h => h) (Or.inr ⟨by rfl, rfl⟩) (by assumption) ?_
  try simp only [Act.put, List.getElem_toArray, List.getElem_cons_succ, List.getElem_cons_zero, List.setIfInBounds_toArray, List.set_cons_zero, List.set_cons_succ]
  refine wpAnyH_take (i := 10) (v := undef) rfl (by kernel_rfl) (by kernel_rfl) (by kernel_rfl) (fun _ _ _ h => h) (Or.inr ⟨by rfl, rfl⟩) (by assumption) ?_
  try simp only [Act.put, List.getElem_toArray, List.getElem_cons_succ, List.getElem_cons_zero, List.setIfInBounds_toArray, List.set_cons_zero, List.set_cons_succ]
  refine wpAnyH_take (i := 11) (v := undef) rfl (by kernel_rfl) (by kernel_rfl) (by kernel_rfl) (fun _ _ _ h => h) (Or.inr ⟨by rfl, rfl⟩) (by assumption) ?_
  try simp only [Act.put, List.getElem_toArray, List.getElem_cons_succ, List.getElem_cons_zero, List.setIfInBounds_toArray, List.set_cons_zero, List.set_cons_succ]
  refine wpAnyH_take (i := 12) (v := undef) rfl (by kernel_rfl) (by kernel_rfl) (by kernel_rfl) (fun _ _ _ h => h) (Or.inr ⟨by rfl, rfl⟩) (by assumption) ?_
  try simp only [Act.put, List.getElem_toArray, List.getElem_cons_succ, List.getElem_cons_zero, List.setIfInBounds_toArray, List.set_cons_zero, List.set_cons_succ]
  refine wpAnyH_take (i := 13) (v := undef) rfl (by kernel_rfl) (by kernel_rfl) (by kernel_rfl) (fun _ _ _ h => h) (Or.inr ⟨by rfl, rfl⟩) (by assumption) ?_
  try simp only [Act.put, List.getElem_toArray, List.getElem_cons_succ, List.getElem_cons_zero, List.setIfInBounds_toArray, List.set_cons_zero, List.set_cons_succ]
  refine wpAnyH_take (i := 14) (v := undef) rfl (by kernel_rfl) (by kernel_rfl) (by kernel_rfl) (fun _ _ _ h => h) (Or.inr ⟨by rfl, rfl⟩) (by assumption) ?_
  try simp only [Act.put, List.getElem_toArray, List.getElem_cons_succ, List.getElem_cons_zero, List.setIfInBounds_toArray, List.set_cons_zero, List.set_cons_succ]
  refine wpAnyH_take (i := 15) (v := ?_) rfl (by kernel_rfl) (by kernel_rfl) (by kernel_rfl) (fun _ _ _ h => h) (Or.inl ⟨by rfl, ?_⟩) (by assumption) ?_
  rotate_left
  ·(intro w' hS; (try dsimp only at hS); go_simp; try with_reducible rfl)
  try simp only [Act.put, List.getElem_toArray, List.getElem_cons_succ, List.getElem_cons_zero, List.setIfInBounds_toArray, List.set_cons_zero, List.set_cons_succ]
  refine wpAnyH_take (i := 16) (v := ?_) rfl (by kernel_rfl) (by kernel_rfl) (by kernel_rfl) (fun _ _ _ h => h) (Or.inl ⟨by rfl, ?_⟩) (by assumption) ?_
  rotate_left
  ·(intro w' hS; (try dsimp only at hS); go_simp; try with_reducible rfl)
  try simp only [Act.put, List.getElem_toArray, List.getElem_cons_succ, List.getElem_cons_zero, List.setIfInBounds_toArray, List.set_cons_zero, List.set_cons_succ]
  refine wpAnyH_done (by kernel_rfl) ?_ _
  refine NoPanic.normal ?_
  have T9 : RC w (.slice A n cap) x y wx := by assumption
  have hb := T9.1
  clear T9
  go_wp2
  go_ret
  exact mkBol HE.out.symm hb
end Go.Proofs.Ytjfagpmklifjlaa.Reg

namespace Go.Proofs.Ytjfagpmklifjlaa.Fr
set_option linter.unusedVariables false
set_option linter.unusedSimpArgs false
open Go.RowKit Go.Proofs.Ytjfagpmklifjlaa.Pure Go.Proofs.Ytjfagpmklifjlaa.Cell Go.Proofs.Ytjfagpmklifjlaa.Reg Go.Proofs.Ytjfagpmklifjlaa.Cnt Go.Proofs.Ytjfagpmklifjlaa.Dom Go.Proofs.Ytjfagpmklifjlaa.Dms Go.Proofs.Ytjfagpmklifjlaa.Til Go.Proofs.Ytjfagpmklifjlaa.Grd Go.Proofs.Ytjfagpmklifjlaa.Flp Go.Joins
open Go.Proofs.Ytjfagpmklifjlaa.Lis (allT all_til all_length)

theorem has_gR2 {xs : List Int} (ho : okR xs) {x y : Nat} (hx : x < 8) (hy : y < 8) : hasB xs (x : Int) (y : Int) = gR xs (y * 8 + x) := by
 rw [has_at ho hx hy, gR_in (by omega), show (y * 8 + x) / 8 = y by omega, show (y * 8 + x) % 8 = x by omega]
theorem less_two {xs : List Int} (ok : okR xs) {x y u v : Nat} {b : Bool} (hx : x < 8) (hy : y < 8) (hu : u < 8) (hv : v < 8) (e1 : sx (x : Int) b = (u : Int)) (e2 : sy (y : Int) b = (v : Int)) (hd : okM ((x : Int), (y : Int), b) = true) :
  okR (withR (withR xs x y false) u v false) ∧ Less xs (withR (withR xs x y false) u v false) [((x : Int), (y : Int), b)] := by
 have ok2 := okR_with (okR_with ok hx hy) hu hv
 refine ⟨ok2, fun p q => ?_⟩
 by_cases hpq : (0 ≤ p ∧ p ≤ 7) ∧ 0 ≤ q ∧ q ≤ 7
 ·obtain ⟨p', rfl⟩ : ∃ n : Nat, p = (n : Int) := ⟨p.toNat, by omega⟩
  obtain ⟨q', rfl⟩ : ∃ n : Nat, q = (n : Int) := ⟨q.toNat, by omega⟩
  rw [has_gR2 ok2 (by omega) (by omega), gR_two ok hx hy hu hv, has_gR2 ok (by omega) (by omega)]
  have k : anyM [((x : Int), (y : Int), b)] (p' : Int) (q' : Int) = true ↔ (q' * 8 + p' = y * 8 + x ∨ q' * 8 + p' = v * 8 + u) := by
   rw [any_iff]
   constructor
   ·rintro ⟨d, h1, h2⟩
    obtain rfl := List.mem_singleton.1 h1
    have := (cov_two h2).2
    simp only at this
    rw [e1, e2] at this
    omega
   ·intro h
    refine ⟨_, List.mem_singleton.2 rfl, ?_⟩
    unfold covM covP
    rw [hd, Bool.true_and, Bool.or_eq_true, eqB_iff, eqB_iff]
    simp only
    rw [e1, e2]
    omega
  rw [Bool.eq_iff_iff, rem_iff, Bool.and_eq_true, Bool.not_eq_true', ← Bool.not_eq_true, k]
  constructor
  ·rintro ⟨h1, h2, h3⟩; exact ⟨h1, by omega⟩
  ·rintro ⟨h1, h2⟩; exact ⟨h1, by omega, by omega⟩
 ·have z : ∀ ys : List Int, hasB ys p q = false := fun ys => by
   cases h : hasB ys p q with
   | false => rfl
   | true =>
    obtain ⟨_, a0, a1, a2, a3, _⟩ := hasB_iff.1 h
    exact absurd ⟨⟨a0, by omega⟩, a2, by omega⟩ hpq
  rw [z, z]; rfl
theorem hold_two {xs : List Int} (ok : okR xs) {x y u v : Nat} {b : Bool} (hx : x < 8) (hy : y < 8) (hu : u < 8) (hv : v < 8) (e1 : sx (x : Int) b = (u : Int)) (e2 : sy (y : Int) b = (v : Int)) (hd : okM ((x : Int), (y : Int), b) = true) (h1 : hasB xs (x : Int) (y : Int) = true) (h2 : hasB xs (u : Int) (v : Int) = true) :
  ((holdT xs [((x : Int), (y : Int), b)]).length : Int) = tilesR (withR (withR xs x y false) u v false) := by
 obtain ⟨ok2, hl⟩ := less_two ok hx hy hu hv e1 e2 hd
 rw [← all_length ok2, hold_length ok ok2 hl (fun d h => by rw [List.mem_singleton.1 h]; exact hd) (fun d h p q hc => ?_) (fun d h e h' p q _ _ => by rw [List.mem_singleton.1 h, List.mem_singleton.1 h'])]
 obtain rfl := List.mem_singleton.1 h
 rcases (cov_two hc).2 with ⟨rfl, rfl⟩ | ⟨rfl, rfl⟩
 ·exact h1
 ·simp only
  rw [e1, e2]; exact h2
theorem hold_none {xs : List Int} (ok : okR xs) {d : Dm} (h : ¬ (okM d = true ∧ hasB xs d.1 d.2.1 = true ∧ hasB xs (sx d.1 d.2.2) (sy d.2.1 d.2.2) = true)) : (holdT xs [d]).length = 0 := by
 rw [List.length_eq_zero_iff, List.eq_nil_iff_forall_not_mem]
 intro L hL
 obtain ⟨a, b⟩ := (mem_hold ok).1 hL
 have hp := (til_iff.1 a).1
 have hm := b d (List.mem_singleton.2 rfl)
 have hv := part_valid hp d hm
 have hc : covM d d.1 d.2.1 = true ∧ covM d (sx d.1 d.2.2) (sy d.2.1 d.2.2) = true := by
  unfold covM covP
  rw [hv, Bool.true_and, Bool.true_and, Bool.or_eq_true, Bool.or_eq_true, eqB_iff, eqB_iff, eqB_iff, eqB_iff]
  exact ⟨.inl ⟨rfl, rfl⟩, .inr ⟨rfl, rfl⟩⟩
 exact h ⟨hv, part_in hp hm hc.1, part_in hp hm hc.2⟩
theorem gcd_step (a b : Nat) (h : 0 < b) : Nat.gcd a b = Nat.gcd b (a % b) := by rw [Nat.gcd_comm a b, Nat.gcd_rec b a, Nat.gcd_comm]
theorem share_ok {n k : Nat} (hk : 0 < k) (hn : k ≤ n) : 1 ≤ k / Nat.gcd n k ∧ k / Nat.gcd n k ≤ n / Nat.gcd n k ∧ k / Nat.gcd n k * n = n / Nat.gcd n k * k := by
 have g0 : 0 < Nat.gcd n k := Nat.gcd_pos_of_pos_right n hk
 obtain ⟨a, ha⟩ := Nat.gcd_dvd_left n k
 obtain ⟨c, hc⟩ := Nat.gcd_dvd_right n k
 have e1 : n / Nat.gcd n k = a := Nat.div_eq_of_eq_mul_right g0 ha
 have e2 : k / Nat.gcd n k = c := Nat.div_eq_of_eq_mul_right g0 hc
 refine ⟨Nat.div_pos (Nat.gcd_le_right n hk) g0, Nat.div_le_div_right hn, ?_⟩
 rw [e1, e2]
 generalize Nat.gcd n k = g at ha hc
 subst ha
 subst hc
 rw [Nat.mul_left_comm, Nat.mul_left_comm a g c, Nat.mul_comm c a]
end Go.Proofs.Ytjfagpmklifjlaa.Fr

namespace Go.Proofs.Ytjfagpmklifjlaa.Reg
set_option linter.unusedVariables false
open Go.RowKit Go.Joins

def RB (w : World) (v : Value) (W : World) : Prop :=
 Below w.heap.size w W ∧ w.heap.size + 1 ≤ W.heap.size ∧ W.cell? ⟨w.heap.size, 0, none⟩ = some v
theorem rb_start {T : TypeId} (v : Value) (w : World) : RB w v (w.alloc (.cells #[v] T)) :=
 ⟨below_alloc1 w _, by simp, (cell_of_row _ _ 0 _ _ _ (heap_alloc_new w _)).trans rfl⟩
theorem RB.onB {w W W' : World} {v : Value} {B : Nat} (h : RB w v W) (hb : Below B W W') (hB : w.heap.size + 1 ≤ B) : RB w v W' := by
 obtain ⟨h0, h1, h2⟩ := h
 have hz := hb.size
 refine ⟨h0.trans (hb.mono (by omega)), by omega, ?_⟩
 rw [hb.cell (by show w.heap.size < _; omega)]; exact h2
theorem RB.on {w W W' : World} {v : Value} (h : RB w v W) (hb : Below W.heap.size W W') : RB w v W' := h.onB hb h.2.1
theorem RB.drew {w W : World} {v : Value} (h : RB w v W) : RB w v W.drew := ⟨h.1.drew, h.2⟩
end Go.Proofs.Ytjfagpmklifjlaa.Reg
