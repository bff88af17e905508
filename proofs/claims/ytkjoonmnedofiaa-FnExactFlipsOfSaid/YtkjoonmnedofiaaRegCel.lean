/- HasCell: the program's function and the model's say the same of every region and every cell. -/
import Derived.Test.YtkjoonmnedofiaaRegHas
namespace Go.Proofs.Ytkjoonmnedofiaa.Reg
set_option linter.unusedVariables false
open Go.RowKit Go.Proofs.Ytkjoonmnedofiaa.Base Go.Proofs.Ytkjoonmnedofiaa.Pure Go.Proofs.Ytkjoonmnedofiaa.Cell Go.Joins

/-- two parameters' boxes, a region's and a cell's, in a world behind their making. -/
def RC (w : World) (v : Value) (x y : Int) (W : World) : Prop :=
  Below w.heap.size w W ∧ w.heap.size + 2 ≤ W.heap.size ∧ W.cell? ⟨w.heap.size, 0, none⟩ = some v ∧ W.cell? ⟨w.heap.size + 1, 0, none⟩ = some (.int .i64 x) ∧ W.cell? ⟨w.heap.size + 1, 1, none⟩ = some (.int .i64 y)
theorem rc_start {T T' : TypeId} (v : Value) (x y : Int) (w : World) : RC w v x y ((w.alloc (.cells #[v] T)).alloc (.cells #[.int .i64 x, .int .i64 y] T')) := by
  have e1 : ((w.alloc (.cells #[v] T)).alloc (.cells #[.int .i64 x, .int .i64 y] T')).heap[w.heap.size]? = some (.cells #[v] T) := by
    show ((w.heap.push _).push _)[w.heap.size]? = _
    rw [Array.getElem?_push_lt (by simp)]
    simp
  have e2 : ((w.alloc (.cells #[v] T)).alloc (.cells #[.int .i64 x, .int .i64 y] T')).heap[w.heap.size + 1]? = some (.cells #[.int .i64 x, .int .i64 y] T') := by
    show ((w.heap.push _).push _)[w.heap.size + 1]? = _
    have : w.heap.size + 1 = (w.heap.push (.cells #[v] T)).size := by simp
    rw [this]
    exact Array.getElem?_push_size
  exact ⟨below_alloc2 w _ _, by simp, (cell_of_row _ _ 0 _ _ _ e1).trans rfl, (cell_of_row _ _ 0 _ _ _ e2).trans rfl, (cell_of_row _ _ 1 _ _ _ e2).trans rfl⟩
theorem RC.on {w W W' : World} {v : Value} {x y : Int} (h : RC w v x y W) (hb : Below W.heap.size W W') : RC w v x y W' := by
  obtain ⟨h0, h1, h2, h3, h4⟩ := h
  have hz := hb.size
  refine ⟨h0.trans (hb.mono h0.size), by omega, ?_, ?_, ?_⟩
  · rw [hb.cell (by show w.heap.size < _; omega)]; exact h2
  · rw [hb.cell (by show w.heap.size + 1 < _; omega)]; exact h3
  · rw [hb.cell (by show w.heap.size + 1 < _; omega)]; exact h4
theorem RC.drew {w W : World} {v : Value} {x y : Int} (h : RC w v x y W) : RC w v x y W.drew := ⟨h.1.drew, h.2⟩
theorem RC.drewN {w W : World} {v : Value} {x y : Int} (h : RC w v x y W) (n : Nat) : RC w v x y (W.drewN n) := ⟨drewN_below h.1 n, h.2⟩

theorem has_no_ok {xs : List Int} (h : ¬ okR xs) (x y : Int) : hasB xs x y = false := by
  rw [Bool.eq_false_iff]; intro k; exact h (hasB_iff.1 k).1
theorem has_no_cell {xs : List Int} {x y : Int} (h : ¬ Ok x y) : hasB xs x y = false := by
  rw [Bool.eq_false_iff]; intro k; exact h ⟨(hasB_iff.1 k).2.1, (hasB_iff.1 k).2.2.1, (hasB_iff.1 k).2.2.2.1, (hasB_iff.1 k).2.2.2.2.1⟩
theorem has_at {xs : List Int} (h : okR xs) {x y : Nat} (hx : x < 8) (hy : y < 8) : hasB xs (x : Int) (y : Int) = bitB (rowD xs y) x := by
  rw [Bool.eq_iff_iff, hasB_iff, Int.toNat_natCast, Int.toNat_natCast]
  constructor
  · exact fun k => k.2.2.2.2.2
  · exact fun k => ⟨h, by omega, by omega, by omega, by omega, k⟩
theorem ok_nat {x y : Int} (h : Ok x y) : ∃ (x' y' : Nat), x = (x' : Int) ∧ y = (y' : Int) ∧ x' < 8 ∧ y' < 8 := by
  obtain ⟨a, b, c, d⟩ := h
  exact ⟨x.toNat, y.toNat, by omega, by omega, by omega, by omega⟩

set_option maxRecDepth 100000 in
set_option maxHeartbeats 1000000 in
theorem sHasCell (w : World) (A : Option Addr) (n cap B : Nat) (xs : List Int) (hx : xs.length = n) (hn : (n : Int) ≤ 9223372036854775807) (h : RowB w B A xs) (hB : B ≤ w.heap.size) (x y : Int) :
    Calls Try.prog 72 #[.agg #[.slice A n cap], .agg #[.int .i64 x, .int .i64 y]] w (Bol (hasB xs x y) w) := by
  have T0 := Lib.hid (fun T T' => rc_start (T := T) (T' := T') (.slice A n cap) x y w)
  have HOk := Lib.hid (fun W (hr : RC w (.slice A n cap) x y W) => sRegionOk W A n cap B xs hx hn (h.below hr.1 hB) (by have := hr.2.1; omega))
  have HHs := Lib.hid (fun W (x' y' : Nat) (ho : okR xs) (hr : RC w (.slice A n cap) x y W) hx8 hy8 => sHas W A n cap B xs hx ho (h.below hr.1 hB) (by have := hr.2.1; omega) x' y' hx8 hy8)
  clear hx hn h hB
  go_enter Try.func72, Try.ntmps72
  go_wp2_with fail
  have T1 := T0.out 26 35
  refine (HOk.out _ T1).mono ?_
  rintro e w1 ⟨rfl, hb1⟩
  have T2 := T1.on hb1
  clear T0 T1 hb1 HOk
  by_cases ho : okR xs
  · rw [okRB_of ho]
    obtain ⟨_, _, c0, c1, c2⟩ := id T2
    go_wp2_with fail
    refine (sCellOk x y _).mono ?_
    rintro e w2 ⟨rfl, hb2⟩
    have T3 := T2.on hb2
    clear T2 c0 c1 c2 hb2
    by_cases hok : Ok x y
    · rw [okB_of hok]
      obtain ⟨x', y', rfl, rfl, hx8, hy8⟩ := ok_nat hok
      have HE := Lib.hid (has_at ho hx8 hy8)
      obtain ⟨_, _, c0, c1, c2⟩ := id T3
      have HC := Lib.hid (HHs.out w2 x' y' ho T3 hx8 hy8)
      clear HHs hok hx8 hy8 ho
      go_wp2_with fail
      refine HC.out.mono ?_
      rintro e w3 ⟨rfl, hb3⟩
      have hb := (T3.on hb3).1
      clear T3 HC hb3 c0 c1 c2
      go_wp2
      go_ret
      exact mkBol HE.out.symm hb
    · rw [okB_not hok]
      have HE := Lib.hid (has_no_cell (xs := xs) hok)
      have hb := T3.1
      clear T3 hok ho HHs
      go_wp2
      go_ret
      exact mkBol HE.out.symm hb
  · rw [okRB_not ho]
    have HE := Lib.hid (has_no_ok ho x y)
    have hb := T2.1
    clear T2 ho HHs
    go_wp2
    go_ret
    exact mkBol HE.out.symm hb

end Go.Proofs.Ytkjoonmnedofiaa.Reg
