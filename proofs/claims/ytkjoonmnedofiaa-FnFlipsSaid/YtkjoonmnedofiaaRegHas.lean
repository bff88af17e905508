/- Does a region have a cell: the program's functions and the model's. -/
import Derived.Test.YtkjoonmnedofiaaRegOk
import Derived.Deep.RegionHeld3
namespace Go.Proofs.Ytkjoonmnedofiaa.Reg
set_option linter.unusedVariables false
open Go.RowKit Go.Proofs.Ytkjoonmnedofiaa.Base Go.Proofs.Ytkjoonmnedofiaa.Pure Go.Proofs.Ytkjoonmnedofiaa.Cell Go.Joins

/-- the kind of a cell of a row. -/
def kindN (r : Int) (k : Nat) : Int := if bitB r k then 1 else 0
theorem kindN_no {r : Int} {k : Nat} (h : bitB r k = false) : kindN r k = 0 := by unfold kindN; rw [h]; rfl
theorem kindN_yes {r : Int} {k : Nat} (h : bitB r k = true) : kindN r k = 1 := by unfold kindN; rw [h]; rfl

set_option maxRecDepth 100000 in
set_option maxHeartbeats 4000000 in
theorem sHas (w : World) (A : Option Addr) (n cap B : Nat) (xs : List Int) (hx : xs.length = n) (ho : okR xs) (h : RowB w B A xs) (hB : B ≤ w.heap.size) (x y : Nat) (hx8 : x < 8) (hy8 : y < 8) :
    Calls Try.prog 86 #[.agg #[.slice A n cap], .agg #[.int .i64 (x : Int), .int .i64 (y : Int)]] w (Bol (bitB (rowD xs y) x) w) := by
  obtain ⟨b, off, hA, hc⟩ := h
  have HBw := Lib.hid (fun (o o' : Obj) => below_alloc2 w o o')
  have hn8 : n ≤ 8 := by have := ho.1; omega
  have HR := Lib.hid (rowD_ok ho y)
  by_cases hlt : y < n
  · have hkx : y < xs.length := by omega
    obtain ⟨rfl, hbw⟩ := hA (by omega)
    have hc1 : ∀ W, Below w.heap.size w W → W.cell? ⟨b, off + y, none⟩ = some (.int .i64 (rowD xs y)) := fun W hW =>
      (hW.cell (p := ⟨b, off + y, none⟩) (by show b < _; omega)).trans (by rw [rowD_at (List.getElem?_eq_getElem hkx)]; exact hc y xs[y] (List.getElem?_eq_getElem hkx))
    have HC := Lib.hid (fun (o o' : Obj) => hc1 _ (HBw.out o o'))
    clear hA hc hx hkx hc1 ho
    generalize rowD xs y = r at HC HR ⊢
    obtain ⟨r0, r1⟩ := HR.out
    cases hb : bitB r x with
    | false =>
      have hz := shr_no r0 r1 hx8 hb
      clear hb r0 r1 HR
      have hcs : x = 0 ∨ x = 1 ∨ x = 2 ∨ x = 3 ∨ x = 4 ∨ x = 5 ∨ x = 6 ∨ x = 7 := by omega
      clear hx8
      rcases hcs with rfl | rfl | rfl | rfl | rfl | rfl | rfl | rfl
      all_goals
        have hcell := HC.out
        (try simp only [Int.reducePow, Int.pow_zero, Int.ediv_one] at hz)
        go_enter Try.func86, Try.ntmps86
        go_wp2_with fail
        go_quiet (fail)
        go_wp2
        go_ret
        exact mkBol rfl (drewN_below (HBw.out _ _) _)
    | true =>
      have hz := shr_yes r0 r1 hx8 hb
      clear hb r0 r1 HR
      have hcs : x = 0 ∨ x = 1 ∨ x = 2 ∨ x = 3 ∨ x = 4 ∨ x = 5 ∨ x = 6 ∨ x = 7 := by omega
      clear hx8
      rcases hcs with rfl | rfl | rfl | rfl | rfl | rfl | rfl | rfl
      all_goals
        have hcell := HC.out
        (try simp only [Int.reducePow, Int.pow_zero, Int.ediv_one] at hz)
        go_enter Try.func86, Try.ntmps86
        go_wp2_with fail
        go_quiet (fail)
        go_wp2
        go_ret
        exact mkBol rfl (drewN_below (HBw.out _ _) _)
  · have hE := Lib.hid (show bitB (rowD xs y) x = false by rw [rowD_out (by omega)]; exact bitB_zero x)
    clear hA hc hx ho HR hx8
    go_enter Try.func86, Try.ntmps86
    go_wp2_with fail
    go_quiet (fail)
    go_wp2
    go_ret
    exact mkBol hE.out.symm (drewN_below (HBw.out _ _) _)
end Go.Proofs.Ytkjoonmnedofiaa.Reg
