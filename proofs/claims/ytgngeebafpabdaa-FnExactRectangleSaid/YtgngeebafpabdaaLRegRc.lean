/- The law FnExactRectangle returns true: the program's Rectangle and the model's give the same region for every two numbers, and the program's answers own their memory. -/
import Derived.Test.YtgngeebafpabdaaRegL2
import Derived.Test.YtgngeebafpabdaaRegRc
namespace Go.Proofs.Ytgngeebafpabdaa.Reg
set_option linter.unusedVariables false
open Go.RowKit Go.Proofs.Ytgngeebafpabdaa.Base Go.Proofs.Ytgngeebafpabdaa.Pure Go.Proofs.Ytgngeebafpabdaa.Cell Go.Joins

/-- two regions of the law's own, each in a box: the model's in p, the program's in q. -/
def LR (w : World) (p : Nat) (va : Value) (la ha : Nat) (xs : List Value) (q : Nat) (ua : Value) (lb hb : Nat) (ys : List Value) (n : Nat) (W : World) : Prop :=
  Below w.heap.size w W ∧ W.cell? ⟨p, 0, none⟩ = some va ∧ W.cell? ⟨q, 0, none⟩ = some ua ∧ (p < W.heap.size ∧ q < W.heap.size ∧ RowIn W la ha 3 1 va n xs ∧ RowIn W lb hb 3 1 ua n ys)
section
variable {w : World} {p : Nat} {va : Value} {la ha : Nat} {xs : List Value} {q : Nat} {ua : Value} {lb hb : Nat} {ys : List Value} {n : Nat} {W W' : World}
theorem LR.on (h : LR w p va la ha xs q ua lb hb ys n W) (hw : w.heap.size ≤ W.heap.size) (hbl : Below W.heap.size W W') : LR w p va la ha xs q ua lb hb ys n W' := by
  obtain ⟨a, b, c, d, e, f, g⟩ := h
  have hz := hbl.size
  exact ⟨a.trans (hbl.mono hw), (hbl.cell (by show p < _; omega)).trans b, (hbl.cell (by show q < _; omega)).trans c, by omega, by omega, f.on hbl, g.on hbl⟩
theorem LR.marked {zs : List Value} (h : LR w p va la ha xs q ua lb hb ys n W) (hr : RowIn W' lb hb 3 1 ua n zs) (hap : Apart lb hb W W') (h0 : w.heap.size ≤ lb) (h1 : p < lb) (h2 : ha ≤ lb) (h3 : hb ≤ q) : LR w p va la ha xs q ua lb hb zs n W' := by
  obtain ⟨a, b, c, d, e, f, g⟩ := h
  have hz := hap.size
  have hz0 := a.size
  exact ⟨a.trans (hap.below (by omega) (by omega)), (hap.cell (by show p < _; omega) (.inl h1)).trans b, (hap.cell (by show q < _; omega) (.inr h3)).trans c, by omega, by omega, f.apart hap (.inl h2), hr⟩
theorem LR.x (h : LR w p va la ha xs q ua lb hb ys n W) : RowIn W la ha 3 1 va n xs := h.2.2.2.2.2.1
theorem LR.y (h : LR w p va la ha xs q ua lb hb ys n W) : RowIn W lb hb 3 1 ua n ys := h.2.2.2.2.2.2
end

set_option maxRecDepth 100000 in
set_option maxHeartbeats 4000000 in
theorem lawRectangle (w : World) (a : Int) (b : Int) :
    Calls Try.prog 8 #[.int .i64 a, .int .i64 b] w (Yes w) := by
  have HS := Lib.hid (fun W => sRectangle W a b)
  have HI := Lib.hid (fun W => iRectangle W a b)
  have HL := rectR_length a b
  generalize rectR a b = xs at HS HI HL
  obtain ⟨n, hn⟩ : ∃ n, n = xs.length := ⟨_, rfl⟩
  rw [← hn] at HS HI HL
  have HEq := Lib.hid (fun W A A' c c' (h1 : RowB W W.heap.size A xs) (h2 : RowB W W.heap.size A' xs) => eqRegion W A A' n c c' _ _ xs hn.symm (by omega) h1 h2 (Nat.le_refl _) (Nat.le_refl _))
  obtain ⟨g1, hg1⟩ : ∃ g1 : Int, g1 = ((1 + n : Nat) : Int) := ⟨_, rfl⟩
  have hg0 : ¬ g1 < 0 := by omega
  have hgg : (g1 != g1) = false := by simp
  have HM := Lib.hid (fun W lo hi A c (hr : RowIn W lo hi 3 1 (.slice A n c) n (ints xs)) => markReg1 W lo hi n c A xs g1 hg1 (by omega) hr)
  have HH := Lib.hid (fun W A c (hr : RowB W W.heap.size A (marksI 1 n)) => heldReg1 W n c _ A g1 hg1 (by omega) hr (Nat.le_refl _))
  clear hn hg1 HL
  go_enter Try.func8, Try.ntmps8
  go_wp2_with fail
  refine (HS.out _).mono ?_
  rintro e w1 ⟨A1, c1, rfl, hown, hb1⟩
  have HX := Lib.hid (rowIn_new hown)
  have hw1 := hb1.size
  have HB1 := Lib.hid hb1
  clear HS hown hb1
  go_wp2_with fail
  refine (HI.out _).mono ?_
  rintro e w2 ⟨A2, c2, rfl, hown, hb2⟩
  have hsz : (w1.alloc (.cells #[.slice A1 n c1] 26)).heap.size = w1.heap.size + 1 := by simp
  have hca : ∀ o, (w2.alloc o).cell? ⟨w1.heap.size, 0, none⟩ = some (.slice A1 n c1) := fun o => by
    have hz := hb2.size
    rw [(below_alloc1 w2 o).cell (by show w1.heap.size < _; omega), hb2.cell (by show w1.heap.size < _; omega)]
    exact (cell_of_row _ _ 0 _ _ _ (heap_alloc_new w1 _)).trans rfl
  have S0 := Lib.hid (fun T => show LR w w1.heap.size (.slice A1 n c1) w.heap.size w1.heap.size (ints xs) w2.heap.size (.slice A2 n c2) (w1.heap.size + 1) w2.heap.size (ints xs) n (w2.alloc (.cells #[.slice A2 n c2] T)) from by
    have hz := hb2.size
    have hal := below_alloc1 w2 (.cells #[.slice A2 n c2] T)
    have h12 : Below w1.heap.size w1 w2 := (below_alloc1 w1 _).trans (hb2.mono (by simp))
    refine ⟨(HB1.out.trans (h12.mono hw1)).trans (hal.mono (by omega)), hca _, (cell_of_row _ _ 0 _ _ _ (heap_alloc_new w2 _)).trans rfl, by simp; omega, by simp, (HX.out.on h12).on hal, ?_⟩
    exact (show RowIn w2 (w1.heap.size + 1) w2.heap.size 3 1 (.slice A2 n c2) n (ints xs) from hsz ▸ rowIn_new hown).on hal)
  have hw2 : w1.heap.size + 1 ≤ w2.heap.size := by have := hb2.size; omega
  clear HX HB1 hown hb2 hsz
  go_wp2_with fail
  have S1 := S0.out 26
  clear S0 hca
  have hw3 : w2.heap.size + 1 ≤ (w2.alloc (.cells #[.slice A2 n c2] 26)).heap.size := by simp
  generalize w2.alloc (.cells #[.slice A2 n c2] 26) = W2 at S1 hw3 ⊢
  refine (HEq.out _ _ _ _ _ (rowB_own S1.y.1) (rowB_own S1.x.1)).mono ?_
  rintro e w3 ⟨rfl, hb3⟩
  have S2 := S1.on (by omega) hb3
  have hw4 := hb3.size
  clear S1 hb3
  generalize hp : w1.heap.size = p at S2 hw1 hw2 ⊢
  generalize hq : w2.heap.size = q at S2 hw2 hw3 ⊢
  clear hp hq
  obtain ⟨_, d1, d2, _⟩ := id S2
  go_wp2_with fail
  refine (HM.out _ _ _ _ _ S2.y).mono ?_
  rintro e w4 ⟨rfl, hr4, ha4⟩
  have S3 := S2.marked hr4 ha4 (by omega) (by omega) (by omega) (Nat.le_refl _)
  have hw5 := ha4.size
  clear S2 hr4 ha4 HM d1 d2
  obtain ⟨_, d1, d2, _⟩ := id S3
  go_wp2_with fail
  refine (HH.out _ _ _ (rowB_own S3.y.1)).mono ?_
  rintro e w5 ⟨rfl, hb5⟩
  have S4 := S3.on (by omega) hb5
  have hw6 := hb5.size
  clear S3 hb5 d1 d2
  go_wp2_with fail
  refine (HI.out _).mono ?_
  rintro e w6 ⟨A3, c3, rfl, hown, hb6⟩
  have S5 := S4.on (by omega) hb6
  have hw7 := hb6.size
  have HR3 := Lib.hid (rowB_own hown)
  clear S4 hown hb6 HI
  have hca : ∀ o, (w6.alloc o).cell? ⟨p, 0, none⟩ = some (.slice A1 n c1) := fun o => (S5.on (by omega) (below_alloc1 w6 o)).2.1
  have S6 := Lib.hid (fun o => S5.on (by omega) (below_alloc1 w6 o))
  have HR4 := Lib.hid (fun o => (HR3.out.below (below_alloc1 w6 o) (Nat.le_refl _)).mono (below_alloc1 w6 o).size)
  go_wp2_with fail
  clear hca
  have S7 := S6.out (.cells #[.slice A3 n c3] 26)
  have HR5 := Lib.hid (HR4.out (.cells #[.slice A3 n c3] 26))
  have hw8 : w6.heap.size ≤ (w6.alloc (.cells #[.slice A3 n c3] 26)).heap.size := by simp
  clear S5 S6 HR3 HR4
  generalize w6.alloc (.cells #[.slice A3 n c3] 26) = W6 at S7 HR5 hw8 ⊢
  refine (HEq.out _ _ _ _ _ HR5.out (rowB_own S7.x.1)).mono ?_
  rintro e w7 ⟨rfl, hb7⟩
  have S8 := S7.on (by omega) hb7
  have hw9 := hb7.size
  clear S7 hb7 HR5
  obtain ⟨_, d1, d2, _⟩ := id S8
  go_wp2_with fail
  refine (HH.out _ _ _ (rowB_own S8.y.1)).mono ?_
  rintro e w8 ⟨rfl, hb8⟩
  have hb := (S8.on (by omega) hb8).1
  clear S8 hb8 d1 d2
  go_wp2
  go_ret
  exact ⟨rfl, hb⟩
end Go.Proofs.Ytgngeebafpabdaa.Reg
