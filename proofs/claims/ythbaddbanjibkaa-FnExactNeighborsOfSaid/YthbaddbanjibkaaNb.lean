/- The law FnExactNeighborsOf returns true: the program's NeighborsOf and the model's return the same cells, and the program's answers own their memory. -/
import Derived.Test.YthbaddbanjibkaaNbI
import Derived.Test.YthbaddbanjibkaaNbM
namespace Go.Proofs.Ythbaddbanjibkaa.Nb
set_option linter.unusedVariables false
open Go.RowKit Go.Proofs.Ythbaddbanjibkaa.Base Go.Proofs.Ythbaddbanjibkaa.Cell Go.Proofs.Ythbaddbanjibkaa.CellF Go.Joins

/-- with the numbers from 1 on. -/
theorem mark1 (w : World) (base n cap : Nat) (A : Option Addr) (L : List (Int × Int)) (m : Int) (hm : m = ((1 + 2 * n : Nat) : Int)) (hn : n ≤ 400000) (hown : w.ownsRow base 25 2 (.slice A n cap) n (rowC L)) (hbase : base ≤ w.heap.size) :
    Calls Try.prog 24 #[.slice A n cap, .int .i64 1] w fun e w' => e = .returned (.int .i64 m) ∧ w'.ownsRow base 25 2 (.slice A n cap) n (rowC (marksC 1 n)) ∧ Below base w w' := by
  subst hm
  exact markCells w base 1 n cap A L (by omega) hown hbase
theorem held1 (w : World) (n cap : Nat) (A : Option Addr) (m : Int) (hm : m = ((1 + 2 * n : Nat) : Int)) (hn : n ≤ 400000) (hr : RowC w A (marksC 1 n)) :
    Calls Try.prog 25 #[.slice A n cap, .int .i64 1] w fun e w' => e = .returned (.int .i64 m) ∧ w' = w := by
  subst hm
  exact heldCells w 1 n cap A (by omega) hr
theorem eqRows (w : World) (A A' : Option Addr) (n cap cap' : Nat) (L : List (Int × Int)) (hn : L.length = n) (hl : n ≤ 1048576) (h1 : RowC w A L) (h2 : RowC w A' L) :
    Calls Try.prog 23 #[.slice A n cap, .slice A' n cap'] w (Bol true w) := by
  subst hn
  exact eqCells w A A' cap cap' L hl h1 h2

theorem One.onB {w W W' : World} {x y : Int} {B : Nat} (h : One w x y W) (hb : Below B W W') (hB : w.heap.size + 1 ≤ B) : One w x y W' := by
  obtain ⟨h0, h1, h2, h3⟩ := h
  have hz := hb.size
  refine ⟨h0.trans (hb.mono (by omega)), by omega, ?_, ?_⟩
  · rw [hb.cell (by show w.heap.size < _; omega)]; exact h2
  · rw [hb.cell (by show w.heap.size < _; omega)]; exact h3

set_option maxRecDepth 100000 in
set_option maxHeartbeats 1000000 in
theorem lawNb (x y : Int) (w : World) :
    Calls Try.prog 8 #[.agg #[.int .i64 x, .int .i64 y]] w fun e w' => e = .returned (.bool true) ∧ Below w.heap.size w w' := by
  have HL := Lib.hid (nbTo_length x y 64)
  have HS := Lib.hid (fun W => specNb x y W)
  have HI := Lib.hid (fun W => implNb x y W)
  generalize nbTo x y 64 = L at HL HS HI
  go_enter Try.func8, Try.ntmps8
  go_wp2_with fail
  refine (toCell x y _).mono ?_
  rintro e w1 ⟨rfl, hb1⟩
  go_wp2_with fail
  refine (HS.out w1).mono ?_
  rintro e w2 ⟨A, cap, rfl, hown, hb2⟩
  have hw0 : Below w.heap.size w w1 := (below_alloc1 w _).trans (hb1.mono (by simp))
  have O1 := one_start x y w w1 hb1
  have O2 := O1.on hb2
  have HO1 := Lib.hid hown
  clear hown hb1 hw0
  have hw2 := O2.1
  obtain ⟨_, hz2, c0, c1⟩ := id O2
  go_wp2_with fail
  refine (toCell x y _).mono ?_
  rintro e w3 ⟨rfl, hb3⟩
  clear c0 c1 hz2
  go_wp2_with fail
  refine (HI.out w3).mono ?_
  rintro e w4 ⟨A2, cap2, rfl, hown, hb4⟩
  have hb34 := hb3.trans (hb4.mono hb3.size)
  have O4 := O2.on hb34
  have HO2 := Lib.hid hown
  obtain ⟨n, hn⟩ : ∃ n, n = L.length := ⟨_, rfl⟩
  have hn64 : n ≤ 64 := by have := HL.out; omega
  have HN := Lib.hid hn
  obtain ⟨m, hm⟩ : ∃ m : Int, m = ((1 + 2 * n : Nat) : Int) := ⟨_, rfl⟩
  have hm0 : ¬ m < 0 := by omega
  have HM := Lib.hid hm
  have hmm : (m != m) = false := by simp
  rw [← hn]
  have HO2' := Lib.hid (show w4.ownsRow w3.heap.size 25 2 (.slice A2 n cap2) n (rowC L) by rw [HN.out]; exact HO2.out)
  have HO1' := Lib.hid (show w2.ownsRow w1.heap.size 25 2 (.slice A n cap) n (rowC L) by rw [HN.out]; exact HO1.out)
  have HA := Lib.hid (show ∀ b off : Nat, A = some ⟨b, off, none⟩ → b < w2.heap.size from fun b off e => (HO1'.out.lt b (by rw [e]; rfl)).2)
  have HR1 := Lib.hid (show RowC w2 A L from rowC_own HO1'.out)
  have HE := Lib.hid (fun (W : World) (B B' : Option Addr) (c c' : Nat) (h1 : RowC W B L) (h2 : RowC W B' L) => eqRows W B B' n c c' L HN.out.symm (by omega) h1 h2)
  have hz3 := hb3.size
  have hz4 := hb4.size
  have hz34 := hb34.size
  clear hn hm HO1 HO2 hown hb4 hw2
  go_wp2_with fail
  refine (HE.out w4 A2 A cap2 cap (rowC_own HO2'.out) (HR1.out.below hb34 HA.out)).mono ?_
  rintro e w5 ⟨rfl, hb5⟩
  have O5 := O4.on hb5
  have HO5 := Lib.hid (own_below HO2'.out hb5)
  have hb5' : Below w2.heap.size w2 w5 := hb34.trans (hb5.mono hz34)
  have hz5 : w3.heap.size ≤ w5.heap.size := by have := hb5.size; omega
  clear hb34 hb5 O1 O4
  go_wp2_with fail
  refine (mark1 w5 w3.heap.size n cap2 A2 L m HM.out (by omega) HO5.out hz5).mono ?_
  rintro e w6 ⟨rfl, hown6, hb6⟩
  have O6 := O5.onB hb6 (by have := O2.2.1; omega)
  have HO6 := Lib.hid hown6
  have hb6' : Below w2.heap.size w2 w6 := hb5'.trans (hb6.mono hz3)
  clear hown6 hb6 hb5' O5
  go_wp2_with fail
  refine (held1 w6 n cap2 A2 m HM.out (by omega) (rowC_own HO6.out)).mono ?_
  rintro e w7 ⟨rfl, rfl⟩
  obtain ⟨_, hz7, c0, c1⟩ := id O6
  go_wp2_with fail
  refine (toCell x y _).mono ?_
  rintro e w8 ⟨rfl, hb8⟩
  clear c0 c1 hz7
  go_wp2_with fail
  refine (HI.out w8).mono ?_
  rintro e w9 ⟨A3, cap3, rfl, hown, hb9⟩
  have hb89 := hb8.trans (hb9.mono hb8.size)
  have O9 := O6.on hb89
  have HO9 := Lib.hid (show w9.ownsRow w8.heap.size 25 2 (.slice A3 n cap3) n (rowC L) by rw [HN.out]; exact hown)
  have HO6b := Lib.hid (own_below HO6.out hb89)
  have hb9' : Below w2.heap.size w2 w9 := hb6'.trans (hb89.mono hb6'.size)
  clear hown hb8 hb9 hb89 hb6' O6
  rw [← HN.out]
  go_wp2_with fail
  refine (HE.out w9 A3 A cap3 cap (rowC_own HO9.out) (HR1.out.below hb9' HA.out)).mono ?_
  rintro e w10 ⟨rfl, hb10⟩
  have O10 := O9.on hb10
  have HO10 := Lib.hid (own_below HO6b.out hb10)
  have hbend := O10.1
  clear hb10 hb9' O9
  go_wp2_with fail
  refine (held1 w10 n cap2 A2 m HM.out (by omega) (rowC_own HO10.out)).mono ?_
  rintro e w11 ⟨rfl, rfl⟩
  clear O10 O2
  go_wp2
  go_ret
  exact ⟨rfl, hbend⟩
end Go.Proofs.Ythbaddbanjibkaa.Nb
