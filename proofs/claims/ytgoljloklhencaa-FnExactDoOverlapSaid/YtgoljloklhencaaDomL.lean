/- The laws' own copies and comparisons of dominoes; the laws of one domino: FnExactDominoOk and FnExactCellsUnder return true of every argument. -/
import Derived.Test.YtgoljloklhencaaDomO
namespace Go.Proofs.Ytgoljloklhencaa.Dom
set_option linter.unusedVariables false
set_option linter.unusedSimpArgs false
open Go.RowKit Go.Proofs.Ytgoljloklhencaa.Base Go.Proofs.Ytgoljloklhencaa.Cell Go.Proofs.Ytgoljloklhencaa.CellF Go.Proofs.Ytgoljloklhencaa.CellN Go.Joins

/-- the law says yes, and makes memory at most. -/
def Yes (w : World) (e : Ending) (w' : World) : Prop := e = .returned (.bool true) ∧ Below w.heap.size w w'

set_option maxHeartbeats 400000 in
theorem toDomino (x y : Int) (b : Bool) (w : World) :
    Calls Try.prog 9 #[.agg #[.int .i64 x, .int .i64 y, .bool b]] w (Do x y b w) := by
  go_enter Try.func9, Try.ntmps9
  go_wp2
  exact bodyPost_ret (v := .agg #[.int .i64 x, .int .i64 y, .bool b]) (by simp [results, Try.results9, go_sem]) rfl ⟨rfl, below_alloc3 _ _ _ _⟩

/-- two dominoes are the same, as a bool. -/
def eqD (x y : Int) (b : Bool) (u v : Int) (c : Bool) : Bool := decide (x = u ∧ y = v ∧ b = c)
theorem eqD_iff {x y : Int} {b : Bool} {u v : Int} {c : Bool} : eqD x y b u v c = true ↔ x = u ∧ y = v ∧ b = c := by unfold eqD; simp

set_option maxHeartbeats 400000 in
theorem eqDominoSame (x y : Int) (b : Bool) (w : World) :
    Calls Try.prog 17 #[.agg #[.int .i64 x, .int .i64 y, .bool b], .agg #[.int .i64 x, .int .i64 y, .bool b]] w (Bol true w) := by
  have e1 : (x != x) = false := by simp
  have e2 : (y != y) = false := by simp
  have e3 : (b != b) = false := by simp
  go_enter Try.func17, Try.ntmps17
  go_wp2
  go_ret
  exact mkBol rfl (below_alloc2 _ _ _)
theorem eqCellSame (x y : Int) (w : World) :
    Calls Try.prog 13 #[.agg #[.int .i64 x, .int .i64 y], .agg #[.int .i64 x, .int .i64 y]] w (Bol true w) := by
  have := eqCell x y x y w
  rwa [show eqB x y x y = true from eqB_iff.2 ⟨rfl, rfl⟩] at this

set_option maxHeartbeats 400000 in
theorem lawDominoOk (x y : Int) (b : Bool) (hx : Sm x) (hy : Sm y) (w : World) :
    Calls Try.prog 3 #[.agg #[.int .i64 x, .int .i64 y, .bool b]] w (Yes w) := by
  have HI := Lib.hid (fun W => iDominoOk x y b hx hy W)
  have HS := Lib.hid (fun W => sDominoOk x y b W)
  generalize domB x y b = d at HI HS
  have hq : (d != d) = false := by simp
  clear hx hy
  go_enter Try.func3, Try.ntmps3
  go_wp2_with fail
  refine (toDomino x y b _).mono ?_
  rintro e w1 ⟨rfl, hb1⟩
  obtain ⟨hb, K1⟩ := bx3 x y b w w1 hb1
  clear hb1
  go_wp2_with fail
  refine (HS.out _).mono ?_
  rintro e w2 ⟨rfl, hb2⟩
  have hb := hb.trans (hb2.mono hb.size)
  have K1 := K1.on hb2
  have c0 := K1.c0
  have c1 := K1.c1
  have c2 := K1.c2
  clear hb2 HS K1
  go_wp2_with fail
  refine (toDomino x y b _).mono ?_
  rintro e w3 ⟨rfl, hb3⟩
  have hb := hb.trans (hb3.mono hb.size)
  clear hb3 c0 c1 c2
  go_wp2_with fail
  refine (HI.out _).mono ?_
  rintro e w4 ⟨rfl, hb4⟩
  have hb := hb.trans (hb4.mono hb.size)
  clear hb4 HI
  go_wp2
  go_ret
  exact ⟨rfl, hb⟩

set_option maxHeartbeats 1000000 in
theorem lawCellsUnder (x y : Int) (b : Bool) (hx : Sm x) (hy : Sm y) (w : World) :
    Calls Try.prog 4 #[.agg #[.int .i64 x, .int .i64 y, .bool b]] w (Yes w) := by
  obtain ⟨m, n, u, v, HI, HS⟩ : ∃ m n u v, (Hid (∀ W, Calls Try.prog 12 #[.agg #[.int .i64 x, .int .i64 y, .bool b]] W (Cel2 m n u v W))) ∧ (Hid (∀ W, Calls Try.prog 11 #[.agg #[.int .i64 x, .int .i64 y, .bool b]] W (Cel2 m n u v W))) := by
    cases hd : domB x y b with
    | true => exact ⟨_, _, _, _, Lib.hid (fun W => iCellsUnder_ok x y b hx hy hd W), Lib.hid (fun W => sCellsUnder_ok x y b hd W)⟩
    | false => exact ⟨_, _, _, _, Lib.hid (fun W => iCellsUnder_no x y b hx hy hd W), Lib.hid (fun W => sCellsUnder_no x y b hd W)⟩
  clear hx hy
  go_enter Try.func4, Try.ntmps4
  go_wp2_with fail
  refine (toDomino x y b _).mono ?_
  rintro e w1 ⟨rfl, hb1⟩
  obtain ⟨hb, K1⟩ := bx3 x y b w w1 hb1
  clear hb1
  go_wp2_with fail
  refine (HS.out _).mono ?_
  rintro e w2 ⟨rfl, hb2⟩
  have hb := hb.trans (hb2.mono hb.size)
  have K1 := K1.on hb2
  clear hb2 HS
  go_upto_region 2 with fail
  obtain ⟨k1, k2, k3⟩ := at2_two w2 m n u v
  have hb := hb.trans (k3.mono hb.size)
  have K1 := K1.on k3
  generalize (w2.alloc (.cells #[.int .i64 m, .int .i64 n] 29)).alloc (.cells #[.int .i64 u, .int .i64 v] 29) = W at k1 k2 K1 hb ⊢
  have c0 := K1.c0
  have c1 := K1.c1
  have c2 := K1.c2
  clear k3 K1
  go_wp2_with fail
  refine (toDomino x y b _).mono ?_
  rintro e w3 ⟨rfl, hb3⟩
  have hb := hb.trans (hb3.mono hb.size)
  have k1 := k1.on hb3
  have k2 := k2.on hb3
  clear hb3 c0 c1 c2
  go_wp2_with fail
  refine (HI.out _).mono ?_
  rintro e w4 ⟨rfl, hb4⟩
  have hb := hb.trans (hb4.mono hb.size)
  have k1 := k1.on hb4
  have k2 := k2.on hb4
  clear hb4 HI
  go_upto_region 3 with fail
  obtain ⟨j1, j2, j3⟩ := at2_two w4 m n u v
  have hb := hb.trans (j3.mono hb.size)
  have k1 := k1.on j3
  have k2 := k2.on j3
  generalize (w4.alloc (.cells #[.int .i64 m, .int .i64 n] 29)).alloc (.cells #[.int .i64 u, .int .i64 v] 29) = W4 at j1 j2 k1 k2 hb ⊢
  have c0 := k1.c0
  have c1 := k1.c1
  have c2 := j1.c0
  have c3 := j1.c1
  clear j3
  go_wp2_with fail
  refine (eqCellSame m n _).mono ?_
  rintro e w5 ⟨rfl, hb5⟩
  have hb := hb.trans (hb5.mono hb.size)
  have k2 := k2.on hb5
  have j2 := j2.on hb5
  clear k1 j1 hb5 c0 c1 c2 c3
  have c0 := k2.c0
  have c1 := k2.c1
  have c2 := j2.c0
  have c3 := j2.c1
  go_wp2_with fail
  refine (eqCellSame u v _).mono ?_
  rintro e w6 ⟨rfl, hb6⟩
  have hb := hb.trans (hb6.mono hb.size)
  clear hb6 k2 j2 c0 c1 c2 c3
  go_wp2
  go_ret
  exact ⟨rfl, hb⟩
end Go.Proofs.Ytgoljloklhencaa.Dom
