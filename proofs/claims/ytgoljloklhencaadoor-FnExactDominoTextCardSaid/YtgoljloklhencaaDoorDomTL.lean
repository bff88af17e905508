/- The law FnExactDominoText returns true of every domino. -/
import Derived.Test.YtgoljloklhencaaDoorDomT
namespace Go.Proofs.YtgoljloklhencaaDoor.Dom
set_option linter.unusedVariables false
open Go.RowKit Go.Proofs.YtgoljloklhencaaDoor.Base Go.Proofs.YtgoljloklhencaaDoor.Cell Go.Proofs.YtgoljloklhencaaDoor.Fmt Go.Joins

set_option maxHeartbeats 400000 in
theorem lawDominoText (x y : Int) (b : Bool) (hx : Sm x) (hy : Sm y) (w : World) (ht : Pow w) :
    Calls Tryd.prog 4 #[.agg #[.int .i64 x, .int .i64 y, .bool b]] w (Yes w) := by
  have HI := Lib.hid (fun W (hb : Below w.heap.size w W) => iDominoText x y b hx hy W (Joins.tab_stays gPow ht hb (Nat.le_refl _)))
  have HS := Lib.hid (fun W => sDominoText x y b W)
  generalize dtx x y b = d at HI HS
  clear hx hy ht
  go_enter Tryd.func4, Tryd.ntmps4
  go_wp2_with fail
  refine (toDomino x y b _).mono ?_
  rintro e w1 ⟨rfl, hb1⟩
  obtain ⟨hb, K1⟩ := bx3 x y b w w1 hb1
  clear hb1
  go_wp2_with fail
  refine (HS.out _).mono ?_
  rintro e w2 ⟨rfl, hb2⟩
  have hb := hb.trans (hb2.mono hb.size)
  have K1 := K1.on hb2
  have c0 := K1.c0
  have c1 := K1.c1
  have c2 := K1.c2
  clear hb2 HS K1
  go_wp2_with fail
  refine (toDomino x y b _).mono ?_
  rintro e w3 ⟨rfl, hb3⟩
  have hb := hb.trans (hb3.mono hb.size)
  clear hb3 c0 c1 c2
  go_wp2_with fail
  refine (HI.out _ hb).mono ?_
  rintro e w4 ⟨rfl, hb4⟩
  have hb := hb.trans (hb4.mono hb.size)
  clear hb4 HI
  go_wp2
  go_ret
  exact ⟨rfl, hb⟩
end Go.Proofs.YtgoljloklhencaaDoor.Dom
