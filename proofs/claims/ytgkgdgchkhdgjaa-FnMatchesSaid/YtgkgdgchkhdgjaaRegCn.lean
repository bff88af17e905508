/- CountCells: the program's function and the model's. -/
import Derived.Test.YtgkgdgchkhdgjaaRegCl
namespace Go.Proofs.Ytgkgdgchkhdgjaa.Reg
set_option linter.unusedVariables false
open Go.RowKit Go.Proofs.Ytgkgdgchkhdgjaa.Base Go.Proofs.Ytgkgdgchkhdgjaa.Pure Go.Proofs.Ytgkgdgchkhdgjaa.Cell Go.Proofs.Ytgkgdgchkhdgjaa.Cels Go.Joins

/-- how many cells a region has. -/
def countR (xs : List Int) : Int := ((cellsR xs).length : Int)

set_option maxHeartbeats 400000 in
theorem sCountCells (w : World) (A : Option Addr) (n cap B : Nat) (xs : List Int) (hx : xs.length = n) (hn : (n : Int) ≤ 9223372036854775807) (h : RowB w B A xs) (hB : B ≤ w.heap.size) :
    Calls Try.prog 30 #[.agg #[.slice A n cap]] w (Num (countR xs) w) := by
  have HC := Lib.hid (fun W (hb : Below w.heap.size w W) => sCellsOf W A n cap B xs hx hn (h.below hb hB) (by have := hb.size; omega))
  have HB := Lib.hid (fun (o1 : Obj) => below_alloc1 w o1)
  have HE := Lib.hid (show countR xs = ((cellsR xs).length : Int) from rfl)
  clear hx hn h
  generalize cellsR xs = L at HC HE
  go_enter Try.func30, Try.ntmps30
  go_wp2_with fail
  refine (HC.out _ (HB.out _)).mono ?_
  rintro e w1 ⟨A1, cap1, rfl, _, hb1⟩
  have hb := (HB.out (.cells #[.slice A n cap] 29)).trans (hb1.mono (by simp))
  clear hb1
  go_wp2
  go_ret
  exact mkNum HE.out.symm hb
end Go.Proofs.Ytgkgdgchkhdgjaa.Reg
