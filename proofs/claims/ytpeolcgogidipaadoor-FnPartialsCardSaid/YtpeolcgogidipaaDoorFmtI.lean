/- FormatInt, the program's: it returns the decimal numeral of n, as the library's Itoa does, whose table is listed. -/
import Derived.Test.YtpeolcgogidipaaDoorFmtS
import Derived.Test.YtpeolcgogidipaaDoorShelf
import Derived.Lib.AppendIntMem
import Derived.Lib.SmallJoins
namespace Go.Proofs.YtpeolcgogidipaaDoor.Fmt
set_option linter.unusedVariables false
open Go.RowKit Go.Proofs.YtpeolcgogidipaaDoor.Base

/-- the library's table of powers of ten is as it was laid. -/
def Pow (w : World) : Prop := Lib.TabIs Tryd.prog w "internal/strconv.uint64pow10" .u64 Lib.pow10Tab
theorem gPow : Tryd.prog.globalNamed "internal/strconv.uint64pow10" = some 1 := by kernel_rfl

theorem impl_fmt (n : Int) (h0 : -9223372036854775808 ≤ n) (h1 : n ≤ 9223372036854775807) (w : World) (ht : Pow w) :
    Calls Tryd.prog 53 #[.int .i64 n] w fun e w' => e = .returned (.string (numS n)) ∧ Below w.heap.size w w' := by
  have H := Lib.hid (Tryd.strconv_Itoa n h0 h1 w ht)
  have HB := Lib.hid (fun k os => Lib.below_grow w.heap.size w (Nat.le_refl _) k os)
  clear h0 h1 ht
  go_enter Tryd.func53, Tryd.ntmps53
  go_wp2_with fail
  refine H.out.mono ?_
  rintro e w' ⟨rfl, k, os, hw⟩
  have hb : Below w.heap.size w w' := by rw [hw]; exact HB.out k os
  clear hw
  go_wp2
  go_ret
  exact ⟨rfl, hb⟩
end Go.Proofs.YtpeolcgogidipaaDoor.Fmt
