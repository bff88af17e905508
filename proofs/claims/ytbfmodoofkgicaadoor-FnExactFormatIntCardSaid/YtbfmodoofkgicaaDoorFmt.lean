/- The law FnExactFormatInt returns true: the program's FormatInt and the model's return the same. -/
import Derived.Test.YtbfmodoofkgicaaDoorFmtI
import Derived.OpenShut
namespace Go.Proofs.YtbfmodoofkgicaaDoor.Fmt
set_option linter.unusedVariables false
open Go.RowKit Go.Proofs.YtbfmodoofkgicaaDoor.Base

theorem format_law (n : Int) (h0 : -9223372036854775808 ≤ n) (h1 : n ≤ 9223372036854775807) (w : World) (ht : Pow w) :
    Calls Tryd.prog 6 #[.int .i64 n] w fun e w' => e = .returned (.bool true) ∧ Below w.heap.size w w' := by
  have HS := Lib.hid (spec_fmt n h0 h1 w)
  have HI := Lib.hid (fun w1 (hb : Below w.heap.size w w1) => impl_fmt n h0 h1 w1 (Joins.tab_stays gPow ht hb (Nat.le_refl _)))
  clear h0 h1 ht
  go_enter Tryd.func6, Tryd.ntmps6
  go_wp2_with fail
  refine HS.out.mono ?_
  rintro e w1 ⟨rfl, hb1⟩
  go_wp2_with fail
  refine (HI.out w1 hb1).mono ?_
  rintro e w2 ⟨rfl, hb2⟩
  generalize numS n = r
  go_wp2
  go_ret
  exact ⟨rfl, hb1.trans (hb2.mono hb1.size)⟩

theorem format_law' (n : Int) (hn : (Lit.int .i64 n).wf = true) (w : World) (ht : Pow w) :
    Calls Tryd.prog 6 #[.int .i64 n] w fun e w' => e = .returned (.bool true) ∧ Below w.heap.size w w' :=
  format_law n (bounds_i64 hn).1 (bounds_i64 hn).2 w ht
end Go.Proofs.YtbfmodoofkgicaaDoor.Fmt
