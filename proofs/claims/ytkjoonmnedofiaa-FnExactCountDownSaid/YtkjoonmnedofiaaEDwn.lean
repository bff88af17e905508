/- The law FnExactCountDown returns true: the program and the model give the same number. -/
import Derived.Test.YtkjoonmnedofiaaLDwn
import Derived.Test.YtkjoonmnedofiaaKin
namespace Go.Proofs.Ytkjoonmnedofiaa.Flp
open Go.RowKit Go.Proofs.Ytkjoonmnedofiaa.Base Go.Proofs.Ytkjoonmnedofiaa.Pure Go.Proofs.Ytkjoonmnedofiaa.Cell Go.Proofs.Ytkjoonmnedofiaa.Dom Go.Proofs.Ytkjoonmnedofiaa.Dms Go.Proofs.Ytkjoonmnedofiaa.Til Go.Joins
theorem exCountDown (w : World) (A : Option Addr) (n cap : Nat) (L : List Dm) (hL : L.length = n) (hn : (n : Int) ≤ 9223372036854775807) (h : RowM w w.heap.size A L) (hf : Fits L) : Calls Try.prog 8 #[.slice A n cap] w (Dom.Yes w) :=
  lawCountDown (fun W A n c B L hL hn _ h hB => iCountDown W A n c B L hL hn h hB) w A n cap L hL hn h hf
end Go.Proofs.Ytkjoonmnedofiaa.Flp
