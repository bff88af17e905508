/- The law FnExactFlipsOf returns true: the program and the model list the same cells. -/
import Derived.Test.YtkjoonmnedofiaaLFlo
import Derived.Test.YtkjoonmnedofiaaKin
namespace Go.Proofs.Ytkjoonmnedofiaa.Flp
open Go.RowKit Go.Proofs.Ytkjoonmnedofiaa.Base Go.Proofs.Ytkjoonmnedofiaa.Pure Go.Proofs.Ytkjoonmnedofiaa.Cell Go.Proofs.Ytkjoonmnedofiaa.Dom Go.Proofs.Ytkjoonmnedofiaa.Dms Go.Proofs.Ytkjoonmnedofiaa.Til Go.Joins
theorem exFlipsOf (w : World) (A : Option Addr) (n cap : Nat) (L : List Dm) (hL : L.length = n) (hn : (n : Int) ≤ 9223372036854775807) (h : RowM w w.heap.size A L) (hf : Fits L) : Calls Try.prog 6 #[.slice A n cap] w (Dom.Yes w) :=
  lawFlipsOf (fun W A n c B L hL hn _ h hB => iFlipsOf W A n c B L hL (by omega) h hB) w A n cap L hL hn h hf
end Go.Proofs.Ytkjoonmnedofiaa.Flp
