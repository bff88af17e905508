/- The law FnExactFlipAt returns true: the program and the model list the same dominoes. -/
import Derived.Test.YtkjoonmnedofiaaLFlA
import Derived.Test.YtkjoonmnedofiaaMgFAt
namespace Go.Proofs.Ytkjoonmnedofiaa.Flp
open Go.RowKit Go.Proofs.Ytkjoonmnedofiaa.Base Go.Proofs.Ytkjoonmnedofiaa.Pure Go.Proofs.Ytkjoonmnedofiaa.Cell Go.Proofs.Ytkjoonmnedofiaa.Dom Go.Proofs.Ytkjoonmnedofiaa.Dms Go.Proofs.Ytkjoonmnedofiaa.Til Go.Joins
theorem exFlipAt (w : World) (A : Option Addr) (n cap : Nat) (L : List Dm) (hL : L.length = n) (hn : (n : Int) ≤ 9223372036854775807) (h : RowM w w.heap.size A L) (hf : Fits L) (x y : Int) : Calls Try.prog 5 #[.slice A n cap, .agg #[.int .i64 x, .int .i64 y]] w (Dom.Yes w) :=
  lawFlipAt (fun W A n c B L hL hn hf h hB x y => iFlipAt W A n c B L hL hn hf h hB x y) w A n cap L hL hn h hf x y
end Go.Proofs.Ytkjoonmnedofiaa.Flp
