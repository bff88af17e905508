/- The law FnExactFlipAll returns true: the program and the model list the same dominoes. -/
import Derived.Test.YtkjoonmnedofiaaLFal
import Derived.Test.YtkjoonmnedofiaaMgFAl
namespace Go.Proofs.Ytkjoonmnedofiaa.Flp
open Go.RowKit Go.Proofs.Ytkjoonmnedofiaa.Base Go.Proofs.Ytkjoonmnedofiaa.Pure Go.Proofs.Ytkjoonmnedofiaa.Cell Go.Proofs.Ytkjoonmnedofiaa.Dom Go.Proofs.Ytkjoonmnedofiaa.Dms Go.Proofs.Ytkjoonmnedofiaa.Til Go.Joins
theorem exFlipAll (w : World) (A : Option Addr) (n cap : Nat) (L : List Dm) (hL : L.length = n) (hn : (n : Int) ≤ 9223372036854775807) (h : RowM w w.heap.size A L) (hf : Fits L)
    (A' : Option Addr) (n' cap' : Nat) (C : List (Int × Int)) (hC : C.length = n') (hn' : (n' : Int) ≤ 9223372036854775807) (h' : Go.Proofs.Ytkjoonmnedofiaa.Def.RowK w w.heap.size A' C) :
    Calls Try.prog 7 #[.slice A n cap, .slice A' n' cap'] w (Dom.Yes w) :=
  lawFlipAll (fun W A n c B L hL hn hf h hB A2 m c2 B2 C hC hm h2 hB2 => iFlipAll W A n c B L hL hn hf h hB A2 m c2 B2 C hC hm h2 hB2) w A n cap L hL hn h hf A' n' cap' C hC hn' h'
end Go.Proofs.Ytkjoonmnedofiaa.Flp
