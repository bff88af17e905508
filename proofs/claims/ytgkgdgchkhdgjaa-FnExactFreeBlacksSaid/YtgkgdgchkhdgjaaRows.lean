/-
  No cell of these rows narrows 'for every input' (looked for: loops, veiled, ifaces, maps, wideKeys, modest, calm, conditions, laid).
  DERIVED. THE GIVEN ROWS OF THIS SEAT. 8 by the template 'for every input the law returns true; each argument reads behind the call as it read before'; 0 by the template 'total and deterministic' (their statements: YtgkgdgchkhdgjaaTotals.lean).
  GIVEN WITH THE SEED: the statements are not yours to turn. If you find one false, say at which input.
  Laid BY PROGRAM, IN A SANDBOX (cutbox-rows.mjs): the forced cells as the released guide's own fill.sh prints them over the translation 76d3c0403c577be0… (all of the seat's roots in one cut). By AI agents, Wed Nov 11 2026. No macro, syntax, notation, axiom, sorry.
-/
import Derived.Test.YtgkgdgchkhdgjaaChecked
import GoSem.Claim
import GoSem.ClaimJoined
import GoSem.ClaimMapViews
import Derived.JoinedTies
import Derived.KernelRfl
namespace Go.Proofs.Ytgkgdgchkhdgjaa
/- THE CELL 'sum', in the pinned program and in every row, IS THE sha256 OF THE DUMP (.gsa) THAT YtgkgdgchkhdgjaaProg.lean LOADS. Nothing in Lean hashes anything: it is a label: what it is worth is what the hold of that sum in a sandbox is worth. -/
noncomputable def Try.pinned : Pinned := { name := "ytgkgdgchkhdgjaa", sum := "76d3c0403c577be0c6f7669a5b77b1806982c8df23f0001d820aede39cb74e96", checked := Try.checked }
namespace Rows
def none {H : Type} : Left H := { results := [], args := [] }

/-- 'laws.FnExactDeficit': WHATEVER THE INPUT: true; the input reads as it did. -/
def fnExactDeficitSpec : ChangeSpec := { name := "fnExactDeficit", fn := fun _ => fun
  | [d1, d2] => { results := [.lit (.bool true)], args := [d1, d2] }
  | _ => none }
def fnExactDeficitRow : OpenClaim := { program := "ytgkgdgchkhdgjaa", sum := "76d3c0403c577be0c6f7669a5b77b1806982c8df23f0001d820aede39cb74e96", func := "loop.example/g03300/laws.FnExactDeficit", spec := "fnExactDeficit", plainKeys := false, apart := false }
def FnExactDeficitSaid : Prop := fnExactDeficitRow.holds Try.pinned (OpenSpec.ofChange fnExactDeficitSpec)

/-- ITS FALSE NEIGHBOUR: 'it returns false'. Refute it at one input. -/
def fnExactDeficitWrong : ChangeSpec := { name := "fnExactDeficit", fn := fun _ => fun
  | [d1, d2] => { results := [.lit (.bool false)], args := [d1, d2] }
  | _ => none }
def FnExactDeficitWrongFalsely : Prop := fnExactDeficitRow.holds Try.pinned (OpenSpec.ofChange fnExactDeficitWrong)

/-- 'laws.FnExactFreeBlacks': WHATEVER THE INPUT: true; the input reads as it did. -/
def fnExactFreeBlacksSpec : ChangeSpec := { name := "fnExactFreeBlacks", fn := fun _ => fun
  | [d] => { results := [.lit (.bool true)], args := [d] }
  | _ => none }
def fnExactFreeBlacksRow : OpenClaim := { program := "ytgkgdgchkhdgjaa", sum := "76d3c0403c577be0c6f7669a5b77b1806982c8df23f0001d820aede39cb74e96", func := "loop.example/g03300/laws.FnExactFreeBlacks", spec := "fnExactFreeBlacks", unfollowed := true, recurses := true, plainKeys := false, apart := false }
def FnExactFreeBlacksSaid : Prop := fnExactFreeBlacksRow.holds Try.pinned (OpenSpec.ofChange fnExactFreeBlacksSpec)

/-- ITS FALSE NEIGHBOUR: 'it returns false'. Refute it at one input. -/
def fnExactFreeBlacksWrong : ChangeSpec := { name := "fnExactFreeBlacks", fn := fun _ => fun
  | [d] => { results := [.lit (.bool false)], args := [d] }
  | _ => none }
def FnExactFreeBlacksWrongFalsely : Prop := fnExactFreeBlacksRow.holds Try.pinned (OpenSpec.ofChange fnExactFreeBlacksWrong)

/-- 'laws.FnExactIsProofOf': WHATEVER THE INPUT: true; the input reads as it did. -/
def fnExactIsProofOfSpec : ChangeSpec := { name := "fnExactIsProofOf", fn := fun _ => fun
  | [d1, d2, d3] => { results := [.lit (.bool true)], args := [d1, d2, d3] }
  | _ => none }
def fnExactIsProofOfRow : OpenClaim := { program := "ytgkgdgchkhdgjaa", sum := "76d3c0403c577be0c6f7669a5b77b1806982c8df23f0001d820aede39cb74e96", func := "loop.example/g03300/laws.FnExactIsProofOf", spec := "fnExactIsProofOf", plainKeys := false, apart := false }
def FnExactIsProofOfSaid : Prop := fnExactIsProofOfRow.holds Try.pinned (OpenSpec.ofChange fnExactIsProofOfSpec)

/-- ITS FALSE NEIGHBOUR: 'it returns false'. Refute it at one input. -/
def fnExactIsProofOfWrong : ChangeSpec := { name := "fnExactIsProofOf", fn := fun _ => fun
  | [d1, d2, d3] => { results := [.lit (.bool false)], args := [d1, d2, d3] }
  | _ => none }
def FnExactIsProofOfWrongFalsely : Prop := fnExactIsProofOfRow.holds Try.pinned (OpenSpec.ofChange fnExactIsProofOfWrong)

/-- 'laws.FnMatches': WHATEVER THE INPUT: true; the input reads as it did. -/
def fnMatchesSpec : ChangeSpec := { name := "fnMatches", fn := fun _ => fun
  | [d] => { results := [.lit (.bool true)], args := [d] }
  | _ => none }
def fnMatchesRow : OpenClaim := { program := "ytgkgdgchkhdgjaa", sum := "76d3c0403c577be0c6f7669a5b77b1806982c8df23f0001d820aede39cb74e96", func := "loop.example/g03300/laws.FnMatches", spec := "fnMatches", unfollowed := true, recurses := true, plainKeys := false, apart := false }
def FnMatchesSaid : Prop := fnMatchesRow.holds Try.pinned (OpenSpec.ofChange fnMatchesSpec)

/-- ITS FALSE NEIGHBOUR: 'it returns false'. Refute it at one input. -/
def fnMatchesWrong : ChangeSpec := { name := "fnMatches", fn := fun _ => fun
  | [d] => { results := [.lit (.bool false)], args := [d] }
  | _ => none }
def FnMatchesWrongFalsely : Prop := fnMatchesRow.holds Try.pinned (OpenSpec.ofChange fnMatchesWrong)

/-- 'laws.FnExactMostDominoes': WHATEVER THE INPUT: true; the input reads as it did. -/
def fnExactMostDominoesSpec : ChangeSpec := { name := "fnExactMostDominoes", fn := fun _ => fun
  | [d] => { results := [.lit (.bool true)], args := [d] }
  | _ => none }
def fnExactMostDominoesRow : OpenClaim := { program := "ytgkgdgchkhdgjaa", sum := "76d3c0403c577be0c6f7669a5b77b1806982c8df23f0001d820aede39cb74e96", func := "loop.example/g03300/laws.FnExactMostDominoes", spec := "fnExactMostDominoes", unfollowed := true, recurses := true, plainKeys := false, apart := false }
def FnExactMostDominoesSaid : Prop := fnExactMostDominoesRow.holds Try.pinned (OpenSpec.ofChange fnExactMostDominoesSpec)

/-- ITS FALSE NEIGHBOUR: 'it returns false'. Refute it at one input. -/
def fnExactMostDominoesWrong : ChangeSpec := { name := "fnExactMostDominoes", fn := fun _ => fun
  | [d] => { results := [.lit (.bool false)], args := [d] }
  | _ => none }
def FnExactMostDominoesWrongFalsely : Prop := fnExactMostDominoesRow.holds Try.pinned (OpenSpec.ofChange fnExactMostDominoesWrong)

/-- 'laws.FnExactMatchRegion': WHATEVER THE INPUT: true; the input reads as it did. -/
def fnExactMatchRegionSpec : ChangeSpec := { name := "fnExactMatchRegion", fn := fun _ => fun
  | [d] => { results := [.lit (.bool true)], args := [d] }
  | _ => none }
def fnExactMatchRegionRow : OpenClaim := { program := "ytgkgdgchkhdgjaa", sum := "76d3c0403c577be0c6f7669a5b77b1806982c8df23f0001d820aede39cb74e96", func := "loop.example/g03300/laws.FnExactMatchRegion", spec := "fnExactMatchRegion", unfollowed := true, recurses := true, plainKeys := false, apart := false }
def FnExactMatchRegionSaid : Prop := fnExactMatchRegionRow.holds Try.pinned (OpenSpec.ofChange fnExactMatchRegionSpec)

/-- ITS FALSE NEIGHBOUR: 'it returns false'. Refute it at one input. -/
def fnExactMatchRegionWrong : ChangeSpec := { name := "fnExactMatchRegion", fn := fun _ => fun
  | [d] => { results := [.lit (.bool false)], args := [d] }
  | _ => none }
def FnExactMatchRegionWrongFalsely : Prop := fnExactMatchRegionRow.holds Try.pinned (OpenSpec.ofChange fnExactMatchRegionWrong)

/-- 'laws.FnExactCanExtend': WHATEVER THE INPUT: true; the input reads as it did. -/
def fnExactCanExtendSpec : ChangeSpec := { name := "fnExactCanExtend", fn := fun _ => fun
  | [d1, d2] => { results := [.lit (.bool true)], args := [d1, d2] }
  | _ => none }
def fnExactCanExtendRow : OpenClaim := { program := "ytgkgdgchkhdgjaa", sum := "76d3c0403c577be0c6f7669a5b77b1806982c8df23f0001d820aede39cb74e96", func := "loop.example/g03300/laws.FnExactCanExtend", spec := "fnExactCanExtend", plainKeys := false, apart := false }
def FnExactCanExtendSaid : Prop := fnExactCanExtendRow.holds Try.pinned (OpenSpec.ofChange fnExactCanExtendSpec)

/-- ITS FALSE NEIGHBOUR: 'it returns false'. Refute it at one input. -/
def fnExactCanExtendWrong : ChangeSpec := { name := "fnExactCanExtend", fn := fun _ => fun
  | [d1, d2] => { results := [.lit (.bool false)], args := [d1, d2] }
  | _ => none }
def FnExactCanExtendWrongFalsely : Prop := fnExactCanExtendRow.holds Try.pinned (OpenSpec.ofChange fnExactCanExtendWrong)

/-- 'laws.FnExactIsMostPartial': WHATEVER THE INPUT: true; the input reads as it did. -/
def fnExactIsMostPartialSpec : ChangeSpec := { name := "fnExactIsMostPartial", fn := fun _ => fun
  | [d1, d2] => { results := [.lit (.bool true)], args := [d1, d2] }
  | _ => none }
def fnExactIsMostPartialRow : OpenClaim := { program := "ytgkgdgchkhdgjaa", sum := "76d3c0403c577be0c6f7669a5b77b1806982c8df23f0001d820aede39cb74e96", func := "loop.example/g03300/laws.FnExactIsMostPartial", spec := "fnExactIsMostPartial", unfollowed := true, recurses := true, plainKeys := false, apart := false }
def FnExactIsMostPartialSaid : Prop := fnExactIsMostPartialRow.holds Try.pinned (OpenSpec.ofChange fnExactIsMostPartialSpec)

/-- ITS FALSE NEIGHBOUR: 'it returns false'. Refute it at one input. -/
def fnExactIsMostPartialWrong : ChangeSpec := { name := "fnExactIsMostPartial", fn := fun _ => fun
  | [d1, d2] => { results := [.lit (.bool false)], args := [d1, d2] }
  | _ => none }
def FnExactIsMostPartialWrongFalsely : Prop := fnExactIsMostPartialRow.holds Try.pinned (OpenSpec.ofChange fnExactIsMostPartialWrong)

/- THE SECOND FORM. 'bulk': how many values and letters a reading holds, each counted each time it is reached (what is shared counts as often as it is met; a slice's spare places count too). A statement '..UptoSaid' is the law's where the arguments, and the package variables that the reading takes, are together of bulk at most 1048576: NARROWER than '..Said'. Prove '..Said' where nothing that the law and all that it calls make is longer than what came in: it says more and counts as full. Else prove '..UptoSaid'. A law counts once. -/
mutual
def uptoBulk {H : Type} : DataW H → Nat
  | .lit (.string bytes) => bytes.length + 1
  | .lit _ => 1
  | .nil => 1
  | .ptr d => uptoBulk d + 1
  | .slice elems spare => uptoBulkAll elems + uptoBulkAll spare + 1
  | .agg parts => uptoBulkAll parts + 1
  | .iface _ d => uptoBulk d + 1
  | .map entries => uptoBulkEntries entries + 1
  | .held _ => 1
def uptoBulkAll {H : Type} : List (DataW H) → Nat
  | [] => 0
  | d :: r => uptoBulk d + uptoBulkAll r
def uptoBulkEntries {H : Type} : List (Lit × DataW H) → Nat
  | [] => 0
  | x :: r => uptoBulkEntry x + uptoBulkEntries r
def uptoBulkEntry {H : Type} : Lit × DataW H → Nat
  | (.string bytes, d) => bytes.length + uptoBulk d + 1
  | (_, d) => uptoBulk d + 1
 end
def uptoSmall : (H : Type) → List (DataW H) → Bool := fun _ ds => decide (uptoBulkAll ds ≤ 1048576)
def OpenSpec.upto (s : _root_.Go.ChangeSpec) : _root_.Go.OpenSpec := { _root_.Go.OpenSpec.ofChange s with cond := some uptoSmall }

/-- 'laws.FnExactDeficit', WHERE WHAT IT READS IS OF BULK AT MOST 1048576: true; the input reads as it did. -/
def fnExactDeficitUptoRow : OpenClaim := { program := "ytgkgdgchkhdgjaa", sum := "76d3c0403c577be0c6f7669a5b77b1806982c8df23f0001d820aede39cb74e96", func := "loop.example/g03300/laws.FnExactDeficit", spec := "fnExactDeficit", plainKeys := false, apart := false, narrowed := true }
def FnExactDeficitUptoSaid : Prop := fnExactDeficitUptoRow.holds Try.pinned (OpenSpec.upto fnExactDeficitSpec)

/-- 'laws.FnExactFreeBlacks', WHERE WHAT IT READS IS OF BULK AT MOST 1048576: true; the input reads as it did. -/
def fnExactFreeBlacksUptoRow : OpenClaim := { program := "ytgkgdgchkhdgjaa", sum := "76d3c0403c577be0c6f7669a5b77b1806982c8df23f0001d820aede39cb74e96", func := "loop.example/g03300/laws.FnExactFreeBlacks", spec := "fnExactFreeBlacks", unfollowed := true, recurses := true, plainKeys := false, apart := false, narrowed := true }
def FnExactFreeBlacksUptoSaid : Prop := fnExactFreeBlacksUptoRow.holds Try.pinned (OpenSpec.upto fnExactFreeBlacksSpec)

/-- 'laws.FnExactIsProofOf', WHERE WHAT IT READS IS OF BULK AT MOST 1048576: true; the input reads as it did. -/
def fnExactIsProofOfUptoRow : OpenClaim := { program := "ytgkgdgchkhdgjaa", sum := "76d3c0403c577be0c6f7669a5b77b1806982c8df23f0001d820aede39cb74e96", func := "loop.example/g03300/laws.FnExactIsProofOf", spec := "fnExactIsProofOf", plainKeys := false, apart := false, narrowed := true }
def FnExactIsProofOfUptoSaid : Prop := fnExactIsProofOfUptoRow.holds Try.pinned (OpenSpec.upto fnExactIsProofOfSpec)

/-- 'laws.FnMatches', WHERE WHAT IT READS IS OF BULK AT MOST 1048576: true; the input reads as it did. -/
def fnMatchesUptoRow : OpenClaim := { program := "ytgkgdgchkhdgjaa", sum := "76d3c0403c577be0c6f7669a5b77b1806982c8df23f0001d820aede39cb74e96", func := "loop.example/g03300/laws.FnMatches", spec := "fnMatches", unfollowed := true, recurses := true, plainKeys := false, apart := false, narrowed := true }
def FnMatchesUptoSaid : Prop := fnMatchesUptoRow.holds Try.pinned (OpenSpec.upto fnMatchesSpec)

/-- 'laws.FnExactMostDominoes', WHERE WHAT IT READS IS OF BULK AT MOST 1048576: true; the input reads as it did. -/
def fnExactMostDominoesUptoRow : OpenClaim := { program := "ytgkgdgchkhdgjaa", sum := "76d3c0403c577be0c6f7669a5b77b1806982c8df23f0001d820aede39cb74e96", func := "loop.example/g03300/laws.FnExactMostDominoes", spec := "fnExactMostDominoes", unfollowed := true, recurses := true, plainKeys := false, apart := false, narrowed := true }
def FnExactMostDominoesUptoSaid : Prop := fnExactMostDominoesUptoRow.holds Try.pinned (OpenSpec.upto fnExactMostDominoesSpec)

/-- 'laws.FnExactMatchRegion', WHERE WHAT IT READS IS OF BULK AT MOST 1048576: true; the input reads as it did. -/
def fnExactMatchRegionUptoRow : OpenClaim := { program := "ytgkgdgchkhdgjaa", sum := "76d3c0403c577be0c6f7669a5b77b1806982c8df23f0001d820aede39cb74e96", func := "loop.example/g03300/laws.FnExactMatchRegion", spec := "fnExactMatchRegion", unfollowed := true, recurses := true, plainKeys := false, apart := false, narrowed := true }
def FnExactMatchRegionUptoSaid : Prop := fnExactMatchRegionUptoRow.holds Try.pinned (OpenSpec.upto fnExactMatchRegionSpec)

/-- 'laws.FnExactCanExtend', WHERE WHAT IT READS IS OF BULK AT MOST 1048576: true; the input reads as it did. -/
def fnExactCanExtendUptoRow : OpenClaim := { program := "ytgkgdgchkhdgjaa", sum := "76d3c0403c577be0c6f7669a5b77b1806982c8df23f0001d820aede39cb74e96", func := "loop.example/g03300/laws.FnExactCanExtend", spec := "fnExactCanExtend", plainKeys := false, apart := false, narrowed := true }
def FnExactCanExtendUptoSaid : Prop := fnExactCanExtendUptoRow.holds Try.pinned (OpenSpec.upto fnExactCanExtendSpec)

/-- 'laws.FnExactIsMostPartial', WHERE WHAT IT READS IS OF BULK AT MOST 1048576: true; the input reads as it did. -/
def fnExactIsMostPartialUptoRow : OpenClaim := { program := "ytgkgdgchkhdgjaa", sum := "76d3c0403c577be0c6f7669a5b77b1806982c8df23f0001d820aede39cb74e96", func := "loop.example/g03300/laws.FnExactIsMostPartial", spec := "fnExactIsMostPartial", unfollowed := true, recurses := true, plainKeys := false, apart := false, narrowed := true }
def FnExactIsMostPartialUptoSaid : Prop := fnExactIsMostPartialUptoRow.holds Try.pinned (OpenSpec.upto fnExactIsMostPartialSpec)

end Rows
end Go.Proofs.Ytgkgdgchkhdgjaa
