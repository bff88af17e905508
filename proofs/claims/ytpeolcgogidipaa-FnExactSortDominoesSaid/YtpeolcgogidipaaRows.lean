/-
  No cell of these rows narrows 'for every input' (looked for: loops, veiled, ifaces, maps, wideKeys, modest, calm, conditions, laid).
  DERIVED. THE GIVEN ROWS OF THIS SEAT. 5 by the template 'for every input the law returns true; each argument reads behind the call as it read before'; 0 by the template 'total and deterministic' (their statements: YtpeolcgogidipaaTotals.lean).
  GIVEN WITH THE SEED: the statements are not yours to turn. If you find one false, say at which input.
  Laid BY PROGRAM, IN A SANDBOX (cutbox-rows.mjs): the forced cells as the released guide's own fill.sh prints them over the translation 1f782a8915002efb… (all of the seat's roots in one cut). By AI agents, Wed Nov 11 2026. No macro, syntax, notation, axiom, sorry.
-/
import Derived.Test.YtpeolcgogidipaaChecked
import GoSem.Claim
import GoSem.ClaimJoined
import GoSem.ClaimMapViews
import Derived.JoinedTies
import Derived.KernelRfl
namespace Go.Proofs.Ytpeolcgogidipaa
/- THE CELL 'sum', in the pinned program and in every row, IS THE sha256 OF THE DUMP (.gsa) THAT YtpeolcgogidipaaProg.lean LOADS. Nothing in Lean hashes anything: it is a label: what it is worth is what the hold of that sum in a sandbox is worth. -/
noncomputable def Try.pinned : Pinned := { name := "ytpeolcgogidipaa", sum := "1f782a8915002efb70d2b3d9811f4a10fe13c60aad09ca1727c1e47e02c3c26e", checked := Try.checked }
namespace Rows
def none {H : Type} : Left H := { results := [], args := [] }

/-- 'laws.FnExactIsPartial': WHATEVER THE INPUT: true; the input reads as it did. -/
def fnExactIsPartialSpec : ChangeSpec := { name := "fnExactIsPartial", fn := fun _ => fun
  | [d1, d2] => { results := [.lit (.bool true)], args := [d1, d2] }
  | _ => none }
def fnExactIsPartialRow : OpenClaim := { program := "ytpeolcgogidipaa", sum := "1f782a8915002efb70d2b3d9811f4a10fe13c60aad09ca1727c1e47e02c3c26e", func := "loop.example/g03300/laws.FnExactIsPartial", spec := "fnExactIsPartial", apart := false }
def FnExactIsPartialSaid : Prop := fnExactIsPartialRow.holds Try.pinned (OpenSpec.ofChange fnExactIsPartialSpec)

/-- ITS FALSE NEIGHBOUR: 'it returns false'. Refute it at one input. -/
def fnExactIsPartialWrong : ChangeSpec := { name := "fnExactIsPartial", fn := fun _ => fun
  | [d1, d2] => { results := [.lit (.bool false)], args := [d1, d2] }
  | _ => none }
def FnExactIsPartialWrongFalsely : Prop := fnExactIsPartialRow.holds Try.pinned (OpenSpec.ofChange fnExactIsPartialWrong)

/-- 'laws.FnExactIsTiling': WHATEVER THE INPUT: true; the input reads as it did. -/
def fnExactIsTilingSpec : ChangeSpec := { name := "fnExactIsTiling", fn := fun _ => fun
  | [d1, d2] => { results := [.lit (.bool true)], args := [d1, d2] }
  | _ => none }
def fnExactIsTilingRow : OpenClaim := { program := "ytpeolcgogidipaa", sum := "1f782a8915002efb70d2b3d9811f4a10fe13c60aad09ca1727c1e47e02c3c26e", func := "loop.example/g03300/laws.FnExactIsTiling", spec := "fnExactIsTiling", apart := false }
def FnExactIsTilingSaid : Prop := fnExactIsTilingRow.holds Try.pinned (OpenSpec.ofChange fnExactIsTilingSpec)

/-- ITS FALSE NEIGHBOUR: 'it returns false'. Refute it at one input. -/
def fnExactIsTilingWrong : ChangeSpec := { name := "fnExactIsTiling", fn := fun _ => fun
  | [d1, d2] => { results := [.lit (.bool false)], args := [d1, d2] }
  | _ => none }
def FnExactIsTilingWrongFalsely : Prop := fnExactIsTilingRow.holds Try.pinned (OpenSpec.ofChange fnExactIsTilingWrong)

/-- 'laws.FnExactDominoAt': WHATEVER THE INPUT: true; the input reads as it did. -/
def fnExactDominoAtSpec : ChangeSpec := { name := "fnExactDominoAt", fn := fun _ => fun
  | [d1, d2] => { results := [.lit (.bool true)], args := [d1, d2] }
  | _ => none }
def fnExactDominoAtRow : OpenClaim := { program := "ytpeolcgogidipaa", sum := "1f782a8915002efb70d2b3d9811f4a10fe13c60aad09ca1727c1e47e02c3c26e", func := "loop.example/g03300/laws.FnExactDominoAt", spec := "fnExactDominoAt", apart := false }
def FnExactDominoAtSaid : Prop := fnExactDominoAtRow.holds Try.pinned (OpenSpec.ofChange fnExactDominoAtSpec)

/-- ITS FALSE NEIGHBOUR: 'it returns false'. Refute it at one input. -/
def fnExactDominoAtWrong : ChangeSpec := { name := "fnExactDominoAt", fn := fun _ => fun
  | [d1, d2] => { results := [.lit (.bool false)], args := [d1, d2] }
  | _ => none }
def FnExactDominoAtWrongFalsely : Prop := fnExactDominoAtRow.holds Try.pinned (OpenSpec.ofChange fnExactDominoAtWrong)

/-- 'laws.FnExactSortDominoes': WHATEVER THE INPUT: true; the input reads as it did. -/
def fnExactSortDominoesSpec : ChangeSpec := { name := "fnExactSortDominoes", fn := fun _ => fun
  | [d] => { results := [.lit (.bool true)], args := [d] }
  | _ => none }
def fnExactSortDominoesRow : OpenClaim := { program := "ytpeolcgogidipaa", sum := "1f782a8915002efb70d2b3d9811f4a10fe13c60aad09ca1727c1e47e02c3c26e", func := "loop.example/g03300/laws.FnExactSortDominoes", spec := "fnExactSortDominoes", unfollowed := true, recurses := true, apart := false }
def FnExactSortDominoesSaid : Prop := fnExactSortDominoesRow.holds Try.pinned (OpenSpec.ofChange fnExactSortDominoesSpec)

/-- ITS FALSE NEIGHBOUR: 'it returns false'. Refute it at one input. -/
def fnExactSortDominoesWrong : ChangeSpec := { name := "fnExactSortDominoes", fn := fun _ => fun
  | [d] => { results := [.lit (.bool false)], args := [d] }
  | _ => none }
def FnExactSortDominoesWrongFalsely : Prop := fnExactSortDominoesRow.holds Try.pinned (OpenSpec.ofChange fnExactSortDominoesWrong)

/-- 'laws.FnExactUncoveredOf': WHATEVER THE INPUT: true; the input reads as it did. -/
def fnExactUncoveredOfSpec : ChangeSpec := { name := "fnExactUncoveredOf", fn := fun _ => fun
  | [d1, d2] => { results := [.lit (.bool true)], args := [d1, d2] }
  | _ => none }
def fnExactUncoveredOfRow : OpenClaim := { program := "ytpeolcgogidipaa", sum := "1f782a8915002efb70d2b3d9811f4a10fe13c60aad09ca1727c1e47e02c3c26e", func := "loop.example/g03300/laws.FnExactUncoveredOf", spec := "fnExactUncoveredOf", apart := false }
def FnExactUncoveredOfSaid : Prop := fnExactUncoveredOfRow.holds Try.pinned (OpenSpec.ofChange fnExactUncoveredOfSpec)

/-- ITS FALSE NEIGHBOUR: 'it returns false'. Refute it at one input. -/
def fnExactUncoveredOfWrong : ChangeSpec := { name := "fnExactUncoveredOf", fn := fun _ => fun
  | [d1, d2] => { results := [.lit (.bool false)], args := [d1, d2] }
  | _ => none }
def FnExactUncoveredOfWrongFalsely : Prop := fnExactUncoveredOfRow.holds Try.pinned (OpenSpec.ofChange fnExactUncoveredOfWrong)

/- THE SECOND FORM. 'bulk': how many values and letters a reading holds, each counted each time it is reached (what is shared counts as often as it is met; a slice's spare places count too). A statement '..UptoSaid' is the law's where the arguments, and the package variables that the reading takes, are together of bulk at most 1048576: NARROWER than '..Said'. Prove '..Said' where nothing that the law and all that it calls make is longer than what came in: it says more and counts as full. Else prove '..UptoSaid'. A law counts once. -/
mutual
def uptoBulk {H : Type} : DataW H → Nat
  | .lit (.string bytes) => bytes.length + 1
  | .lit _ => 1
  | .nil => 1
  | .ptr d => uptoBulk d + 1
  | .slice elems spare => uptoBulkAll elems + uptoBulkAll spare + 1
  | .agg parts => uptoBulkAll parts + 1
  | .iface _ d => uptoBulk d + 1
  | .map entries => uptoBulkEntries entries + 1
  | .held _ => 1
def uptoBulkAll {H : Type} : List (DataW H) → Nat
  | [] => 0
  | d :: r => uptoBulk d + uptoBulkAll r
def uptoBulkEntries {H : Type} : List (Lit × DataW H) → Nat
  | [] => 0
  | x :: r => uptoBulkEntry x + uptoBulkEntries r
def uptoBulkEntry {H : Type} : Lit × DataW H → Nat
  | (.string bytes, d) => bytes.length + uptoBulk d + 1
  | (_, d) => uptoBulk d + 1
 end
def uptoSmall : (H : Type) → List (DataW H) → Bool := fun _ ds => decide (uptoBulkAll ds ≤ 1048576)
def OpenSpec.upto (s : _root_.Go.ChangeSpec) : _root_.Go.OpenSpec := { _root_.Go.OpenSpec.ofChange s with cond := some uptoSmall }

/-- 'laws.FnExactIsPartial', WHERE WHAT IT READS IS OF BULK AT MOST 1048576: true; the input reads as it did. -/
def fnExactIsPartialUptoRow : OpenClaim := { program := "ytpeolcgogidipaa", sum := "1f782a8915002efb70d2b3d9811f4a10fe13c60aad09ca1727c1e47e02c3c26e", func := "loop.example/g03300/laws.FnExactIsPartial", spec := "fnExactIsPartial", apart := false, narrowed := true }
def FnExactIsPartialUptoSaid : Prop := fnExactIsPartialUptoRow.holds Try.pinned (OpenSpec.upto fnExactIsPartialSpec)

/-- 'laws.FnExactIsTiling', WHERE WHAT IT READS IS OF BULK AT MOST 1048576: true; the input reads as it did. -/
def fnExactIsTilingUptoRow : OpenClaim := { program := "ytpeolcgogidipaa", sum := "1f782a8915002efb70d2b3d9811f4a10fe13c60aad09ca1727c1e47e02c3c26e", func := "loop.example/g03300/laws.FnExactIsTiling", spec := "fnExactIsTiling", apart := false, narrowed := true }
def FnExactIsTilingUptoSaid : Prop := fnExactIsTilingUptoRow.holds Try.pinned (OpenSpec.upto fnExactIsTilingSpec)

/-- 'laws.FnExactDominoAt', WHERE WHAT IT READS IS OF BULK AT MOST 1048576: true; the input reads as it did. -/
def fnExactDominoAtUptoRow : OpenClaim := { program := "ytpeolcgogidipaa", sum := "1f782a8915002efb70d2b3d9811f4a10fe13c60aad09ca1727c1e47e02c3c26e", func := "loop.example/g03300/laws.FnExactDominoAt", spec := "fnExactDominoAt", apart := false, narrowed := true }
def FnExactDominoAtUptoSaid : Prop := fnExactDominoAtUptoRow.holds Try.pinned (OpenSpec.upto fnExactDominoAtSpec)

/-- 'laws.FnExactSortDominoes', WHERE WHAT IT READS IS OF BULK AT MOST 1048576: true; the input reads as it did. -/
def fnExactSortDominoesUptoRow : OpenClaim := { program := "ytpeolcgogidipaa", sum := "1f782a8915002efb70d2b3d9811f4a10fe13c60aad09ca1727c1e47e02c3c26e", func := "loop.example/g03300/laws.FnExactSortDominoes", spec := "fnExactSortDominoes", unfollowed := true, recurses := true, apart := false, narrowed := true }
def FnExactSortDominoesUptoSaid : Prop := fnExactSortDominoesUptoRow.holds Try.pinned (OpenSpec.upto fnExactSortDominoesSpec)

/-- 'laws.FnExactUncoveredOf', WHERE WHAT IT READS IS OF BULK AT MOST 1048576: true; the input reads as it did. -/
def fnExactUncoveredOfUptoRow : OpenClaim := { program := "ytpeolcgogidipaa", sum := "1f782a8915002efb70d2b3d9811f4a10fe13c60aad09ca1727c1e47e02c3c26e", func := "loop.example/g03300/laws.FnExactUncoveredOf", spec := "fnExactUncoveredOf", apart := false, narrowed := true }
def FnExactUncoveredOfUptoSaid : Prop := fnExactUncoveredOfUptoRow.holds Try.pinned (OpenSpec.upto fnExactUncoveredOfSpec)

end Rows
end Go.Proofs.Ytpeolcgogidipaa
