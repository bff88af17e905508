/-
  No cell of these rows narrows 'for every input' (looked for: loops, veiled, ifaces, maps, wideKeys, modest, calm, conditions, laid).
  DERIVED. THE GIVEN ROWS OF THIS SEAT. 5 by the template 'for every input the law returns true; each argument reads behind the call as it read before'; 0 by the template 'total and deterministic' (their statements: YtgoljloklhencaaTotals.lean).
  GIVEN WITH THE SEED: the statements are not yours to turn. If you find one false, say at which input.
  Laid BY PROGRAM, IN A SANDBOX (cutbox-rows.mjs): the forced cells as the released guide's own fill.sh prints them over the translation bd813fe42d3cf3cc… (all of the seat's roots in one cut). By AI agents, Wed Nov 11 2026. No macro, syntax, notation, axiom, sorry.
-/
import Derived.Test.YtgoljloklhencaaChecked
import GoSem.Claim
import GoSem.ClaimJoined
import GoSem.ClaimMapViews
import Derived.JoinedTies
import Derived.KernelRfl
namespace Go.Proofs.Ytgoljloklhencaa
/- THE CELL 'sum', in the pinned program and in every row, IS THE sha256 OF THE DUMP (.gsa) THAT YtgoljloklhencaaProg.lean LOADS. Nothing in Lean hashes anything: it is a label: what it is worth is what the hold of that sum in a sandbox is worth. -/
noncomputable def Try.pinned : Pinned := { name := "ytgoljloklhencaa", sum := "bd813fe42d3cf3cc507c966d21463590294004437e3619e2842f8286b091a274", checked := Try.checked }
namespace Rows
def none {H : Type} : Left H := { results := [], args := [] }

/-- 'laws.FnExactDominoOk': WHATEVER THE INPUT: true; the input reads as it did. -/
def fnExactDominoOkSpec : ChangeSpec := { name := "fnExactDominoOk", fn := fun _ => fun
  | [d] => { results := [.lit (.bool true)], args := [d] }
  | _ => none }
def fnExactDominoOkRow : OpenClaim := { program := "ytgoljloklhencaa", sum := "bd813fe42d3cf3cc507c966d21463590294004437e3619e2842f8286b091a274", func := "loop.example/g03300/laws.FnExactDominoOk", spec := "fnExactDominoOk", apart := false }
def FnExactDominoOkSaid : Prop := fnExactDominoOkRow.holds Try.pinned (OpenSpec.ofChange fnExactDominoOkSpec)

/-- ITS FALSE NEIGHBOUR: 'it returns false'. Refute it at one input. -/
def fnExactDominoOkWrong : ChangeSpec := { name := "fnExactDominoOk", fn := fun _ => fun
  | [d] => { results := [.lit (.bool false)], args := [d] }
  | _ => none }
def FnExactDominoOkWrongFalsely : Prop := fnExactDominoOkRow.holds Try.pinned (OpenSpec.ofChange fnExactDominoOkWrong)

/-- 'laws.FnExactCellsUnder': WHATEVER THE INPUT: true; the input reads as it did. -/
def fnExactCellsUnderSpec : ChangeSpec := { name := "fnExactCellsUnder", fn := fun _ => fun
  | [d] => { results := [.lit (.bool true)], args := [d] }
  | _ => none }
def fnExactCellsUnderRow : OpenClaim := { program := "ytgoljloklhencaa", sum := "bd813fe42d3cf3cc507c966d21463590294004437e3619e2842f8286b091a274", func := "loop.example/g03300/laws.FnExactCellsUnder", spec := "fnExactCellsUnder", apart := false }
def FnExactCellsUnderSaid : Prop := fnExactCellsUnderRow.holds Try.pinned (OpenSpec.ofChange fnExactCellsUnderSpec)

/-- ITS FALSE NEIGHBOUR: 'it returns false'. Refute it at one input. -/
def fnExactCellsUnderWrong : ChangeSpec := { name := "fnExactCellsUnder", fn := fun _ => fun
  | [d] => { results := [.lit (.bool false)], args := [d] }
  | _ => none }
def FnExactCellsUnderWrongFalsely : Prop := fnExactCellsUnderRow.holds Try.pinned (OpenSpec.ofChange fnExactCellsUnderWrong)

/-- 'laws.FnExactDominoOver': WHATEVER THE INPUT: true; the input reads as it did. -/
def fnExactDominoOverSpec : ChangeSpec := { name := "fnExactDominoOver", fn := fun _ => fun
  | [d1, d2] => { results := [.lit (.bool true)], args := [d1, d2] }
  | _ => none }
def fnExactDominoOverRow : OpenClaim := { program := "ytgoljloklhencaa", sum := "bd813fe42d3cf3cc507c966d21463590294004437e3619e2842f8286b091a274", func := "loop.example/g03300/laws.FnExactDominoOver", spec := "fnExactDominoOver", apart := false }
def FnExactDominoOverSaid : Prop := fnExactDominoOverRow.holds Try.pinned (OpenSpec.ofChange fnExactDominoOverSpec)

/-- ITS FALSE NEIGHBOUR: 'it returns false'. Refute it at one input. -/
def fnExactDominoOverWrong : ChangeSpec := { name := "fnExactDominoOver", fn := fun _ => fun
  | [d1, d2] => { results := [.lit (.bool false)], args := [d1, d2] }
  | _ => none }
def FnExactDominoOverWrongFalsely : Prop := fnExactDominoOverRow.holds Try.pinned (OpenSpec.ofChange fnExactDominoOverWrong)

/-- 'laws.FnExactDoOverlap': WHATEVER THE INPUT: true; the input reads as it did. -/
def fnExactDoOverlapSpec : ChangeSpec := { name := "fnExactDoOverlap", fn := fun _ => fun
  | [d1, d2] => { results := [.lit (.bool true)], args := [d1, d2] }
  | _ => none }
def fnExactDoOverlapRow : OpenClaim := { program := "ytgoljloklhencaa", sum := "bd813fe42d3cf3cc507c966d21463590294004437e3619e2842f8286b091a274", func := "loop.example/g03300/laws.FnExactDoOverlap", spec := "fnExactDoOverlap", apart := false }
def FnExactDoOverlapSaid : Prop := fnExactDoOverlapRow.holds Try.pinned (OpenSpec.ofChange fnExactDoOverlapSpec)

/-- ITS FALSE NEIGHBOUR: 'it returns false'. Refute it at one input. -/
def fnExactDoOverlapWrong : ChangeSpec := { name := "fnExactDoOverlap", fn := fun _ => fun
  | [d1, d2] => { results := [.lit (.bool false)], args := [d1, d2] }
  | _ => none }
def FnExactDoOverlapWrongFalsely : Prop := fnExactDoOverlapRow.holds Try.pinned (OpenSpec.ofChange fnExactDoOverlapWrong)

/-- 'laws.FnExactIsDominoBefore': WHATEVER THE INPUT: true; the input reads as it did. -/
def fnExactIsDominoBeforeSpec : ChangeSpec := { name := "fnExactIsDominoBefore", fn := fun _ => fun
  | [d1, d2] => { results := [.lit (.bool true)], args := [d1, d2] }
  | _ => none }
def fnExactIsDominoBeforeRow : OpenClaim := { program := "ytgoljloklhencaa", sum := "bd813fe42d3cf3cc507c966d21463590294004437e3619e2842f8286b091a274", func := "loop.example/g03300/laws.FnExactIsDominoBefore", spec := "fnExactIsDominoBefore", apart := false }
def FnExactIsDominoBeforeSaid : Prop := fnExactIsDominoBeforeRow.holds Try.pinned (OpenSpec.ofChange fnExactIsDominoBeforeSpec)

/-- ITS FALSE NEIGHBOUR: 'it returns false'. Refute it at one input. -/
def fnExactIsDominoBeforeWrong : ChangeSpec := { name := "fnExactIsDominoBefore", fn := fun _ => fun
  | [d1, d2] => { results := [.lit (.bool false)], args := [d1, d2] }
  | _ => none }
def FnExactIsDominoBeforeWrongFalsely : Prop := fnExactIsDominoBeforeRow.holds Try.pinned (OpenSpec.ofChange fnExactIsDominoBeforeWrong)

/- THE SECOND FORM. 'bulk': how many values and letters a reading holds, each counted each time it is reached (what is shared counts as often as it is met; a slice's spare places count too). A statement '..UptoSaid' is the law's where the arguments, and the package variables that the reading takes, are together of bulk at most 1048576: NARROWER than '..Said'. Prove '..Said' where nothing that the law and all that it calls make is longer than what came in: it says more and counts as full. Else prove '..UptoSaid'. A law counts once. -/
mutual
def uptoBulk {H : Type} : DataW H → Nat
  | .lit (.string bytes) => bytes.length + 1
  | .lit _ => 1
  | .nil => 1
  | .ptr d => uptoBulk d + 1
  | .slice elems spare => uptoBulkAll elems + uptoBulkAll spare + 1
  | .agg parts => uptoBulkAll parts + 1
  | .iface _ d => uptoBulk d + 1
  | .map entries => uptoBulkEntries entries + 1
  | .held _ => 1
def uptoBulkAll {H : Type} : List (DataW H) → Nat
  | [] => 0
  | d :: r => uptoBulk d + uptoBulkAll r
def uptoBulkEntries {H : Type} : List (Lit × DataW H) → Nat
  | [] => 0
  | x :: r => uptoBulkEntry x + uptoBulkEntries r
def uptoBulkEntry {H : Type} : Lit × DataW H → Nat
  | (.string bytes, d) => bytes.length + uptoBulk d + 1
  | (_, d) => uptoBulk d + 1
 end
def uptoSmall : (H : Type) → List (DataW H) → Bool := fun _ ds => decide (uptoBulkAll ds ≤ 1048576)
def OpenSpec.upto (s : _root_.Go.ChangeSpec) : _root_.Go.OpenSpec := { _root_.Go.OpenSpec.ofChange s with cond := some uptoSmall }

/-- 'laws.FnExactDominoOk', WHERE WHAT IT READS IS OF BULK AT MOST 1048576: true; the input reads as it did. -/
def fnExactDominoOkUptoRow : OpenClaim := { program := "ytgoljloklhencaa", sum := "bd813fe42d3cf3cc507c966d21463590294004437e3619e2842f8286b091a274", func := "loop.example/g03300/laws.FnExactDominoOk", spec := "fnExactDominoOk", apart := false, narrowed := true }
def FnExactDominoOkUptoSaid : Prop := fnExactDominoOkUptoRow.holds Try.pinned (OpenSpec.upto fnExactDominoOkSpec)

/-- 'laws.FnExactCellsUnder', WHERE WHAT IT READS IS OF BULK AT MOST 1048576: true; the input reads as it did. -/
def fnExactCellsUnderUptoRow : OpenClaim := { program := "ytgoljloklhencaa", sum := "bd813fe42d3cf3cc507c966d21463590294004437e3619e2842f8286b091a274", func := "loop.example/g03300/laws.FnExactCellsUnder", spec := "fnExactCellsUnder", apart := false, narrowed := true }
def FnExactCellsUnderUptoSaid : Prop := fnExactCellsUnderUptoRow.holds Try.pinned (OpenSpec.upto fnExactCellsUnderSpec)

/-- 'laws.FnExactDominoOver', WHERE WHAT IT READS IS OF BULK AT MOST 1048576: true; the input reads as it did. -/
def fnExactDominoOverUptoRow : OpenClaim := { program := "ytgoljloklhencaa", sum := "bd813fe42d3cf3cc507c966d21463590294004437e3619e2842f8286b091a274", func := "loop.example/g03300/laws.FnExactDominoOver", spec := "fnExactDominoOver", apart := false, narrowed := true }
def FnExactDominoOverUptoSaid : Prop := fnExactDominoOverUptoRow.holds Try.pinned (OpenSpec.upto fnExactDominoOverSpec)

/-- 'laws.FnExactDoOverlap', WHERE WHAT IT READS IS OF BULK AT MOST 1048576: true; the input reads as it did. -/
def fnExactDoOverlapUptoRow : OpenClaim := { program := "ytgoljloklhencaa", sum := "bd813fe42d3cf3cc507c966d21463590294004437e3619e2842f8286b091a274", func := "loop.example/g03300/laws.FnExactDoOverlap", spec := "fnExactDoOverlap", apart := false, narrowed := true }
def FnExactDoOverlapUptoSaid : Prop := fnExactDoOverlapUptoRow.holds Try.pinned (OpenSpec.upto fnExactDoOverlapSpec)

/-- 'laws.FnExactIsDominoBefore', WHERE WHAT IT READS IS OF BULK AT MOST 1048576: true; the input reads as it did. -/
def fnExactIsDominoBeforeUptoRow : OpenClaim := { program := "ytgoljloklhencaa", sum := "bd813fe42d3cf3cc507c966d21463590294004437e3619e2842f8286b091a274", func := "loop.example/g03300/laws.FnExactIsDominoBefore", spec := "fnExactIsDominoBefore", apart := false, narrowed := true }
def FnExactIsDominoBeforeUptoSaid : Prop := fnExactIsDominoBeforeUptoRow.holds Try.pinned (OpenSpec.upto fnExactIsDominoBeforeSpec)

end Rows
end Go.Proofs.Ytgoljloklhencaa
