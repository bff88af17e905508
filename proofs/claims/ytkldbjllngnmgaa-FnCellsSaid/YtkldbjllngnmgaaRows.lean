/-
  No cell of these rows narrows 'for every input' (looked for: loops, veiled, ifaces, maps, wideKeys, modest, calm, conditions, laid).
  DERIVED. THE GIVEN ROWS OF THIS SEAT. 7 by the template 'for every input the law returns true; each argument reads behind the call as it read before'; 0 by the template 'total and deterministic' (their statements: YtkldbjllngnmgaaTotals.lean).
  GIVEN WITH THE SEED: the statements are not yours to turn. If you find one false, say at which input.
  Laid BY PROGRAM, IN A SANDBOX (cutbox-rows.mjs): the forced cells as the released guide's own fill.sh prints them over the translation 5dddb9e3adaa520e… (all of the seat's roots in one cut). By AI agents, Wed Nov 11 2026. No macro, syntax, notation, axiom, sorry.
-/
import Derived.Test.YtkldbjllngnmgaaChecked
import GoSem.Claim
import GoSem.ClaimJoined
import GoSem.ClaimMapViews
import Derived.JoinedTies
import Derived.KernelRfl
namespace Go.Proofs.Ytkldbjllngnmgaa
/- THE CELL 'sum', in the pinned program and in every row, IS THE sha256 OF THE DUMP (.gsa) THAT YtkldbjllngnmgaaProg.lean LOADS. Nothing in Lean hashes anything: it is a label: what it is worth is what the hold of that sum in a sandbox is worth. -/
noncomputable def Try.pinned : Pinned := { name := "ytkldbjllngnmgaa", sum := "5dddb9e3adaa520e51c207ab34167adfccec3405b80f9e224751008550e697de", checked := Try.checked }
namespace Rows
def none {H : Type} : Left H := { results := [], args := [] }

/-- 'laws.FnCells': WHATEVER THE INPUT: true; the input reads as it did. -/
def fnCellsSpec : ChangeSpec := { name := "fnCells", fn := fun _ => fun
  | [d] => { results := [.lit (.bool true)], args := [d] }
  | _ => none }
def fnCellsRow : OpenClaim := { program := "ytkldbjllngnmgaa", sum := "5dddb9e3adaa520e51c207ab34167adfccec3405b80f9e224751008550e697de", func := "loop.example/g03300/laws.FnCells", spec := "fnCells", apart := false }
def FnCellsSaid : Prop := fnCellsRow.holds Try.pinned (OpenSpec.ofChange fnCellsSpec)

/-- ITS FALSE NEIGHBOUR: 'it returns false'. Refute it at one input. -/
def fnCellsWrong : ChangeSpec := { name := "fnCells", fn := fun _ => fun
  | [d] => { results := [.lit (.bool false)], args := [d] }
  | _ => none }
def FnCellsWrongFalsely : Prop := fnCellsRow.holds Try.pinned (OpenSpec.ofChange fnCellsWrong)

/-- 'laws.FnExactCellOk': WHATEVER THE INPUT: true; the input reads as it did. -/
def fnExactCellOkSpec : ChangeSpec := { name := "fnExactCellOk", fn := fun _ => fun
  | [d] => { results := [.lit (.bool true)], args := [d] }
  | _ => none }
def fnExactCellOkRow : OpenClaim := { program := "ytkldbjllngnmgaa", sum := "5dddb9e3adaa520e51c207ab34167adfccec3405b80f9e224751008550e697de", func := "loop.example/g03300/laws.FnExactCellOk", spec := "fnExactCellOk", apart := false }
def FnExactCellOkSaid : Prop := fnExactCellOkRow.holds Try.pinned (OpenSpec.ofChange fnExactCellOkSpec)

/-- ITS FALSE NEIGHBOUR: 'it returns false'. Refute it at one input. -/
def fnExactCellOkWrong : ChangeSpec := { name := "fnExactCellOk", fn := fun _ => fun
  | [d] => { results := [.lit (.bool false)], args := [d] }
  | _ => none }
def FnExactCellOkWrongFalsely : Prop := fnExactCellOkRow.holds Try.pinned (OpenSpec.ofChange fnExactCellOkWrong)

/-- 'laws.FnExactIsBlack': WHATEVER THE INPUT: true; the input reads as it did. -/
def fnExactIsBlackSpec : ChangeSpec := { name := "fnExactIsBlack", fn := fun _ => fun
  | [d] => { results := [.lit (.bool true)], args := [d] }
  | _ => none }
def fnExactIsBlackRow : OpenClaim := { program := "ytkldbjllngnmgaa", sum := "5dddb9e3adaa520e51c207ab34167adfccec3405b80f9e224751008550e697de", func := "loop.example/g03300/laws.FnExactIsBlack", spec := "fnExactIsBlack", apart := false }
def FnExactIsBlackSaid : Prop := fnExactIsBlackRow.holds Try.pinned (OpenSpec.ofChange fnExactIsBlackSpec)

/-- ITS FALSE NEIGHBOUR: 'it returns false'. Refute it at one input. -/
def fnExactIsBlackWrong : ChangeSpec := { name := "fnExactIsBlack", fn := fun _ => fun
  | [d] => { results := [.lit (.bool false)], args := [d] }
  | _ => none }
def FnExactIsBlackWrongFalsely : Prop := fnExactIsBlackRow.holds Try.pinned (OpenSpec.ofChange fnExactIsBlackWrong)

/-- 'laws.FnExactCellIndex': WHATEVER THE INPUT: true; the input reads as it did. -/
def fnExactCellIndexSpec : ChangeSpec := { name := "fnExactCellIndex", fn := fun _ => fun
  | [d] => { results := [.lit (.bool true)], args := [d] }
  | _ => none }
def fnExactCellIndexRow : OpenClaim := { program := "ytkldbjllngnmgaa", sum := "5dddb9e3adaa520e51c207ab34167adfccec3405b80f9e224751008550e697de", func := "loop.example/g03300/laws.FnExactCellIndex", spec := "fnExactCellIndex", apart := false }
def FnExactCellIndexSaid : Prop := fnExactCellIndexRow.holds Try.pinned (OpenSpec.ofChange fnExactCellIndexSpec)

/-- ITS FALSE NEIGHBOUR: 'it returns false'. Refute it at one input. -/
def fnExactCellIndexWrong : ChangeSpec := { name := "fnExactCellIndex", fn := fun _ => fun
  | [d] => { results := [.lit (.bool false)], args := [d] }
  | _ => none }
def FnExactCellIndexWrongFalsely : Prop := fnExactCellIndexRow.holds Try.pinned (OpenSpec.ofChange fnExactCellIndexWrong)

/-- 'laws.FnExactCellAt': WHATEVER THE INPUT: true; the input reads as it did. -/
def fnExactCellAtSpec : ChangeSpec := { name := "fnExactCellAt", fn := fun _ => fun
  | [d] => { results := [.lit (.bool true)], args := [d] }
  | _ => none }
def fnExactCellAtRow : OpenClaim := { program := "ytkldbjllngnmgaa", sum := "5dddb9e3adaa520e51c207ab34167adfccec3405b80f9e224751008550e697de", func := "loop.example/g03300/laws.FnExactCellAt", spec := "fnExactCellAt", apart := false }
def FnExactCellAtSaid : Prop := fnExactCellAtRow.holds Try.pinned (OpenSpec.ofChange fnExactCellAtSpec)

/-- ITS FALSE NEIGHBOUR: 'it returns false'. Refute it at one input. -/
def fnExactCellAtWrong : ChangeSpec := { name := "fnExactCellAt", fn := fun _ => fun
  | [d] => { results := [.lit (.bool false)], args := [d] }
  | _ => none }
def FnExactCellAtWrongFalsely : Prop := fnExactCellAtRow.holds Try.pinned (OpenSpec.ofChange fnExactCellAtWrong)

/-- 'laws.FnExactAreNeighbors': WHATEVER THE INPUT: true; the input reads as it did. -/
def fnExactAreNeighborsSpec : ChangeSpec := { name := "fnExactAreNeighbors", fn := fun _ => fun
  | [d1, d2] => { results := [.lit (.bool true)], args := [d1, d2] }
  | _ => none }
def fnExactAreNeighborsRow : OpenClaim := { program := "ytkldbjllngnmgaa", sum := "5dddb9e3adaa520e51c207ab34167adfccec3405b80f9e224751008550e697de", func := "loop.example/g03300/laws.FnExactAreNeighbors", spec := "fnExactAreNeighbors", apart := false }
def FnExactAreNeighborsSaid : Prop := fnExactAreNeighborsRow.holds Try.pinned (OpenSpec.ofChange fnExactAreNeighborsSpec)

/-- ITS FALSE NEIGHBOUR: 'it returns false'. Refute it at one input. -/
def fnExactAreNeighborsWrong : ChangeSpec := { name := "fnExactAreNeighbors", fn := fun _ => fun
  | [d1, d2] => { results := [.lit (.bool false)], args := [d1, d2] }
  | _ => none }
def FnExactAreNeighborsWrongFalsely : Prop := fnExactAreNeighborsRow.holds Try.pinned (OpenSpec.ofChange fnExactAreNeighborsWrong)

/-- 'laws.FnExactNeighborsOf': WHATEVER THE INPUT: true; the input reads as it did. -/
def fnExactNeighborsOfSpec : ChangeSpec := { name := "fnExactNeighborsOf", fn := fun _ => fun
  | [d] => { results := [.lit (.bool true)], args := [d] }
  | _ => none }
def fnExactNeighborsOfRow : OpenClaim := { program := "ytkldbjllngnmgaa", sum := "5dddb9e3adaa520e51c207ab34167adfccec3405b80f9e224751008550e697de", func := "loop.example/g03300/laws.FnExactNeighborsOf", spec := "fnExactNeighborsOf", apart := false }
def FnExactNeighborsOfSaid : Prop := fnExactNeighborsOfRow.holds Try.pinned (OpenSpec.ofChange fnExactNeighborsOfSpec)

/-- ITS FALSE NEIGHBOUR: 'it returns false'. Refute it at one input. -/
def fnExactNeighborsOfWrong : ChangeSpec := { name := "fnExactNeighborsOf", fn := fun _ => fun
  | [d] => { results := [.lit (.bool false)], args := [d] }
  | _ => none }
def FnExactNeighborsOfWrongFalsely : Prop := fnExactNeighborsOfRow.holds Try.pinned (OpenSpec.ofChange fnExactNeighborsOfWrong)

/- THE SECOND FORM. 'bulk': how many values and letters a reading holds, each counted each time it is reached (what is shared counts as often as it is met; a slice's spare places count too). A statement '..UptoSaid' is the law's where the arguments, and the package variables that the reading takes, are together of bulk at most 1048576: NARROWER than '..Said'. Prove '..Said' where nothing that the law and all that it calls make is longer than what came in: it says more and counts as full. Else prove '..UptoSaid'. A law counts once. -/
mutual
def uptoBulk {H : Type} : DataW H → Nat
  | .lit (.string bytes) => bytes.length + 1
  | .lit _ => 1
  | .nil => 1
  | .ptr d => uptoBulk d + 1
  | .slice elems spare => uptoBulkAll elems + uptoBulkAll spare + 1
  | .agg parts => uptoBulkAll parts + 1
  | .iface _ d => uptoBulk d + 1
  | .map entries => uptoBulkEntries entries + 1
  | .held _ => 1
def uptoBulkAll {H : Type} : List (DataW H) → Nat
  | [] => 0
  | d :: r => uptoBulk d + uptoBulkAll r
def uptoBulkEntries {H : Type} : List (Lit × DataW H) → Nat
  | [] => 0
  | x :: r => uptoBulkEntry x + uptoBulkEntries r
def uptoBulkEntry {H : Type} : Lit × DataW H → Nat
  | (.string bytes, d) => bytes.length + uptoBulk d + 1
  | (_, d) => uptoBulk d + 1
 end
def uptoSmall : (H : Type) → List (DataW H) → Bool := fun _ ds => decide (uptoBulkAll ds ≤ 1048576)
def OpenSpec.upto (s : _root_.Go.ChangeSpec) : _root_.Go.OpenSpec := { _root_.Go.OpenSpec.ofChange s with cond := some uptoSmall }

/-- 'laws.FnCells', WHERE WHAT IT READS IS OF BULK AT MOST 1048576: true; the input reads as it did. -/
def fnCellsUptoRow : OpenClaim := { program := "ytkldbjllngnmgaa", sum := "5dddb9e3adaa520e51c207ab34167adfccec3405b80f9e224751008550e697de", func := "loop.example/g03300/laws.FnCells", spec := "fnCells", apart := false, narrowed := true }
def FnCellsUptoSaid : Prop := fnCellsUptoRow.holds Try.pinned (OpenSpec.upto fnCellsSpec)

/-- 'laws.FnExactCellOk', WHERE WHAT IT READS IS OF BULK AT MOST 1048576: true; the input reads as it did. -/
def fnExactCellOkUptoRow : OpenClaim := { program := "ytkldbjllngnmgaa", sum := "5dddb9e3adaa520e51c207ab34167adfccec3405b80f9e224751008550e697de", func := "loop.example/g03300/laws.FnExactCellOk", spec := "fnExactCellOk", apart := false, narrowed := true }
def FnExactCellOkUptoSaid : Prop := fnExactCellOkUptoRow.holds Try.pinned (OpenSpec.upto fnExactCellOkSpec)

/-- 'laws.FnExactIsBlack', WHERE WHAT IT READS IS OF BULK AT MOST 1048576: true; the input reads as it did. -/
def fnExactIsBlackUptoRow : OpenClaim := { program := "ytkldbjllngnmgaa", sum := "5dddb9e3adaa520e51c207ab34167adfccec3405b80f9e224751008550e697de", func := "loop.example/g03300/laws.FnExactIsBlack", spec := "fnExactIsBlack", apart := false, narrowed := true }
def FnExactIsBlackUptoSaid : Prop := fnExactIsBlackUptoRow.holds Try.pinned (OpenSpec.upto fnExactIsBlackSpec)

/-- 'laws.FnExactCellIndex', WHERE WHAT IT READS IS OF BULK AT MOST 1048576: true; the input reads as it did. -/
def fnExactCellIndexUptoRow : OpenClaim := { program := "ytkldbjllngnmgaa", sum := "5dddb9e3adaa520e51c207ab34167adfccec3405b80f9e224751008550e697de", func := "loop.example/g03300/laws.FnExactCellIndex", spec := "fnExactCellIndex", apart := false, narrowed := true }
def FnExactCellIndexUptoSaid : Prop := fnExactCellIndexUptoRow.holds Try.pinned (OpenSpec.upto fnExactCellIndexSpec)

/-- 'laws.FnExactCellAt', WHERE WHAT IT READS IS OF BULK AT MOST 1048576: true; the input reads as it did. -/
def fnExactCellAtUptoRow : OpenClaim := { program := "ytkldbjllngnmgaa", sum := "5dddb9e3adaa520e51c207ab34167adfccec3405b80f9e224751008550e697de", func := "loop.example/g03300/laws.FnExactCellAt", spec := "fnExactCellAt", apart := false, narrowed := true }
def FnExactCellAtUptoSaid : Prop := fnExactCellAtUptoRow.holds Try.pinned (OpenSpec.upto fnExactCellAtSpec)

/-- 'laws.FnExactAreNeighbors', WHERE WHAT IT READS IS OF BULK AT MOST 1048576: true; the input reads as it did. -/
def fnExactAreNeighborsUptoRow : OpenClaim := { program := "ytkldbjllngnmgaa", sum := "5dddb9e3adaa520e51c207ab34167adfccec3405b80f9e224751008550e697de", func := "loop.example/g03300/laws.FnExactAreNeighbors", spec := "fnExactAreNeighbors", apart := false, narrowed := true }
def FnExactAreNeighborsUptoSaid : Prop := fnExactAreNeighborsUptoRow.holds Try.pinned (OpenSpec.upto fnExactAreNeighborsSpec)

/-- 'laws.FnExactNeighborsOf', WHERE WHAT IT READS IS OF BULK AT MOST 1048576: true; the input reads as it did. -/
def fnExactNeighborsOfUptoRow : OpenClaim := { program := "ytkldbjllngnmgaa", sum := "5dddb9e3adaa520e51c207ab34167adfccec3405b80f9e224751008550e697de", func := "loop.example/g03300/laws.FnExactNeighborsOf", spec := "fnExactNeighborsOf", apart := false, narrowed := true }
def FnExactNeighborsOfUptoSaid : Prop := fnExactNeighborsOfUptoRow.holds Try.pinned (OpenSpec.upto fnExactNeighborsOfSpec)

end Rows
end Go.Proofs.Ytkldbjllngnmgaa
