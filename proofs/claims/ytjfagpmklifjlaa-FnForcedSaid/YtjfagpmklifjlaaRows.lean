/-
  No cell of these rows narrows 'for every input' (looked for: loops, veiled, ifaces, maps, wideKeys, modest, calm, conditions, laid).
  DERIVED. THE GIVEN ROWS OF THIS SEAT. 6 by the template 'for every input the law returns true; each argument reads behind the call as it read before'; 0 by the template 'total and deterministic' (their statements: YtjfagpmklifjlaaTotals.lean).
  GIVEN WITH THE SEED: the statements are not yours to turn. If you find one false, say at which input.
  Laid BY PROGRAM, IN A SANDBOX (cutbox-rows.mjs): the forced cells as the released guide's own fill.sh prints them over the translation ecd30fc606ddc2ff… (all of the seat's roots in one cut). By AI agents, Wed Nov 11 2026. No macro, syntax, notation, axiom, sorry.
-/
import Derived.Test.YtjfagpmklifjlaaChecked
import GoSem.Claim
import GoSem.ClaimJoined
import GoSem.ClaimMapViews
import Derived.JoinedTies
import Derived.KernelRfl
namespace Go.Proofs.Ytjfagpmklifjlaa
/- THE CELL 'sum', in the pinned program and in every row, IS THE sha256 OF THE DUMP (.gsa) THAT YtjfagpmklifjlaaProg.lean LOADS. Nothing in Lean hashes anything: it is a label: what it is worth is what the hold of that sum in a sandbox is worth. -/
noncomputable def Try.pinned : Pinned := { name := "ytjfagpmklifjlaa", sum := "ecd30fc606ddc2ff4ebf5cf0d5a188a9fb67c9f880332a1aa5bfdef78c71cd2c", checked := Try.checked }
namespace Rows
def none {H : Type} : Left H := { results := [], args := [] }

/-- 'laws.FnForced': WHATEVER THE INPUT: true; the input reads as it did. -/
def fnForcedSpec : ChangeSpec := { name := "fnForced", fn := fun _ => fun
  | [d] => { results := [.lit (.bool true)], args := [d] }
  | _ => none }
def fnForcedRow : OpenClaim := { program := "ytjfagpmklifjlaa", sum := "ecd30fc606ddc2ff4ebf5cf0d5a188a9fb67c9f880332a1aa5bfdef78c71cd2c", func := "loop.example/g03300/laws.FnForced", spec := "fnForced", unfollowed := true, recurses := true, plainKeys := false, apart := false }
def FnForcedSaid : Prop := fnForcedRow.holds Try.pinned (OpenSpec.ofChange fnForcedSpec)

/-- ITS FALSE NEIGHBOUR: 'it returns false'. Refute it at one input. -/
def fnForcedWrong : ChangeSpec := { name := "fnForced", fn := fun _ => fun
  | [d] => { results := [.lit (.bool false)], args := [d] }
  | _ => none }
def FnForcedWrongFalsely : Prop := fnForcedRow.holds Try.pinned (OpenSpec.ofChange fnForcedWrong)

/-- 'laws.FnExactPossibleDominoes': WHATEVER THE INPUT: true; the input reads as it did. -/
def fnExactPossibleDominoesSpec : ChangeSpec := { name := "fnExactPossibleDominoes", fn := fun _ => fun
  | [d] => { results := [.lit (.bool true)], args := [d] }
  | _ => none }
def fnExactPossibleDominoesRow : OpenClaim := { program := "ytjfagpmklifjlaa", sum := "ecd30fc606ddc2ff4ebf5cf0d5a188a9fb67c9f880332a1aa5bfdef78c71cd2c", func := "loop.example/g03300/laws.FnExactPossibleDominoes", spec := "fnExactPossibleDominoes", unfollowed := true, recurses := true, plainKeys := false, apart := false }
def FnExactPossibleDominoesSaid : Prop := fnExactPossibleDominoesRow.holds Try.pinned (OpenSpec.ofChange fnExactPossibleDominoesSpec)

/-- ITS FALSE NEIGHBOUR: 'it returns false'. Refute it at one input. -/
def fnExactPossibleDominoesWrong : ChangeSpec := { name := "fnExactPossibleDominoes", fn := fun _ => fun
  | [d] => { results := [.lit (.bool false)], args := [d] }
  | _ => none }
def FnExactPossibleDominoesWrongFalsely : Prop := fnExactPossibleDominoesRow.holds Try.pinned (OpenSpec.ofChange fnExactPossibleDominoesWrong)

/-- 'laws.FnExactForcedDominoes': WHATEVER THE INPUT: true; the input reads as it did. -/
def fnExactForcedDominoesSpec : ChangeSpec := { name := "fnExactForcedDominoes", fn := fun _ => fun
  | [d] => { results := [.lit (.bool true)], args := [d] }
  | _ => none }
def fnExactForcedDominoesRow : OpenClaim := { program := "ytjfagpmklifjlaa", sum := "ecd30fc606ddc2ff4ebf5cf0d5a188a9fb67c9f880332a1aa5bfdef78c71cd2c", func := "loop.example/g03300/laws.FnExactForcedDominoes", spec := "fnExactForcedDominoes", unfollowed := true, recurses := true, plainKeys := false, apart := false }
def FnExactForcedDominoesSaid : Prop := fnExactForcedDominoesRow.holds Try.pinned (OpenSpec.ofChange fnExactForcedDominoesSpec)

/-- ITS FALSE NEIGHBOUR: 'it returns false'. Refute it at one input. -/
def fnExactForcedDominoesWrong : ChangeSpec := { name := "fnExactForcedDominoes", fn := fun _ => fun
  | [d] => { results := [.lit (.bool false)], args := [d] }
  | _ => none }
def FnExactForcedDominoesWrongFalsely : Prop := fnExactForcedDominoesRow.holds Try.pinned (OpenSpec.ofChange fnExactForcedDominoesWrong)

/-- 'laws.FnExactFreeRegion': WHATEVER THE INPUT: true; the input reads as it did. -/
def fnExactFreeRegionSpec : ChangeSpec := { name := "fnExactFreeRegion", fn := fun _ => fun
  | [d] => { results := [.lit (.bool true)], args := [d] }
  | _ => none }
def fnExactFreeRegionRow : OpenClaim := { program := "ytjfagpmklifjlaa", sum := "ecd30fc606ddc2ff4ebf5cf0d5a188a9fb67c9f880332a1aa5bfdef78c71cd2c", func := "loop.example/g03300/laws.FnExactFreeRegion", spec := "fnExactFreeRegion", unfollowed := true, recurses := true, plainKeys := false, apart := false }
def FnExactFreeRegionSaid : Prop := fnExactFreeRegionRow.holds Try.pinned (OpenSpec.ofChange fnExactFreeRegionSpec)

/-- ITS FALSE NEIGHBOUR: 'it returns false'. Refute it at one input. -/
def fnExactFreeRegionWrong : ChangeSpec := { name := "fnExactFreeRegion", fn := fun _ => fun
  | [d] => { results := [.lit (.bool false)], args := [d] }
  | _ => none }
def FnExactFreeRegionWrongFalsely : Prop := fnExactFreeRegionRow.holds Try.pinned (OpenSpec.ofChange fnExactFreeRegionWrong)

/-- 'laws.FnExactShareOf': WHATEVER THE INPUT: true; the input reads as it did. -/
def fnExactShareOfSpec : ChangeSpec := { name := "fnExactShareOf", fn := fun _ => fun
  | [d1, d2] => { results := [.lit (.bool true)], args := [d1, d2] }
  | _ => none }
def fnExactShareOfRow : OpenClaim := { program := "ytjfagpmklifjlaa", sum := "ecd30fc606ddc2ff4ebf5cf0d5a188a9fb67c9f880332a1aa5bfdef78c71cd2c", func := "loop.example/g03300/laws.FnExactShareOf", spec := "fnExactShareOf", plainKeys := false, apart := false }
def FnExactShareOfSaid : Prop := fnExactShareOfRow.holds Try.pinned (OpenSpec.ofChange fnExactShareOfSpec)

/-- ITS FALSE NEIGHBOUR: 'it returns false'. Refute it at one input. -/
def fnExactShareOfWrong : ChangeSpec := { name := "fnExactShareOf", fn := fun _ => fun
  | [d1, d2] => { results := [.lit (.bool false)], args := [d1, d2] }
  | _ => none }
def FnExactShareOfWrongFalsely : Prop := fnExactShareOfRow.holds Try.pinned (OpenSpec.ofChange fnExactShareOfWrong)

/-- 'laws.FnExactCountOver': WHATEVER THE INPUT: true; the input reads as it did. -/
def fnExactCountOverSpec : ChangeSpec := { name := "fnExactCountOver", fn := fun _ => fun
  | [d1, d2] => { results := [.lit (.bool true)], args := [d1, d2] }
  | _ => none }
def fnExactCountOverRow : OpenClaim := { program := "ytjfagpmklifjlaa", sum := "ecd30fc606ddc2ff4ebf5cf0d5a188a9fb67c9f880332a1aa5bfdef78c71cd2c", func := "loop.example/g03300/laws.FnExactCountOver", spec := "fnExactCountOver", plainKeys := false, apart := false }
def FnExactCountOverSaid : Prop := fnExactCountOverRow.holds Try.pinned (OpenSpec.ofChange fnExactCountOverSpec)

/-- ITS FALSE NEIGHBOUR: 'it returns false'. Refute it at one input. -/
def fnExactCountOverWrong : ChangeSpec := { name := "fnExactCountOver", fn := fun _ => fun
  | [d1, d2] => { results := [.lit (.bool false)], args := [d1, d2] }
  | _ => none }
def FnExactCountOverWrongFalsely : Prop := fnExactCountOverRow.holds Try.pinned (OpenSpec.ofChange fnExactCountOverWrong)

/- THE SECOND FORM. 'bulk': how many values and letters a reading holds, each counted each time it is reached (what is shared counts as often as it is met; a slice's spare places count too). A statement '..UptoSaid' is the law's where the arguments, and the package variables that the reading takes, are together of bulk at most 1048576: NARROWER than '..Said'. Prove '..Said' where nothing that the law and all that it calls make is longer than what came in: it says more and counts as full. Else prove '..UptoSaid'. A law counts once. -/
mutual
def uptoBulk {H : Type} : DataW H → Nat
  | .lit (.string bytes) => bytes.length + 1
  | .lit _ => 1
  | .nil => 1
  | .ptr d => uptoBulk d + 1
  | .slice elems spare => uptoBulkAll elems + uptoBulkAll spare + 1
  | .agg parts => uptoBulkAll parts + 1
  | .iface _ d => uptoBulk d + 1
  | .map entries => uptoBulkEntries entries + 1
  | .held _ => 1
def uptoBulkAll {H : Type} : List (DataW H) → Nat
  | [] => 0
  | d :: r => uptoBulk d + uptoBulkAll r
def uptoBulkEntries {H : Type} : List (Lit × DataW H) → Nat
  | [] => 0
  | x :: r => uptoBulkEntry x + uptoBulkEntries r
def uptoBulkEntry {H : Type} : Lit × DataW H → Nat
  | (.string bytes, d) => bytes.length + uptoBulk d + 1
  | (_, d) => uptoBulk d + 1
 end
def uptoSmall : (H : Type) → List (DataW H) → Bool := fun _ ds => decide (uptoBulkAll ds ≤ 1048576)
def OpenSpec.upto (s : _root_.Go.ChangeSpec) : _root_.Go.OpenSpec := { _root_.Go.OpenSpec.ofChange s with cond := some uptoSmall }

/-- 'laws.FnForced', WHERE WHAT IT READS IS OF BULK AT MOST 1048576: true; the input reads as it did. -/
def fnForcedUptoRow : OpenClaim := { program := "ytjfagpmklifjlaa", sum := "ecd30fc606ddc2ff4ebf5cf0d5a188a9fb67c9f880332a1aa5bfdef78c71cd2c", func := "loop.example/g03300/laws.FnForced", spec := "fnForced", unfollowed := true, recurses := true, plainKeys := false, apart := false, narrowed := true }
def FnForcedUptoSaid : Prop := fnForcedUptoRow.holds Try.pinned (OpenSpec.upto fnForcedSpec)

/-- 'laws.FnExactPossibleDominoes', WHERE WHAT IT READS IS OF BULK AT MOST 1048576: true; the input reads as it did. -/
def fnExactPossibleDominoesUptoRow : OpenClaim := { program := "ytjfagpmklifjlaa", sum := "ecd30fc606ddc2ff4ebf5cf0d5a188a9fb67c9f880332a1aa5bfdef78c71cd2c", func := "loop.example/g03300/laws.FnExactPossibleDominoes", spec := "fnExactPossibleDominoes", unfollowed := true, recurses := true, plainKeys := false, apart := false, narrowed := true }
def FnExactPossibleDominoesUptoSaid : Prop := fnExactPossibleDominoesUptoRow.holds Try.pinned (OpenSpec.upto fnExactPossibleDominoesSpec)

/-- 'laws.FnExactForcedDominoes', WHERE WHAT IT READS IS OF BULK AT MOST 1048576: true; the input reads as it did. -/
def fnExactForcedDominoesUptoRow : OpenClaim := { program := "ytjfagpmklifjlaa", sum := "ecd30fc606ddc2ff4ebf5cf0d5a188a9fb67c9f880332a1aa5bfdef78c71cd2c", func := "loop.example/g03300/laws.FnExactForcedDominoes", spec := "fnExactForcedDominoes", unfollowed := true, recurses := true, plainKeys := false, apart := false, narrowed := true }
def FnExactForcedDominoesUptoSaid : Prop := fnExactForcedDominoesUptoRow.holds Try.pinned (OpenSpec.upto fnExactForcedDominoesSpec)

/-- 'laws.FnExactFreeRegion', WHERE WHAT IT READS IS OF BULK AT MOST 1048576: true; the input reads as it did. -/
def fnExactFreeRegionUptoRow : OpenClaim := { program := "ytjfagpmklifjlaa", sum := "ecd30fc606ddc2ff4ebf5cf0d5a188a9fb67c9f880332a1aa5bfdef78c71cd2c", func := "loop.example/g03300/laws.FnExactFreeRegion", spec := "fnExactFreeRegion", unfollowed := true, recurses := true, plainKeys := false, apart := false, narrowed := true }
def FnExactFreeRegionUptoSaid : Prop := fnExactFreeRegionUptoRow.holds Try.pinned (OpenSpec.upto fnExactFreeRegionSpec)

/-- 'laws.FnExactShareOf', WHERE WHAT IT READS IS OF BULK AT MOST 1048576: true; the input reads as it did. -/
def fnExactShareOfUptoRow : OpenClaim := { program := "ytjfagpmklifjlaa", sum := "ecd30fc606ddc2ff4ebf5cf0d5a188a9fb67c9f880332a1aa5bfdef78c71cd2c", func := "loop.example/g03300/laws.FnExactShareOf", spec := "fnExactShareOf", plainKeys := false, apart := false, narrowed := true }
def FnExactShareOfUptoSaid : Prop := fnExactShareOfUptoRow.holds Try.pinned (OpenSpec.upto fnExactShareOfSpec)

/-- 'laws.FnExactCountOver', WHERE WHAT IT READS IS OF BULK AT MOST 1048576: true; the input reads as it did. -/
def fnExactCountOverUptoRow : OpenClaim := { program := "ytjfagpmklifjlaa", sum := "ecd30fc606ddc2ff4ebf5cf0d5a188a9fb67c9f880332a1aa5bfdef78c71cd2c", func := "loop.example/g03300/laws.FnExactCountOver", spec := "fnExactCountOver", plainKeys := false, apart := false, narrowed := true }
def FnExactCountOverUptoSaid : Prop := fnExactCountOverUptoRow.holds Try.pinned (OpenSpec.upto fnExactCountOverSpec)

end Rows
end Go.Proofs.Ytjfagpmklifjlaa
