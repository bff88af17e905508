/-
  No cell of these rows narrows 'for every input' (looked for: loops, veiled, ifaces, maps, wideKeys, modest, calm, conditions, laid).
  DERIVED. THE GIVEN ROWS OF THIS SEAT. 6 by the template 'for every input the law returns true; each argument reads behind the call as it read before'; 0 by the template 'total and deterministic' (their statements: YtkjoonmnedofiaaTotals.lean).
  GIVEN WITH THE SEED: the statements are not yours to turn. If you find one false, say at which input.
  Laid BY PROGRAM, IN A SANDBOX (cutbox-rows.mjs): the forced cells as the released guide's own fill.sh prints them over the translation 3ea903ac749d5dc1… (all of the seat's roots in one cut). By AI agents, Wed Nov 11 2026. No macro, syntax, notation, axiom, sorry.
-/
import Derived.Test.YtkjoonmnedofiaaChecked
import GoSem.Claim
import GoSem.ClaimJoined
import GoSem.ClaimMapViews
import Derived.JoinedTies
import Derived.KernelRfl
namespace Go.Proofs.Ytkjoonmnedofiaa
/- THE CELL 'sum', in the pinned program and in every row, IS THE sha256 OF THE DUMP (.gsa) THAT YtkjoonmnedofiaaProg.lean LOADS. Nothing in Lean hashes anything: it is a label: what it is worth is what the hold of that sum in a sandbox is worth. -/
noncomputable def Try.pinned : Pinned := { name := "ytkjoonmnedofiaa", sum := "3ea903ac749d5dc14f9128fc5a70e6af496ca293bd65be75f3caa9b330f6dc66", checked := Try.checked }
namespace Rows
def none {H : Type} : Left H := { results := [], args := [] }

/-- 'laws.FnFlips': WHATEVER THE INPUT: true; the input reads as it did. -/
def fnFlipsSpec : ChangeSpec := { name := "fnFlips", fn := fun _ => fun
  | [d] => { results := [.lit (.bool true)], args := [d] }
  | _ => none }
def fnFlipsRow : OpenClaim := { program := "ytkjoonmnedofiaa", sum := "3ea903ac749d5dc14f9128fc5a70e6af496ca293bd65be75f3caa9b330f6dc66", func := "loop.example/g03300/laws.FnFlips", spec := "fnFlips", unfollowed := true, recurses := true, apart := false }
def FnFlipsSaid : Prop := fnFlipsRow.holds Try.pinned (OpenSpec.ofChange fnFlipsSpec)

/-- ITS FALSE NEIGHBOUR: 'it returns false'. Refute it at one input. -/
def fnFlipsWrong : ChangeSpec := { name := "fnFlips", fn := fun _ => fun
  | [d] => { results := [.lit (.bool false)], args := [d] }
  | _ => none }
def FnFlipsWrongFalsely : Prop := fnFlipsRow.holds Try.pinned (OpenSpec.ofChange fnFlipsWrong)

/-- 'laws.FnExactCanFlip': WHATEVER THE INPUT: true; the input reads as it did. -/
def fnExactCanFlipSpec : ChangeSpec := { name := "fnExactCanFlip", fn := fun _ => fun
  | [d1, d2] => { results := [.lit (.bool true)], args := [d1, d2] }
  | _ => none }
def fnExactCanFlipRow : OpenClaim := { program := "ytkjoonmnedofiaa", sum := "3ea903ac749d5dc14f9128fc5a70e6af496ca293bd65be75f3caa9b330f6dc66", func := "loop.example/g03300/laws.FnExactCanFlip", spec := "fnExactCanFlip", unfollowed := true, recurses := true, apart := false }
def FnExactCanFlipSaid : Prop := fnExactCanFlipRow.holds Try.pinned (OpenSpec.ofChange fnExactCanFlipSpec)

/-- ITS FALSE NEIGHBOUR: 'it returns false'. Refute it at one input. -/
def fnExactCanFlipWrong : ChangeSpec := { name := "fnExactCanFlip", fn := fun _ => fun
  | [d1, d2] => { results := [.lit (.bool false)], args := [d1, d2] }
  | _ => none }
def FnExactCanFlipWrongFalsely : Prop := fnExactCanFlipRow.holds Try.pinned (OpenSpec.ofChange fnExactCanFlipWrong)

/-- 'laws.FnExactFlipAt': WHATEVER THE INPUT: true; the input reads as it did. -/
def fnExactFlipAtSpec : ChangeSpec := { name := "fnExactFlipAt", fn := fun _ => fun
  | [d1, d2] => { results := [.lit (.bool true)], args := [d1, d2] }
  | _ => none }
def fnExactFlipAtRow : OpenClaim := { program := "ytkjoonmnedofiaa", sum := "3ea903ac749d5dc14f9128fc5a70e6af496ca293bd65be75f3caa9b330f6dc66", func := "loop.example/g03300/laws.FnExactFlipAt", spec := "fnExactFlipAt", unfollowed := true, recurses := true, apart := false }
def FnExactFlipAtSaid : Prop := fnExactFlipAtRow.holds Try.pinned (OpenSpec.ofChange fnExactFlipAtSpec)

/-- ITS FALSE NEIGHBOUR: 'it returns false'. Refute it at one input. -/
def fnExactFlipAtWrong : ChangeSpec := { name := "fnExactFlipAt", fn := fun _ => fun
  | [d1, d2] => { results := [.lit (.bool false)], args := [d1, d2] }
  | _ => none }
def FnExactFlipAtWrongFalsely : Prop := fnExactFlipAtRow.holds Try.pinned (OpenSpec.ofChange fnExactFlipAtWrong)

/-- 'laws.FnExactFlipsOf': WHATEVER THE INPUT: true; the input reads as it did. -/
def fnExactFlipsOfSpec : ChangeSpec := { name := "fnExactFlipsOf", fn := fun _ => fun
  | [d] => { results := [.lit (.bool true)], args := [d] }
  | _ => none }
def fnExactFlipsOfRow : OpenClaim := { program := "ytkjoonmnedofiaa", sum := "3ea903ac749d5dc14f9128fc5a70e6af496ca293bd65be75f3caa9b330f6dc66", func := "loop.example/g03300/laws.FnExactFlipsOf", spec := "fnExactFlipsOf", unfollowed := true, recurses := true, apart := false }
def FnExactFlipsOfSaid : Prop := fnExactFlipsOfRow.holds Try.pinned (OpenSpec.ofChange fnExactFlipsOfSpec)

/-- ITS FALSE NEIGHBOUR: 'it returns false'. Refute it at one input. -/
def fnExactFlipsOfWrong : ChangeSpec := { name := "fnExactFlipsOf", fn := fun _ => fun
  | [d] => { results := [.lit (.bool false)], args := [d] }
  | _ => none }
def FnExactFlipsOfWrongFalsely : Prop := fnExactFlipsOfRow.holds Try.pinned (OpenSpec.ofChange fnExactFlipsOfWrong)

/-- 'laws.FnExactFlipAll': WHATEVER THE INPUT: true; the input reads as it did. -/
def fnExactFlipAllSpec : ChangeSpec := { name := "fnExactFlipAll", fn := fun _ => fun
  | [d1, d2] => { results := [.lit (.bool true)], args := [d1, d2] }
  | _ => none }
def fnExactFlipAllRow : OpenClaim := { program := "ytkjoonmnedofiaa", sum := "3ea903ac749d5dc14f9128fc5a70e6af496ca293bd65be75f3caa9b330f6dc66", func := "loop.example/g03300/laws.FnExactFlipAll", spec := "fnExactFlipAll", unfollowed := true, recurses := true, apart := false }
def FnExactFlipAllSaid : Prop := fnExactFlipAllRow.holds Try.pinned (OpenSpec.ofChange fnExactFlipAllSpec)

/-- ITS FALSE NEIGHBOUR: 'it returns false'. Refute it at one input. -/
def fnExactFlipAllWrong : ChangeSpec := { name := "fnExactFlipAll", fn := fun _ => fun
  | [d1, d2] => { results := [.lit (.bool false)], args := [d1, d2] }
  | _ => none }
def FnExactFlipAllWrongFalsely : Prop := fnExactFlipAllRow.holds Try.pinned (OpenSpec.ofChange fnExactFlipAllWrong)

/-- 'laws.FnExactCountDown': WHATEVER THE INPUT: true; the input reads as it did. -/
def fnExactCountDownSpec : ChangeSpec := { name := "fnExactCountDown", fn := fun _ => fun
  | [d] => { results := [.lit (.bool true)], args := [d] }
  | _ => none }
def fnExactCountDownRow : OpenClaim := { program := "ytkjoonmnedofiaa", sum := "3ea903ac749d5dc14f9128fc5a70e6af496ca293bd65be75f3caa9b330f6dc66", func := "loop.example/g03300/laws.FnExactCountDown", spec := "fnExactCountDown", apart := false }
def FnExactCountDownSaid : Prop := fnExactCountDownRow.holds Try.pinned (OpenSpec.ofChange fnExactCountDownSpec)

/-- ITS FALSE NEIGHBOUR: 'it returns false'. Refute it at one input. -/
def fnExactCountDownWrong : ChangeSpec := { name := "fnExactCountDown", fn := fun _ => fun
  | [d] => { results := [.lit (.bool false)], args := [d] }
  | _ => none }
def FnExactCountDownWrongFalsely : Prop := fnExactCountDownRow.holds Try.pinned (OpenSpec.ofChange fnExactCountDownWrong)

/- THE SECOND FORM. 'bulk': how many values and letters a reading holds, each counted each time it is reached (what is shared counts as often as it is met; a slice's spare places count too). A statement '..UptoSaid' is the law's where the arguments, and the package variables that the reading takes, are together of bulk at most 1048576: NARROWER than '..Said'. Prove '..Said' where nothing that the law and all that it calls make is longer than what came in: it says more and counts as full. Else prove '..UptoSaid'. A law counts once. -/
mutual
def uptoBulk {H : Type} : DataW H → Nat
  | .lit (.string bytes) => bytes.length + 1
  | .lit _ => 1
  | .nil => 1
  | .ptr d => uptoBulk d + 1
  | .slice elems spare => uptoBulkAll elems + uptoBulkAll spare + 1
  | .agg parts => uptoBulkAll parts + 1
  | .iface _ d => uptoBulk d + 1
  | .map entries => uptoBulkEntries entries + 1
  | .held _ => 1
def uptoBulkAll {H : Type} : List (DataW H) → Nat
  | [] => 0
  | d :: r => uptoBulk d + uptoBulkAll r
def uptoBulkEntries {H : Type} : List (Lit × DataW H) → Nat
  | [] => 0
  | x :: r => uptoBulkEntry x + uptoBulkEntries r
def uptoBulkEntry {H : Type} : Lit × DataW H → Nat
  | (.string bytes, d) => bytes.length + uptoBulk d + 1
  | (_, d) => uptoBulk d + 1
 end
def uptoSmall : (H : Type) → List (DataW H) → Bool := fun _ ds => decide (uptoBulkAll ds ≤ 1048576)
def OpenSpec.upto (s : _root_.Go.ChangeSpec) : _root_.Go.OpenSpec := { _root_.Go.OpenSpec.ofChange s with cond := some uptoSmall }

/-- 'laws.FnFlips', WHERE WHAT IT READS IS OF BULK AT MOST 1048576: true; the input reads as it did. -/
def fnFlipsUptoRow : OpenClaim := { program := "ytkjoonmnedofiaa", sum := "3ea903ac749d5dc14f9128fc5a70e6af496ca293bd65be75f3caa9b330f6dc66", func := "loop.example/g03300/laws.FnFlips", spec := "fnFlips", unfollowed := true, recurses := true, apart := false, narrowed := true }
def FnFlipsUptoSaid : Prop := fnFlipsUptoRow.holds Try.pinned (OpenSpec.upto fnFlipsSpec)

/-- 'laws.FnExactCanFlip', WHERE WHAT IT READS IS OF BULK AT MOST 1048576: true; the input reads as it did. -/
def fnExactCanFlipUptoRow : OpenClaim := { program := "ytkjoonmnedofiaa", sum := "3ea903ac749d5dc14f9128fc5a70e6af496ca293bd65be75f3caa9b330f6dc66", func := "loop.example/g03300/laws.FnExactCanFlip", spec := "fnExactCanFlip", unfollowed := true, recurses := true, apart := false, narrowed := true }
def FnExactCanFlipUptoSaid : Prop := fnExactCanFlipUptoRow.holds Try.pinned (OpenSpec.upto fnExactCanFlipSpec)

/-- 'laws.FnExactFlipAt', WHERE WHAT IT READS IS OF BULK AT MOST 1048576: true; the input reads as it did. -/
def fnExactFlipAtUptoRow : OpenClaim := { program := "ytkjoonmnedofiaa", sum := "3ea903ac749d5dc14f9128fc5a70e6af496ca293bd65be75f3caa9b330f6dc66", func := "loop.example/g03300/laws.FnExactFlipAt", spec := "fnExactFlipAt", unfollowed := true, recurses := true, apart := false, narrowed := true }
def FnExactFlipAtUptoSaid : Prop := fnExactFlipAtUptoRow.holds Try.pinned (OpenSpec.upto fnExactFlipAtSpec)

/-- 'laws.FnExactFlipsOf', WHERE WHAT IT READS IS OF BULK AT MOST 1048576: true; the input reads as it did. -/
def fnExactFlipsOfUptoRow : OpenClaim := { program := "ytkjoonmnedofiaa", sum := "3ea903ac749d5dc14f9128fc5a70e6af496ca293bd65be75f3caa9b330f6dc66", func := "loop.example/g03300/laws.FnExactFlipsOf", spec := "fnExactFlipsOf", unfollowed := true, recurses := true, apart := false, narrowed := true }
def FnExactFlipsOfUptoSaid : Prop := fnExactFlipsOfUptoRow.holds Try.pinned (OpenSpec.upto fnExactFlipsOfSpec)

/-- 'laws.FnExactFlipAll', WHERE WHAT IT READS IS OF BULK AT MOST 1048576: true; the input reads as it did. -/
def fnExactFlipAllUptoRow : OpenClaim := { program := "ytkjoonmnedofiaa", sum := "3ea903ac749d5dc14f9128fc5a70e6af496ca293bd65be75f3caa9b330f6dc66", func := "loop.example/g03300/laws.FnExactFlipAll", spec := "fnExactFlipAll", unfollowed := true, recurses := true, apart := false, narrowed := true }
def FnExactFlipAllUptoSaid : Prop := fnExactFlipAllUptoRow.holds Try.pinned (OpenSpec.upto fnExactFlipAllSpec)

/-- 'laws.FnExactCountDown', WHERE WHAT IT READS IS OF BULK AT MOST 1048576: true; the input reads as it did. -/
def fnExactCountDownUptoRow : OpenClaim := { program := "ytkjoonmnedofiaa", sum := "3ea903ac749d5dc14f9128fc5a70e6af496ca293bd65be75f3caa9b330f6dc66", func := "loop.example/g03300/laws.FnExactCountDown", spec := "fnExactCountDown", apart := false, narrowed := true }
def FnExactCountDownUptoSaid : Prop := fnExactCountDownUptoRow.holds Try.pinned (OpenSpec.upto fnExactCountDownSpec)

end Rows
end Go.Proofs.Ytkjoonmnedofiaa
