/-
  DERIVED. GIVEN WITH THE SEED: THE CARDS: each row of YtmenmepdmojnfaaGreatDoorRows.lean that lists a variable, with what it lists TIED to the program's text (the seventh form; the later family's looks); each row that meets fmt, with fmt's text TOLD by the authors' own Lean function (tested against real Go, not proved from fmt's source: count such statements apart). THE CARD IS WHAT COUNTS. Prove the row's statement (the work); the ties are given (YtmenmepdmojnfaaGreatDoorTie.lean); close each card by the builder's one call (the guide's Derived/Test/ToyasCard.lean, 'card_holds'). Laid BY PROGRAM, IN A SANDBOX (cutbox-door.mjs). By AI agents, Wed Nov 11 2026. No macro, syntax, notation, axiom, sorry.
-/
import Derived.Test.YtmenmepdmojnfaaGreatDoorRows
import GoSem.ClaimSeven
namespace Go.Proofs.YtmenmepdmojnfaaGreatDoor
namespace Rows

/-- THE TIED CARD OF 'laws.FnWays'. -/
def fnWaysCard : Claim7 := { stood := { row := fnWaysRow, standIns := [], harness := (true, "114858d1b7239587af19ff128e5f17bac1bcdb12ec8395bb2db01362181c26f9"), looks := false }, kinds := [], alts := [], laidByText := true, laidKinds := [.data], laidTests := true, laidLooks := .later }
def FnWaysCardSaid : Prop := Claim7.holds Tryz.pinned (.plain (OpenSpec.ofChange fnWaysSpec)) fnWaysCard

/-- THE TIED CARD OF 'laws.FnExactFlipNeighbors'. -/
def fnExactFlipNeighborsCard : Claim7 := { stood := { row := fnExactFlipNeighborsRow, standIns := [], harness := (true, "114858d1b7239587af19ff128e5f17bac1bcdb12ec8395bb2db01362181c26f9"), looks := false }, kinds := [], alts := [], laidByText := true, laidKinds := [.data], laidTests := true, laidLooks := .later }
def FnExactFlipNeighborsCardSaid : Prop := Claim7.holds Tryz.pinned (.plain (OpenSpec.ofChange fnExactFlipNeighborsSpec)) fnExactFlipNeighborsCard

/-- THE TIED CARD OF 'laws.FnExactFlipDistance'. -/
def fnExactFlipDistanceCard : Claim7 := { stood := { row := fnExactFlipDistanceRow, standIns := [], harness := (true, "114858d1b7239587af19ff128e5f17bac1bcdb12ec8395bb2db01362181c26f9"), looks := false }, kinds := [], alts := [], laidByText := true, laidKinds := [.data], laidTests := true, laidLooks := .later }
def FnExactFlipDistanceCardSaid : Prop := Claim7.holds Tryz.pinned (.plain (OpenSpec.ofChange fnExactFlipDistanceSpec)) fnExactFlipDistanceCard

/-- THE TIED CARD OF 'laws.FnExactFlipWay'. -/
def fnExactFlipWayCard : Claim7 := { stood := { row := fnExactFlipWayRow, standIns := [], harness := (true, "114858d1b7239587af19ff128e5f17bac1bcdb12ec8395bb2db01362181c26f9"), looks := false }, kinds := [], alts := [], laidByText := true, laidKinds := [.data], laidTests := true, laidLooks := .later }
def FnExactFlipWayCardSaid : Prop := Claim7.holds Tryz.pinned (.plain (OpenSpec.ofChange fnExactFlipWaySpec)) fnExactFlipWayCard

/-- THE TIED CARD OF 'laws.FnExactCountFlipParts'. -/
def fnExactCountFlipPartsCard : Claim7 := { stood := { row := fnExactCountFlipPartsRow, standIns := [], harness := (true, "114858d1b7239587af19ff128e5f17bac1bcdb12ec8395bb2db01362181c26f9"), looks := false }, kinds := [], alts := [], laidByText := true, laidKinds := [.data], laidTests := true, laidLooks := .later }
def FnExactCountFlipPartsCardSaid : Prop := Claim7.holds Tryz.pinned (.plain (OpenSpec.ofChange fnExactCountFlipPartsSpec)) fnExactCountFlipPartsCard

/-- THE SECOND FORM's CARD OF 'laws.FnWays'. -/
def fnWaysUptoCard : Claim7 := { stood := { row := fnWaysUptoRow, standIns := [], harness := (true, "114858d1b7239587af19ff128e5f17bac1bcdb12ec8395bb2db01362181c26f9"), looks := false }, kinds := [], alts := [], laidByText := true, laidKinds := [.data], laidTests := true, laidLooks := .later }
def FnWaysUptoCardSaid : Prop := Claim7.holds Tryz.pinned (.plain (OpenSpec.upto fnWaysSpec)) fnWaysUptoCard

/-- THE SECOND FORM's CARD OF 'laws.FnExactFlipNeighbors'. -/
def fnExactFlipNeighborsUptoCard : Claim7 := { stood := { row := fnExactFlipNeighborsUptoRow, standIns := [], harness := (true, "114858d1b7239587af19ff128e5f17bac1bcdb12ec8395bb2db01362181c26f9"), looks := false }, kinds := [], alts := [], laidByText := true, laidKinds := [.data], laidTests := true, laidLooks := .later }
def FnExactFlipNeighborsUptoCardSaid : Prop := Claim7.holds Tryz.pinned (.plain (OpenSpec.upto fnExactFlipNeighborsSpec)) fnExactFlipNeighborsUptoCard

/-- THE SECOND FORM's CARD OF 'laws.FnExactFlipDistance'. -/
def fnExactFlipDistanceUptoCard : Claim7 := { stood := { row := fnExactFlipDistanceUptoRow, standIns := [], harness := (true, "114858d1b7239587af19ff128e5f17bac1bcdb12ec8395bb2db01362181c26f9"), looks := false }, kinds := [], alts := [], laidByText := true, laidKinds := [.data], laidTests := true, laidLooks := .later }
def FnExactFlipDistanceUptoCardSaid : Prop := Claim7.holds Tryz.pinned (.plain (OpenSpec.upto fnExactFlipDistanceSpec)) fnExactFlipDistanceUptoCard

/-- THE SECOND FORM's CARD OF 'laws.FnExactFlipWay'. -/
def fnExactFlipWayUptoCard : Claim7 := { stood := { row := fnExactFlipWayUptoRow, standIns := [], harness := (true, "114858d1b7239587af19ff128e5f17bac1bcdb12ec8395bb2db01362181c26f9"), looks := false }, kinds := [], alts := [], laidByText := true, laidKinds := [.data], laidTests := true, laidLooks := .later }
def FnExactFlipWayUptoCardSaid : Prop := Claim7.holds Tryz.pinned (.plain (OpenSpec.upto fnExactFlipWaySpec)) fnExactFlipWayUptoCard

/-- THE SECOND FORM's CARD OF 'laws.FnExactCountFlipParts'. -/
def fnExactCountFlipPartsUptoCard : Claim7 := { stood := { row := fnExactCountFlipPartsUptoRow, standIns := [], harness := (true, "114858d1b7239587af19ff128e5f17bac1bcdb12ec8395bb2db01362181c26f9"), looks := false }, kinds := [], alts := [], laidByText := true, laidKinds := [.data], laidTests := true, laidLooks := .later }
def FnExactCountFlipPartsUptoCardSaid : Prop := Claim7.holds Tryz.pinned (.plain (OpenSpec.upto fnExactCountFlipPartsSpec)) fnExactCountFlipPartsUptoCard
end Rows
end Go.Proofs.YtmenmepdmojnfaaGreatDoor
