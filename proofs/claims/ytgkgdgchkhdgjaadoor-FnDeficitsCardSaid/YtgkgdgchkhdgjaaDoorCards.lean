/-
  DERIVED. GIVEN WITH THE SEED: THE CARDS: each row of YtgkgdgchkhdgjaaDoorRows.lean that lists a variable, with what it lists TIED to the program's text (the seventh form; the later family's looks); each row that meets fmt, with fmt's text TOLD by the authors' own Lean function (tested against real Go, not proved from fmt's source: count such statements apart). THE CARD IS WHAT COUNTS. Prove the row's statement (the work); the ties are given (YtgkgdgchkhdgjaaDoorTie.lean); close each card by the builder's one call (the guide's Derived/Test/ToyasCard.lean, 'card_holds'). Laid BY PROGRAM, IN A SANDBOX (cutbox-door.mjs). By AI agents, Wed Nov 11 2026. No macro, syntax, notation, axiom, sorry.
-/
import Derived.Test.YtgkgdgchkhdgjaaDoorRows
import GoSem.ClaimSeven
namespace Go.Proofs.YtgkgdgchkhdgjaaDoor
namespace Rows

/-- THE TIED CARD OF 'laws.FnDeficits'. -/
def fnDeficitsCard : Claim7 := { stood := { row := fnDeficitsRow, standIns := [], harness := (true, "e9482b593fcec20f6471b60258ebae7abf0cd8acc0d8a79bc24364c31f8bdddc"), looks := false }, kinds := [], alts := [], laidByText := true, laidKinds := [.data], laidTests := true, laidLooks := .later }
def FnDeficitsCardSaid : Prop := Claim7.holds Tryd.pinned (.plain (OpenSpec.ofChange fnDeficitsSpec)) fnDeficitsCard

/-- THE TIED CARD OF 'laws.FnExactWhiteAround'. -/
def fnExactWhiteAroundCard : Claim7 := { stood := { row := fnExactWhiteAroundRow, standIns := [], harness := (true, "e9482b593fcec20f6471b60258ebae7abf0cd8acc0d8a79bc24364c31f8bdddc"), looks := false }, kinds := [], alts := [], laidByText := true, laidKinds := [.data], laidTests := true, laidLooks := .later }
def FnExactWhiteAroundCardSaid : Prop := Claim7.holds Tryd.pinned (.plain (OpenSpec.ofChange fnExactWhiteAroundSpec)) fnExactWhiteAroundCard

/-- THE TIED CARD OF 'laws.FnExactWitnessOf'. -/
def fnExactWitnessOfCard : Claim7 := { stood := { row := fnExactWitnessOfRow, standIns := [], harness := (true, "e9482b593fcec20f6471b60258ebae7abf0cd8acc0d8a79bc24364c31f8bdddc"), looks := false }, kinds := [], alts := [], laidByText := true, laidKinds := [.data], laidTests := true, laidLooks := .later }
def FnExactWitnessOfCardSaid : Prop := Claim7.holds Tryd.pinned (.plain (OpenSpec.ofChange fnExactWitnessOfSpec)) fnExactWitnessOfCard

/-- THE SECOND FORM's CARD OF 'laws.FnDeficits'. -/
def fnDeficitsUptoCard : Claim7 := { stood := { row := fnDeficitsUptoRow, standIns := [], harness := (true, "e9482b593fcec20f6471b60258ebae7abf0cd8acc0d8a79bc24364c31f8bdddc"), looks := false }, kinds := [], alts := [], laidByText := true, laidKinds := [.data], laidTests := true, laidLooks := .later }
def FnDeficitsUptoCardSaid : Prop := Claim7.holds Tryd.pinned (.plain (OpenSpec.upto fnDeficitsSpec)) fnDeficitsUptoCard

/-- THE SECOND FORM's CARD OF 'laws.FnExactWhiteAround'. -/
def fnExactWhiteAroundUptoCard : Claim7 := { stood := { row := fnExactWhiteAroundUptoRow, standIns := [], harness := (true, "e9482b593fcec20f6471b60258ebae7abf0cd8acc0d8a79bc24364c31f8bdddc"), looks := false }, kinds := [], alts := [], laidByText := true, laidKinds := [.data], laidTests := true, laidLooks := .later }
def FnExactWhiteAroundUptoCardSaid : Prop := Claim7.holds Tryd.pinned (.plain (OpenSpec.upto fnExactWhiteAroundSpec)) fnExactWhiteAroundUptoCard

/-- THE SECOND FORM's CARD OF 'laws.FnExactWitnessOf'. -/
def fnExactWitnessOfUptoCard : Claim7 := { stood := { row := fnExactWitnessOfUptoRow, standIns := [], harness := (true, "e9482b593fcec20f6471b60258ebae7abf0cd8acc0d8a79bc24364c31f8bdddc"), looks := false }, kinds := [], alts := [], laidByText := true, laidKinds := [.data], laidTests := true, laidLooks := .later }
def FnExactWitnessOfUptoCardSaid : Prop := Claim7.holds Tryd.pinned (.plain (OpenSpec.upto fnExactWitnessOfSpec)) fnExactWitnessOfUptoCard
end Rows
end Go.Proofs.YtgkgdgchkhdgjaaDoor
