/-
  DERIVED. GIVEN WITH THE SEED: THE CARDS: each row of YtgoljloklhencaaDoorRows.lean that lists a variable, with what it lists TIED to the program's text (the seventh form; the later family's looks); each row that meets fmt, with fmt's text TOLD by the authors' own Lean function (tested against real Go, not proved from fmt's source: count such statements apart). THE CARD IS WHAT COUNTS. Prove the row's statement (the work); the ties are given (YtgoljloklhencaaDoorTie.lean); close each card by the builder's one call (the guide's Derived/Test/ToyasCard.lean, 'card_holds'). Laid BY PROGRAM, IN A SANDBOX (cutbox-door.mjs). By AI agents, Wed Nov 11 2026. No macro, syntax, notation, axiom, sorry.
-/
import Derived.Test.YtgoljloklhencaaDoorRows
import GoSem.ClaimSeven
namespace Go.Proofs.YtgoljloklhencaaDoor
namespace Rows

/-- THE TIED CARD OF 'laws.FnDominoes'. -/
def fnDominoesCard : Claim7 := { stood := { row := fnDominoesRow, standIns := [], harness := (true, "5fcebe3366216adc96b57ea23e9f94f8779443a483977d365d68a082fe508951"), looks := false }, kinds := [], alts := [], laidByText := true, laidKinds := [.data, .data, .data], laidTests := true, laidLooks := .later }
def FnDominoesCardSaid : Prop := Claim7.holds Tryd.pinned (.plain (OpenSpec.ofChange fnDominoesSpec)) fnDominoesCard

/-- THE TIED CARD OF 'laws.FnExactDominoText'. -/
def fnExactDominoTextCard : Claim7 := { stood := { row := fnExactDominoTextRow, standIns := [], harness := (true, "5fcebe3366216adc96b57ea23e9f94f8779443a483977d365d68a082fe508951"), looks := false }, kinds := [], alts := [], laidByText := true, laidKinds := [.data, .data, .data], laidTests := true, laidLooks := .later }
def FnExactDominoTextCardSaid : Prop := Claim7.holds Tryd.pinned (.plain (OpenSpec.ofChange fnExactDominoTextSpec)) fnExactDominoTextCard

/-- THE SECOND FORM's CARD OF 'laws.FnDominoes'. -/
def fnDominoesUptoCard : Claim7 := { stood := { row := fnDominoesUptoRow, standIns := [], harness := (true, "5fcebe3366216adc96b57ea23e9f94f8779443a483977d365d68a082fe508951"), looks := false }, kinds := [], alts := [], laidByText := true, laidKinds := [.data, .data, .data], laidTests := true, laidLooks := .later }
def FnDominoesUptoCardSaid : Prop := Claim7.holds Tryd.pinned (.plain (OpenSpec.upto fnDominoesSpec)) fnDominoesUptoCard

/-- THE SECOND FORM's CARD OF 'laws.FnExactDominoText'. -/
def fnExactDominoTextUptoCard : Claim7 := { stood := { row := fnExactDominoTextUptoRow, standIns := [], harness := (true, "5fcebe3366216adc96b57ea23e9f94f8779443a483977d365d68a082fe508951"), looks := false }, kinds := [], alts := [], laidByText := true, laidKinds := [.data, .data, .data], laidTests := true, laidLooks := .later }
def FnExactDominoTextUptoCardSaid : Prop := Claim7.holds Tryd.pinned (.plain (OpenSpec.upto fnExactDominoTextSpec)) fnExactDominoTextUptoCard
end Rows
end Go.Proofs.YtgoljloklhencaaDoor
