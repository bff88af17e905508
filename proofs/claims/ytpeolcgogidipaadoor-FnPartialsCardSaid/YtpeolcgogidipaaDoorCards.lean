/-
  DERIVED. GIVEN WITH THE SEED: THE CARDS: each row of YtpeolcgogidipaaDoorRows.lean that lists a variable, with what it lists TIED to the program's text (the seventh form; the later family's looks); each row that meets fmt, with fmt's text TOLD by the authors' own Lean function (tested against real Go, not proved from fmt's source: count such statements apart). THE CARD IS WHAT COUNTS. Prove the row's statement (the work); the ties are given (YtpeolcgogidipaaDoorTie.lean); close each card by the builder's one call (the guide's Derived/Test/ToyasCard.lean, 'card_holds'). Laid BY PROGRAM, IN A SANDBOX (cutbox-door.mjs). By AI agents, Wed Nov 11 2026. No macro, syntax, notation, axiom, sorry.
-/
import Derived.Test.YtpeolcgogidipaaDoorRows
import GoSem.ClaimSeven
namespace Go.Proofs.YtpeolcgogidipaaDoor
namespace Rows

/-- THE TIED CARD OF 'laws.FnPartials'. -/
def fnPartialsCard : Claim7 := { stood := { row := fnPartialsRow, standIns := [], harness := (true, "99f2ca1977c240d8b1a3b420205f0a9b31a87d3e3583d829268a6ec7a9ca3872"), looks := false }, kinds := [], alts := [], laidByText := true, laidKinds := [.data, .data, .data], laidTests := true, laidLooks := .later }
def FnPartialsCardSaid : Prop := Claim7.holds Tryd.pinned (.plain (OpenSpec.ofChange fnPartialsSpec)) fnPartialsCard

/-- THE TIED CARD OF 'laws.FnExactTilingText'. -/
def fnExactTilingTextCard : Claim7 := { stood := { row := fnExactTilingTextRow, standIns := [], harness := (true, "99f2ca1977c240d8b1a3b420205f0a9b31a87d3e3583d829268a6ec7a9ca3872"), looks := false }, kinds := [], alts := [], laidByText := true, laidKinds := [.data, .data, .data], laidTests := true, laidLooks := .later }
def FnExactTilingTextCardSaid : Prop := Claim7.holds Tryd.pinned (.plain (OpenSpec.ofChange fnExactTilingTextSpec)) fnExactTilingTextCard

/-- THE SECOND FORM's CARD OF 'laws.FnPartials'. -/
def fnPartialsUptoCard : Claim7 := { stood := { row := fnPartialsUptoRow, standIns := [], harness := (true, "99f2ca1977c240d8b1a3b420205f0a9b31a87d3e3583d829268a6ec7a9ca3872"), looks := false }, kinds := [], alts := [], laidByText := true, laidKinds := [.data, .data, .data], laidTests := true, laidLooks := .later }
def FnPartialsUptoCardSaid : Prop := Claim7.holds Tryd.pinned (.plain (OpenSpec.upto fnPartialsSpec)) fnPartialsUptoCard

/-- THE SECOND FORM's CARD OF 'laws.FnExactTilingText'. -/
def fnExactTilingTextUptoCard : Claim7 := { stood := { row := fnExactTilingTextUptoRow, standIns := [], harness := (true, "99f2ca1977c240d8b1a3b420205f0a9b31a87d3e3583d829268a6ec7a9ca3872"), looks := false }, kinds := [], alts := [], laidByText := true, laidKinds := [.data, .data, .data], laidTests := true, laidLooks := .later }
def FnExactTilingTextUptoCardSaid : Prop := Claim7.holds Tryd.pinned (.plain (OpenSpec.upto fnExactTilingTextSpec)) fnExactTilingTextUptoCard
end Rows
end Go.Proofs.YtpeolcgogidipaaDoor
