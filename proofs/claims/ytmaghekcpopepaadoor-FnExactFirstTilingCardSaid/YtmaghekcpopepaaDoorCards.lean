/-
  DERIVED. GIVEN WITH THE SEED: THE CARDS: each row of YtmaghekcpopepaaDoorRows.lean that lists a variable, with what it lists TIED to the program's text (the seventh form; the later family's looks); each row that meets fmt, with fmt's text TOLD by the authors' own Lean function (tested against real Go, not proved from fmt's source: count such statements apart). THE CARD IS WHAT COUNTS. Prove the row's statement (the work); the ties are given (YtmaghekcpopepaaDoorTie.lean); close each card by the builder's one call (the guide's Derived/Test/ToyasCard.lean, 'card_holds'). Laid BY PROGRAM, IN A SANDBOX (cutbox-door.mjs). By AI agents, Wed Nov 11 2026. No macro, syntax, notation, axiom, sorry.
-/
import Derived.Test.YtmaghekcpopepaaDoorRows
import GoSem.ClaimSeven
namespace Go.Proofs.YtmaghekcpopepaaDoor
namespace Rows

/-- THE TIED CARD OF 'laws.FnLists'. -/
def fnListsCard : Claim7 := { stood := { row := fnListsRow, standIns := [], harness := (true, "99ed15712de60bc6c0a8b6c362e176f2eded65e3f8d462398563496988d9823b"), looks := false }, kinds := [], alts := [], laidByText := true, laidKinds := [.data], laidTests := true, laidLooks := .later }
def FnListsCardSaid : Prop := Claim7.holds Tryd.pinned (.plain (OpenSpec.ofChange fnListsSpec)) fnListsCard

/-- THE TIED CARD OF 'laws.FnExactListTilings'. -/
def fnExactListTilingsCard : Claim7 := { stood := { row := fnExactListTilingsRow, standIns := [], harness := (true, "99ed15712de60bc6c0a8b6c362e176f2eded65e3f8d462398563496988d9823b"), looks := false }, kinds := [], alts := [], laidByText := true, laidKinds := [.data], laidTests := true, laidLooks := .later }
def FnExactListTilingsCardSaid : Prop := Claim7.holds Tryd.pinned (.plain (OpenSpec.ofChange fnExactListTilingsSpec)) fnExactListTilingsCard

/-- THE TIED CARD OF 'laws.FnExactFirstTiling'. -/
def fnExactFirstTilingCard : Claim7 := { stood := { row := fnExactFirstTilingRow, standIns := [], harness := (true, "99ed15712de60bc6c0a8b6c362e176f2eded65e3f8d462398563496988d9823b"), looks := false }, kinds := [], alts := [], laidByText := true, laidKinds := [.data], laidTests := true, laidLooks := .later }
def FnExactFirstTilingCardSaid : Prop := Claim7.holds Tryd.pinned (.plain (OpenSpec.ofChange fnExactFirstTilingSpec)) fnExactFirstTilingCard

/-- THE TIED CARD OF 'laws.FnExactIndexOf'. -/
def fnExactIndexOfCard : Claim7 := { stood := { row := fnExactIndexOfRow, standIns := [], harness := (true, "99ed15712de60bc6c0a8b6c362e176f2eded65e3f8d462398563496988d9823b"), looks := false }, kinds := [], alts := [], laidByText := true, laidKinds := [.data], laidTests := true, laidLooks := .later }
def FnExactIndexOfCardSaid : Prop := Claim7.holds Tryd.pinned (.plain (OpenSpec.ofChange fnExactIndexOfSpec)) fnExactIndexOfCard

/-- THE SECOND FORM's CARD OF 'laws.FnLists'. -/
def fnListsUptoCard : Claim7 := { stood := { row := fnListsUptoRow, standIns := [], harness := (true, "99ed15712de60bc6c0a8b6c362e176f2eded65e3f8d462398563496988d9823b"), looks := false }, kinds := [], alts := [], laidByText := true, laidKinds := [.data], laidTests := true, laidLooks := .later }
def FnListsUptoCardSaid : Prop := Claim7.holds Tryd.pinned (.plain (OpenSpec.upto fnListsSpec)) fnListsUptoCard

/-- THE SECOND FORM's CARD OF 'laws.FnExactListTilings'. -/
def fnExactListTilingsUptoCard : Claim7 := { stood := { row := fnExactListTilingsUptoRow, standIns := [], harness := (true, "99ed15712de60bc6c0a8b6c362e176f2eded65e3f8d462398563496988d9823b"), looks := false }, kinds := [], alts := [], laidByText := true, laidKinds := [.data], laidTests := true, laidLooks := .later }
def FnExactListTilingsUptoCardSaid : Prop := Claim7.holds Tryd.pinned (.plain (OpenSpec.upto fnExactListTilingsSpec)) fnExactListTilingsUptoCard

/-- THE SECOND FORM's CARD OF 'laws.FnExactFirstTiling'. -/
def fnExactFirstTilingUptoCard : Claim7 := { stood := { row := fnExactFirstTilingUptoRow, standIns := [], harness := (true, "99ed15712de60bc6c0a8b6c362e176f2eded65e3f8d462398563496988d9823b"), looks := false }, kinds := [], alts := [], laidByText := true, laidKinds := [.data], laidTests := true, laidLooks := .later }
def FnExactFirstTilingUptoCardSaid : Prop := Claim7.holds Tryd.pinned (.plain (OpenSpec.upto fnExactFirstTilingSpec)) fnExactFirstTilingUptoCard

/-- THE SECOND FORM's CARD OF 'laws.FnExactIndexOf'. -/
def fnExactIndexOfUptoCard : Claim7 := { stood := { row := fnExactIndexOfUptoRow, standIns := [], harness := (true, "99ed15712de60bc6c0a8b6c362e176f2eded65e3f8d462398563496988d9823b"), looks := false }, kinds := [], alts := [], laidByText := true, laidKinds := [.data], laidTests := true, laidLooks := .later }
def FnExactIndexOfUptoCardSaid : Prop := Claim7.holds Tryd.pinned (.plain (OpenSpec.upto fnExactIndexOfSpec)) fnExactIndexOfUptoCard
end Rows
end Go.Proofs.YtmaghekcpopepaaDoor
