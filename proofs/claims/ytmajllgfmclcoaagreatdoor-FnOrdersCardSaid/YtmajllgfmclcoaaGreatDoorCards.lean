/-
  DERIVED. GIVEN WITH THE SEED: THE CARDS: each row of YtmajllgfmclcoaaGreatDoorRows.lean that lists a variable, with what it lists TIED to the program's text (the seventh form; the later family's looks); each row that meets fmt, with fmt's text TOLD by the authors' own Lean function (tested against real Go, not proved from fmt's source: count such statements apart). THE CARD IS WHAT COUNTS. Prove the row's statement (the work); the ties are given (YtmajllgfmclcoaaGreatDoorTie.lean); close each card by the builder's one call (the guide's Derived/Test/ToyasCard.lean, 'card_holds'). Laid BY PROGRAM, IN A SANDBOX (cutbox-door.mjs). By AI agents, Wed Nov 11 2026. No macro, syntax, notation, axiom, sorry.
-/
import Derived.Test.YtmajllgfmclcoaaGreatDoorRows
import GoSem.ClaimSeven
namespace Go.Proofs.YtmajllgfmclcoaaGreatDoor
namespace Rows

/-- THE TIED CARD OF 'laws.FnOrders'. -/
def fnOrdersCard : Claim7 := { stood := { row := fnOrdersRow, standIns := [], harness := (true, "31157387d7198c91cf6c0dbc0c7534b5cf1e196e8ce090c6e494d0fa231d9345"), looks := false }, kinds := [], alts := [], laidByText := true, laidKinds := [.data], laidTests := true, laidLooks := .later }
def FnOrdersCardSaid : Prop := Claim7.holds Tryz.pinned (.plain (OpenSpec.ofChange fnOrdersSpec)) fnOrdersCard

/-- THE TIED CARD OF 'laws.FnExactLowestTiling'. -/
def fnExactLowestTilingCard : Claim7 := { stood := { row := fnExactLowestTilingRow, standIns := [], harness := (true, "31157387d7198c91cf6c0dbc0c7534b5cf1e196e8ce090c6e494d0fa231d9345"), looks := false }, kinds := [], alts := [], laidByText := true, laidKinds := [.data], laidTests := true, laidLooks := .later }
def FnExactLowestTilingCardSaid : Prop := Claim7.holds Tryz.pinned (.plain (OpenSpec.ofChange fnExactLowestTilingSpec)) fnExactLowestTilingCard

/-- THE TIED CARD OF 'laws.FnExactHighestTiling'. -/
def fnExactHighestTilingCard : Claim7 := { stood := { row := fnExactHighestTilingRow, standIns := [], harness := (true, "31157387d7198c91cf6c0dbc0c7534b5cf1e196e8ce090c6e494d0fa231d9345"), looks := false }, kinds := [], alts := [], laidByText := true, laidKinds := [.data], laidTests := true, laidLooks := .later }
def FnExactHighestTilingCardSaid : Prop := Claim7.holds Tryz.pinned (.plain (OpenSpec.ofChange fnExactHighestTilingSpec)) fnExactHighestTilingCard

/-- THE SECOND FORM's CARD OF 'laws.FnOrders'. -/
def fnOrdersUptoCard : Claim7 := { stood := { row := fnOrdersUptoRow, standIns := [], harness := (true, "31157387d7198c91cf6c0dbc0c7534b5cf1e196e8ce090c6e494d0fa231d9345"), looks := false }, kinds := [], alts := [], laidByText := true, laidKinds := [.data], laidTests := true, laidLooks := .later }
def FnOrdersUptoCardSaid : Prop := Claim7.holds Tryz.pinned (.plain (OpenSpec.upto fnOrdersSpec)) fnOrdersUptoCard

/-- THE SECOND FORM's CARD OF 'laws.FnExactLowestTiling'. -/
def fnExactLowestTilingUptoCard : Claim7 := { stood := { row := fnExactLowestTilingUptoRow, standIns := [], harness := (true, "31157387d7198c91cf6c0dbc0c7534b5cf1e196e8ce090c6e494d0fa231d9345"), looks := false }, kinds := [], alts := [], laidByText := true, laidKinds := [.data], laidTests := true, laidLooks := .later }
def FnExactLowestTilingUptoCardSaid : Prop := Claim7.holds Tryz.pinned (.plain (OpenSpec.upto fnExactLowestTilingSpec)) fnExactLowestTilingUptoCard

/-- THE SECOND FORM's CARD OF 'laws.FnExactHighestTiling'. -/
def fnExactHighestTilingUptoCard : Claim7 := { stood := { row := fnExactHighestTilingUptoRow, standIns := [], harness := (true, "31157387d7198c91cf6c0dbc0c7534b5cf1e196e8ce090c6e494d0fa231d9345"), looks := false }, kinds := [], alts := [], laidByText := true, laidKinds := [.data], laidTests := true, laidLooks := .later }
def FnExactHighestTilingUptoCardSaid : Prop := Claim7.holds Tryz.pinned (.plain (OpenSpec.upto fnExactHighestTilingSpec)) fnExactHighestTilingUptoCard
end Rows
end Go.Proofs.YtmajllgfmclcoaaGreatDoor
