/-
  DERIVED. GIVEN WITH THE SEED: THE CARDS: each row of YtnjkaojgcnepdaaDoorRows.lean that lists a variable, with what it lists TIED to the program's text (the seventh form; the later family's looks); each row that meets fmt, with fmt's text TOLD by the authors' own Lean function (tested against real Go, not proved from fmt's source: count such statements apart). THE CARD IS WHAT COUNTS. Prove the row's statement (the work); the ties are given (YtnjkaojgcnepdaaDoorTie.lean); close each card by the builder's one call (the guide's Derived/Test/ToyasCard.lean, 'card_holds'). Laid BY PROGRAM, IN A SANDBOX (cutbox-door.mjs). By AI agents, Wed Nov 11 2026. No macro, syntax, notation, axiom, sorry.
-/
import Derived.Test.YtnjkaojgcnepdaaDoorRows
import GoSem.ClaimSeven
namespace Go.Proofs.YtnjkaojgcnepdaaDoor
namespace Rows

/-- THE TIED CARD OF 'laws.FnExactEventsValid'. -/
def fnExactEventsValidCard : Claim7 := { stood := { row := fnExactEventsValidRow, standIns := [], harness := (true, "f13168f8cc500627a65dbd9f5d51a81e14db1fd015285d13b11d2f11101c04b5"), looks := true }, kinds := [], alts := [], laidByText := true, laidKinds := [.data, .data, .data, .data, .sentinel, .sentinel, .sentinel, .sentinel, .sentinel, .sentinel, .pinned], laidTests := true, laidLooks := .later }
def FnExactEventsValidCardSaid : Prop := Claim7.holds Tryd.pinned (.plain (OpenSpec.ofChange fnExactEventsValidSpec)) fnExactEventsValidCard

/-- THE TIED CARD OF 'laws.FnExactLivesOf'. -/
def fnExactLivesOfCard : Claim7 := { stood := { row := fnExactLivesOfRow, standIns := [], harness := (true, "f13168f8cc500627a65dbd9f5d51a81e14db1fd015285d13b11d2f11101c04b5"), looks := true }, kinds := [], alts := [], laidByText := true, laidKinds := [.data, .data, .data, .data, .sentinel, .sentinel, .sentinel, .sentinel, .sentinel, .sentinel, .pinned], laidTests := true, laidLooks := .later }
def FnExactLivesOfCardSaid : Prop := Claim7.holds Tryd.pinned (.plain (OpenSpec.ofChange fnExactLivesOfSpec)) fnExactLivesOfCard

/-- THE TIED CARD OF 'laws.FnExactAliveAt'. -/
def fnExactAliveAtCard : Claim7 := { stood := { row := fnExactAliveAtRow, standIns := [], harness := (true, "f13168f8cc500627a65dbd9f5d51a81e14db1fd015285d13b11d2f11101c04b5"), looks := true }, kinds := [], alts := [], laidByText := true, laidKinds := [.data, .data, .data, .data, .sentinel, .sentinel, .sentinel, .sentinel, .sentinel, .sentinel, .pinned], laidTests := true, laidLooks := .later }
def FnExactAliveAtCardSaid : Prop := Claim7.holds Tryd.pinned (.plain (OpenSpec.ofChange fnExactAliveAtSpec)) fnExactAliveAtCard

/-- THE TIED CARD OF 'laws.FnExactMostAlive'. -/
def fnExactMostAliveCard : Claim7 := { stood := { row := fnExactMostAliveRow, standIns := [], harness := (true, "f13168f8cc500627a65dbd9f5d51a81e14db1fd015285d13b11d2f11101c04b5"), looks := true }, kinds := [], alts := [], laidByText := true, laidKinds := [.data, .data, .data, .data, .sentinel, .sentinel, .sentinel, .sentinel, .sentinel, .sentinel, .pinned], laidTests := true, laidLooks := .later }
def FnExactMostAliveCardSaid : Prop := Claim7.holds Tryd.pinned (.plain (OpenSpec.ofChange fnExactMostAliveSpec)) fnExactMostAliveCard

/-- THE TIED CARD OF 'laws.FnExactAreNested'. -/
def fnExactAreNestedCard : Claim7 := { stood := { row := fnExactAreNestedRow, standIns := [], harness := (true, "f13168f8cc500627a65dbd9f5d51a81e14db1fd015285d13b11d2f11101c04b5"), looks := true }, kinds := [], alts := [], laidByText := true, laidKinds := [.data, .data, .data, .data, .sentinel, .sentinel, .sentinel, .sentinel, .sentinel, .sentinel, .pinned], laidTests := true, laidLooks := .later }
def FnExactAreNestedCardSaid : Prop := Claim7.holds Tryd.pinned (.plain (OpenSpec.ofChange fnExactAreNestedSpec)) fnExactAreNestedCard

/-- THE TIED CARD OF 'laws.FnExactIdleOf'. -/
def fnExactIdleOfCard : Claim7 := { stood := { row := fnExactIdleOfRow, standIns := [], harness := (true, "f13168f8cc500627a65dbd9f5d51a81e14db1fd015285d13b11d2f11101c04b5"), looks := true }, kinds := [], alts := [], laidByText := true, laidKinds := [.data, .data, .data, .data, .sentinel, .sentinel, .sentinel, .sentinel, .sentinel, .sentinel, .pinned], laidTests := true, laidLooks := .later }
def FnExactIdleOfCardSaid : Prop := Claim7.holds Tryd.pinned (.plain (OpenSpec.ofChange fnExactIdleOfSpec)) fnExactIdleOfCard

/-- THE TIED CARD OF 'laws.FnExactLeftOver'. -/
def fnExactLeftOverCard : Claim7 := { stood := { row := fnExactLeftOverRow, standIns := [], harness := (true, "f13168f8cc500627a65dbd9f5d51a81e14db1fd015285d13b11d2f11101c04b5"), looks := true }, kinds := [], alts := [], laidByText := true, laidKinds := [.data, .data, .data, .data, .sentinel, .sentinel, .sentinel, .sentinel, .sentinel, .sentinel, .pinned], laidTests := true, laidLooks := .later }
def FnExactLeftOverCardSaid : Prop := Claim7.holds Tryd.pinned (.plain (OpenSpec.ofChange fnExactLeftOverSpec)) fnExactLeftOverCard

/-- THE TIED CARD OF 'laws.FnExactEarlyEvents'. -/
def fnExactEarlyEventsCard : Claim7 := { stood := { row := fnExactEarlyEventsRow, standIns := [], harness := (true, "f13168f8cc500627a65dbd9f5d51a81e14db1fd015285d13b11d2f11101c04b5"), looks := true }, kinds := [], alts := [], laidByText := true, laidKinds := [.data, .data, .data, .data, .sentinel, .sentinel, .sentinel, .sentinel, .sentinel, .sentinel, .pinned], laidTests := true, laidLooks := .later }
def FnExactEarlyEventsCardSaid : Prop := Claim7.holds Tryd.pinned (.plain (OpenSpec.ofChange fnExactEarlyEventsSpec)) fnExactEarlyEventsCard

/-- THE SECOND FORM's CARD OF 'laws.FnExactEventsValid'. -/
def fnExactEventsValidUptoCard : Claim7 := { stood := { row := fnExactEventsValidUptoRow, standIns := [], harness := (true, "f13168f8cc500627a65dbd9f5d51a81e14db1fd015285d13b11d2f11101c04b5"), looks := true }, kinds := [], alts := [], laidByText := true, laidKinds := [.data, .data, .data, .data, .sentinel, .sentinel, .sentinel, .sentinel, .sentinel, .sentinel, .pinned], laidTests := true, laidLooks := .later }
def FnExactEventsValidUptoCardSaid : Prop := Claim7.holds Tryd.pinned (.plain (OpenSpec.upto fnExactEventsValidSpec)) fnExactEventsValidUptoCard

/-- THE SECOND FORM's CARD OF 'laws.FnExactLivesOf'. -/
def fnExactLivesOfUptoCard : Claim7 := { stood := { row := fnExactLivesOfUptoRow, standIns := [], harness := (true, "f13168f8cc500627a65dbd9f5d51a81e14db1fd015285d13b11d2f11101c04b5"), looks := true }, kinds := [], alts := [], laidByText := true, laidKinds := [.data, .data, .data, .data, .sentinel, .sentinel, .sentinel, .sentinel, .sentinel, .sentinel, .pinned], laidTests := true, laidLooks := .later }
def FnExactLivesOfUptoCardSaid : Prop := Claim7.holds Tryd.pinned (.plain (OpenSpec.upto fnExactLivesOfSpec)) fnExactLivesOfUptoCard

/-- THE SECOND FORM's CARD OF 'laws.FnExactAliveAt'. -/
def fnExactAliveAtUptoCard : Claim7 := { stood := { row := fnExactAliveAtUptoRow, standIns := [], harness := (true, "f13168f8cc500627a65dbd9f5d51a81e14db1fd015285d13b11d2f11101c04b5"), looks := true }, kinds := [], alts := [], laidByText := true, laidKinds := [.data, .data, .data, .data, .sentinel, .sentinel, .sentinel, .sentinel, .sentinel, .sentinel, .pinned], laidTests := true, laidLooks := .later }
def FnExactAliveAtUptoCardSaid : Prop := Claim7.holds Tryd.pinned (.plain (OpenSpec.upto fnExactAliveAtSpec)) fnExactAliveAtUptoCard

/-- THE SECOND FORM's CARD OF 'laws.FnExactMostAlive'. -/
def fnExactMostAliveUptoCard : Claim7 := { stood := { row := fnExactMostAliveUptoRow, standIns := [], harness := (true, "f13168f8cc500627a65dbd9f5d51a81e14db1fd015285d13b11d2f11101c04b5"), looks := true }, kinds := [], alts := [], laidByText := true, laidKinds := [.data, .data, .data, .data, .sentinel, .sentinel, .sentinel, .sentinel, .sentinel, .sentinel, .pinned], laidTests := true, laidLooks := .later }
def FnExactMostAliveUptoCardSaid : Prop := Claim7.holds Tryd.pinned (.plain (OpenSpec.upto fnExactMostAliveSpec)) fnExactMostAliveUptoCard

/-- THE SECOND FORM's CARD OF 'laws.FnExactAreNested'. -/
def fnExactAreNestedUptoCard : Claim7 := { stood := { row := fnExactAreNestedUptoRow, standIns := [], harness := (true, "f13168f8cc500627a65dbd9f5d51a81e14db1fd015285d13b11d2f11101c04b5"), looks := true }, kinds := [], alts := [], laidByText := true, laidKinds := [.data, .data, .data, .data, .sentinel, .sentinel, .sentinel, .sentinel, .sentinel, .sentinel, .pinned], laidTests := true, laidLooks := .later }
def FnExactAreNestedUptoCardSaid : Prop := Claim7.holds Tryd.pinned (.plain (OpenSpec.upto fnExactAreNestedSpec)) fnExactAreNestedUptoCard

/-- THE SECOND FORM's CARD OF 'laws.FnExactIdleOf'. -/
def fnExactIdleOfUptoCard : Claim7 := { stood := { row := fnExactIdleOfUptoRow, standIns := [], harness := (true, "f13168f8cc500627a65dbd9f5d51a81e14db1fd015285d13b11d2f11101c04b5"), looks := true }, kinds := [], alts := [], laidByText := true, laidKinds := [.data, .data, .data, .data, .sentinel, .sentinel, .sentinel, .sentinel, .sentinel, .sentinel, .pinned], laidTests := true, laidLooks := .later }
def FnExactIdleOfUptoCardSaid : Prop := Claim7.holds Tryd.pinned (.plain (OpenSpec.upto fnExactIdleOfSpec)) fnExactIdleOfUptoCard

/-- THE SECOND FORM's CARD OF 'laws.FnExactLeftOver'. -/
def fnExactLeftOverUptoCard : Claim7 := { stood := { row := fnExactLeftOverUptoRow, standIns := [], harness := (true, "f13168f8cc500627a65dbd9f5d51a81e14db1fd015285d13b11d2f11101c04b5"), looks := true }, kinds := [], alts := [], laidByText := true, laidKinds := [.data, .data, .data, .data, .sentinel, .sentinel, .sentinel, .sentinel, .sentinel, .sentinel, .pinned], laidTests := true, laidLooks := .later }
def FnExactLeftOverUptoCardSaid : Prop := Claim7.holds Tryd.pinned (.plain (OpenSpec.upto fnExactLeftOverSpec)) fnExactLeftOverUptoCard

/-- THE SECOND FORM's CARD OF 'laws.FnExactEarlyEvents'. -/
def fnExactEarlyEventsUptoCard : Claim7 := { stood := { row := fnExactEarlyEventsUptoRow, standIns := [], harness := (true, "f13168f8cc500627a65dbd9f5d51a81e14db1fd015285d13b11d2f11101c04b5"), looks := true }, kinds := [], alts := [], laidByText := true, laidKinds := [.data, .data, .data, .data, .sentinel, .sentinel, .sentinel, .sentinel, .sentinel, .sentinel, .pinned], laidTests := true, laidLooks := .later }
def FnExactEarlyEventsUptoCardSaid : Prop := Claim7.holds Tryd.pinned (.plain (OpenSpec.upto fnExactEarlyEventsSpec)) fnExactEarlyEventsUptoCard
end Rows
end Go.Proofs.YtnjkaojgcnepdaaDoor
