/-
  DERIVED. GIVEN WITH THE SEED: THE CARDS: each row of YtagfnbgnfmaihaaDoorRows.lean that lists a variable, with what it lists TIED to the program's text (the seventh form; the later family's looks); each row that meets fmt, with fmt's text TOLD by the authors' own Lean function (tested against real Go, not proved from fmt's source: count such statements apart). THE CARD IS WHAT COUNTS. Prove the row's statement (the work); the ties are given (YtagfnbgnfmaihaaDoorTie.lean); close each card by the builder's one call (the guide's Derived/Test/ToyasCard.lean, 'card_holds'). Laid BY PROGRAM, IN A SANDBOX (cutbox-door.mjs). By AI agents, Wed Nov 11 2026. No macro, syntax, notation, axiom, sorry.
-/
import Derived.Test.YtagfnbgnfmaihaaDoorRows
import GoSem.ClaimSeven
namespace Go.Proofs.YtagfnbgnfmaihaaDoor
namespace Rows

/-- THE TIED CARD OF 'laws.FnExactNameOfFault'. -/
def fnExactNameOfFaultCard : Claim7 := { stood := { row := fnExactNameOfFaultRow, standIns := [], harness := (true, "e7cb405214d247fd4fe7737658af9f632b84e4295be2a87aa3ca73a64d7879a8"), looks := false }, kinds := [], alts := [], laidByText := true, laidKinds := [.data], laidTests := true, laidLooks := .later }
def FnExactNameOfFaultCardSaid : Prop := Claim7.holds Tryd.pinned (.plain (OpenSpec.ofChange fnExactNameOfFaultSpec)) fnExactNameOfFaultCard

/-- THE SECOND FORM's CARD OF 'laws.FnExactNameOfFault'. -/
def fnExactNameOfFaultUptoCard : Claim7 := { stood := { row := fnExactNameOfFaultUptoRow, standIns := [], harness := (true, "e7cb405214d247fd4fe7737658af9f632b84e4295be2a87aa3ca73a64d7879a8"), looks := false }, kinds := [], alts := [], laidByText := true, laidKinds := [.data], laidTests := true, laidLooks := .later }
def FnExactNameOfFaultUptoCardSaid : Prop := Claim7.holds Tryd.pinned (.plain (OpenSpec.upto fnExactNameOfFaultSpec)) fnExactNameOfFaultUptoCard
end Rows
end Go.Proofs.YtagfnbgnfmaihaaDoor
