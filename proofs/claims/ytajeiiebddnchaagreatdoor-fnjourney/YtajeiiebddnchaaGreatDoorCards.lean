/-
  DERIVED. GIVEN WITH THE SEED: THE CARDS: each row of YtajeiiebddnchaaGreatDoorRows.lean that lists a variable, with what it lists TIED to the program's text (the seventh form; the later family's looks); each row that meets fmt, with fmt's text TOLD by the authors' own Lean function (tested against real Go, not proved from fmt's source: count such statements apart). THE CARD IS WHAT COUNTS. Prove the row's statement (the work); the ties are given (YtajeiiebddnchaaGreatDoorTie.lean); close each card by the builder's one call (the guide's Derived/Test/ToyasCard.lean, 'card_holds'). Laid BY PROGRAM, IN A SANDBOX (cutbox-door.mjs). By AI agents, Wed Nov 11 2026. No macro, syntax, notation, axiom, sorry.
-/
import Derived.Test.YtajeiiebddnchaaGreatDoorRows
import GoSem.ClaimSeven
namespace Go.Proofs.YtajeiiebddnchaaGreatDoor
namespace Rows

/-- THE TIED CARD OF 'laws.FnJourney'. -/
def fnJourneyCard : Claim7 := { stood := { row := fnJourneyRow, standIns := [], harness := (true, "2d66e3ff0735f0578f4015d15afdab969262ff1e97491b38db4b6adf77bdca4f"), looks := false }, kinds := [], alts := [], laidByText := true, laidKinds := [.data, .data, .data], laidTests := true, laidLooks := .later }
def FnJourneyCardSaid : Prop := Claim7.holds Tryz.pinned (.plain (OpenSpec.ofChange fnJourneySpec)) fnJourneyCard

/-- THE SECOND FORM's CARD OF 'laws.FnJourney'. -/
def fnJourneyUptoCard : Claim7 := { stood := { row := fnJourneyUptoRow, standIns := [], harness := (true, "2d66e3ff0735f0578f4015d15afdab969262ff1e97491b38db4b6adf77bdca4f"), looks := false }, kinds := [], alts := [], laidByText := true, laidKinds := [.data, .data, .data], laidTests := true, laidLooks := .later }
def FnJourneyUptoCardSaid : Prop := Claim7.holds Tryz.pinned (.plain (OpenSpec.upto fnJourneySpec)) fnJourneyUptoCard
end Rows
end Go.Proofs.YtajeiiebddnchaaGreatDoor
