/-
  DERIVED. GIVEN WITH THE SEED: THE CARDS: each row of YthlmaljgnhakfaaDoorRows.lean that lists a variable, with what it lists TIED to the program's text (the seventh form; the later family's looks); each row that meets fmt, with fmt's text TOLD by the authors' own Lean function (tested against real Go, not proved from fmt's source: count such statements apart). THE CARD IS WHAT COUNTS. Prove the row's statement (the work); the ties are given (YthlmaljgnhakfaaDoorTie.lean); close each card by the builder's one call (the guide's Derived/Test/ToyasCard.lean, 'card_holds'). Laid BY PROGRAM, IN A SANDBOX (cutbox-door.mjs). By AI agents, Wed Nov 11 2026. No macro, syntax, notation, axiom, sorry.
-/
import Derived.Test.YthlmaljgnhakfaaDoorRows
import GoSem.ClaimSeven
namespace Go.Proofs.YthlmaljgnhakfaaDoor
namespace Rows

/-- THE TIED CARD OF 'laws.FnTripText'. -/
def fnTripTextCard : Claim7 := { stood := { row := fnTripTextRow, standIns := [], harness := (true, "e9f1ee8d3c1340c70675ad27b0df1db4bb4e6fc89126a8d9b577ecaf350c31be"), looks := true }, kinds := [], alts := [], laidByText := true, laidKinds := [.data, .data, .data, .sentinel, .sentinel], laidTests := true, laidLooks := .later }
def FnTripTextCardSaid : Prop := Claim7.holds Tryd.pinned (.plain (OpenSpec.ofChange fnTripTextSpec)) fnTripTextCard

/-- THE TIED CARD OF 'laws.FnExactReadTrip'. -/
def fnExactReadTripCard : Claim7 := { stood := { row := fnExactReadTripRow, standIns := [], harness := (true, "e9f1ee8d3c1340c70675ad27b0df1db4bb4e6fc89126a8d9b577ecaf350c31be"), looks := true }, kinds := [], alts := [], laidByText := true, laidKinds := [.data, .data, .data, .sentinel, .sentinel], laidTests := true, laidLooks := .later }
def FnExactReadTripCardSaid : Prop := Claim7.holds Tryd.pinned (.plain (OpenSpec.ofChange fnExactReadTripSpec)) fnExactReadTripCard

/-- THE SECOND FORM's CARD OF 'laws.FnTripText'. -/
def fnTripTextUptoCard : Claim7 := { stood := { row := fnTripTextUptoRow, standIns := [], harness := (true, "e9f1ee8d3c1340c70675ad27b0df1db4bb4e6fc89126a8d9b577ecaf350c31be"), looks := true }, kinds := [], alts := [], laidByText := true, laidKinds := [.data, .data, .data, .sentinel, .sentinel], laidTests := true, laidLooks := .later }
def FnTripTextUptoCardSaid : Prop := Claim7.holds Tryd.pinned (.plain (OpenSpec.upto fnTripTextSpec)) fnTripTextUptoCard

/-- THE SECOND FORM's CARD OF 'laws.FnExactReadTrip'. -/
def fnExactReadTripUptoCard : Claim7 := { stood := { row := fnExactReadTripUptoRow, standIns := [], harness := (true, "e9f1ee8d3c1340c70675ad27b0df1db4bb4e6fc89126a8d9b577ecaf350c31be"), looks := true }, kinds := [], alts := [], laidByText := true, laidKinds := [.data, .data, .data, .sentinel, .sentinel], laidTests := true, laidLooks := .later }
def FnExactReadTripUptoCardSaid : Prop := Claim7.holds Tryd.pinned (.plain (OpenSpec.upto fnExactReadTripSpec)) fnExactReadTripUptoCard
end Rows
end Go.Proofs.YthlmaljgnhakfaaDoor
