/-
  DERIVED. GIVEN WITH THE SEED: THE CARDS: each row of YtpfnnpgielnaeaaDoorRows.lean that lists a variable, with what it lists TIED to the program's text (the seventh form; the later family's looks); each row that meets fmt, with fmt's text TOLD by the authors' own Lean function (tested against real Go, not proved from fmt's source: count such statements apart). THE CARD IS WHAT COUNTS. Prove the row's statement (the work); the ties are given (YtpfnnpgielnaeaaDoorTie.lean); close each card by the builder's one call (the guide's Derived/Test/ToyasCard.lean, 'card_holds'). Laid BY PROGRAM, IN A SANDBOX (cutbox-door.mjs). By AI agents, Wed Nov 11 2026. No macro, syntax, notation, axiom, sorry.
-/
import Derived.Test.YtpfnnpgielnaeaaDoorRows
import GoSem.ClaimSeven
namespace Go.Proofs.YtpfnnpgielnaeaaDoor
namespace Rows

/-- THE TIED CARD OF 'laws.FnExactJourneyText'. -/
def fnExactJourneyTextCard : Claim7 := { stood := { row := fnExactJourneyTextRow, standIns := [], harness := (true, "cf3945d3f5d2354ccf4c75216e00e5a4a32006171918df88123a6529c1a33775"), looks := false }, kinds := [], alts := [], laidByText := true, laidKinds := [.data, .data, .data], laidTests := true, laidLooks := .later }
def FnExactJourneyTextCardSaid : Prop := Claim7.holds Tryd.pinned (.plain (OpenSpec.ofChange fnExactJourneyTextSpec)) fnExactJourneyTextCard

/-- THE SECOND FORM's CARD OF 'laws.FnExactJourneyText'. -/
def fnExactJourneyTextUptoCard : Claim7 := { stood := { row := fnExactJourneyTextUptoRow, standIns := [], harness := (true, "cf3945d3f5d2354ccf4c75216e00e5a4a32006171918df88123a6529c1a33775"), looks := false }, kinds := [], alts := [], laidByText := true, laidKinds := [.data, .data, .data], laidTests := true, laidLooks := .later }
def FnExactJourneyTextUptoCardSaid : Prop := Claim7.holds Tryd.pinned (.plain (OpenSpec.upto fnExactJourneyTextSpec)) fnExactJourneyTextUptoCard
end Rows
end Go.Proofs.YtpfnnpgielnaeaaDoor
