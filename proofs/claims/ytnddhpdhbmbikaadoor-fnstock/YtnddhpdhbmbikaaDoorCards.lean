/-
  DERIVED. GIVEN WITH THE SEED: THE CARDS: each row of YtnddhpdhbmbikaaDoorRows.lean that lists a variable, with what it lists TIED to the program's text (the seventh form; the later family's looks); each row that meets fmt, with fmt's text TOLD by the authors' own Lean function (tested against real Go, not proved from fmt's source: count such statements apart). THE CARD IS WHAT COUNTS. Prove the row's statement (the work); the ties are given (YtnddhpdhbmbikaaDoorTie.lean); close each card by the builder's one call (the guide's Derived/Test/ToyasCard.lean, 'card_holds'). Laid BY PROGRAM, IN A SANDBOX (cutbox-door.mjs). By AI agents, Wed Nov 11 2026. No macro, syntax, notation, axiom, sorry.
-/
import Derived.Test.YtnddhpdhbmbikaaDoorRows
import GoSem.ClaimSeven
namespace Go.Proofs.YtnddhpdhbmbikaaDoor
namespace Rows

/-- THE TIED CARD OF 'laws.FnStock'. -/
def fnStockCard : Claim7 := { stood := { row := fnStockRow, standIns := [], harness := (true, "c1551ad077059d6b6b84034fdc4113d1826981c624c229bb5cfcefd49435607f"), looks := true }, kinds := [], alts := [], laidByText := true, laidKinds := [.data, .data, .data, .sentinel], laidTests := true, laidLooks := .later }
def FnStockCardSaid : Prop := Claim7.holds Tryd.pinned (.plain (OpenSpec.ofChange fnStockSpec)) fnStockCard

/-- THE TIED CARD OF 'laws.FnExactReadStock'. -/
def fnExactReadStockCard : Claim7 := { stood := { row := fnExactReadStockRow, standIns := [], harness := (true, "c1551ad077059d6b6b84034fdc4113d1826981c624c229bb5cfcefd49435607f"), looks := true }, kinds := [], alts := [], laidByText := true, laidKinds := [.data, .data, .data, .sentinel], laidTests := true, laidLooks := .later }
def FnExactReadStockCardSaid : Prop := Claim7.holds Tryd.pinned (.plain (OpenSpec.ofChange fnExactReadStockSpec)) fnExactReadStockCard

/-- THE SECOND FORM's CARD OF 'laws.FnStock'. -/
def fnStockUptoCard : Claim7 := { stood := { row := fnStockUptoRow, standIns := [], harness := (true, "c1551ad077059d6b6b84034fdc4113d1826981c624c229bb5cfcefd49435607f"), looks := true }, kinds := [], alts := [], laidByText := true, laidKinds := [.data, .data, .data, .sentinel], laidTests := true, laidLooks := .later }
def FnStockUptoCardSaid : Prop := Claim7.holds Tryd.pinned (.plain (OpenSpec.upto fnStockSpec)) fnStockUptoCard

/-- THE SECOND FORM's CARD OF 'laws.FnExactReadStock'. -/
def fnExactReadStockUptoCard : Claim7 := { stood := { row := fnExactReadStockUptoRow, standIns := [], harness := (true, "c1551ad077059d6b6b84034fdc4113d1826981c624c229bb5cfcefd49435607f"), looks := true }, kinds := [], alts := [], laidByText := true, laidKinds := [.data, .data, .data, .sentinel], laidTests := true, laidLooks := .later }
def FnExactReadStockUptoCardSaid : Prop := Claim7.holds Tryd.pinned (.plain (OpenSpec.upto fnExactReadStockSpec)) fnExactReadStockUptoCard
end Rows
end Go.Proofs.YtnddhpdhbmbikaaDoor
