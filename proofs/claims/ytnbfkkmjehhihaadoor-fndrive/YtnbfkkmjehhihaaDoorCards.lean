/-
  DERIVED. GIVEN WITH THE SEED: THE CARDS: each row of YtnbfkkmjehhihaaDoorRows.lean that lists a variable, with what it lists TIED to the program's text (the seventh form; the later family's looks); each row that meets fmt, with fmt's text TOLD by the authors' own Lean function (tested against real Go, not proved from fmt's source: count such statements apart). THE CARD IS WHAT COUNTS. Prove the row's statement (the work); the ties are given (YtnbfkkmjehhihaaDoorTie.lean); close each card by the builder's one call (the guide's Derived/Test/ToyasCard.lean, 'card_holds'). Laid BY PROGRAM, IN A SANDBOX (cutbox-door.mjs). By AI agents, Wed Nov 11 2026. No macro, syntax, notation, axiom, sorry.
-/
import Derived.Test.YtnbfkkmjehhihaaDoorRows
import GoSem.ClaimSeven
namespace Go.Proofs.YtnbfkkmjehhihaaDoor
namespace Rows

/-- THE TIED CARD OF 'laws.FnExactTrainsOk'. -/
def fnExactTrainsOkCard : Claim7 := { stood := { row := fnExactTrainsOkRow, standIns := [], harness := (true, "1ae34e43a482f06f947cd3480dc1c3dc686de5a9abdbeeb46f0797f5a45faf54"), looks := true }, kinds := [], alts := [], laidByText := true, laidKinds := [.handle], laidTests := true, laidLooks := .later }
def FnExactTrainsOkCardSaid : Prop := Claim7.holds Tryd.pinned (.plain (OpenSpec.ofChange fnExactTrainsOkSpec)) fnExactTrainsOkCard

/-- THE TIED CARD OF 'laws.FnExactTakenBy'. -/
def fnExactTakenByCard : Claim7 := { stood := { row := fnExactTakenByRow, standIns := [], harness := (true, "1ae34e43a482f06f947cd3480dc1c3dc686de5a9abdbeeb46f0797f5a45faf54"), looks := true }, kinds := [], alts := [], laidByText := true, laidKinds := [.handle], laidTests := true, laidLooks := .later }
def FnExactTakenByCardSaid : Prop := Claim7.holds Tryd.pinned (.plain (OpenSpec.ofChange fnExactTakenBySpec)) fnExactTakenByCard

/-- THE TIED CARD OF 'laws.FnExactForward'. -/
def fnExactForwardCard : Claim7 := { stood := { row := fnExactForwardRow, standIns := [], harness := (true, "1ae34e43a482f06f947cd3480dc1c3dc686de5a9abdbeeb46f0797f5a45faf54"), looks := true }, kinds := [], alts := [], laidByText := true, laidKinds := [.handle], laidTests := true, laidLooks := .later }
def FnExactForwardCardSaid : Prop := Claim7.holds Tryd.pinned (.plain (OpenSpec.ofChange fnExactForwardSpec)) fnExactForwardCard

/-- THE TIED CARD OF 'laws.FnExactShrink'. -/
def fnExactShrinkCard : Claim7 := { stood := { row := fnExactShrinkRow, standIns := [], harness := (true, "1ae34e43a482f06f947cd3480dc1c3dc686de5a9abdbeeb46f0797f5a45faf54"), looks := true }, kinds := [], alts := [], laidByText := true, laidKinds := [.handle], laidTests := true, laidLooks := .later }
def FnExactShrinkCardSaid : Prop := Claim7.holds Tryd.pinned (.plain (OpenSpec.ofChange fnExactShrinkSpec)) fnExactShrinkCard

/-- THE TIED CARD OF 'laws.FnExactDrive'. -/
def fnExactDriveCard : Claim7 := { stood := { row := fnExactDriveRow, standIns := [], harness := (true, "1ae34e43a482f06f947cd3480dc1c3dc686de5a9abdbeeb46f0797f5a45faf54"), looks := true }, kinds := [], alts := [], laidByText := true, laidKinds := [.handle], laidTests := true, laidLooks := .later }
def FnExactDriveCardSaid : Prop := Claim7.holds Tryd.pinned (.plain (OpenSpec.ofChange fnExactDriveSpec)) fnExactDriveCard

/-- THE TIED CARD OF 'laws.FnDrive'. -/
def fnDriveCard : Claim7 := { stood := { row := fnDriveRow, standIns := [], harness := (true, "1ae34e43a482f06f947cd3480dc1c3dc686de5a9abdbeeb46f0797f5a45faf54"), looks := true }, kinds := [], alts := [], laidByText := true, laidKinds := [.handle], laidTests := true, laidLooks := .later }
def FnDriveCardSaid : Prop := Claim7.holds Tryd.pinned (.plain (OpenSpec.ofChange fnDriveSpec)) fnDriveCard

/-- THE SECOND FORM's CARD OF 'laws.FnExactTrainsOk'. -/
def fnExactTrainsOkUptoCard : Claim7 := { stood := { row := fnExactTrainsOkUptoRow, standIns := [], harness := (true, "1ae34e43a482f06f947cd3480dc1c3dc686de5a9abdbeeb46f0797f5a45faf54"), looks := true }, kinds := [], alts := [], laidByText := true, laidKinds := [.handle], laidTests := true, laidLooks := .later }
def FnExactTrainsOkUptoCardSaid : Prop := Claim7.holds Tryd.pinned (.plain (OpenSpec.upto fnExactTrainsOkSpec)) fnExactTrainsOkUptoCard

/-- THE SECOND FORM's CARD OF 'laws.FnExactTakenBy'. -/
def fnExactTakenByUptoCard : Claim7 := { stood := { row := fnExactTakenByUptoRow, standIns := [], harness := (true, "1ae34e43a482f06f947cd3480dc1c3dc686de5a9abdbeeb46f0797f5a45faf54"), looks := true }, kinds := [], alts := [], laidByText := true, laidKinds := [.handle], laidTests := true, laidLooks := .later }
def FnExactTakenByUptoCardSaid : Prop := Claim7.holds Tryd.pinned (.plain (OpenSpec.upto fnExactTakenBySpec)) fnExactTakenByUptoCard

/-- THE SECOND FORM's CARD OF 'laws.FnExactForward'. -/
def fnExactForwardUptoCard : Claim7 := { stood := { row := fnExactForwardUptoRow, standIns := [], harness := (true, "1ae34e43a482f06f947cd3480dc1c3dc686de5a9abdbeeb46f0797f5a45faf54"), looks := true }, kinds := [], alts := [], laidByText := true, laidKinds := [.handle], laidTests := true, laidLooks := .later }
def FnExactForwardUptoCardSaid : Prop := Claim7.holds Tryd.pinned (.plain (OpenSpec.upto fnExactForwardSpec)) fnExactForwardUptoCard

/-- THE SECOND FORM's CARD OF 'laws.FnExactShrink'. -/
def fnExactShrinkUptoCard : Claim7 := { stood := { row := fnExactShrinkUptoRow, standIns := [], harness := (true, "1ae34e43a482f06f947cd3480dc1c3dc686de5a9abdbeeb46f0797f5a45faf54"), looks := true }, kinds := [], alts := [], laidByText := true, laidKinds := [.handle], laidTests := true, laidLooks := .later }
def FnExactShrinkUptoCardSaid : Prop := Claim7.holds Tryd.pinned (.plain (OpenSpec.upto fnExactShrinkSpec)) fnExactShrinkUptoCard

/-- THE SECOND FORM's CARD OF 'laws.FnExactDrive'. -/
def fnExactDriveUptoCard : Claim7 := { stood := { row := fnExactDriveUptoRow, standIns := [], harness := (true, "1ae34e43a482f06f947cd3480dc1c3dc686de5a9abdbeeb46f0797f5a45faf54"), looks := true }, kinds := [], alts := [], laidByText := true, laidKinds := [.handle], laidTests := true, laidLooks := .later }
def FnExactDriveUptoCardSaid : Prop := Claim7.holds Tryd.pinned (.plain (OpenSpec.upto fnExactDriveSpec)) fnExactDriveUptoCard

/-- THE SECOND FORM's CARD OF 'laws.FnDrive'. -/
def fnDriveUptoCard : Claim7 := { stood := { row := fnDriveUptoRow, standIns := [], harness := (true, "1ae34e43a482f06f947cd3480dc1c3dc686de5a9abdbeeb46f0797f5a45faf54"), looks := true }, kinds := [], alts := [], laidByText := true, laidKinds := [.handle], laidTests := true, laidLooks := .later }
def FnDriveUptoCardSaid : Prop := Claim7.holds Tryd.pinned (.plain (OpenSpec.upto fnDriveSpec)) fnDriveUptoCard
end Rows
end Go.Proofs.YtnbfkkmjehhihaaDoor
