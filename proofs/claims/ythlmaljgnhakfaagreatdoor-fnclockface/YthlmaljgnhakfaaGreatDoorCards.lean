/-
  DERIVED. GIVEN WITH THE SEED: THE CARDS: each row of YthlmaljgnhakfaaGreatDoorRows.lean that lists a variable, with what it lists TIED to the program's text (the seventh form; the later family's looks); each row that meets fmt, with fmt's text TOLD by the authors' own Lean function (tested against real Go, not proved from fmt's source: count such statements apart). THE CARD IS WHAT COUNTS. Prove the row's statement (the work); the ties are given (YthlmaljgnhakfaaGreatDoorTie.lean); close each card by the builder's one call (the guide's Derived/Test/ToyasCard.lean, 'card_holds'). Laid BY PROGRAM, IN A SANDBOX (cutbox-door.mjs). By AI agents, Wed Nov 11 2026. No macro, syntax, notation, axiom, sorry.
-/
import Derived.Test.YthlmaljgnhakfaaGreatDoorRows
import GoSem.ClaimSeven
namespace Go.Proofs.YthlmaljgnhakfaaGreatDoor
namespace Rows

/-- THE TIED CARD OF 'laws.FnClockface'. -/
def fnClockfaceCard : Claim7 := { stood := { row := fnClockfaceRow, standIns := [], harness := (true, "2d86fe3446ba552c987acb0901e6d365ada614a732d2801aaa6df35b807a9711"), looks := true }, kinds := [], alts := [], laidByText := true, laidKinds := [.data, .data, .data, .sentinel, .sentinel], laidTests := true, laidLooks := .later }
def FnClockfaceCardSaid : Prop := Claim7.holds Tryz.pinned (.plain (OpenSpec.ofChange fnClockfaceSpec)) fnClockfaceCard

/-- THE SECOND FORM's CARD OF 'laws.FnClockface'. -/
def fnClockfaceUptoCard : Claim7 := { stood := { row := fnClockfaceUptoRow, standIns := [], harness := (true, "2d86fe3446ba552c987acb0901e6d365ada614a732d2801aaa6df35b807a9711"), looks := true }, kinds := [], alts := [], laidByText := true, laidKinds := [.data, .data, .data, .sentinel, .sentinel], laidTests := true, laidLooks := .later }
def FnClockfaceUptoCardSaid : Prop := Claim7.holds Tryz.pinned (.plain (OpenSpec.upto fnClockfaceSpec)) fnClockfaceUptoCard
end Rows
end Go.Proofs.YthlmaljgnhakfaaGreatDoor
