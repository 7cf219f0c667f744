/-
  DERIVED. GIVEN WITH THE SEED: THE CARDS: each row of YtfeahgcigmoijaaGreatDoorRows.lean that lists a variable, with what it lists TIED to the program's text (the seventh form; the later family's looks); each row that meets fmt, with fmt's text TOLD by the authors' own Lean function (tested against real Go, not proved from fmt's source: count such statements apart). THE CARD IS WHAT COUNTS. Prove the row's statement (the work); the ties are given (YtfeahgcigmoijaaGreatDoorTie.lean); close each card by the builder's one call (the guide's Derived/Test/ToyasCard.lean, 'card_holds'). Laid BY PROGRAM, IN A SANDBOX (cutbox-door.mjs). By AI agents, Wed Nov 11 2026. No macro, syntax, notation, axiom, sorry.
-/
import Derived.Test.YtfeahgcigmoijaaGreatDoorRows
import GoSem.ClaimSeven
namespace Go.Proofs.YtfeahgcigmoijaaGreatDoor
namespace Rows

/-- THE TIED CARD OF 'caucuslaw10.BlindTells'. -/
def blindTellsCard : Claim7 := { stood := { row := blindTellsRow, standIns := [], harness := (true, "ddbab37ca8d371291298a3394d5978340c21b404970cafa4406e10773e4b9c93"), looks := true }, kinds := [], alts := [], laidByText := true, laidKinds := [.handle, .data], laidTests := true, laidLooks := .later }
def BlindTellsCardSaid : Prop := Claim7.holds Tryz.pinned (.plain (OpenSpec.ofChange blindTellsSpec)) blindTellsCard

/-- THE SECOND FORM's CARD OF 'caucuslaw10.BlindTells'. -/
def blindTellsUptoCard : Claim7 := { stood := { row := blindTellsUptoRow, standIns := [], harness := (true, "ddbab37ca8d371291298a3394d5978340c21b404970cafa4406e10773e4b9c93"), looks := true }, kinds := [], alts := [], laidByText := true, laidKinds := [.handle, .data], laidTests := true, laidLooks := .later }
def BlindTellsUptoCardSaid : Prop := Claim7.holds Tryz.pinned (.plain (OpenSpec.upto blindTellsSpec)) blindTellsUptoCard
end Rows
end Go.Proofs.YtfeahgcigmoijaaGreatDoor
