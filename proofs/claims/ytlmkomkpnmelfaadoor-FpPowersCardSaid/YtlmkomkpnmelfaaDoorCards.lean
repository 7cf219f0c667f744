/-
  DERIVED. GIVEN WITH THE SEED: THE CARDS: each row of YtlmkomkpnmelfaaDoorRows.lean that lists a variable, with what it lists TIED to the program's text (the seventh form; the later family's looks); each row that meets fmt, with fmt's text TOLD by the authors' own Lean function (tested against real Go, not proved from fmt's source: count such statements apart). THE CARD IS WHAT COUNTS. Prove the row's statement (the work); the ties are given (YtlmkomkpnmelfaaDoorTie.lean); close each card by the builder's one call (the guide's Derived/Test/ToyasCard.lean, 'card_holds'). Laid BY PROGRAM, IN A SANDBOX (cutbox-door.mjs). By AI agents, Wed Nov 11 2026. No macro, syntax, notation, axiom, sorry.
-/
import Derived.Test.YtlmkomkpnmelfaaDoorRows
import GoSem.ClaimSeven
namespace Go.Proofs.YtlmkomkpnmelfaaDoor
namespace Rows

/-- THE TIED CARD OF 'caucuslaw01.FpTells'. -/
def fpTellsCard : Claim7 := { stood := { row := fpTellsRow, standIns := [], harness := (true, "909a5278a4a28ccb8645293b5fe3d81d5fed5f2bef2a003f576222fdd15796a7"), looks := true }, kinds := [], alts := [], laidByText := true, laidKinds := [.handle], laidTests := true, laidLooks := .later }
def FpTellsCardSaid : Prop := Claim7.holds Tryd.pinned (.plain (OpenSpec.ofChange fpTellsSpec)) fpTellsCard

/-- THE TIED CARD OF 'caucuslaw01.FpField'. -/
def fpFieldCard : Claim7 := { stood := { row := fpFieldRow, standIns := [], harness := (true, "909a5278a4a28ccb8645293b5fe3d81d5fed5f2bef2a003f576222fdd15796a7"), looks := true }, kinds := [], alts := [], laidByText := true, laidKinds := [.handle], laidTests := true, laidLooks := .later }
def FpFieldCardSaid : Prop := Claim7.holds Tryd.pinned (.plain (OpenSpec.ofChange fpFieldSpec)) fpFieldCard

/-- THE TIED CARD OF 'caucuslaw01.FpPowers'. -/
def fpPowersCard : Claim7 := { stood := { row := fpPowersRow, standIns := [], harness := (true, "909a5278a4a28ccb8645293b5fe3d81d5fed5f2bef2a003f576222fdd15796a7"), looks := true }, kinds := [], alts := [], laidByText := true, laidKinds := [.handle], laidTests := true, laidLooks := .later }
def FpPowersCardSaid : Prop := Claim7.holds Tryd.pinned (.plain (OpenSpec.ofChange fpPowersSpec)) fpPowersCard

/-- THE SECOND FORM's CARD OF 'caucuslaw01.FpTells'. -/
def fpTellsUptoCard : Claim7 := { stood := { row := fpTellsUptoRow, standIns := [], harness := (true, "909a5278a4a28ccb8645293b5fe3d81d5fed5f2bef2a003f576222fdd15796a7"), looks := true }, kinds := [], alts := [], laidByText := true, laidKinds := [.handle], laidTests := true, laidLooks := .later }
def FpTellsUptoCardSaid : Prop := Claim7.holds Tryd.pinned (.plain (OpenSpec.upto fpTellsSpec)) fpTellsUptoCard

/-- THE SECOND FORM's CARD OF 'caucuslaw01.FpField'. -/
def fpFieldUptoCard : Claim7 := { stood := { row := fpFieldUptoRow, standIns := [], harness := (true, "909a5278a4a28ccb8645293b5fe3d81d5fed5f2bef2a003f576222fdd15796a7"), looks := true }, kinds := [], alts := [], laidByText := true, laidKinds := [.handle], laidTests := true, laidLooks := .later }
def FpFieldUptoCardSaid : Prop := Claim7.holds Tryd.pinned (.plain (OpenSpec.upto fpFieldSpec)) fpFieldUptoCard

/-- THE SECOND FORM's CARD OF 'caucuslaw01.FpPowers'. -/
def fpPowersUptoCard : Claim7 := { stood := { row := fpPowersUptoRow, standIns := [], harness := (true, "909a5278a4a28ccb8645293b5fe3d81d5fed5f2bef2a003f576222fdd15796a7"), looks := true }, kinds := [], alts := [], laidByText := true, laidKinds := [.handle], laidTests := true, laidLooks := .later }
def FpPowersUptoCardSaid : Prop := Claim7.holds Tryd.pinned (.plain (OpenSpec.upto fpPowersSpec)) fpPowersUptoCard
end Rows
end Go.Proofs.YtlmkomkpnmelfaaDoor
