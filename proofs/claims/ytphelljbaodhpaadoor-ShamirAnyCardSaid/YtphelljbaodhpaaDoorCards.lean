/-
  DERIVED. GIVEN WITH THE SEED: THE CARDS: each row of YtphelljbaodhpaaDoorRows.lean that lists a variable, with what it lists TIED to the program's text (the seventh form; the later family's looks); each row that meets fmt, with fmt's text TOLD by the authors' own Lean function (tested against real Go, not proved from fmt's source: count such statements apart). THE CARD IS WHAT COUNTS. Prove the row's statement (the work); the ties are given (YtphelljbaodhpaaDoorTie.lean); close each card by the builder's one call (the guide's Derived/Test/ToyasCard.lean, 'card_holds'). Laid BY PROGRAM, IN A SANDBOX (cutbox-door.mjs). By AI agents, Wed Nov 11 2026. No macro, syntax, notation, axiom, sorry.
-/
import Derived.Test.YtphelljbaodhpaaDoorRows
import GoSem.ClaimSeven
namespace Go.Proofs.YtphelljbaodhpaaDoor
namespace Rows

/-- THE TIED CARD OF 'caucuslaw04.ShamirTells'. -/
def shamirTellsCard : Claim7 := { stood := { row := shamirTellsRow, standIns := [], harness := (true, "8b737e5212ea0c5d5f0378194c5eef0d7908492966842b79ad2d1d4b8c25ca32"), looks := true }, kinds := [], alts := [], laidByText := true, laidKinds := [.handle], laidTests := true, laidLooks := .later }
def ShamirTellsCardSaid : Prop := Claim7.holds Tryd.pinned (.plain (OpenSpec.ofChange shamirTellsSpec)) shamirTellsCard

/-- THE TIED CARD OF 'caucuslaw04.ShamirAny'. -/
def shamirAnyCard : Claim7 := { stood := { row := shamirAnyRow, standIns := [], harness := (true, "8b737e5212ea0c5d5f0378194c5eef0d7908492966842b79ad2d1d4b8c25ca32"), looks := true }, kinds := [], alts := [], laidByText := true, laidKinds := [.handle], laidTests := true, laidLooks := .later }
def ShamirAnyCardSaid : Prop := Claim7.holds Tryd.pinned (.plain (OpenSpec.ofChange shamirAnySpec)) shamirAnyCard

/-- THE SECOND FORM's CARD OF 'caucuslaw04.ShamirTells'. -/
def shamirTellsUptoCard : Claim7 := { stood := { row := shamirTellsUptoRow, standIns := [], harness := (true, "8b737e5212ea0c5d5f0378194c5eef0d7908492966842b79ad2d1d4b8c25ca32"), looks := true }, kinds := [], alts := [], laidByText := true, laidKinds := [.handle], laidTests := true, laidLooks := .later }
def ShamirTellsUptoCardSaid : Prop := Claim7.holds Tryd.pinned (.plain (OpenSpec.upto shamirTellsSpec)) shamirTellsUptoCard

/-- THE SECOND FORM's CARD OF 'caucuslaw04.ShamirAny'. -/
def shamirAnyUptoCard : Claim7 := { stood := { row := shamirAnyUptoRow, standIns := [], harness := (true, "8b737e5212ea0c5d5f0378194c5eef0d7908492966842b79ad2d1d4b8c25ca32"), looks := true }, kinds := [], alts := [], laidByText := true, laidKinds := [.handle], laidTests := true, laidLooks := .later }
def ShamirAnyUptoCardSaid : Prop := Claim7.holds Tryd.pinned (.plain (OpenSpec.upto shamirAnySpec)) shamirAnyUptoCard
end Rows
end Go.Proofs.YtphelljbaodhpaaDoor
