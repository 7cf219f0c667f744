/-
  DERIVED. GIVEN WITH THE SEED: THE CARDS: each row of YthplidolnffaaaaDoorRows.lean that lists a variable, with what it lists TIED to the program's text (the seventh form; the later family's looks); each row that meets fmt, with fmt's text TOLD by the authors' own Lean function (tested against real Go, not proved from fmt's source: count such statements apart). THE CARD IS WHAT COUNTS. Prove the row's statement (the work); the ties are given (YthplidolnffaaaaDoorTie.lean); close each card by the builder's one call (the guide's Derived/Test/ToyasCard.lean, 'card_holds'). Laid BY PROGRAM, IN A SANDBOX (cutbox-door.mjs). By AI agents, Wed Nov 11 2026. No macro, syntax, notation, axiom, sorry.
-/
import Derived.Test.YthplidolnffaaaaDoorRows
import GoSem.ClaimSeven
namespace Go.Proofs.YthplidolnffaaaaDoor
namespace Rows

/-- THE TIED CARD OF 'caucuslaw02.VecTells'. -/
def vecTellsCard : Claim7 := { stood := { row := vecTellsRow, standIns := [], harness := (true, "1801776f5c456c7466ea3c8c895c388e56465e7292d6789033ef115e190b22b2"), looks := true }, kinds := [], alts := [], laidByText := true, laidKinds := [.handle], laidTests := true, laidLooks := .later }
def VecTellsCardSaid : Prop := Claim7.holds Tryd.pinned (.plain (OpenSpec.ofChange vecTellsSpec)) vecTellsCard

/-- THE TIED CARD OF 'caucuslaw02.VecSums'. -/
def vecSumsCard : Claim7 := { stood := { row := vecSumsRow, standIns := [], harness := (true, "1801776f5c456c7466ea3c8c895c388e56465e7292d6789033ef115e190b22b2"), looks := true }, kinds := [], alts := [], laidByText := true, laidKinds := [.handle], laidTests := true, laidLooks := .later }
def VecSumsCardSaid : Prop := Claim7.holds Tryd.pinned (.plain (OpenSpec.ofChange vecSumsSpec)) vecSumsCard

/-- THE TIED CARD OF 'caucuslaw02.VecOrder'. -/
def vecOrderCard : Claim7 := { stood := { row := vecOrderRow, standIns := [], harness := (true, "1801776f5c456c7466ea3c8c895c388e56465e7292d6789033ef115e190b22b2"), looks := true }, kinds := [], alts := [], laidByText := true, laidKinds := [.handle], laidTests := true, laidLooks := .later }
def VecOrderCardSaid : Prop := Claim7.holds Tryd.pinned (.plain (OpenSpec.ofChange vecOrderSpec)) vecOrderCard

/-- THE TIED CARD OF 'caucuslaw02.VecTaken'. -/
def vecTakenCard : Claim7 := { stood := { row := vecTakenRow, standIns := [], harness := (true, "1801776f5c456c7466ea3c8c895c388e56465e7292d6789033ef115e190b22b2"), looks := true }, kinds := [], alts := [], laidByText := true, laidKinds := [.handle], laidTests := true, laidLooks := .later }
def VecTakenCardSaid : Prop := Claim7.holds Tryd.pinned (.plain (OpenSpec.ofChange vecTakenSpec)) vecTakenCard

/-- THE SECOND FORM's CARD OF 'caucuslaw02.VecTells'. -/
def vecTellsUptoCard : Claim7 := { stood := { row := vecTellsUptoRow, standIns := [], harness := (true, "1801776f5c456c7466ea3c8c895c388e56465e7292d6789033ef115e190b22b2"), looks := true }, kinds := [], alts := [], laidByText := true, laidKinds := [.handle], laidTests := true, laidLooks := .later }
def VecTellsUptoCardSaid : Prop := Claim7.holds Tryd.pinned (.plain (OpenSpec.upto vecTellsSpec)) vecTellsUptoCard

/-- THE SECOND FORM's CARD OF 'caucuslaw02.VecSums'. -/
def vecSumsUptoCard : Claim7 := { stood := { row := vecSumsUptoRow, standIns := [], harness := (true, "1801776f5c456c7466ea3c8c895c388e56465e7292d6789033ef115e190b22b2"), looks := true }, kinds := [], alts := [], laidByText := true, laidKinds := [.handle], laidTests := true, laidLooks := .later }
def VecSumsUptoCardSaid : Prop := Claim7.holds Tryd.pinned (.plain (OpenSpec.upto vecSumsSpec)) vecSumsUptoCard

/-- THE SECOND FORM's CARD OF 'caucuslaw02.VecOrder'. -/
def vecOrderUptoCard : Claim7 := { stood := { row := vecOrderUptoRow, standIns := [], harness := (true, "1801776f5c456c7466ea3c8c895c388e56465e7292d6789033ef115e190b22b2"), looks := true }, kinds := [], alts := [], laidByText := true, laidKinds := [.handle], laidTests := true, laidLooks := .later }
def VecOrderUptoCardSaid : Prop := Claim7.holds Tryd.pinned (.plain (OpenSpec.upto vecOrderSpec)) vecOrderUptoCard

/-- THE SECOND FORM's CARD OF 'caucuslaw02.VecTaken'. -/
def vecTakenUptoCard : Claim7 := { stood := { row := vecTakenUptoRow, standIns := [], harness := (true, "1801776f5c456c7466ea3c8c895c388e56465e7292d6789033ef115e190b22b2"), looks := true }, kinds := [], alts := [], laidByText := true, laidKinds := [.handle], laidTests := true, laidLooks := .later }
def VecTakenUptoCardSaid : Prop := Claim7.holds Tryd.pinned (.plain (OpenSpec.upto vecTakenSpec)) vecTakenUptoCard
end Rows
end Go.Proofs.YthplidolnffaaaaDoor
