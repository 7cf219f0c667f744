/-
  DERIVED. GIVEN WITH THE SEED: THE CARDS: each row of YtmjbbaekdbiopaaDoorRows.lean that lists a variable, with what it lists TIED to the program's text (the seventh form; the later family's looks); each row that meets fmt, with fmt's text TOLD by the authors' own Lean function (tested against real Go, not proved from fmt's source: count such statements apart). THE CARD IS WHAT COUNTS. Prove the row's statement (the work); the ties are given (YtmjbbaekdbiopaaDoorTie.lean); close each card by the builder's one call (the guide's Derived/Test/ToyasCard.lean, 'card_holds'). Laid BY PROGRAM, IN A SANDBOX (cutbox-door.mjs). By AI agents, Wed Nov 11 2026. No macro, syntax, notation, axiom, sorry.
-/
import Derived.Test.YtmjbbaekdbiopaaDoorRows
import GoSem.ClaimSeven
namespace Go.Proofs.YtmjbbaekdbiopaaDoor
namespace Rows

/-- THE TIED CARD OF 'caucuslaw01.FpTells'. -/
def fpTellsCard : Claim7 := { stood := { row := fpTellsRow, standIns := [], harness := (true, "b098d8f1a7240ce0c79d70e32402caed92d6e2526c4c3826ee87ea3dffcbf1ed"), looks := true }, kinds := [], alts := [], laidByText := true, laidKinds := [.handle], laidTests := true, laidLooks := .later }
def FpTellsCardSaid : Prop := Claim7.holds Tryd.pinned (.plain (OpenSpec.ofChange fpTellsSpec)) fpTellsCard

/-- THE TIED CARD OF 'caucuslaw02.VecTells'. -/
def vecTellsCard : Claim7 := { stood := { row := vecTellsRow, standIns := [], harness := (true, "b098d8f1a7240ce0c79d70e32402caed92d6e2526c4c3826ee87ea3dffcbf1ed"), looks := true }, kinds := [], alts := [], laidByText := true, laidKinds := [.handle], laidTests := true, laidLooks := .later }
def VecTellsCardSaid : Prop := Claim7.holds Tryd.pinned (.plain (OpenSpec.ofChange vecTellsSpec)) vecTellsCard

/-- THE TIED CARD OF 'caucuslaw05.ShaTexts'. -/
def shaTextsCard : Claim7 := { stood := { row := shaTextsRow, standIns := [], harness := (true, "b098d8f1a7240ce0c79d70e32402caed92d6e2526c4c3826ee87ea3dffcbf1ed"), looks := true }, kinds := [], alts := [], laidByText := true, laidKinds := [.handle, .data], laidTests := true, laidLooks := .later }
def ShaTextsCardSaid : Prop := Claim7.holds Tryd.pinned (.plain (OpenSpec.ofChange shaTextsSpec)) shaTextsCard

/-- THE TIED CARD OF 'caucuslaw06.MacSums'. -/
def macSumsCard : Claim7 := { stood := { row := macSumsRow, standIns := [], harness := (true, "b098d8f1a7240ce0c79d70e32402caed92d6e2526c4c3826ee87ea3dffcbf1ed"), looks := true }, kinds := [], alts := [], laidByText := true, laidKinds := [.data], laidTests := true, laidLooks := .later }
def MacSumsCardSaid : Prop := Claim7.holds Tryd.pinned (.plain (OpenSpec.ofChange macSumsSpec)) macSumsCard

/-- THE TIED CARD OF 'caucuslaw07.PrgNums'. -/
def prgNumsCard : Claim7 := { stood := { row := prgNumsRow, standIns := [], harness := (true, "b098d8f1a7240ce0c79d70e32402caed92d6e2526c4c3826ee87ea3dffcbf1ed"), looks := true }, kinds := [], alts := [], laidByText := true, laidKinds := [.handle, .data], laidTests := true, laidLooks := .later }
def PrgNumsCardSaid : Prop := Claim7.holds Tryd.pinned (.plain (OpenSpec.ofChange prgNumsSpec)) prgNumsCard

/-- THE TIED CARD OF 'caucuslaw07.PrgFirst'. -/
def prgFirstCard : Claim7 := { stood := { row := prgFirstRow, standIns := [], harness := (true, "b098d8f1a7240ce0c79d70e32402caed92d6e2526c4c3826ee87ea3dffcbf1ed"), looks := true }, kinds := [], alts := [], laidByText := true, laidKinds := [.handle, .data], laidTests := true, laidLooks := .later }
def PrgFirstCardSaid : Prop := Claim7.holds Tryd.pinned (.plain (OpenSpec.ofChange prgFirstSpec)) prgFirstCard

/-- THE TIED CARD OF 'caucuslaw07.PrgParts'. -/
def prgPartsCard : Claim7 := { stood := { row := prgPartsRow, standIns := [], harness := (true, "b098d8f1a7240ce0c79d70e32402caed92d6e2526c4c3826ee87ea3dffcbf1ed"), looks := true }, kinds := [], alts := [], laidByText := true, laidKinds := [.handle, .data], laidTests := true, laidLooks := .later }
def PrgPartsCardSaid : Prop := Claim7.holds Tryd.pinned (.plain (OpenSpec.ofChange prgPartsSpec)) prgPartsCard

/-- THE SECOND FORM's CARD OF 'caucuslaw01.FpTells'. -/
def fpTellsUptoCard : Claim7 := { stood := { row := fpTellsUptoRow, standIns := [], harness := (true, "b098d8f1a7240ce0c79d70e32402caed92d6e2526c4c3826ee87ea3dffcbf1ed"), looks := true }, kinds := [], alts := [], laidByText := true, laidKinds := [.handle], laidTests := true, laidLooks := .later }
def FpTellsUptoCardSaid : Prop := Claim7.holds Tryd.pinned (.plain (OpenSpec.upto fpTellsSpec)) fpTellsUptoCard

/-- THE SECOND FORM's CARD OF 'caucuslaw02.VecTells'. -/
def vecTellsUptoCard : Claim7 := { stood := { row := vecTellsUptoRow, standIns := [], harness := (true, "b098d8f1a7240ce0c79d70e32402caed92d6e2526c4c3826ee87ea3dffcbf1ed"), looks := true }, kinds := [], alts := [], laidByText := true, laidKinds := [.handle], laidTests := true, laidLooks := .later }
def VecTellsUptoCardSaid : Prop := Claim7.holds Tryd.pinned (.plain (OpenSpec.upto vecTellsSpec)) vecTellsUptoCard

/-- THE SECOND FORM's CARD OF 'caucuslaw05.ShaTexts'. -/
def shaTextsUptoCard : Claim7 := { stood := { row := shaTextsUptoRow, standIns := [], harness := (true, "b098d8f1a7240ce0c79d70e32402caed92d6e2526c4c3826ee87ea3dffcbf1ed"), looks := true }, kinds := [], alts := [], laidByText := true, laidKinds := [.handle, .data], laidTests := true, laidLooks := .later }
def ShaTextsUptoCardSaid : Prop := Claim7.holds Tryd.pinned (.plain (OpenSpec.upto shaTextsSpec)) shaTextsUptoCard

/-- THE SECOND FORM's CARD OF 'caucuslaw06.MacSums'. -/
def macSumsUptoCard : Claim7 := { stood := { row := macSumsUptoRow, standIns := [], harness := (true, "b098d8f1a7240ce0c79d70e32402caed92d6e2526c4c3826ee87ea3dffcbf1ed"), looks := true }, kinds := [], alts := [], laidByText := true, laidKinds := [.data], laidTests := true, laidLooks := .later }
def MacSumsUptoCardSaid : Prop := Claim7.holds Tryd.pinned (.plain (OpenSpec.upto macSumsSpec)) macSumsUptoCard

/-- THE SECOND FORM's CARD OF 'caucuslaw07.PrgNums'. -/
def prgNumsUptoCard : Claim7 := { stood := { row := prgNumsUptoRow, standIns := [], harness := (true, "b098d8f1a7240ce0c79d70e32402caed92d6e2526c4c3826ee87ea3dffcbf1ed"), looks := true }, kinds := [], alts := [], laidByText := true, laidKinds := [.handle, .data], laidTests := true, laidLooks := .later }
def PrgNumsUptoCardSaid : Prop := Claim7.holds Tryd.pinned (.plain (OpenSpec.upto prgNumsSpec)) prgNumsUptoCard

/-- THE SECOND FORM's CARD OF 'caucuslaw07.PrgFirst'. -/
def prgFirstUptoCard : Claim7 := { stood := { row := prgFirstUptoRow, standIns := [], harness := (true, "b098d8f1a7240ce0c79d70e32402caed92d6e2526c4c3826ee87ea3dffcbf1ed"), looks := true }, kinds := [], alts := [], laidByText := true, laidKinds := [.handle, .data], laidTests := true, laidLooks := .later }
def PrgFirstUptoCardSaid : Prop := Claim7.holds Tryd.pinned (.plain (OpenSpec.upto prgFirstSpec)) prgFirstUptoCard

/-- THE SECOND FORM's CARD OF 'caucuslaw07.PrgParts'. -/
def prgPartsUptoCard : Claim7 := { stood := { row := prgPartsUptoRow, standIns := [], harness := (true, "b098d8f1a7240ce0c79d70e32402caed92d6e2526c4c3826ee87ea3dffcbf1ed"), looks := true }, kinds := [], alts := [], laidByText := true, laidKinds := [.handle, .data], laidTests := true, laidLooks := .later }
def PrgPartsUptoCardSaid : Prop := Claim7.holds Tryd.pinned (.plain (OpenSpec.upto prgPartsSpec)) prgPartsUptoCard
end Rows
end Go.Proofs.YtmjbbaekdbiopaaDoor
