/-
  DERIVED. GIVEN WITH THE SEED: THE CARDS: each row of YtfeahgcigmoijaaDoorRows.lean that lists a variable, with what it lists TIED to the program's text (the seventh form; the later family's looks); each row that meets fmt, with fmt's text TOLD by the authors' own Lean function (tested against real Go, not proved from fmt's source: count such statements apart). THE CARD IS WHAT COUNTS. Prove the row's statement (the work); the ties are given (YtfeahgcigmoijaaDoorTie.lean); close each card by the builder's one call (the guide's Derived/Test/ToyasCard.lean, 'card_holds'). Laid BY PROGRAM, IN A SANDBOX (cutbox-door.mjs). By AI agents, Wed Nov 11 2026. No macro, syntax, notation, axiom, sorry.
-/
import Derived.Test.YtfeahgcigmoijaaDoorRows
import GoSem.ClaimSeven
namespace Go.Proofs.YtfeahgcigmoijaaDoor
namespace Rows

/-- THE TIED CARD OF 'caucuslaw01.FpTells'. -/
def fpTellsCard : Claim7 := { stood := { row := fpTellsRow, standIns := [], harness := (true, "503d0a26f0332ebf44e14d5bd2eadfcf6a8677c4f2154808445036640990fddb"), looks := true }, kinds := [], alts := [], laidByText := true, laidKinds := [.handle], laidTests := true, laidLooks := .later }
def FpTellsCardSaid : Prop := Claim7.holds Tryd.pinned (.plain (OpenSpec.ofChange fpTellsSpec)) fpTellsCard

/-- THE TIED CARD OF 'caucuslaw02.VecTells'. -/
def vecTellsCard : Claim7 := { stood := { row := vecTellsRow, standIns := [], harness := (true, "503d0a26f0332ebf44e14d5bd2eadfcf6a8677c4f2154808445036640990fddb"), looks := true }, kinds := [], alts := [], laidByText := true, laidKinds := [.handle], laidTests := true, laidLooks := .later }
def VecTellsCardSaid : Prop := Claim7.holds Tryd.pinned (.plain (OpenSpec.ofChange vecTellsSpec)) vecTellsCard

/-- THE TIED CARD OF 'caucuslaw02.VecSums'. -/
def vecSumsCard : Claim7 := { stood := { row := vecSumsRow, standIns := [], harness := (true, "503d0a26f0332ebf44e14d5bd2eadfcf6a8677c4f2154808445036640990fddb"), looks := true }, kinds := [], alts := [], laidByText := true, laidKinds := [.handle], laidTests := true, laidLooks := .later }
def VecSumsCardSaid : Prop := Claim7.holds Tryd.pinned (.plain (OpenSpec.ofChange vecSumsSpec)) vecSumsCard

/-- THE TIED CARD OF 'caucuslaw05.ShaTexts'. -/
def shaTextsCard : Claim7 := { stood := { row := shaTextsRow, standIns := [], harness := (true, "503d0a26f0332ebf44e14d5bd2eadfcf6a8677c4f2154808445036640990fddb"), looks := true }, kinds := [], alts := [], laidByText := true, laidKinds := [.handle, .data], laidTests := true, laidLooks := .later }
def ShaTextsCardSaid : Prop := Claim7.holds Tryd.pinned (.plain (OpenSpec.ofChange shaTextsSpec)) shaTextsCard

/-- THE TIED CARD OF 'caucuslaw06.MacSums'. -/
def macSumsCard : Claim7 := { stood := { row := macSumsRow, standIns := [], harness := (true, "503d0a26f0332ebf44e14d5bd2eadfcf6a8677c4f2154808445036640990fddb"), looks := true }, kinds := [], alts := [], laidByText := true, laidKinds := [.data], laidTests := true, laidLooks := .later }
def MacSumsCardSaid : Prop := Claim7.holds Tryd.pinned (.plain (OpenSpec.ofChange macSumsSpec)) macSumsCard

/-- THE TIED CARD OF 'caucuslaw07.PrgNums'. -/
def prgNumsCard : Claim7 := { stood := { row := prgNumsRow, standIns := [], harness := (true, "503d0a26f0332ebf44e14d5bd2eadfcf6a8677c4f2154808445036640990fddb"), looks := true }, kinds := [], alts := [], laidByText := true, laidKinds := [.handle, .data], laidTests := true, laidLooks := .later }
def PrgNumsCardSaid : Prop := Claim7.holds Tryd.pinned (.plain (OpenSpec.ofChange prgNumsSpec)) prgNumsCard

/-- THE TIED CARD OF 'caucuslaw09.PairTells'. -/
def pairTellsCard : Claim7 := { stood := { row := pairTellsRow, standIns := [], harness := (true, "503d0a26f0332ebf44e14d5bd2eadfcf6a8677c4f2154808445036640990fddb"), looks := true }, kinds := [], alts := [], laidByText := true, laidKinds := [.handle, .data], laidTests := true, laidLooks := .later }
def PairTellsCardSaid : Prop := Claim7.holds Tryd.pinned (.plain (OpenSpec.ofChange pairTellsSpec)) pairTellsCard

/-- THE TIED CARD OF 'caucuslaw10.BlindSums'. -/
def blindSumsCard : Claim7 := { stood := { row := blindSumsRow, standIns := [], harness := (true, "503d0a26f0332ebf44e14d5bd2eadfcf6a8677c4f2154808445036640990fddb"), looks := true }, kinds := [], alts := [], laidByText := true, laidKinds := [.handle, .data], laidTests := true, laidLooks := .later }
def BlindSumsCardSaid : Prop := Claim7.holds Tryd.pinned (.plain (OpenSpec.ofChange blindSumsSpec)) blindSumsCard

/-- THE TIED CARD OF 'caucuslaw10.BlindMoves'. -/
def blindMovesCard : Claim7 := { stood := { row := blindMovesRow, standIns := [], harness := (true, "503d0a26f0332ebf44e14d5bd2eadfcf6a8677c4f2154808445036640990fddb"), looks := true }, kinds := [], alts := [], laidByText := true, laidKinds := [.handle, .data], laidTests := true, laidLooks := .later }
def BlindMovesCardSaid : Prop := Claim7.holds Tryd.pinned (.plain (OpenSpec.ofChange blindMovesSpec)) blindMovesCard

/-- THE SECOND FORM's CARD OF 'caucuslaw01.FpTells'. -/
def fpTellsUptoCard : Claim7 := { stood := { row := fpTellsUptoRow, standIns := [], harness := (true, "503d0a26f0332ebf44e14d5bd2eadfcf6a8677c4f2154808445036640990fddb"), looks := true }, kinds := [], alts := [], laidByText := true, laidKinds := [.handle], laidTests := true, laidLooks := .later }
def FpTellsUptoCardSaid : Prop := Claim7.holds Tryd.pinned (.plain (OpenSpec.upto fpTellsSpec)) fpTellsUptoCard

/-- THE SECOND FORM's CARD OF 'caucuslaw02.VecTells'. -/
def vecTellsUptoCard : Claim7 := { stood := { row := vecTellsUptoRow, standIns := [], harness := (true, "503d0a26f0332ebf44e14d5bd2eadfcf6a8677c4f2154808445036640990fddb"), looks := true }, kinds := [], alts := [], laidByText := true, laidKinds := [.handle], laidTests := true, laidLooks := .later }
def VecTellsUptoCardSaid : Prop := Claim7.holds Tryd.pinned (.plain (OpenSpec.upto vecTellsSpec)) vecTellsUptoCard

/-- THE SECOND FORM's CARD OF 'caucuslaw02.VecSums'. -/
def vecSumsUptoCard : Claim7 := { stood := { row := vecSumsUptoRow, standIns := [], harness := (true, "503d0a26f0332ebf44e14d5bd2eadfcf6a8677c4f2154808445036640990fddb"), looks := true }, kinds := [], alts := [], laidByText := true, laidKinds := [.handle], laidTests := true, laidLooks := .later }
def VecSumsUptoCardSaid : Prop := Claim7.holds Tryd.pinned (.plain (OpenSpec.upto vecSumsSpec)) vecSumsUptoCard

/-- THE SECOND FORM's CARD OF 'caucuslaw05.ShaTexts'. -/
def shaTextsUptoCard : Claim7 := { stood := { row := shaTextsUptoRow, standIns := [], harness := (true, "503d0a26f0332ebf44e14d5bd2eadfcf6a8677c4f2154808445036640990fddb"), looks := true }, kinds := [], alts := [], laidByText := true, laidKinds := [.handle, .data], laidTests := true, laidLooks := .later }
def ShaTextsUptoCardSaid : Prop := Claim7.holds Tryd.pinned (.plain (OpenSpec.upto shaTextsSpec)) shaTextsUptoCard

/-- THE SECOND FORM's CARD OF 'caucuslaw06.MacSums'. -/
def macSumsUptoCard : Claim7 := { stood := { row := macSumsUptoRow, standIns := [], harness := (true, "503d0a26f0332ebf44e14d5bd2eadfcf6a8677c4f2154808445036640990fddb"), looks := true }, kinds := [], alts := [], laidByText := true, laidKinds := [.data], laidTests := true, laidLooks := .later }
def MacSumsUptoCardSaid : Prop := Claim7.holds Tryd.pinned (.plain (OpenSpec.upto macSumsSpec)) macSumsUptoCard

/-- THE SECOND FORM's CARD OF 'caucuslaw07.PrgNums'. -/
def prgNumsUptoCard : Claim7 := { stood := { row := prgNumsUptoRow, standIns := [], harness := (true, "503d0a26f0332ebf44e14d5bd2eadfcf6a8677c4f2154808445036640990fddb"), looks := true }, kinds := [], alts := [], laidByText := true, laidKinds := [.handle, .data], laidTests := true, laidLooks := .later }
def PrgNumsUptoCardSaid : Prop := Claim7.holds Tryd.pinned (.plain (OpenSpec.upto prgNumsSpec)) prgNumsUptoCard

/-- THE SECOND FORM's CARD OF 'caucuslaw09.PairTells'. -/
def pairTellsUptoCard : Claim7 := { stood := { row := pairTellsUptoRow, standIns := [], harness := (true, "503d0a26f0332ebf44e14d5bd2eadfcf6a8677c4f2154808445036640990fddb"), looks := true }, kinds := [], alts := [], laidByText := true, laidKinds := [.handle, .data], laidTests := true, laidLooks := .later }
def PairTellsUptoCardSaid : Prop := Claim7.holds Tryd.pinned (.plain (OpenSpec.upto pairTellsSpec)) pairTellsUptoCard

/-- THE SECOND FORM's CARD OF 'caucuslaw10.BlindSums'. -/
def blindSumsUptoCard : Claim7 := { stood := { row := blindSumsUptoRow, standIns := [], harness := (true, "503d0a26f0332ebf44e14d5bd2eadfcf6a8677c4f2154808445036640990fddb"), looks := true }, kinds := [], alts := [], laidByText := true, laidKinds := [.handle, .data], laidTests := true, laidLooks := .later }
def BlindSumsUptoCardSaid : Prop := Claim7.holds Tryd.pinned (.plain (OpenSpec.upto blindSumsSpec)) blindSumsUptoCard

/-- THE SECOND FORM's CARD OF 'caucuslaw10.BlindMoves'. -/
def blindMovesUptoCard : Claim7 := { stood := { row := blindMovesUptoRow, standIns := [], harness := (true, "503d0a26f0332ebf44e14d5bd2eadfcf6a8677c4f2154808445036640990fddb"), looks := true }, kinds := [], alts := [], laidByText := true, laidKinds := [.handle, .data], laidTests := true, laidLooks := .later }
def BlindMovesUptoCardSaid : Prop := Claim7.holds Tryd.pinned (.plain (OpenSpec.upto blindMovesSpec)) blindMovesUptoCard
end Rows
end Go.Proofs.YtfeahgcigmoijaaDoor
