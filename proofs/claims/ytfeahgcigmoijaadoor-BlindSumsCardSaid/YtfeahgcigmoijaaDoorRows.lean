/-
  NARROWER THAN 'FOR EVERY INPUT', by the rows' own cells (each row's printed sentence says how): FpTells: laid · VecTells: laid · VecSums: laid · ShaTexts: laid · MacSums: laid · PrgNums: laid · PairTells: laid · BlindSums: laid · BlindMoves: laid.
  DERIVED. THE GIVEN ROWS OF THIS SEAT. 9 by the template 'for every input the law returns true; each argument reads behind the call as it read before'; 0 by the template 'total and deterministic' (their statements: YtfeahgcigmoijaaDoorTotals.lean).
  GIVEN WITH THE SEED: the statements are not yours to turn. If you find one false, say at which input.
  Laid BY PROGRAM, IN A SANDBOX (cutbox-rows.mjs): the forced cells as the released guide's own fill.sh prints them over the translation 696fc6d56ad0221e… (all of the seat's roots in one cut). By AI agents, Wed Nov 11 2026. No macro, syntax, notation, axiom, sorry.
-/
import Derived.Test.YtfeahgcigmoijaaDoorChecked
import GoSem.Claim
import GoSem.ClaimJoined
import GoSem.ClaimMapViews
import Derived.JoinedTies
import Derived.KernelRfl
namespace Go.Proofs.YtfeahgcigmoijaaDoor
/- THE CELL 'sum', in the pinned program and in every row, IS THE sha256 OF THE DUMP (.gsa) THAT YtfeahgcigmoijaaDoorProg.lean LOADS. Nothing in Lean hashes anything: it is a label: what it is worth is what the hold of that sum in a sandbox is worth. -/
noncomputable def Tryd.pinned : Pinned := { name := "ytfeahgcigmoijaadoor", sum := "696fc6d56ad0221e66d86ca8e06b5ca36ba772164437c808cd19d6214527a050", checked := Tryd.checked }
namespace Rows
def none {H : Type} : Left H := { results := [], args := [] }

/- WHAT THE LISTED PACKAGE-LEVEL VARIABLES READ AS WHEN THE CALL BEGINS. Each datum BY PROGRAM (the guide's laid-datum.mjs) off the statement by which the dump's own 'gosem.cut.vars' lays the variable. In a bare row this is a premise. The card (YtfeahgcigmoijaaDoorCards.lean) ties it to the program's text. -/
def laid_errors_errorType {H : Type} : DataW H := .iface "internal/reflectlite.rtype" (.agg [.ptr (.lit (.string [101, 114, 114, 111, 114]))])
def laid_caucus_sha_k {H : Type} : DataW H := .agg [.lit (.int .u32 1116352408), .lit (.int .u32 1899447441), .lit (.int .u32 3049323471), .lit (.int .u32 3921009573), .lit (.int .u32 961987163), .lit (.int .u32 1508970993), .lit (.int .u32 2453635748), .lit (.int .u32 2870763221), .lit (.int .u32 3624381080), .lit (.int .u32 310598401), .lit (.int .u32 607225278), .lit (.int .u32 1426881987), .lit (.int .u32 1925078388), .lit (.int .u32 2162078206), .lit (.int .u32 2614888103), .lit (.int .u32 3248222580), .lit (.int .u32 3835390401), .lit (.int .u32 4022224774), .lit (.int .u32 264347078), .lit (.int .u32 604807628), .lit (.int .u32 770255983), .lit (.int .u32 1249150122), .lit (.int .u32 1555081692), .lit (.int .u32 1996064986), .lit (.int .u32 2554220882), .lit (.int .u32 2821834349), .lit (.int .u32 2952996808), .lit (.int .u32 3210313671), .lit (.int .u32 3336571891), .lit (.int .u32 3584528711), .lit (.int .u32 113926993), .lit (.int .u32 338241895), .lit (.int .u32 666307205), .lit (.int .u32 773529912), .lit (.int .u32 1294757372), .lit (.int .u32 1396182291), .lit (.int .u32 1695183700), .lit (.int .u32 1986661051), .lit (.int .u32 2177026350), .lit (.int .u32 2456956037), .lit (.int .u32 2730485921), .lit (.int .u32 2820302411), .lit (.int .u32 3259730800), .lit (.int .u32 3345764771), .lit (.int .u32 3516065817), .lit (.int .u32 3600352804), .lit (.int .u32 4094571909), .lit (.int .u32 275423344), .lit (.int .u32 430227734), .lit (.int .u32 506948616), .lit (.int .u32 659060556), .lit (.int .u32 883997877), .lit (.int .u32 958139571), .lit (.int .u32 1322822218), .lit (.int .u32 1537002063), .lit (.int .u32 1747873779), .lit (.int .u32 1955562222), .lit (.int .u32 2024104815), .lit (.int .u32 2227730452), .lit (.int .u32 2361852424), .lit (.int .u32 2428436474), .lit (.int .u32 2756734187), .lit (.int .u32 3204031479), .lit (.int .u32 3329325298)]

/-- 'caucuslaw01.FpTells': WHATEVER THE INPUT: true; the input reads as it did. -/
def fpTellsSpec : ChangeSpec := { name := "fpTells", fn := fun _ => fun
  | [d1, d2] => { results := [.lit (.bool true)], args := [d1, d2] }
  | _ => none }
def fpTellsRow : OpenClaim := { program := "ytfeahgcigmoijaadoor", sum := "696fc6d56ad0221e66d86ca8e06b5ca36ba772164437c808cd19d6214527a050", func := "caucus/caucuslaw01.FpTells", spec := "fpTells", inPlace := ["internal/reflectlite.ValueOf", "(internal/reflectlite.Value).Type", "(internal/reflectlite.Value).IsNil", "internal/reflectlite.TypeOf", "(internal/reflectlite.Value).Elem", "(internal/reflectlite.Value).Set"], unfollowed := true, recurses := true, named := ["math/bits.divideError", "math/bits.overflowError", "errors.errorType"], apart := false, laid := [("errors.errorType", laid_errors_errorType)] }
def FpTellsSaid : Prop := fpTellsRow.holds Tryd.pinned (OpenSpec.ofChange fpTellsSpec)

/-- ITS FALSE NEIGHBOUR: 'it returns false'. Refute it at one input. -/
def fpTellsWrong : ChangeSpec := { name := "fpTells", fn := fun _ => fun
  | [d1, d2] => { results := [.lit (.bool false)], args := [d1, d2] }
  | _ => none }
def FpTellsWrongFalsely : Prop := fpTellsRow.holds Tryd.pinned (OpenSpec.ofChange fpTellsWrong)

/-- 'caucuslaw02.VecTells': WHATEVER THE INPUT: true; the input reads as it did. -/
def vecTellsSpec : ChangeSpec := { name := "vecTells", fn := fun _ => fun
  | [d1, d2, d3] => { results := [.lit (.bool true)], args := [d1, d2, d3] }
  | _ => none }
def vecTellsRow : OpenClaim := { program := "ytfeahgcigmoijaadoor", sum := "696fc6d56ad0221e66d86ca8e06b5ca36ba772164437c808cd19d6214527a050", func := "caucus/caucuslaw02.VecTells", spec := "vecTells", inPlace := ["internal/reflectlite.ValueOf", "(internal/reflectlite.Value).Type", "(internal/reflectlite.Value).IsNil", "internal/reflectlite.TypeOf", "(internal/reflectlite.Value).Elem", "(internal/reflectlite.Value).Set"], unfollowed := true, recurses := true, named := ["errors.errorType"], apart := false, laid := [("errors.errorType", laid_errors_errorType)] }
def VecTellsSaid : Prop := vecTellsRow.holds Tryd.pinned (OpenSpec.ofChange vecTellsSpec)

/-- ITS FALSE NEIGHBOUR: 'it returns false'. Refute it at one input. -/
def vecTellsWrong : ChangeSpec := { name := "vecTells", fn := fun _ => fun
  | [d1, d2, d3] => { results := [.lit (.bool false)], args := [d1, d2, d3] }
  | _ => none }
def VecTellsWrongFalsely : Prop := vecTellsRow.holds Tryd.pinned (OpenSpec.ofChange vecTellsWrong)

/-- 'caucuslaw02.VecSums': WHATEVER THE INPUT: true; the input reads as it did. -/
def vecSumsSpec : ChangeSpec := { name := "vecSums", fn := fun _ => fun
  | [d1, d2] => { results := [.lit (.bool true)], args := [d1, d2] }
  | _ => none }
def vecSumsRow : OpenClaim := { program := "ytfeahgcigmoijaadoor", sum := "696fc6d56ad0221e66d86ca8e06b5ca36ba772164437c808cd19d6214527a050", func := "caucus/caucuslaw02.VecSums", spec := "vecSums", inPlace := ["internal/reflectlite.ValueOf", "(internal/reflectlite.Value).Type", "(internal/reflectlite.Value).IsNil", "internal/reflectlite.TypeOf", "(internal/reflectlite.Value).Elem", "(internal/reflectlite.Value).Set"], unfollowed := true, recurses := true, named := ["errors.errorType"], apart := false, laid := [("errors.errorType", laid_errors_errorType)] }
def VecSumsSaid : Prop := vecSumsRow.holds Tryd.pinned (OpenSpec.ofChange vecSumsSpec)

/-- ITS FALSE NEIGHBOUR: 'it returns false'. Refute it at one input. -/
def vecSumsWrong : ChangeSpec := { name := "vecSums", fn := fun _ => fun
  | [d1, d2] => { results := [.lit (.bool false)], args := [d1, d2] }
  | _ => none }
def VecSumsWrongFalsely : Prop := vecSumsRow.holds Tryd.pinned (OpenSpec.ofChange vecSumsWrong)

/-- 'caucuslaw05.ShaTexts': WHATEVER THE INPUT: true; the input reads as it did. -/
def shaTextsSpec : ChangeSpec := { name := "shaTexts", fn := fun _ => fun
  | [d1, d2, d3] => { results := [.lit (.bool true)], args := [d1, d2, d3] }
  | _ => none }
def shaTextsRow : OpenClaim := { program := "ytfeahgcigmoijaadoor", sum := "696fc6d56ad0221e66d86ca8e06b5ca36ba772164437c808cd19d6214527a050", func := "caucus/caucuslaw05.ShaTexts", spec := "shaTexts", inPlace := ["internal/bytealg.IndexByteString", "internal/reflectlite.ValueOf", "(internal/reflectlite.Value).Type", "(internal/reflectlite.Value).IsNil", "internal/reflectlite.TypeOf", "(internal/reflectlite.Value).Elem", "(internal/reflectlite.Value).Set"], unfollowed := true, recurses := true, named := ["caucus/sha.k", "errors.errorType"], apart := false, laid := [("errors.errorType", laid_errors_errorType), ("caucus/sha.k", laid_caucus_sha_k)] }
def ShaTextsSaid : Prop := shaTextsRow.holds Tryd.pinned (OpenSpec.ofChange shaTextsSpec)

/-- ITS FALSE NEIGHBOUR: 'it returns false'. Refute it at one input. -/
def shaTextsWrong : ChangeSpec := { name := "shaTexts", fn := fun _ => fun
  | [d1, d2, d3] => { results := [.lit (.bool false)], args := [d1, d2, d3] }
  | _ => none }
def ShaTextsWrongFalsely : Prop := shaTextsRow.holds Tryd.pinned (OpenSpec.ofChange shaTextsWrong)

/-- 'caucuslaw06.MacSums': WHATEVER THE INPUT: true; the input reads as it did. -/
def macSumsSpec : ChangeSpec := { name := "macSums", fn := fun _ => fun
  | [d1, d2, d3] => { results := [.lit (.bool true)], args := [d1, d2, d3] }
  | _ => none }
def macSumsRow : OpenClaim := { program := "ytfeahgcigmoijaadoor", sum := "696fc6d56ad0221e66d86ca8e06b5ca36ba772164437c808cd19d6214527a050", func := "caucus/caucuslaw06.MacSums", spec := "macSums", unfollowed := true, recurses := true, named := ["caucus/sha.k"], apart := false, laid := [("caucus/sha.k", laid_caucus_sha_k)] }
def MacSumsSaid : Prop := macSumsRow.holds Tryd.pinned (OpenSpec.ofChange macSumsSpec)

/-- ITS FALSE NEIGHBOUR: 'it returns false'. Refute it at one input. -/
def macSumsWrong : ChangeSpec := { name := "macSums", fn := fun _ => fun
  | [d1, d2, d3] => { results := [.lit (.bool false)], args := [d1, d2, d3] }
  | _ => none }
def MacSumsWrongFalsely : Prop := macSumsRow.holds Tryd.pinned (OpenSpec.ofChange macSumsWrong)

/-- 'caucuslaw07.PrgNums': WHATEVER THE INPUT: true; the input reads as it did. -/
def prgNumsSpec : ChangeSpec := { name := "prgNums", fn := fun _ => fun
  | [d1, d2, d3] => { results := [.lit (.bool true)], args := [d1, d2, d3] }
  | _ => none }
def prgNumsRow : OpenClaim := { program := "ytfeahgcigmoijaadoor", sum := "696fc6d56ad0221e66d86ca8e06b5ca36ba772164437c808cd19d6214527a050", func := "caucus/caucuslaw07.PrgNums", spec := "prgNums", inPlace := ["internal/reflectlite.ValueOf", "(internal/reflectlite.Value).Type", "(internal/reflectlite.Value).IsNil", "internal/reflectlite.TypeOf", "(internal/reflectlite.Value).Elem", "(internal/reflectlite.Value).Set"], unfollowed := true, recurses := true, named := ["caucus/sha.k", "errors.errorType"], apart := false, laid := [("errors.errorType", laid_errors_errorType), ("caucus/sha.k", laid_caucus_sha_k)] }
def PrgNumsSaid : Prop := prgNumsRow.holds Tryd.pinned (OpenSpec.ofChange prgNumsSpec)

/-- ITS FALSE NEIGHBOUR: 'it returns false'. Refute it at one input. -/
def prgNumsWrong : ChangeSpec := { name := "prgNums", fn := fun _ => fun
  | [d1, d2, d3] => { results := [.lit (.bool false)], args := [d1, d2, d3] }
  | _ => none }
def PrgNumsWrongFalsely : Prop := prgNumsRow.holds Tryd.pinned (OpenSpec.ofChange prgNumsWrong)

/-- 'caucuslaw09.PairTells': WHATEVER THE INPUT: true; the input reads as it did. -/
def pairTellsSpec : ChangeSpec := { name := "pairTells", fn := fun _ => fun
  | [d1, d2] => { results := [.lit (.bool true)], args := [d1, d2] }
  | _ => none }
def pairTellsRow : OpenClaim := { program := "ytfeahgcigmoijaadoor", sum := "696fc6d56ad0221e66d86ca8e06b5ca36ba772164437c808cd19d6214527a050", func := "caucus/caucuslaw09.PairTells", spec := "pairTells", inPlace := ["internal/reflectlite.ValueOf", "(internal/reflectlite.Value).Type", "(internal/reflectlite.Value).IsNil", "internal/reflectlite.TypeOf", "(internal/reflectlite.Value).Elem", "(internal/reflectlite.Value).Set"], unfollowed := true, recurses := true, named := ["math/bits.divideError", "math/bits.overflowError", "caucus/sha.k", "errors.errorType"], apart := false, laid := [("errors.errorType", laid_errors_errorType), ("caucus/sha.k", laid_caucus_sha_k)] }
def PairTellsSaid : Prop := pairTellsRow.holds Tryd.pinned (OpenSpec.ofChange pairTellsSpec)

/-- ITS FALSE NEIGHBOUR: 'it returns false'. Refute it at one input. -/
def pairTellsWrong : ChangeSpec := { name := "pairTells", fn := fun _ => fun
  | [d1, d2] => { results := [.lit (.bool false)], args := [d1, d2] }
  | _ => none }
def PairTellsWrongFalsely : Prop := pairTellsRow.holds Tryd.pinned (OpenSpec.ofChange pairTellsWrong)

/-- 'caucuslaw10.BlindSums': WHATEVER THE INPUT: true; the input reads as it did. -/
def blindSumsSpec : ChangeSpec := { name := "blindSums", fn := fun _ => fun
  | [d] => { results := [.lit (.bool true)], args := [d] }
  | _ => none }
def blindSumsRow : OpenClaim := { program := "ytfeahgcigmoijaadoor", sum := "696fc6d56ad0221e66d86ca8e06b5ca36ba772164437c808cd19d6214527a050", func := "caucus/caucuslaw10.BlindSums", spec := "blindSums", inPlace := ["internal/reflectlite.ValueOf", "(internal/reflectlite.Value).Type", "(internal/reflectlite.Value).IsNil", "internal/reflectlite.TypeOf", "(internal/reflectlite.Value).Elem", "(internal/reflectlite.Value).Set"], unfollowed := true, recurses := true, named := ["math/bits.divideError", "math/bits.overflowError", "caucus/sha.k", "errors.errorType"], apart := false, laid := [("errors.errorType", laid_errors_errorType), ("caucus/sha.k", laid_caucus_sha_k)] }
def BlindSumsSaid : Prop := blindSumsRow.holds Tryd.pinned (OpenSpec.ofChange blindSumsSpec)

/-- ITS FALSE NEIGHBOUR: 'it returns false'. Refute it at one input. -/
def blindSumsWrong : ChangeSpec := { name := "blindSums", fn := fun _ => fun
  | [d] => { results := [.lit (.bool false)], args := [d] }
  | _ => none }
def BlindSumsWrongFalsely : Prop := blindSumsRow.holds Tryd.pinned (OpenSpec.ofChange blindSumsWrong)

/-- 'caucuslaw10.BlindMoves': WHATEVER THE INPUT: true; the input reads as it did. -/
def blindMovesSpec : ChangeSpec := { name := "blindMoves", fn := fun _ => fun
  | [d1, d2, d3] => { results := [.lit (.bool true)], args := [d1, d2, d3] }
  | _ => none }
def blindMovesRow : OpenClaim := { program := "ytfeahgcigmoijaadoor", sum := "696fc6d56ad0221e66d86ca8e06b5ca36ba772164437c808cd19d6214527a050", func := "caucus/caucuslaw10.BlindMoves", spec := "blindMoves", inPlace := ["internal/reflectlite.ValueOf", "(internal/reflectlite.Value).Type", "(internal/reflectlite.Value).IsNil", "internal/reflectlite.TypeOf", "(internal/reflectlite.Value).Elem", "(internal/reflectlite.Value).Set"], unfollowed := true, recurses := true, named := ["math/bits.divideError", "math/bits.overflowError", "caucus/sha.k", "errors.errorType"], apart := false, laid := [("errors.errorType", laid_errors_errorType), ("caucus/sha.k", laid_caucus_sha_k)] }
def BlindMovesSaid : Prop := blindMovesRow.holds Tryd.pinned (OpenSpec.ofChange blindMovesSpec)

/-- ITS FALSE NEIGHBOUR: 'it returns false'. Refute it at one input. -/
def blindMovesWrong : ChangeSpec := { name := "blindMoves", fn := fun _ => fun
  | [d1, d2, d3] => { results := [.lit (.bool false)], args := [d1, d2, d3] }
  | _ => none }
def BlindMovesWrongFalsely : Prop := blindMovesRow.holds Tryd.pinned (OpenSpec.ofChange blindMovesWrong)

/- THE SECOND FORM. 'bulk': how many values and letters a reading holds, each counted each time it is reached (what is shared counts as often as it is met; a slice's spare places count too). A statement '..UptoSaid' is the law's where the arguments, and the package variables that the reading takes, are together of bulk at most 1048576: NARROWER than '..Said'. Prove '..Said' where nothing that the law and all that it calls make is longer than what came in: it says more and counts as full. Else prove '..UptoSaid'. A law counts once. -/
mutual
def uptoBulk {H : Type} : DataW H → Nat
  | .lit (.string bytes) => bytes.length + 1
  | .lit _ => 1
  | .nil => 1
  | .ptr d => uptoBulk d + 1
  | .slice elems spare => uptoBulkAll elems + uptoBulkAll spare + 1
  | .agg parts => uptoBulkAll parts + 1
  | .iface _ d => uptoBulk d + 1
  | .map entries => uptoBulkEntries entries + 1
  | .held _ => 1
def uptoBulkAll {H : Type} : List (DataW H) → Nat
  | [] => 0
  | d :: r => uptoBulk d + uptoBulkAll r
def uptoBulkEntries {H : Type} : List (Lit × DataW H) → Nat
  | [] => 0
  | x :: r => uptoBulkEntry x + uptoBulkEntries r
def uptoBulkEntry {H : Type} : Lit × DataW H → Nat
  | (.string bytes, d) => bytes.length + uptoBulk d + 1
  | (_, d) => uptoBulk d + 1
 end
def uptoSmall : (H : Type) → List (DataW H) → Bool := fun _ ds => decide (uptoBulkAll ds ≤ 1048576)
def OpenSpec.upto (s : _root_.Go.ChangeSpec) : _root_.Go.OpenSpec := { _root_.Go.OpenSpec.ofChange s with cond := some uptoSmall }

/-- 'caucuslaw01.FpTells', WHERE WHAT IT READS IS OF BULK AT MOST 1048576: true; the input reads as it did. -/
def fpTellsUptoRow : OpenClaim := { program := "ytfeahgcigmoijaadoor", sum := "696fc6d56ad0221e66d86ca8e06b5ca36ba772164437c808cd19d6214527a050", func := "caucus/caucuslaw01.FpTells", spec := "fpTells", inPlace := ["internal/reflectlite.ValueOf", "(internal/reflectlite.Value).Type", "(internal/reflectlite.Value).IsNil", "internal/reflectlite.TypeOf", "(internal/reflectlite.Value).Elem", "(internal/reflectlite.Value).Set"], unfollowed := true, recurses := true, named := ["math/bits.divideError", "math/bits.overflowError", "errors.errorType"], apart := false, laid := [("errors.errorType", laid_errors_errorType)], narrowed := true }
def FpTellsUptoSaid : Prop := fpTellsUptoRow.holds Tryd.pinned (OpenSpec.upto fpTellsSpec)

/-- 'caucuslaw02.VecTells', WHERE WHAT IT READS IS OF BULK AT MOST 1048576: true; the input reads as it did. -/
def vecTellsUptoRow : OpenClaim := { program := "ytfeahgcigmoijaadoor", sum := "696fc6d56ad0221e66d86ca8e06b5ca36ba772164437c808cd19d6214527a050", func := "caucus/caucuslaw02.VecTells", spec := "vecTells", inPlace := ["internal/reflectlite.ValueOf", "(internal/reflectlite.Value).Type", "(internal/reflectlite.Value).IsNil", "internal/reflectlite.TypeOf", "(internal/reflectlite.Value).Elem", "(internal/reflectlite.Value).Set"], unfollowed := true, recurses := true, named := ["errors.errorType"], apart := false, laid := [("errors.errorType", laid_errors_errorType)], narrowed := true }
def VecTellsUptoSaid : Prop := vecTellsUptoRow.holds Tryd.pinned (OpenSpec.upto vecTellsSpec)

/-- 'caucuslaw02.VecSums', WHERE WHAT IT READS IS OF BULK AT MOST 1048576: true; the input reads as it did. -/
def vecSumsUptoRow : OpenClaim := { program := "ytfeahgcigmoijaadoor", sum := "696fc6d56ad0221e66d86ca8e06b5ca36ba772164437c808cd19d6214527a050", func := "caucus/caucuslaw02.VecSums", spec := "vecSums", inPlace := ["internal/reflectlite.ValueOf", "(internal/reflectlite.Value).Type", "(internal/reflectlite.Value).IsNil", "internal/reflectlite.TypeOf", "(internal/reflectlite.Value).Elem", "(internal/reflectlite.Value).Set"], unfollowed := true, recurses := true, named := ["errors.errorType"], apart := false, laid := [("errors.errorType", laid_errors_errorType)], narrowed := true }
def VecSumsUptoSaid : Prop := vecSumsUptoRow.holds Tryd.pinned (OpenSpec.upto vecSumsSpec)

/-- 'caucuslaw05.ShaTexts', WHERE WHAT IT READS IS OF BULK AT MOST 1048576: true; the input reads as it did. -/
def shaTextsUptoRow : OpenClaim := { program := "ytfeahgcigmoijaadoor", sum := "696fc6d56ad0221e66d86ca8e06b5ca36ba772164437c808cd19d6214527a050", func := "caucus/caucuslaw05.ShaTexts", spec := "shaTexts", inPlace := ["internal/bytealg.IndexByteString", "internal/reflectlite.ValueOf", "(internal/reflectlite.Value).Type", "(internal/reflectlite.Value).IsNil", "internal/reflectlite.TypeOf", "(internal/reflectlite.Value).Elem", "(internal/reflectlite.Value).Set"], unfollowed := true, recurses := true, named := ["caucus/sha.k", "errors.errorType"], apart := false, laid := [("errors.errorType", laid_errors_errorType), ("caucus/sha.k", laid_caucus_sha_k)], narrowed := true }
def ShaTextsUptoSaid : Prop := shaTextsUptoRow.holds Tryd.pinned (OpenSpec.upto shaTextsSpec)

/-- 'caucuslaw06.MacSums', WHERE WHAT IT READS IS OF BULK AT MOST 1048576: true; the input reads as it did. -/
def macSumsUptoRow : OpenClaim := { program := "ytfeahgcigmoijaadoor", sum := "696fc6d56ad0221e66d86ca8e06b5ca36ba772164437c808cd19d6214527a050", func := "caucus/caucuslaw06.MacSums", spec := "macSums", unfollowed := true, recurses := true, named := ["caucus/sha.k"], apart := false, laid := [("caucus/sha.k", laid_caucus_sha_k)], narrowed := true }
def MacSumsUptoSaid : Prop := macSumsUptoRow.holds Tryd.pinned (OpenSpec.upto macSumsSpec)

/-- 'caucuslaw07.PrgNums', WHERE WHAT IT READS IS OF BULK AT MOST 1048576: true; the input reads as it did. -/
def prgNumsUptoRow : OpenClaim := { program := "ytfeahgcigmoijaadoor", sum := "696fc6d56ad0221e66d86ca8e06b5ca36ba772164437c808cd19d6214527a050", func := "caucus/caucuslaw07.PrgNums", spec := "prgNums", inPlace := ["internal/reflectlite.ValueOf", "(internal/reflectlite.Value).Type", "(internal/reflectlite.Value).IsNil", "internal/reflectlite.TypeOf", "(internal/reflectlite.Value).Elem", "(internal/reflectlite.Value).Set"], unfollowed := true, recurses := true, named := ["caucus/sha.k", "errors.errorType"], apart := false, laid := [("errors.errorType", laid_errors_errorType), ("caucus/sha.k", laid_caucus_sha_k)], narrowed := true }
def PrgNumsUptoSaid : Prop := prgNumsUptoRow.holds Tryd.pinned (OpenSpec.upto prgNumsSpec)

/-- 'caucuslaw09.PairTells', WHERE WHAT IT READS IS OF BULK AT MOST 1048576: true; the input reads as it did. -/
def pairTellsUptoRow : OpenClaim := { program := "ytfeahgcigmoijaadoor", sum := "696fc6d56ad0221e66d86ca8e06b5ca36ba772164437c808cd19d6214527a050", func := "caucus/caucuslaw09.PairTells", spec := "pairTells", inPlace := ["internal/reflectlite.ValueOf", "(internal/reflectlite.Value).Type", "(internal/reflectlite.Value).IsNil", "internal/reflectlite.TypeOf", "(internal/reflectlite.Value).Elem", "(internal/reflectlite.Value).Set"], unfollowed := true, recurses := true, named := ["math/bits.divideError", "math/bits.overflowError", "caucus/sha.k", "errors.errorType"], apart := false, laid := [("errors.errorType", laid_errors_errorType), ("caucus/sha.k", laid_caucus_sha_k)], narrowed := true }
def PairTellsUptoSaid : Prop := pairTellsUptoRow.holds Tryd.pinned (OpenSpec.upto pairTellsSpec)

/-- 'caucuslaw10.BlindSums', WHERE WHAT IT READS IS OF BULK AT MOST 1048576: true; the input reads as it did. -/
def blindSumsUptoRow : OpenClaim := { program := "ytfeahgcigmoijaadoor", sum := "696fc6d56ad0221e66d86ca8e06b5ca36ba772164437c808cd19d6214527a050", func := "caucus/caucuslaw10.BlindSums", spec := "blindSums", inPlace := ["internal/reflectlite.ValueOf", "(internal/reflectlite.Value).Type", "(internal/reflectlite.Value).IsNil", "internal/reflectlite.TypeOf", "(internal/reflectlite.Value).Elem", "(internal/reflectlite.Value).Set"], unfollowed := true, recurses := true, named := ["math/bits.divideError", "math/bits.overflowError", "caucus/sha.k", "errors.errorType"], apart := false, laid := [("errors.errorType", laid_errors_errorType), ("caucus/sha.k", laid_caucus_sha_k)], narrowed := true }
def BlindSumsUptoSaid : Prop := blindSumsUptoRow.holds Tryd.pinned (OpenSpec.upto blindSumsSpec)

/-- 'caucuslaw10.BlindMoves', WHERE WHAT IT READS IS OF BULK AT MOST 1048576: true; the input reads as it did. -/
def blindMovesUptoRow : OpenClaim := { program := "ytfeahgcigmoijaadoor", sum := "696fc6d56ad0221e66d86ca8e06b5ca36ba772164437c808cd19d6214527a050", func := "caucus/caucuslaw10.BlindMoves", spec := "blindMoves", inPlace := ["internal/reflectlite.ValueOf", "(internal/reflectlite.Value).Type", "(internal/reflectlite.Value).IsNil", "internal/reflectlite.TypeOf", "(internal/reflectlite.Value).Elem", "(internal/reflectlite.Value).Set"], unfollowed := true, recurses := true, named := ["math/bits.divideError", "math/bits.overflowError", "caucus/sha.k", "errors.errorType"], apart := false, laid := [("errors.errorType", laid_errors_errorType), ("caucus/sha.k", laid_caucus_sha_k)], narrowed := true }
def BlindMovesUptoSaid : Prop := blindMovesUptoRow.holds Tryd.pinned (OpenSpec.upto blindMovesSpec)

end Rows
end Go.Proofs.YtfeahgcigmoijaaDoor
