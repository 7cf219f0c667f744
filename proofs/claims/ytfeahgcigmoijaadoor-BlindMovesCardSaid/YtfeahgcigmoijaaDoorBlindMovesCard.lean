/- BlindMoves answers true at every input, and its arguments stay. The listed package-level variables are tied to the program's text by the given tie. -/
import Derived.Test.YtfeahgcigmoijaaDoorRows
import Derived.Test.YtfeahgcigmoijaaDoorLaidS
import Derived.Test.YtfeahgcigmoijaaDoorLawBlindMoves
import Derived.Test.YtfeahgcigmoijaaDoorPkA
import Derived.Test.YtfeahgcigmoijaaDoorOpenD
import Derived.Test.YtfeahgcigmoijaaDoorCards
import Derived.Test.YtfeahgcigmoijaaDoorTie
import Derived.SevenTiedAt
import Derived.ProofKit
import Derived.SizedLaws
import Derived.LaidMore
import Derived.OpenShut
import Derived.Stop.Joined
import Derived.Carry
import Derived.ChangeOld
namespace Go.Proofs.YtfeahgcigmoijaaDoor.lawBlindMoves
open Go.ChangeShapes Go.WideShapes Go.ChangeAt Go.RowKit Go.Lib
theorem own : ownKnob Tryd.prog.godebug = none := by kernel_rfl
theorem laidOut : laidOutB Tryd.prog = true := by kernel_rfl
set_option maxRecDepth 100000 in
theorem lifted (os : Os) (started : os.Started) (H : Type) (enc : TypeId × Value → H) :
    ReturnsInHanded {} Tryd.checked os 11 .any (fun w args => (Rows.blindMovesSpec.pre enc Tryd.prog Tryd.f11 [] false w args ∧ laidMetH Tryd.prog [("errors.errorType", Rows.laid_errors_errorType), ("caucus/sha.k", Rows.laid_caucus_sha_k)] w) ∧ sizedMet enc Tryd.prog Tryd.f11 (OpenSpec.ofChange Rows.blindMovesSpec) false w args)
      (Rows.blindMovesSpec.post enc Tryd.prog Tryd.f11 false true false false) := by
  refine returnsInHanded_of_change_and (C := Tryd.checked) (X := fun w _ => laidMetH Tryd.prog [("errors.errorType", Rows.laid_errors_errorType), ("caucus/sha.k", Rows.laid_caucus_sha_k)] w) (fun _ _ _ hh h => h.of_heap hh) own started (by kernel_rfl) Tryd.func11
    (ChangeSpec.witness_shaped (enc := enc) (C := Tryd.checked) (os := os) (X := fun w _ => laidMetH Tryd.prog [("errors.errorType", Rows.laid_errors_errorType), ("caucus/sha.k", Rows.laid_caucus_sha_k)] w) false (World.doorLaid Tryd.prog 400 os) #[.agg #[.int .u32 0, .int .u32 0, .int .u32 0], .agg #[.int .u32 0, .int .u32 0, .int .u32 0], .agg #[.int .i64 0, .slice none 0 0, .int .u64 0, .int .u64 0, .slice none 0 0, .slice none 0 0, .slice none 0 0, .int .i64 0]] 8 rfl (World.shaped_of_RefB (by kernel_rfl) (by kernel_rfl)) (by kernel_rfl) (by kernel_rfl) (by kernel_rfl) (LaidX.door_met os _)) ?_
  intro W base args ds gs before hval0 hW _ _ hL _
  have hval : ∀ (j : Nat) t v, Tryd.f11.params[j]? = some t → args[j]? = some v → Value.okWide Tryd.prog W .any base t v := hval0
  have hW' := hW
  obtain ⟨p, q, hA0, hV, rfl, hfz, hnd⟩ := hW
  have hA : DataW.TrodAll enc Tryd.prog W 0 (fun _ => true) true Tryd.f11.params.toList args.toList ds p := hA0
  have hlt : ∀ x ∈ p, x.block < W.heap.size := DataW.TrodAll.lt hA
  rw [Tryd.params11] at hA hval
  obtain ⟨v0, vs0, d0, ds0, p0, q0, hargs, rfl, rfl, h0, r0⟩ := trodAll_cons hA
  obtain ⟨v1, vs1, d1, ds1, p1, q1, rfl, rfl, rfl, h1, r1⟩ := trodAll_cons r0
  obtain ⟨v2, vs2, d2, ds2, p2, q2, rfl, rfl, rfl, h2, r2⟩ := trodAll_cons r1
  obtain ⟨rfl, rfl, rfl⟩ := trodAll_nil r2
  obtain rfl : args = #[v0, v1, v2] := by cases args; simp_all
  obtain ⟨rfl, rfl⟩ := trodVars_none hV
  have k0 : ∀ W' : World, Below W.heap.size W W' → DataW.Trod enc Tryd.prog W' 0 (fun b => decide (b < W.heap.size)) true 89 v0 d0 p0 := fun _ hb => hb.trod laidOut (by kernel_rfl) (by decide +kernel) h0 (fun x hx => hlt x (by simp [hx]))
  have k1 : ∀ W' : World, Below W.heap.size W W' → DataW.Trod enc Tryd.prog W' 0 (fun b => decide (b < W.heap.size)) true 89 v1 d1 p1 := fun _ hb => hb.trod laidOut (by kernel_rfl) (by decide +kernel) h1 (fun x hx => hlt x (by simp [hx]))
  have k2 : ∀ W' : World, Below W.heap.size W W' → DataW.Trod enc Tryd.prog W' 0 (fun b => decide (b < W.heap.size)) true 92 v2 d2 p2 := fun _ hb => hb.trod laidOut (by kernel_rfl) (by decide +kernel) h2 (fun x hx => hlt x (by simp [hx]))
  obtain ⟨xs0, hl0, rfl, hb0⟩ := Opn.arrV Tryd.underlying89 Tryd.underlying34 (by kernel_rfl) (by kernel_rfl) (hval 0 89 v0 rfl rfl) h0
  have bd0 : ∀ z ∈ xs0, 0 ≤ z ∧ z < 4294967296 := fun z hz => by have := bounds_u32 (hb0 z hz); omega
  obtain ⟨xs1, hl1, rfl, hb1⟩ := Opn.arrV Tryd.underlying89 Tryd.underlying34 (by kernel_rfl) (by kernel_rfl) (hval 1 89 v1 rfl rfl) h1
  have bd1 : ∀ z ∈ xs1, 0 ≤ z ∧ z < 4294967296 := fun z hz => by have := bounds_u32 (hb1 z hz); omega
  obtain ⟨me2, A1_2, n1_2, c1_2, xs_2, s_2, k_2, A2_2, n2_2, c2_2, cm_2, A3_2, n3_2, c3_2, si_2, sv_2, A4_2, n4_2, c4_2, ki_2, kv_2, dim2, rfl, w0_2, w2_2, w3_2, w7_2, q1_2, q2_2, q3_2, q4_2⟩ := Opn.ask8 Tryd.underlying92 Tryd.underlying3 Tryd.underlying33 Tryd.underlying34 Tryd.underlying22 Tryd.underlying22 Tryd.underlying79 Tryd.underlying3 Tryd.underlying90 Tryd.underlying191 Tryd.underlying3 Tryd.underlying22 Tryd.underlying90 Tryd.underlying3 (by kernel_rfl) (by kernel_rfl) (by kernel_rfl) (by kernel_rfl) (by kernel_rfl) (by kernel_rfl) (hval 2 92 v2 rfl rfl) h2
  have bm_2 := bounds_i64 w0_2
  have bs_2 := bounds_u64 w2_2
  have bk_2 := bounds_u64 w3_2
  have bd_2 := bounds_i64 w7_2
  clear hA0 hval0
  simp only [List.append_nil] at hW'
  refine (LawBlindMoves.walk xs0 xs1 me2 A1_2 n1_2 c1_2 xs_2 s_2 k_2 A2_2 n2_2 c2_2 cm_2 A3_2 n3_2 c3_2 si_2 sv_2 A4_2 n4_2 c4_2 ki_2 kv_2 dim2 W hl0 bd0 hl1 bd1 bm_2 bs_2 bk_2 bd_2 q1_2 q2_2 q3_2 q4_2 (LaidX.of_laid hL)).mono fun e W' ⟨he, hs⟩ => ?_
  have hb := hs.h
  subst he
  exact ⟨_, rfl, _, _, _, [], _, [], hW', trodAll_cons_mk (shut_bool Tryd.underlying4 _) trodAll_mk0, (trodAll_cons_mk (k0 _ hb) (trodAll_cons_mk (k1 _ hb) (trodAll_cons_mk (k2 _ hb) trodAll_mk0))), rfl, hb.frame _, fun h => by cases h⟩

theorem row_holds : Rows.BlindMovesSaid :=
  OpenClaim.holds_of_wide 11 Tryd.f11 rfl rfl rfl rfl rfl rfl rfl ⟨rfl, rfl, rfl, rfl, rfl⟩ rfl rfl rfl rfl rfl (by kernel_rfl) Tryd.func11 (by kernel_rfl)
    (of_decide_eq_true (by kernel_rfl)) (by unfold Func.isWrapper; first | (rw [if_pos (by decide +kernel)]; kernel_rfl) | (rw [if_neg (by decide +kernel)]; exact ⟨rfl, rfl⟩))
    (fun os started H enc _ => lifted os started H enc)

/-- The tied card. -/
theorem proved : Rows.BlindMovesCardSaid :=
  Claim7.holds_tied_plain_at .later [] [.handle, .data] true (true, "503d0a26f0332ebf44e14d5bd2eadfcf6a8677c4f2154808445036640990fddb") true
    row_holds (fun _ h => by cases h) (by kernel_rfl) (fun _ h => by cases h) blindMoves_row_tie rfl ⟨rfl, rfl⟩ (by kernel_rfl) rfl
    (fun f fn hf hfn => by
      obtain rfl : f = 11 := Option.some.inj ((show Tryd.prog.funcNamed "caucus/caucuslaw10.BlindMoves" = some 11 by kernel_rfl).symm.trans hf) |>.symm
      obtain rfl : fn = Tryd.f11 := (Option.some.inj (Tryd.func11.symm.trans hfn)).symm
      exact ⟨by kernel_rfl, fun j t ht => by
        rw [Tryd.params11] at ht
        have hm : t ∈ [89, 89, 92] := by simpa using Array.mem_of_getElem? ht
        have hall : ([89, 89, 92].all fun u => !Tryd.prog.wantsStandIn u) = true := by kernel_rfl
        exact (show Tryd.prog.wantsStandIn t = false by simpa using List.all_eq_true.1 hall t hm)⟩)
    (by kernel_rfl)
#print axioms proved
end Go.Proofs.YtfeahgcigmoijaaDoor.lawBlindMoves
