/- BlindTells answers true at every input, and its arguments stay. The listed package-level variables are tied to the program's text by the given tie. -/
import Derived.Test.YtfeahgcigmoijaaGreatDoorRows
import Derived.Test.YtfeahgcigmoijaaGreatDoorLaidS
import Derived.Test.YtfeahgcigmoijaaGreatDoorLawBlindTellsW
import Derived.Test.YtfeahgcigmoijaaGreatDoorPkA
import Derived.Test.YtfeahgcigmoijaaGreatDoorOpenD
import Derived.Test.YtfeahgcigmoijaaGreatDoorCards
import Derived.Test.YtfeahgcigmoijaaGreatDoorTie
import Derived.SevenTiedAt
import Derived.ProofKit
import Derived.SizedLaws
import Derived.LaidMore
import Derived.OpenShut
import Derived.Stop.Joined
import Derived.Carry
import Derived.ChangeOld
namespace Go.Proofs.YtfeahgcigmoijaaGreatDoor.lawBlindTells
open Go.ChangeShapes Go.WideShapes Go.ChangeAt Go.RowKit Go.Lib
theorem own : ownKnob Tryz.prog.godebug = none := by kernel_rfl
theorem laidOut : laidOutB Tryz.prog = true := by kernel_rfl
set_option maxRecDepth 100000 in
theorem lifted (os : Os) (started : os.Started) (H : Type) (enc : TypeId × Value → H) :
    ReturnsInHanded {} Tryz.checked os 3 .any (fun w args => (Rows.blindTellsSpec.pre enc Tryz.prog Tryz.f3 [] false w args ∧ laidMetH Tryz.prog [("errors.errorType", Rows.laid_errors_errorType), ("caucus/sha.k", Rows.laid_caucus_sha_k)] w) ∧ sizedMet enc Tryz.prog Tryz.f3 (OpenSpec.ofChange Rows.blindTellsSpec) false w args)
      (Rows.blindTellsSpec.post enc Tryz.prog Tryz.f3 false true false false) := by
  refine returnsInHanded_of_change_and (C := Tryz.checked) (X := fun w _ => laidMetH Tryz.prog [("errors.errorType", Rows.laid_errors_errorType), ("caucus/sha.k", Rows.laid_caucus_sha_k)] w) (fun _ _ _ hh h => h.of_heap hh) own started (by kernel_rfl) Tryz.func3
    (ChangeSpec.witness_shaped (enc := enc) (C := Tryz.checked) (os := os) (X := fun w _ => laidMetH Tryz.prog [("errors.errorType", Rows.laid_errors_errorType), ("caucus/sha.k", Rows.laid_caucus_sha_k)] w) false (World.doorLaid Tryz.prog 400 os) #[.agg #[.int .i64 0, .slice none 0 0, .int .u64 0, .int .u64 0, .slice none 0 0, .slice none 0 0, .slice none 0 0, .int .i64 0], .slice none 0 0] 8 rfl (World.shaped_of_RefB (by kernel_rfl) (by kernel_rfl)) (by kernel_rfl) (by kernel_rfl) (by kernel_rfl) (LaidX.door_met os _)) ?_
  intro W base args ds gs before hval0 hW _ _ hL _
  have hval : ∀ (j : Nat) t v, Tryz.f3.params[j]? = some t → args[j]? = some v → Value.okWide Tryz.prog W .any base t v := hval0
  have hW' := hW
  obtain ⟨p, q, hA0, hV, rfl, hfz, hnd⟩ := hW
  have hA : DataW.TrodAll enc Tryz.prog W 0 (fun _ => true) true Tryz.f3.params.toList args.toList ds p := hA0
  have hlt : ∀ x ∈ p, x.block < W.heap.size := DataW.TrodAll.lt hA
  rw [Tryz.params3] at hA hval
  obtain ⟨v0, vs0, d0, ds0, p0, q0, hargs, rfl, rfl, h0, r0⟩ := trodAll_cons hA
  obtain ⟨v1, vs1, d1, ds1, p1, q1, rfl, rfl, rfl, h1, r1⟩ := trodAll_cons r0
  obtain ⟨rfl, rfl, rfl⟩ := trodAll_nil r1
  obtain rfl : args = #[v0, v1] := by cases args; simp_all
  obtain ⟨rfl, rfl⟩ := trodVars_none hV
  have k0 : ∀ W' : World, Below W.heap.size W W' → DataW.Trod enc Tryz.prog W' 0 (fun b => decide (b < W.heap.size)) true 27 v0 d0 p0 := fun _ hb => hb.trod laidOut (by kernel_rfl) (by decide +kernel) h0 (fun x hx => hlt x (by simp [hx]))
  have k1 : ∀ W' : World, Below W.heap.size W W' → DataW.Trod enc Tryz.prog W' 0 (fun b => decide (b < W.heap.size)) true 28 v1 d1 p1 := fun _ hb => hb.trod laidOut (by kernel_rfl) (by decide +kernel) h1 (fun x hx => hlt x (by simp [hx]))
  obtain ⟨me0, A1_0, n1_0, c1_0, xs_0, s_0, k_0, A2_0, n2_0, c2_0, cm_0, A3_0, n3_0, c3_0, si_0, sv_0, A4_0, n4_0, c4_0, ki_0, kv_0, dim0, rfl, w0_0, w2_0, w3_0, w7_0, q1_0, q2_0, q3_0, q4_0⟩ := Opn.ask8 Tryz.underlying27 Tryz.underlying3 Tryz.underlying22 Tryz.underlying51 Tryz.underlying23 Tryz.underlying23 Tryz.underlying24 Tryz.underlying3 Tryz.underlying25 Tryz.underlying72 Tryz.underlying3 Tryz.underlying23 Tryz.underlying25 Tryz.underlying3 (by kernel_rfl) (by kernel_rfl) (by kernel_rfl) (by kernel_rfl) (by kernel_rfl) (by kernel_rfl) (hval 0 27 v0 rfl rfl) h0
  have bm_0 := bounds_i64 w0_0
  have bs_0 := bounds_u64 w2_0
  have bk_0 := bounds_u64 w3_0
  have bd_0 := bounds_i64 w7_0
  obtain ⟨A1, n1, c1, xs1, ys1, rfl, hl1, hm1, hc1, _, hx1, hy1, hr1⟩ := Opn.pairs Tryz.underlying28 Tryz.underlying56 Tryz.underlying3 Tryz.underlying23 (by kernel_rfl) (by kernel_rfl) (Opn.sliceV Tryz.underlying28 (hval 1 28 v1 rfl rfl)) h1
  have bx1 : ∀ z ∈ xs1, -9223372036854775808 ≤ z ∧ z < 9223372036854775808 := fun z hz => by have := bounds_i64 (hx1 z hz); omega
  have by1 : ∀ z ∈ ys1, 0 ≤ z ∧ z < 18446744073709551616 := fun z hz => by have := bounds_u64 (hy1 z hz); omega
  clear hA0 hval0
  simp only [List.append_nil] at hW'
  refine (LawBlindTells.walk me0 A1_0 n1_0 c1_0 xs_0 s_0 k_0 A2_0 n2_0 c2_0 cm_0 A3_0 n3_0 c3_0 si_0 sv_0 A4_0 n4_0 c4_0 ki_0 kv_0 dim0 A1 n1 c1 xs1 ys1 W bm_0 bs_0 bk_0 bd_0 q1_0 q2_0 q3_0 q4_0 hl1 hm1 hc1 hr1 bx1 by1 (LaidX.of_laid hL)).mono fun e W' ⟨he, hs⟩ => ?_
  have hb := hs.h
  subst he
  exact ⟨_, rfl, _, _, _, [], _, [], hW', trodAll_cons_mk (shut_bool Tryz.underlying4 _) trodAll_mk0, (trodAll_cons_mk (k0 _ hb) (trodAll_cons_mk (k1 _ hb) trodAll_mk0)), rfl, hb.frame _, fun h => by cases h⟩

theorem row_holds : Rows.BlindTellsSaid :=
  OpenClaim.holds_of_wide 3 Tryz.f3 rfl rfl rfl rfl rfl rfl rfl ⟨rfl, rfl, rfl, rfl, rfl⟩ rfl rfl rfl rfl rfl (by kernel_rfl) Tryz.func3 (by kernel_rfl)
    (of_decide_eq_true (by kernel_rfl)) (by unfold Func.isWrapper; first | (rw [if_pos (by decide +kernel)]; kernel_rfl) | (rw [if_neg (by decide +kernel)]; exact ⟨rfl, rfl⟩))
    (fun os started H enc _ => lifted os started H enc)

/-- The tied card. -/
theorem proved : Rows.BlindTellsCardSaid :=
  Claim7.holds_tied_plain_at .later [] [.handle, .data] true (true, "ddbab37ca8d371291298a3394d5978340c21b404970cafa4406e10773e4b9c93") true
    row_holds (fun _ h => by cases h) (by kernel_rfl) (fun _ h => by cases h) blindTells_row_tie rfl ⟨rfl, rfl⟩ (by kernel_rfl) rfl
    (fun f fn hf hfn => by
      obtain rfl : f = 3 := Option.some.inj ((show Tryz.prog.funcNamed "caucus/caucuslaw10.BlindTells" = some 3 by kernel_rfl).symm.trans hf) |>.symm
      obtain rfl : fn = Tryz.f3 := (Option.some.inj (Tryz.func3.symm.trans hfn)).symm
      exact ⟨by kernel_rfl, fun j t ht => by
        rw [Tryz.params3] at ht
        have hm : t ∈ [27, 28] := by simpa using Array.mem_of_getElem? ht
        have hall : ([27, 28].all fun u => !Tryz.prog.wantsStandIn u) = true := by kernel_rfl
        exact (show Tryz.prog.wantsStandIn t = false by simpa using List.all_eq_true.1 hall t hm)⟩)
    (by kernel_rfl)
#print axioms proved
end Go.Proofs.YtfeahgcigmoijaaGreatDoor.lawBlindTells
