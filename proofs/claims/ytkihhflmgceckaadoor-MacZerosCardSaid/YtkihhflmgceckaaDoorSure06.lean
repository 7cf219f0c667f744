/- sure of law 06: true whatever comes. Conditions: sha.k reads as laid. -/
import Derived.Test.YtkihhflmgceckaaDoorMacEval
import Derived.Lib.SlBytesConst
namespace Go.Proofs.YtkihhflmgceckaaDoor
open Go.RowKit Go.Lib
namespace Mc
open SlR Sh Sp
abbrev cJ : Array Value := #[.int .u8 74, .int .u8 101, .int .u8 102, .int .u8 101]
abbrev cT : Array Value := #[.int .u8 119, .int .u8 104, .int .u8 97, .int .u8 116, .int .u8 32, .int .u8 100, .int .u8 111, .int .u8 32, .int .u8 121, .int .u8 97, .int .u8 32, .int .u8 119, .int .u8 97, .int .u8 110, .int .u8 116, .int .u8 32, .int .u8 102, .int .u8 111, .int .u8 114, .int .u8 32, .int .u8 110, .int .u8 111, .int .u8 116, .int .u8 104, .int .u8 105, .int .u8 110, .int .u8 103, .int .u8 63]
theorem rows2 (w : World) (H : Nat) (fr fr2 : Nat × Nat) (hH : w.heap.size = H) :
    R8 ((w.alloc (.cells cJ 5 fr)).alloc (.cells cT 5 fr2)) (some ⟨H, 0, none⟩) jefe ∧ R8 ((w.alloc (.cells cJ 5 fr)).alloc (.cells cT 5 fr2)) (some ⟨H + 1, 0, none⟩) what := by
  refine ⟨?_, ?_⟩
  · have := row_mark w H 5 fr [74, 101, 102, 101] hH
    exact Row.to (w := w.alloc (.cells cJ 5 fr)) this
  · exact row_mark (w.alloc (.cells cJ 5 fr)) (H + 1) 5 fr2 (NL what) (by simp [hH])
theorem s_mac (w : World) (H : Nat) (fr fr2 : Nat × Nat) (hH : w.heap.size = H) (hL : LaidK w) :
    Calls Tryd.prog 19 #[.slice (some ⟨H, 0, none⟩) 4 4, .slice (some ⟨H + 1, 0, none⟩) 28 28] ((w.alloc (.cells cJ 5 fr)).alloc (.cells cT 5 fr2)) fun e w' => e = .returned (.agg (vl .u8 (hm jefe what)).toArray) ∧ Step ((w.alloc (.cells cJ 5 fr)).alloc (.cells cT 5 fr2)) w' :=
  of_mac _ 4 4 jefe _ 28 28 what _ rfl (Nat.le_refl _) (by omega) (rows2 w H fr fr2 hH).1 jefe_b8 rfl (by omega) (rows2 w H fr fr2 hH).2 what_b8 hL.to
theorem s_chk (w : World) (H : Nat) (fr fr2 : Nat × Nat) (hH : w.heap.size = H) (hL : LaidK w) :
    Calls Tryd.prog 20 #[.slice (some ⟨H, 0, none⟩) 4 4, .slice (some ⟨H + 1, 0, none⟩) 28 28, .agg (vl .u8 (hm jefe what)).toArray] ((w.alloc (.cells cJ 5 fr)).alloc (.cells cT 5 fr2)) fun e w' => e = .returned (.bool true) ∧ Step ((w.alloc (.cells cJ 5 fr)).alloc (.cells cT 5 fr2)) w' := by
  have := check_mac _ 4 4 jefe _ 28 28 what (hm jefe what) _ rfl (Nat.le_refl _) (by omega) (rows2 w H fr fr2 hH).1 jefe_b8 rfl (by omega) (rows2 w H fr fr2 hH).2 what_b8 (hm_len _ _) hL.to
  simpa using this
theorem s_nil (w : World) (hL : LaidK w) : Calls Tryd.prog 20 #[.slice none 0 0, .slice none 0 0, .agg zs.toArray] w fun e w' => e = .returned (.bool false) ∧ Step w w' := by
  have b0 : B8 [] := b8_mem (by simp)
  have := check_mac none 0 0 [] none 0 0 [] (List.replicate 32 0) w rfl (Nat.le_refl _) (by omega) Row.nil b0 rfl (by omega) Row.nil b0 rfl hL
  rw [decide_eq_false hm_none] at this
  exact this
theorem wpBuildG {P : Program} {ops : Array Oper} {rest : List Oper} {op : Oper} {a : Act} {w : World} {Q : Exit → Act → World → Prop} (hw : Region.wanted op (yielded ops a.tmps) = true) (ty : TypeId) (ho : op.op = .build ty #[]) (Z : Array Value) (n : Nat) (e : TypeId) (hz : ∀ w, (zeroValue ty).run P w = .ok (.agg Z) w) (hu : P.underlying ty = some (.array n e)) (m : Nat) (hs : ∀ w, (sizeOf e).run P w = .ok m w)
    (h : wpList P ops Q rest (a.put op.dst (.agg Z)) w) : wpList P ops Q (op :: rest) a w :=
  wpList_step fun K hK => by
    rw [if_pos hw]
    unfold Oper.wp execOp
    simp only [ho]
    have e : (Instr.build ty #[]).run P w = .ok (.agg Z) w := by
      simp [Instr.build, Sem.run_bind, hz, run_underlying hu, hs, Instr.fill, Value.cells]
    simp [e]
    exact hK _ _ h
theorem kcT (w : World) : (convert 22 22 (.slice (some ⟨w.heap.size + 1, 0, none⟩) 28 28)).run Tryd.prog ((w.alloc (.cells cJ 5 (4, 5))).alloc (.cells cT 5)) = .ok (.slice (some ⟨w.heap.size + 1, 0, none⟩) 28 28) ((w.alloc (.cells cJ 5 (4, 5))).alloc (.cells cT 5 (28, 29))) := by
  have := Lib.run_convert_bytes_const (P := Tryd.prog) (w.alloc (.cells cJ 5 (4, 5))) 22 5 cT 28 28 Tryd.underlying22 Tryd.underlying5
  rw [World.size_alloc] at this
  exact this
set_option maxHeartbeats 3200000 in
set_option maxRecDepth 100000 in
theorem sure_any (w : World) (hL : LaidK w) : Calls Tryd.prog 15 #[] w fun e w' => e = .returned (.bool true) ∧ Step w w' := by
  have cN := fun (w : World) h => s_nil w h
  obtain ⟨Z, hZ⟩ : ∃ Z, zs.toArray = Z := ⟨_, rfl⟩
  have hz : Hid (∀ w, (zeroValue 24).run Tryd.prog w = .ok (.agg Z) w) := Lib.hid (hZ ▸ zero32)
  have hsz : Z.size = 32 := by rw [← hZ]; rfl
  rw [hZ] at cN
  clear hZ
  have cX := fun w => text_dev (hm jefe what) w (hm_len _ _) (Lib.hid (by unfold hm; exact sum_b8 ⟨_, b8_app (msk_b8 92 (by omega) (blk_b8 jefe_b8 (by decide))) (sum_b8 ⟨_, b8_inner jefe_b8 (by decide) what_b8, by decide⟩), by rw [List.length_append, msk_len, blk_len, sum_fine]; omega⟩))
  have cM := s_mac
  have cC := s_chk
  have lC : (vl .u8 (hm jefe what)).length = 32 := by rw [vl_len, hm_len]
  have oC := Lib.hid (vl_one .u8 (hm jefe what))
  rw [text6] at cX
  generalize vl .u8 (hm jefe what) = C at cX cM cC lC oC
  have kc := fun (w : World) (C : Array Value) (n c : Nat) => Lib.run_convert_bytes_const (P := Tryd.prog) w 22 5 C n c Tryd.underlying22 Tryd.underlying5
  have kc2 := kcT
  go_enter Tryd.func15, Tryd.ntmps15
  go_wp2_with (first
    | (go_at_call 19; ((with_reducible refine (cM _ _ _ _ (by simp) hL.to).mono ?_); rintro e w2 ⟨rfl, S2⟩; obtain ⟨W2, st2, X2, R2, l2⟩ := store_new w2 Z C hsz lC oC.out))
    | refine Lg.wpAlloc (by rfl) 24 (by rfl) Z hz.out ?_
    | refine wpList_load_mid (by rfl) 24 (.tmp 1) (by rfl) w2.heap.size 0 (by rfl) C _ R2 Tryd.underlying24 rfl (by rw [lC]; exact size32) ?_
    | (go_at_call 12; ((with_reducible refine (cX _).mono ?_); rintro e w3 ⟨rfl, S3⟩))
    | refine wpLoadG (by rfl) 24 (.tmp 1) (by rfl) w2.heap.size 0 (by rfl) C _ (range_under R2 (inferInstance : Ext W2 _).h l2) Tryd.underlying24 rfl (by rw [lC]; exact size32) ?_
    | (go_at_call 20; ((with_reducible refine (cC _ _ _ _ (by simp) hL.to).mono ?_); rintro e w4 ⟨rfl, S4⟩))
    | refine wpBuildG (by rfl) 24 (by rfl) Z 32 5 hz.out Tryd.underlying24 1 Tryd.sizeOf5 ?_
    | (go_at_call 20; ((with_reducible refine (cN _ hL.to).mono ?_); rintro e w5 ⟨rfl, S5⟩)))
  go_ret
  exact ⟨rfl, Step.of inferInstance⟩
end Mc
end Go.Proofs.YtkihhflmgceckaaDoor
