/- blind: what each small function answers. Conditions: what is handed in reads as rows of peers, of 32 bits, of numbers; lengths as stated; sha.k reads as laid. -/
import Derived.Test.YtfeahgcigmoijaaGreatDoorPairB
import Derived.Test.YtfeahgcigmoijaaGreatDoorSlDel
import Derived.Test.YtfeahgcigmoijaaGreatDoorMap
namespace Go.Proofs.YtfeahgcigmoijaaGreatDoor
open Go.RowKit Go.Lib
namespace Bl
open SlR Sh Sp Mc Pg VecC VecE Pe Mp
/-- The label. -/
def own : ByteArray := ⟨#[111, 119, 110]⟩
theorem lab_own : lab own = true := by decide
/-- What a seed adds. -/
def oN (n s : Nat) : List Int := NL (wsP s own n)
theorem own_lt (s : Nat) (n : Nat) : ∀ x ∈ wsP s own n, x < 4294967296 := fun x hx => by
  unfold wsP at hx
  obtain ⟨j, _, rfl⟩ := List.mem_map.mp hx
  exact wd_lt (blkP_b8 s own _ (by decide)) _
theorem oN_R (n s : Nat) : R n (oN n s) := nl_R (wsP_len s own n) (own_lt s n)
theorem own_yes (s n : Nat) (w : World) (hs : Hid (s < 18446744073709551616)) (hn : n ≤ 32) (hL : LaidK w) : Calls Tryz.prog 8 #[.int .u64 s, .int .i64 n] w (Yes w n (oN n s)) := by
  have cW := fun (w : World) (h : LaidK w) => words_yes s own n w hs lab_own hn h
  unfold own at cW
  have hN : Hid (oN n s = NL (wsP s ⟨#[111, 119, 110]⟩ n)) := Lib.hid rfl
  go_enter Tryz.func8, Tryz.ntmps8
  go_wp2_with (go_at_call 22; ((with_reducible refine (cW _ hL.to).mono ?_); rintro e w2 ⟨g2, rfl, R2, S2⟩; have R2 : Row .u32 w2 (some ⟨g2, 0, none⟩) (oN n s) := hN.out ▸ R2))
  exact bodyPost_ret (v := .tuple #[.slice (some ⟨g2, 0, none⟩) n n, .nilIface]) (by simp [results, Tryz.results8, go_sem]) rfl ⟨_, _, rfl, R2, Step.of inferInstance⟩
theorem own_no (s : Nat) (n : Int) (w : World) (h : n < 0 ∨ 32 < n) : Calls Tryz.prog 8 #[.int .u64 s, .int .i64 n] w (Err w) := by
  have cW := fun (w : World) => words_no s own n w (.inr h)
  unfold own at cW
  go_enter Tryz.func8, Tryz.ntmps8
  go_wp2_with (go_at_call 22; ((with_reducible refine (cW _).mono ?_); rintro e w2 ⟨rfl, S2⟩))
  exact bodyPost_ret (v := .tuple #[.slice none 0 0, .iface 77 (.int .i64 1)]) (by simp [results, Tryz.results8, go_sem, errArg]) rfl ⟨rfl, Step.of inferInstance⟩
/-- None. -/
def None6 (w : World) (e : Ending) (w' : World) : Prop := e = .returned (.tuple #[.slice none 0 0, .iface 77 (.int .i64 6)]) ∧ Step w w'
set_option maxHeartbeats 1600000 in
set_option maxRecDepth 100000 in
theorem withOwn_yes (A : Option Addr) (c n : Nat) (row : List Int) (x : Int) (y : Nat) (mv : Value) (F : Int → Option Nat) (w : World) (hn : row.length = n) (hb : Bits row) (hl : n ≤ 32) (hr : Row .u32 w A row) (hM : MapF w mv F) (hx : I64 x) (hL : LaidK w) (h : Hid ((F x).isSome = true)) :
    Calls Tryz.prog 28 #[.slice A n c, .agg #[.int .i64 x, .int .u64 y], mv] w (Yes w n (vAdd row (oN n ((F x).getD 0)))) := by
  have hG0 : (w.alloc (.cells #[.int .i64 x, .int .u64 y] 50 (0, 0))).cell? ⟨w.heap.size, 0, none⟩ = some (.int .i64 x) := by simp
  have hM2 : MapF (w.alloc (.cells #[.int .i64 x, .int .u64 y] 50 (0, 0))) mv F := hM.to
  have hs : Hid ((F x).getD 0 < 18446744073709551616) := Lib.hid (hM.lt x)
  obtain ⟨s, hs2⟩ : ∃ s, Hid (s = (F x).getD 0) := ⟨_, Lib.hid rfl⟩
  have hb2 : Hid (true = (F x).isSome) := Lib.hid h.out.symm
  rw [← hs2.out] at hs ⊢
  have cO := fun (w : World) (h : LaidK w) => own_yes s n w hs hl h
  have hoN := (oN_R n s).1
  generalize oN n s = O at cO hoN ⊢
  have cA := fun (A D : Option Addr) (c d : Nat) (w : World) h1 h2 => VecE.add A D c d n row O w hn hoN h1 h2 hb hl
  clear hoN hn hb h
  go_enter Tryz.func28, Tryz.ntmps28
  go_wp2_with (first
    | (at_lookup; refine lookH _ rfl _ _ rfl F mv rfl hM2 x hx rfl s _ hs2 hb2 ?_)
    | (go_at_call 8; ((with_reducible refine (cO _ hL.to).mono ?_); rintro e w2 ⟨A2, c2, rfl, R2, S2⟩))
    | (go_at_call 53; ((with_reducible refine (cA _ _ _ _ _ hr.to R2.to).mono ?_); rintro e w3 ⟨A3, c3, rfl, R3, S3⟩)))
  exact bodyPost_ret (v := .tuple #[.slice A3 n c3, .nilIface]) (by simp [results, Tryz.results28, go_sem]) rfl ⟨A3, c3, rfl, R3, Step.of inferInstance⟩
set_option maxHeartbeats 1600000 in
set_option maxRecDepth 100000 in
theorem withOwn_no (A : Option Addr) (c n : Nat) (x : Int) (y : Nat) (mv : Value) (F : Int → Option Nat) (w : World) (hM : MapF w mv F) (hx : I64 x) (h : Hid ((F x).isSome = false)) :
    Calls Tryz.prog 28 #[.slice A n c, .agg #[.int .i64 x, .int .u64 y], mv] w (None6 w) := by
  have hG0 : (w.alloc (.cells #[.int .i64 x, .int .u64 y] 50 (0, 0))).cell? ⟨w.heap.size, 0, none⟩ = some (.int .i64 x) := by simp
  have hM2 : MapF (w.alloc (.cells #[.int .i64 x, .int .u64 y] 50 (0, 0))) mv F := hM.to
  obtain ⟨s, hs2⟩ : ∃ s, Hid (s = (F x).getD 0) := ⟨_, Lib.hid rfl⟩
  have hb2 : Hid (false = (F x).isSome) := Lib.hid h.out.symm
  clear h
  go_enter Tryz.func28, Tryz.ntmps28
  go_wp2_with (at_lookup; refine lookH _ rfl _ _ rfl F mv rfl hM2 x hx rfl s _ hs2 hb2 ?_)
  exact bodyPost_ret (v := .tuple #[.slice none 0 0, .iface 77 (.int .i64 6)]) (by simp [results, Tryz.results28, go_sem]) rfl ⟨rfl, Step.of inferInstance⟩
set_option maxHeartbeats 1600000 in
set_option maxRecDepth 100000 in
theorem without_yes (A D : Option Addr) (c n d q : Nat) (row : List Int) (x : Int) (y : Nat) (ks : List (Int × Nat)) (mv : Value) (G : Int → Option Nat) (w : World) (hn : row.length = n) (hl : n ≤ 32) (hr : Row .u32 w A row) (hq : ks.length = q) (hq2 : q ≤ 100000) (hK : RowQ w D ks)
    (h64 : Hid (Q64 ks)) (hmay : Hid (mayF 0 ks = true)) (hin : Hid (isIn x ks = true)) (hM : MapF w mv G) (hx : I64 x) (hL : LaidK w) (h : Hid ((G x).isSome = true)) :
    Calls Tryz.prog 29 #[.slice A n c, .agg #[.int .i64 x, .int .u64 y], .slice D q d, mv] w (Yes w n (vSub row (rowP (wN n) x ((G x).getD 0) ks n))) := by
  have hG0 : (w.alloc (.cells #[.int .i64 x, .int .u64 y] 50 (0, 0))).cell? ⟨w.heap.size, 0, none⟩ = some (.int .i64 x) := by simp
  have hM2 : MapF (w.alloc (.cells #[.int .i64 x, .int .u64 y] 50 (0, 0))) mv G := hM.to
  have hs : Hid ((G x).getD 0 < 18446744073709551616) := Lib.hid (hM.lt x)
  obtain ⟨s, hs2⟩ : ∃ s, Hid (s = (G x).getD 0) := ⟨_, Lib.hid rfl⟩
  have hb2 : Hid (true = (G x).isSome) := Lib.hid h.out.symm
  rw [← hs2.out] at hs ⊢
  have cR := fun (w : World) (h1 : RowQ w D ks) (h2 : LaidK w) => row_yes x s D d q n ks w hs hq hq2 h1 h64 hmay hin hl h2
  have hX := (rowP_R (n := n) (fun s => (wN_R n s).1) x s ks).1
  generalize rowP (wN n) x s ks n = X at cR hX ⊢
  have cA := fun (A D : Option Addr) (c d : Nat) (w : World) h1 h2 => VecE.sub A D c d n row X w hn hX h1 h2 hl
  clear hX hn h hmay hin
  go_enter Tryz.func29, Tryz.ntmps29
  go_wp2_with (first
    | (at_lookup; refine lookH _ rfl _ _ rfl G mv rfl hM2 x hx rfl s _ hs2 hb2 ?_)
    | (go_at_call 18; ((with_reducible refine (cR _ hK.to hL.to).mono ?_); rintro e w2 ⟨A2, c2, rfl, R2, S2⟩))
    | (go_at_call 16; ((with_reducible refine (cA _ _ _ _ _ hr.to R2.to).mono ?_); rintro e w3 ⟨A3, c3, rfl, R3, S3⟩)))
  exact bodyPost_ret (v := .tuple #[.slice A3 n c3, .nilIface]) (by simp [results, Tryz.results29, go_sem]) rfl ⟨A3, c3, rfl, R3, Step.of inferInstance⟩
set_option maxHeartbeats 1600000 in
set_option maxRecDepth 100000 in
theorem without_no (A D : Option Addr) (c n d q : Nat) (x : Int) (y : Nat) (mv : Value) (G : Int → Option Nat) (w : World) (hM : MapF w mv G) (hx : I64 x) (h : Hid ((G x).isSome = false)) :
    Calls Tryz.prog 29 #[.slice A n c, .agg #[.int .i64 x, .int .u64 y], .slice D q d, mv] w (None6 w) := by
  have hG0 : (w.alloc (.cells #[.int .i64 x, .int .u64 y] 50 (0, 0))).cell? ⟨w.heap.size, 0, none⟩ = some (.int .i64 x) := by simp
  have hM2 : MapF (w.alloc (.cells #[.int .i64 x, .int .u64 y] 50 (0, 0))) mv G := hM.to
  obtain ⟨s, hs2⟩ : ∃ s, Hid (s = (G x).getD 0) := ⟨_, Lib.hid rfl⟩
  have hb2 : Hid (false = (G x).isSome) := Lib.hid h.out.symm
  clear h
  go_enter Tryz.func29, Tryz.ntmps29
  go_wp2_with (at_lookup; refine lookH _ rfl _ _ rfl G mv rfl hM2 x hx rfl s _ hs2 hb2 ?_)
  exact bodyPost_ret (v := .tuple #[.slice none 0 0, .iface 77 (.int .i64 6)]) (by simp [results, Tryz.results29, go_sem]) rfl ⟨rfl, Step.of inferInstance⟩
theorem own_addr {w : World} {base n c : Nat} {e : TypeId} {A : Option Addr} {xs : List Value} (h : w.ownsRow base e 2 (.slice A n c) n xs) (h0 : 0 < n) : ∃ g, A = some ⟨g, 0, none⟩ := by
  obtain ⟨g, cap, hv, _, _⟩ := h.form h0
  exact ⟨g, by injection hv⟩
/-- The world with two boxes. -/
theorem cap_new (w : World) (x : Int) (y : Nat) (Ah : Option Addr) (m ch : Nat) (hs : List (Int × Nat)) (hh : RowQ w Ah hs) :
    Cap ((w.alloc (.cells #[.int .i64 x, .int .u64 y] 50 (0, 0))).alloc (.cells #[.slice Ah m ch] 34 (0, 0))) w.heap.size (w.heap.size + 1) x y Ah m ch hs := by
  have h2 : RowQ ((w.alloc (.cells #[.int .i64 x, .int .u64 y] 50 (0, 0))).alloc (.cells #[.slice Ah m ch] 34 (0, 0))) Ah hs := hh.to
  have a0 : (w.alloc (.cells #[.int .i64 x, .int .u64 y] 50 (0, 0))).cell? ⟨w.heap.size, 0, none⟩ = some (.int .i64 x) := by simp
  have a1 : (w.alloc (.cells #[.int .i64 x, .int .u64 y] 50 (0, 0))).cell? ⟨w.heap.size, 1, none⟩ = some (.int .u64 y) := by simp
  refine ⟨(World.cell?_alloc_lt _ _ _ (by simp)).trans a0, (World.cell?_alloc_lt _ _ _ (by simp)).trans a1, ?_, h2⟩
  have : w.heap.size + 1 = (w.alloc (.cells #[.int .i64 x, .int .u64 y] 50 (0, 0))).heap.size := by simp
  rw [this]
  simp
set_option maxHeartbeats 1600000 in
set_option maxRecDepth 100000 in
/-- Those that came, and one other. -/
theorem with_left (x : Int) (y : Nat) (Ah : Option Addr) (m ch : Nat) (hs : List (Int × Nat)) (b O c n : Nat) (ps : List (Int × Nat)) (w : World) (hn : ps.length = n) (hn2 : n ≤ 100000) (hm : hs.length = m) (hm2 : m ≤ 100000) (hr : RowQ w (some ⟨b, O, none⟩) ps) (hh : RowQ w Ah hs) (h0 : Hid (0 < n)) :
    Calls Tryz.prog 30 #[.agg #[.int .i64 x, .int .u64 y], .slice Ah m ch, .slice (some ⟨b, O, none⟩) n c] w fun e w' =>
      ∃ D q d, e = .returned (.slice D q d) ∧ (ps.filter fun p => !del hs (x, y) p).length = q ∧ RowQ w' D (ps.filter fun p => !del hs (x, y) p) ∧ Step w w' := by
  have hC := cap_new w x y Ah m ch hs hh
  have cC := fun (w : World) (h : RowQ w (some ⟨b, O, none⟩) ps) => clone_any b O c n ps w hn hn2 h
  go_enter Tryz.func30, Tryz.ntmps30
  go_wp2_with (first
    | (go_at_call 55; ((with_reducible refine (cC _ hr.to).mono ?_); rintro e w2 ⟨A2, c2, rfl, O2, S2⟩; obtain ⟨g, rfl⟩ := own_addr O2 h0.out))
    | (go_at_call 54; ((with_reducible refine (delete_any g c2 n ps w.heap.size (w.heap.size + 1) x y Ah m ch hs _ _ hn hn2 S2 O2 hm hm2 hC).mono ?_); rintro e w3 ⟨q, c3, rfl, L3, R3, S3⟩)))
  go_ret
  exact ⟨_, q, c3, rfl, L3, R3, Step.of inferInstance⟩
end Bl
end Go.Proofs.YtfeahgcigmoijaaGreatDoor
