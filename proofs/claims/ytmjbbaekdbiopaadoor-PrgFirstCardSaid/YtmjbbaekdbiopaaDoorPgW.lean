/- Layer 7: so many numbers out of a seed, the program's. Conditions: sha.k reads as laid. -/
import Derived.Test.YtmjbbaekdbiopaaDoorPgU
namespace Go.Proofs.YtmjbbaekdbiopaaDoor
open Go.RowKit Go.Lib
namespace Pg
open SlR Sh Sp Mc
/-- The number at a place: of its block. -/
def wP (x : Nat) (s : ByteArray) (j : Nat) : Nat := wd (blkP x s (j / 8)) (j % 8)
def wsP (x : Nat) (s : ByteArray) (n : Nat) : List Nat := (List.range n).map (wP x s)
theorem wsP_len (x : Nat) (s : ByteArray) (n : Nat) : (wsP x s n).length = n := by simp [wsP]
theorem wsP_succ (x : Nat) (s : ByteArray) (n : Nat) : wsP x s (n + 1) = wsP x s n ++ [wP x s n] := by simp [wsP, List.range_succ]
/-- The first so many, and noughts. -/
def prt (x : Nat) (s : ByteArray) (n k : Nat) : List Nat := wsP x s k ++ List.replicate (n - k) 0
theorem prt_len (x : Nat) (s : ByteArray) (n k : Nat) (h : k ≤ n) : (prt x s n k).length = n := by simp [prt, wsP_len]; omega
theorem prt_end (x : Nat) (s : ByteArray) (n : Nat) : prt x s n n = wsP x s n := by simp [prt]
theorem prt_step (x : Nat) (s : ByteArray) (n k : Nat) (h : k < n) : (prt x s n k).set k (wP x s k) = prt x s n (k + 1) := by
  unfold prt
  rw [List.set_append, if_neg (by rw [wsP_len]; omega), wsP_len, Nat.sub_self, show n - k = (n - (k + 1)) + 1 by omega, List.replicate_succ, List.set_cons_zero, wsP_succ, List.append_assoc]
  rfl
theorem nb4 (b : List Nat) (k : Nat) (h : 4 * k + 4 ≤ b.length) : nb ((b.drop (4 * k)).take 4) = wd b k := by
  have e : (b.drop (4 * k)).take 4 = [b.getD (4 * k) 0, b.getD (4 * k + 1) 0, b.getD (4 * k + 2) 0, b.getD (4 * k + 3) 0] := by
    have g : ∀ j, j < 4 → b.getD (4 * k + j) 0 = ((b.drop (4 * k)).take 4).getD j 0 := fun j hj => by
      rw [List.getD_eq_getElem?_getD, List.getD_eq_getElem?_getD, List.getElem?_take_of_lt hj, List.getElem?_drop]
    have l : ((b.drop (4 * k)).take 4).length = 4 := by rw [List.length_take, List.length_drop]; omega
    rw [g 1 (by omega), g 2 (by omega), g 3 (by omega), show 4 * k = 4 * k + 0 from rfl, g 0 (by omega), Nat.add_zero]
    generalize (b.drop (4 * k)).take 4 = q at l
    match q, l with
    | [a, c, d, e], _ => rfl
  rw [e]
  unfold nb wd
  simp only [List.foldl_cons, List.foldl_nil]
  omega
theorem wd_lt {b : List Nat} (hb : B8 b) (k : Nat) : wd b k < 4294967296 := by
  have h0 := hb (4 * k); have h1 := hb (4 * k + 1); have h2 := hb (4 * k + 2); have h3 := hb (4 * k + 3)
  unfold wd
  omega
theorem own_parts {w : World} {B n g : Nat} {e : TypeId} {xs : List Value} (h : w.ownsRow B e 1 (.slice (some ⟨g, 0, none⟩) n n) n xs) : w.rangeAt g 0 xs ∧ w.there g 0 n := by
  obtain ⟨_, ⟨h1, _⟩ | ⟨g', c, cur, h1, hB, hg, hc, _, hs, ht⟩⟩ := h
  · cases h1
  · injection h1 with h2 _ h3
    injection h2 with h2
    injection h2 with h2 _ _
    subst h2
    subst h3
    refine ⟨fun j u hu => ?_, fun j hj => ⟨?_, ?_⟩⟩
    · rw [Nat.zero_add, cell_of_row w g j cur e _ hg]
      rw [← ht, List.getElem?_take] at hu
      split at hu
      · simpa using hu
      · cases hu
    · rw [cell_of_row w g _ cur e _ hg]
      have : 0 + j < cur.size := by omega
      rw [Array.getElem?_eq_getElem this]
      rfl
    · simp [World.frozen?, hg]
/-- What holds at the head of a round: the numbers so far behind g, the block at hand behind G. -/
def WInv (w wr : World) (x : Nat) (s : ByteArray) (n k g G : Nat) : Prop :=
  k ≤ n ∧ Below w.heap.size w wr ∧ wr.rangeAt g 0 (vl .u32 (prt x s n k)) ∧ wr.there g 0 n ∧ ∃ C : List Nat, C.length = 32 ∧ wr.rangeAt G 0 (vl .u8 C) ∧ wr.there G 0 32 ∧ (k % 8 ≠ 0 → C = blkP x s (k / 8))
theorem WInv.next {w wr : World} {x : Nat} {s : ByteArray} {n k g G : Nat} (hg : w.heap.size ≤ g) (hne : g ≠ G) (hk : k < n) (hB : Below w.heap.size w wr) (h1 : wr.rangeAt g 0 (vl .u32 (prt x s n k))) (h2 : wr.there g 0 n) (h3 : wr.rangeAt G 0 (vl .u8 (blkP x s (k / 8)))) (h4 : wr.there G 0 32) :
    WInv w (wr.setCell ⟨g, k, none⟩ (.int .u32 (wP x s k : Nat))) x s n (k + 1) g G := by
  refine ⟨hk, hB.setCell hg _, ?_, there_setCell h2 _ _, blkP x s (k / 8), blkP_len _ _ _, fun j u hu => ?_, there_setCell h4 _ _, fun h => by rw [show (k + 1) / 8 = k / 8 by omega]⟩
  · rw [← prt_step x s n k hk, ← vl_set]
    exact rangeAt_set h1 k _ (by rw [vl_len, prt_len _ _ _ _ (by omega)]; exact hk)
  · rw [World.cell?_setCell_other _ _ _ _ (by intro q; injection q with q _ _; exact hne q)]
    exact h3 j u hu
set_option maxHeartbeats 3200000 in
set_option maxRecDepth 100000 in
theorem words_yes (x : Nat) (s : ByteArray) (n : Nat) (w : World) (hx : Hid (x < 18446744073709551616)) (hs : lab s = true) (hn : n ≤ 32) (hL : LaidK w) :
    Calls Tryd.prog 46 #[.int .u64 x, .string s, .int .i64 n] w fun e w' => ∃ g, e = .returned (.tuple #[.slice (some ⟨g, 0, none⟩) n n, .nilIface]) ∧ R32 w' (some ⟨g, 0, none⟩) (wsP x s n) ∧ Step w w' := by
  obtain ⟨i0, hi, hz0, hz1, hz2⟩ := info_parts infoW
  obtain ⟨Z3, hZ3⟩ : ∃ Z, zs.toArray = Z := ⟨_, rfl⟩
  have hz3 : Hid (∀ w, (zeroValue 44).run Tryd.prog w = .ok (.agg Z3) w) := Lib.hid (hZ3 ▸ zero32)
  have hsz3 : Z3.size = 32 := by rw [← hZ3]; rfl
  have hZ3l : Hid (Z3.toList = vl .u8 (List.replicate 32 0)) := Lib.hid (by rw [← hZ3]; rfl)
  clear hZ3
  have hl := lab_size hs
  have nI : (n : Int) ≤ 32 := by omega
  have dL := fun (w : World) => label_any s w
  rw [hs] at dL
  go_enter Tryd.func46, Tryd.ntmps46
  go_wp2_with (first
    | (go_at_call 64; ((with_reducible refine (dL _).mono ?_); rintro e w2 ⟨rfl, S2⟩))
    | (at_make; refine wpList_make_full w2 rfl _ _ 33 rfl w2.heap.size 34 i0 _ 1 Tryd.underlying33 hi hz0 hz1 _ _ _ _ n rfl rfl rfl rfl (by rw [hz2]; omega) (by unfold maxLen; omega) (Nat.le_refl _) ?_; intro w1 O1 G1)
    | refine Lg.wpAlloc (by rfl) 44 (by rfl) Z3 hz3.out ?_)
  have P1 := own_parts O1
  rw [App.madeInts] at P1
  have g1 : w2.heap.size < w1.heap.size := by
    rcases O1.2 with ⟨h, _⟩ | ⟨g', c', cur, h, _, hg, _⟩
    · cases h
    · injection h with h _ _
      injection h with h
      injection h with h _ _
      subst h
      exact (Array.getElem?_eq_some_iff.1 hg).1
  have B1 : Below w.heap.size w (w1.alloc (.cells Z3 44)) := ((S2.h.grown G1 S2.h.size (fun q hq => by cases hq)).alloc (by have := S2.h.size; omega) _)
  have I0 : WInv w (w1.alloc (.cells Z3 44)) x s n 0 w2.heap.size w1.heap.size := by
    refine ⟨Nat.zero_le _, B1, ?_, World.there_alloc P1.2 _, List.replicate 32 0, rfl, ?_, Lg.there_new _ _ _ _ hsz3, fun h => absurd rfl h⟩
    · have : vl .u32 (prt x s n 0) = (List.replicate n 0).map (Value.int .u32) := by simp [vl, prt, wsP]
      rw [this]
      exact World.rangeAt_alloc P1.1 _
    · rw [← hZ3l.out]
      exact range_new _ _ _
  have gw : w.heap.size ≤ w2.heap.size := S2.h.size
  have Gw : w.heap.size ≤ w1.heap.size := by omega
  have hne : w2.heap.size ≠ w1.heap.size := by omega
  clear P1 O1 G1 B1 g1 S2 dL hs hZ3l hsz3 hz3
  generalize w1.alloc (.cells Z3 44) = W0 at I0 ⊢
  generalize w2.heap.size = g at I0 gw hne ⊢
  generalize w1.heap.size = G at I0 Gw hne ⊢
  have HI := Lib.hid I0
  have hgs := Lib.hid (And.intro gw (And.intro Gw hne))
  have dB := fun (i : Nat) (hi : i ≤ 1048576) (w : World) (h : LaidK w) => block_dev x s i w hx hl hi h
  clear I0 gw Gw hne hx
  go_loopw [28] (fun i wr => ∃ k : Nat, i = .int .i64 k ∧ Hid (WInv w wr x s n k g G)) (fun i _ => n - (intOf i).toNat)
  case atStart => exact ⟨0, rfl, HI⟩
  case round =>
    obtain ⟨k, rfl, hI⟩ := hrel
    clear HI
    have hkn := hI.out.1
    by_cases hlt : k < n
    · have q8 : k / 8 ≤ 1048576 := by omega
      have kI : (k : Int) < n := by omega
      have kI2 : (k : Int) < 32 := by omega
      have e8 : (k : Int) / 8 = ((k / 8 : Nat) : Int) := by omega
      have dBk := dB (k / 8) q8
      have lF : (vl .u8 (blkP x s (k / 8))).length = 32 := by rw [vl_len, blkP_len]
      have oF := Lib.hid (vl_one .u8 (blkP x s (k / 8)))
      have b8 := blkP_b8 x s (k / 8) (by omega)
      have len := blkP_len x s (k / 8)
      have vlt : wP x s k < 4294967296 := wd_lt b8 _
      have hw : IntKind.u32.wrap (wP x s k : Int) = (wP x s k : Int) := by rw [IntKind.wrap_u32]; omega
      have dN : ∀ (r : Nat), k % 8 = r → ∀ (A : Option Addr) (c : Nat) (w : World), R8 w A (((blkP x s (k / 8)).drop (4 * r)).take 4) → Calls Tryd.prog 66 #[.slice A 4 c] w fun e w' => e = .returned (.int .u64 (wP x s k : Nat)) ∧ w' = w := fun r hr A c w h => by
        have := number_any A c 4 _ w (by rw [List.length_take, List.length_drop, len]; omega) (by omega) h (b8_part b8 _ _)
        rw [nb4 _ _ (by rw [len]; omega)] at this
        unfold wP
        rw [hr]
        exact this
      have rN : ∀ (r o : Nat) (w : World), o = 4 * r → G < w.heap.size → w.rangeAt G 0 (vl .u8 (blkP x s (k / 8))) → R8 w (some ⟨G, o, none⟩) (((blkP x s (k / 8)).drop (4 * r)).take 4) := fun r o w ho hg h => by
        subst ho
        exact row_part hg h
      have nx : ∀ W : World, Below w.heap.size w W → W.rangeAt g 0 (vl .u32 (prt x s n k)) → W.there g 0 n → W.rangeAt G 0 (vl .u8 (blkP x s (k / 8))) → W.there G 0 32 → WInv w (W.setCell ⟨g, k, none⟩ (.int .u32 (wP x s k : Nat))) x s n (k + 1) g G := fun W h0 h1 h2 h3 h4 => WInv.next hgs.out.1 hgs.out.2.2 hlt h0 h1 h2 h3 h4
      have NX := Lib.hid nx
      have DN := Lib.hid dN
      have RN := Lib.hid rN
      clear nx dN rN b8 len vlt dB hkn
      obtain ⟨-, hB, hr1, ht1, C, hC, hr2, ht2, hCe⟩ := hI.out
      have SW : Step w wr := ⟨hB⟩
      have lg : g < wr.heap.size := by
        have := hr1 k _ (List.getElem?_eq_getElem (by rw [vl_len, prt_len _ _ _ _ (Nat.le_of_lt hlt)]; exact hlt))
        exact World.block_lt_of_cell? wr _ this
      have lG : G < wr.heap.size := by
        have := hr2 0 _ (List.getElem?_eq_getElem (by rw [vl_len, hC]; omega))
        exact World.block_lt_of_cell? wr _ this
      have hHB := Lib.hid (And.intro hB (And.intro hr1 (And.intro ht1 (And.intro hr2 (And.intro ht2 (And.intro lg lG))))))
      have hCe2 := Lib.hid hCe
      clear hCe hB hr1 ht1 hr2 ht2 lg lG hI hC
      rcases (by omega : k % 8 = 0 ∨ k % 8 = 1 ∨ k % 8 = 2 ∨ k % 8 = 3 ∨ k % 8 = 4 ∨ k % 8 = 5 ∨ k % 8 = 6 ∨ k % 8 = 7) with hr | hr | hr | hr | hr | hr | hr | hr
      · have m8 : (k : Int) % 8 = 0 := by omega
        have dN := DN.out 0 hr
        have rN := fun (w : World) => RN.out 0 0 w rfl
        have hlt2 := Lib.hid hlt
        have hr0 := Lib.hid hr
        generalize hv : wP x s k = v at dN hw NX
        generalize hF : vl .u8 (blkP x s (k / 8)) = F at dBk lF oF rN NX
        have eF : F.toArray.size = 32 := lF
        clear hv hF hr hlt hCe2 DN RN
        obtain ⟨q, hq⟩ : ∃ q, k / 8 = q := ⟨_, rfl⟩
        rw [hq] at e8 dBk rN dN
        clear hq
        -- what holds behind the store
        have aft : ∀ w3, Step wr w3 → w3.there G 0 32 ∧ ∃ W3, w3.setCells G 0 F.toArray.toList = W3 ∧ Below w.heap.size w W3 ∧ W3.rangeAt g 0 (vl .u32 (prt x s n k)) ∧ W3.there g 0 n ∧ W3.rangeAt G 0 F ∧ W3.there G 0 32 ∧ G < W3.heap.size ∧ (∃ u, W3.cell? ⟨g, k, none⟩ = some u) ∧ W3.frozen? ⟨g, k, none⟩ = false := fun w3 S3 => by
          obtain ⟨hB, hr1, ht1, hr2, ht2, lg, lG⟩ := hHB.out
          have t3 := there_under ht2 S3.h lG
          have tg := World.there_setCells (there_under ht1 S3.h lg) G 0 F.toArray.toList
          have k3 := tg k hlt2.out
          rw [Nat.zero_add] at k3
          refine ⟨t3, _, rfl, Lg.below_setCells hgs.out.2.1 _ _ _ (hB.trans (S3.h.mono hB.size)), World.rangeAt_setCells_apart (range_under hr1 S3.h lg) _ _ _ (.inl hgs.out.2.2), tg, World.rangeAt_setCells_same _ _ _ _ (by rw [lF]; exact t3), World.there_setCells t3 _ _ _, by rw [setCells_size]; exact Nat.lt_of_lt_of_le lG S3.h.size, Option.isSome_iff_exists.1 k3.1, k3.2⟩
        have AFT := Lib.hid aft
        clear aft hHB
        go_wp2_with (first
          | (go_at_call 65; ((with_reducible refine (dBk _ hL.to).mono ?_); rintro e w3 ⟨rfl, S3⟩; obtain ⟨t3, W3, e3, B3, r3, t4, r4, t5, l5, ⟨u5, c5⟩, f5⟩ := AFT.out w3 S3))
          | (refine wpList_store_mid (by rfl) 44 (.tmp 9) (.tmp 38) (by rfl) G 0 F.toArray (by rfl) (by rfl) (by rw [eF]; exact t3) (by rw [eF]; exact size32) oF.out ?_; rw [e3])
          | (go_at_call 66; ((with_reducible refine (dN _ _ _ (rN _ l5 r4)).mono ?_); rintro e w4 ⟨rfl, rfl⟩)))
        go_roundw
        case rel => exact ⟨k + 1, by go_num, Lib.hid (NX.out _ B3 r3 t4 r4 t5)⟩
        case measure => simp [intOf]; omega
      · have m8 : (k : Int) % 8 = 1 := by omega
        have dN := DN.out 1 hr
        have rN := RN.out 1 4
        have hC := hCe2.out (by omega)
        subst hC
        have hlt2 := Lib.hid hlt
        generalize hv : wP x s k = v at dN hw NX
        obtain ⟨B3, r3, t4, r4, t5, l4, l5⟩ := hHB.out
        have k3 := t4 k hlt
        rw [Nat.zero_add] at k3
        obtain ⟨u5, c5⟩ := Option.isSome_iff_exists.1 k3.1
        have f5 := k3.2
        have H4 := Lib.hid (rN wr rfl l5 r4)
        have HN := Lib.hid (NX.out wr B3 r3 t4 r4 t5)
        clear hv hr hlt hCe2 DN RN NX hHB k3 r3 t4 r4 t5 dBk lF oF rN B3
        go_wp2_with (go_at_call 66; ((with_reducible refine (dN _ _ _ H4.out).mono ?_); rintro e w4 ⟨rfl, rfl⟩))
        go_roundw
        case rel => exact ⟨k + 1, by go_num, HN⟩
        case measure => have := hlt2.out; simp [intOf]; omega
      · have m8 : (k : Int) % 8 = 2 := by omega
        have dN := DN.out 2 hr
        have rN := RN.out 2 8
        have hC := hCe2.out (by omega)
        subst hC
        have hlt2 := Lib.hid hlt
        generalize hv : wP x s k = v at dN hw NX
        obtain ⟨B3, r3, t4, r4, t5, l4, l5⟩ := hHB.out
        have k3 := t4 k hlt
        rw [Nat.zero_add] at k3
        obtain ⟨u5, c5⟩ := Option.isSome_iff_exists.1 k3.1
        have f5 := k3.2
        have H4 := Lib.hid (rN wr rfl l5 r4)
        have HN := Lib.hid (NX.out wr B3 r3 t4 r4 t5)
        clear hv hr hlt hCe2 DN RN NX hHB k3 r3 t4 r4 t5 dBk lF oF rN B3
        go_wp2_with (go_at_call 66; ((with_reducible refine (dN _ _ _ H4.out).mono ?_); rintro e w4 ⟨rfl, rfl⟩))
        go_roundw
        case rel => exact ⟨k + 1, by go_num, HN⟩
        case measure => have := hlt2.out; simp [intOf]; omega
      · have m8 : (k : Int) % 8 = 3 := by omega
        have dN := DN.out 3 hr
        have rN := RN.out 3 12
        have hC := hCe2.out (by omega)
        subst hC
        have hlt2 := Lib.hid hlt
        generalize hv : wP x s k = v at dN hw NX
        obtain ⟨B3, r3, t4, r4, t5, l4, l5⟩ := hHB.out
        have k3 := t4 k hlt
        rw [Nat.zero_add] at k3
        obtain ⟨u5, c5⟩ := Option.isSome_iff_exists.1 k3.1
        have f5 := k3.2
        have H4 := Lib.hid (rN wr rfl l5 r4)
        have HN := Lib.hid (NX.out wr B3 r3 t4 r4 t5)
        clear hv hr hlt hCe2 DN RN NX hHB k3 r3 t4 r4 t5 dBk lF oF rN B3
        go_wp2_with (go_at_call 66; ((with_reducible refine (dN _ _ _ H4.out).mono ?_); rintro e w4 ⟨rfl, rfl⟩))
        go_roundw
        case rel => exact ⟨k + 1, by go_num, HN⟩
        case measure => have := hlt2.out; simp [intOf]; omega
      · have m8 : (k : Int) % 8 = 4 := by omega
        have dN := DN.out 4 hr
        have rN := RN.out 4 16
        have hC := hCe2.out (by omega)
        subst hC
        have hlt2 := Lib.hid hlt
        generalize hv : wP x s k = v at dN hw NX
        obtain ⟨B3, r3, t4, r4, t5, l4, l5⟩ := hHB.out
        have k3 := t4 k hlt
        rw [Nat.zero_add] at k3
        obtain ⟨u5, c5⟩ := Option.isSome_iff_exists.1 k3.1
        have f5 := k3.2
        have H4 := Lib.hid (rN wr rfl l5 r4)
        have HN := Lib.hid (NX.out wr B3 r3 t4 r4 t5)
        clear hv hr hlt hCe2 DN RN NX hHB k3 r3 t4 r4 t5 dBk lF oF rN B3
        go_wp2_with (go_at_call 66; ((with_reducible refine (dN _ _ _ H4.out).mono ?_); rintro e w4 ⟨rfl, rfl⟩))
        go_roundw
        case rel => exact ⟨k + 1, by go_num, HN⟩
        case measure => have := hlt2.out; simp [intOf]; omega
      · have m8 : (k : Int) % 8 = 5 := by omega
        have dN := DN.out 5 hr
        have rN := RN.out 5 20
        have hC := hCe2.out (by omega)
        subst hC
        have hlt2 := Lib.hid hlt
        generalize hv : wP x s k = v at dN hw NX
        obtain ⟨B3, r3, t4, r4, t5, l4, l5⟩ := hHB.out
        have k3 := t4 k hlt
        rw [Nat.zero_add] at k3
        obtain ⟨u5, c5⟩ := Option.isSome_iff_exists.1 k3.1
        have f5 := k3.2
        have H4 := Lib.hid (rN wr rfl l5 r4)
        have HN := Lib.hid (NX.out wr B3 r3 t4 r4 t5)
        clear hv hr hlt hCe2 DN RN NX hHB k3 r3 t4 r4 t5 dBk lF oF rN B3
        go_wp2_with (go_at_call 66; ((with_reducible refine (dN _ _ _ H4.out).mono ?_); rintro e w4 ⟨rfl, rfl⟩))
        go_roundw
        case rel => exact ⟨k + 1, by go_num, HN⟩
        case measure => have := hlt2.out; simp [intOf]; omega
      · have m8 : (k : Int) % 8 = 6 := by omega
        have dN := DN.out 6 hr
        have rN := RN.out 6 24
        have hC := hCe2.out (by omega)
        subst hC
        have hlt2 := Lib.hid hlt
        generalize hv : wP x s k = v at dN hw NX
        obtain ⟨B3, r3, t4, r4, t5, l4, l5⟩ := hHB.out
        have k3 := t4 k hlt
        rw [Nat.zero_add] at k3
        obtain ⟨u5, c5⟩ := Option.isSome_iff_exists.1 k3.1
        have f5 := k3.2
        have H4 := Lib.hid (rN wr rfl l5 r4)
        have HN := Lib.hid (NX.out wr B3 r3 t4 r4 t5)
        clear hv hr hlt hCe2 DN RN NX hHB k3 r3 t4 r4 t5 dBk lF oF rN B3
        go_wp2_with (go_at_call 66; ((with_reducible refine (dN _ _ _ H4.out).mono ?_); rintro e w4 ⟨rfl, rfl⟩))
        go_roundw
        case rel => exact ⟨k + 1, by go_num, HN⟩
        case measure => have := hlt2.out; simp [intOf]; omega
      · have m8 : (k : Int) % 8 = 7 := by omega
        have dN := DN.out 7 hr
        have rN := RN.out 7 28
        have hC := hCe2.out (by omega)
        subst hC
        have hlt2 := Lib.hid hlt
        generalize hv : wP x s k = v at dN hw NX
        obtain ⟨B3, r3, t4, r4, t5, l4, l5⟩ := hHB.out
        have k3 := t4 k hlt
        rw [Nat.zero_add] at k3
        obtain ⟨u5, c5⟩ := Option.isSome_iff_exists.1 k3.1
        have f5 := k3.2
        have H4 := Lib.hid (rN wr rfl l5 r4)
        have HN := Lib.hid (NX.out wr B3 r3 t4 r4 t5)
        clear hv hr hlt hCe2 DN RN NX hHB k3 r3 t4 r4 t5 dBk lF oF rN B3
        go_wp2_with (go_at_call 66; ((with_reducible refine (dN _ _ _ H4.out).mono ?_); rintro e w4 ⟨rfl, rfl⟩))
        go_roundw
        case rel => exact ⟨k + 1, by go_num, HN⟩
        case measure => have := hlt2.out; simp [intOf]; omega
    · have : k = n := by omega
      subst this
      have R : R32 wr (some ⟨g, 0, none⟩) (wsP x s k) := fun j y hy => by
        have hr1 := hI.out.2.2.1
        rw [prt_end] at hr1
        have hc := hr1 j (.int .u32 y) (by unfold vl; rw [List.getElem?_map]; unfold NL at hy; rw [List.getElem?_map] at hy; cases hq : (wsP x s k)[j]? with
          | none => rw [hq] at hy; cases hy
          | some v => rw [hq] at hy; cases hy; rfl)
        refine ⟨_, rfl, World.block_lt_of_cell? wr ⟨g, 0 + j, none⟩ hc, ?_⟩
        rw [Addr.add_mid]
        exact hc
      go_wp2
      go_ret2
      exact ⟨_, rfl, R, ⟨hI.out.2.1⟩⟩
end Pg
end Go.Proofs.YtmjbbaekdbiopaaDoor
