/- The document's Open of layer 10. Conditions: what is handed in reads as rows of peers, of numbers and of pairs; lengths as stated. -/
import Derived.Test.YtfeahgcigmoijaaGreatDoorRef10B
namespace Go.Proofs.YtfeahgcigmoijaaGreatDoor
open Go.RowKit Go.Lib
namespace Bl
open SlR Sh Sp Mc Pg VecC VecE Pe Mp
theorem ids_at {ps : List (Int × Nat)} {k : Nat} (h : k < ps.length) : (ids ps)[k]? = some (ps.getD k (0, 0)).1 := by
  unfold ids
  rw [List.getElem?_map, List.getD_eq_getElem?_getD, List.getElem?_eq_getElem h]; rfl
theorem inn_ids {ps : List (Int × Nat)} {x : Int} {j : Nat} (h : j < ps.length) : inn (ids (ps.take (j + 1))) x = (inn (ids (ps.take j)) x || ((ps.getD j (0, 0)).1 == x)) := by
  rw [ids_take h]
  unfold inn
  rw [List.any_append]; simp
/-- Are the numbers so far peers, and do they ascend? -/
def Good (ps : List (Int × Nat)) (cs : List Int) : Prop := (∀ c ∈ cs, c ∈ ids ps) ∧ cs.Pairwise (· < ·)
theorem good_zero (ps : List (Int × Nat)) : Good ps [] := ⟨fun _ h => absurd h List.not_mem_nil, List.Pairwise.nil⟩
theorem good_snoc {ps : List (Int × Nat)} {cs : List Int} {k : Nat} {z : Int} (h : Good ps (cs.take k)) (hz : cs[k]? = some z) (hin : inn (ids ps) z = true) (hlt : ∀ y, 0 < k → cs[k - 1]? = some y → y < z) : Good ps (cs.take (k + 1)) := by
  rw [take_snoc hz]
  refine ⟨fun c hc => ?_, ?_⟩
  · rcases List.mem_append.mp hc with hc | hc
    · exact h.1 c hc
    · have : c = z := by simpa using hc
      rw [this]; exact inn_iff.mp hin
  · rw [List.pairwise_append]
    refine ⟨h.2, by simp, fun a ha b hb => ?_⟩
    have hbz : b = z := by simpa using hb
    subst hbz
    obtain ⟨i, hi, rfl⟩ := List.mem_iff_getElem.mp ha
    rw [List.length_take] at hi
    have hkl := (List.getElem?_eq_some_iff.mp hz).1
    have hlast : cs[k - 1]? = some cs[k - 1] := List.getElem?_eq_getElem (by omega)
    have hl := hlt _ (by omega) hlast
    rcases Nat.lt_or_ge i (k - 1) with hlt2 | hge
    · have := List.pairwise_iff_getElem.mp h.2 i (k - 1) (by rw [List.length_take]; omega) (by rw [List.length_take]; omega) hlt2
      rw [List.getElem_take, List.getElem_take] at this
      rw [List.getElem_take]
      omega
    · have : i = k - 1 := by omega
      subst this
      rw [List.getElem_take]; exact hl
theorem bad_in {ps : List (Int × Nat)} {cs : List Int} {k : Nat} {z : Int} (ha : (ids ps).Pairwise (· < ·)) (hz : cs[k]? = some z) (hin : inn (ids ps) z = false) : ids (hereF cs ps) ≠ cs := fun h => by
  have := ((came_iff ha cs).mp h).1 z (List.mem_of_getElem? hz)
  rw [inn_iff.mpr this] at hin; cases hin
theorem bad_lt {ps : List (Int × Nat)} {cs : List Int} {k : Nat} {y z : Int} (ha : (ids ps).Pairwise (· < ·)) (hk : 0 < k) (hy : cs[k - 1]? = some y) (hz : cs[k]? = some z) (hle : z ≤ y) : ids (hereF cs ps) ≠ cs := fun h => by
  have := ((came_iff ha cs).mp h).2
  obtain ⟨h1, e1⟩ := List.getElem?_eq_some_iff.mp hy
  obtain ⟨h2, e2⟩ := List.getElem?_eq_some_iff.mp hz
  have := List.pairwise_iff_getElem.mp this (k - 1) k h1 h2 (by omega)
  omega
/-- What the document's Open answers. -/
def Ans10 (w : World) (n : Nat) (zs : List Int) (e : Ending) (w' : World) : Prop := ∃ A c, e = .returned (.tuple #[.slice A n c, .int .i64 0]) ∧ Row .u32 w' A zs ∧ Step w w'
def No10 (w : World) (k : Int) (e : Ending) (w' : World) : Prop := e = .returned (.tuple #[.slice none 0 0, .int .i64 k]) ∧ Step w w'
theorem infoR : (Tryz.prog.info? 56).map (fun i => (i.zero, i.size, i.bytes)) = some (some (.agg #[.int .i64 0, .int .u64 0]), 2, 16) := by kernel_rfl
theorem keep_snoc {came : List Int} {ps : List (Int × Nat)} {x : Int} {k : Nat} {p : Int × Nat} (h : k < ps.length) (e : ps.getD k (0, 0) = p) : keepF came x (ps.take (k + 1)) = keepF came x (ps.take k) ++ (if (p.1 == x || inn came p.1) = true then [p] else []) := by
  unfold keepF
  rw [filter_snoc _ h, e]
theorem id_ne {ps : List (Int × Nat)} (ha : (ids ps).Pairwise (· < ·)) {j k : Nat} (hj : j < ps.length) (hk : k < ps.length) (h : j ≠ k) : (ps.getD j (0, 0)).1 ≠ (ps.getD k (0, 0)).1 := fun e => by
  have e1 := ids_at hj
  have e2 := ids_at hk
  obtain ⟨h1, g1⟩ := List.getElem?_eq_some_iff.mp e1
  obtain ⟨h2, g2⟩ := List.getElem?_eq_some_iff.mp e2
  rcases Nat.lt_or_ge j k with hl | hl
  · have := List.pairwise_iff_getElem.mp ha j k h1 h2 hl
    omega
  · have := List.pairwise_iff_getElem.mp ha k j h2 h1 (by omega)
    omega
theorem infoW10 : (Tryz.prog.info? 51).map (fun i => (i.zero, i.size, i.bytes)) = some (some (.int .u32 0), 1, 4) := by kernel_rfl
set_option maxHeartbeats 12800000 in
set_option maxRecDepth 1000000 in
theorem dopen_go (A D AS AK : Option Addr) (c d cs ck q m n ns nk : Nat) (came : List Int) (ps sl kl : List (Int × Nat)) (w : World) (hq : came.length = q) (hq2 : q ≤ 100000) (hm : ps.length = m) (hm2 : m ≤ 100000) (hc : Row .i64 w A came) (hr : RowQ w D ps)
    (hsl : sl.length = ns) (hns : ns ≤ 100000) (hS : RowQ w AS sl) (hkl : kl.length = nk) (hnk : nk ≤ 100000) (hK : RowQ w AK kl) (F G : Int → Option Nat) (hF : Hid (F = lastF sl)) (hG : Hid (G = lastF kl)) (hs64 : Hid (∀ i, (F i).getD 0 < 18446744073709551616)) (hk64 : Hid (∀ i, (G i).getD 0 < 18446744073709551616))
    (hmay : Hid (mayF 0 ps = true)) (hn : n ≤ 32) :
    Calls Tryz.prog 12 #[.slice A q c, .slice D m d, .slice AS ns cs, .slice AK nk ck, .int .i64 n] w fun e w' => (Hid (ids (hereF came ps) ≠ came) ∧ No10 w 1 e w') ∨
      (Hid (ids (hereF came ps) = came ∧ ps.all (hasF F G came) = true) ∧ Ans10 w n (openF (oN n) (wN n) F G came ps n ps) e w') ∨ (Hid (ids (hereF came ps) = came ∧ ps.all (hasF F G came) = false) ∧ No10 w 6 e w') := by
  obtain ⟨i0, hi, hz0, hz1, hz2⟩ := info_parts infoW10
  obtain ⟨iq, hiq, hq0, hq1, hq2'⟩ := info_parts infoR
  have hasc := Lib.hid (mayF_asc hmay.out)
  have cM := fun (w : World) (h : RowQ w D ps) => may_yes D d m ps w hm hm2 h hmay
  have hn0 : ¬ ((n : Int) < 0) := by omega
  have hn32 : ¬ (32 < (n : Int)) := by omega
  go_enter Tryz.func12, Tryz.ntmps12
  go_wp2_with (go_at_call 31; ((with_reducible refine (cM _ hr.to).mono ?_); rintro e w1 ⟨rfl, S1⟩; clear cM))
  go_loopw [12] (fun i wr => ∃ (k : Nat), k ≤ q ∧ i = .int .i64 k ∧ Hid (Good ps (came.take k)) ∧ Step w wr) (fun i _ => q - (intOf i).toNat)
  case atStart => exact ⟨0, Nat.zero_le _, rfl, Lib.hid (good_zero ps), Step.of inferInstance⟩
  case round =>
    obtain ⟨k, hk, rfl, HG, hS1⟩ := hrel
    by_cases hlt : k < q
    · obtain ⟨ad, z, rfl, hab, hz, hzc⟩ := hc.at (j := k) (by omega)
      obtain ⟨wL, hwL⟩ : ∃ y, y = wr := ⟨_, rfl⟩
      subst hwL
      have HZ := Lib.hid hz
      have hzL : wL.cell? (ad.add k) = some (.int .i64 z) := (hS1.h.cell (by rw [blockAdd]; exact hab)).trans hzc
      have hadL : (ad.add k).block < wL.heap.size := World.block_lt_of_cell? wL _ hzL
      clear hz
      go_wp2_with (fail)
      go_loopw [13, 14] (fun is j wr => ∃ (p : Nat) (b : Bool), p ≤ m ∧ j = .int .i64 p ∧ is = .bool b ∧ Hid (inn (ids (ps.take p)) z = b) ∧ Step wL wr) (fun _ j _ => m - (intOf j).toNat)
      case atStart => exact ⟨0, false, Nat.zero_le _, rfl, rfl, Lib.hid rfl, Step.of inferInstance⟩
      case round =>
        obtain ⟨p, b, hp, rfl, rfl, HB, hS2⟩ := hrel
        have hzr : wr.cell? (ad.add k) = some (.int .i64 z) := (hS2.h.cell hadL).trans hzL
        by_cases hpl : p < m
        · obtain ⟨B, O, rfl, hab2, hc1, hc2⟩ := (hr.to : RowQ wr D ps) p (by omega)
          obtain ⟨x, hx⟩ : ∃ x : Int, Hid (x = (ps.getD p (0, 0)).1) := ⟨_, Lib.hid rfl⟩
          rw [← hx.out] at hc1
          have HT : Hid (inn (ids (ps.take (p + 1))) z = (b || (x == z))) := Lib.hid (by rw [inn_ids (by omega), HB.out, ← hx.out])
          clear hx HB hc2
          cases b
          · by_cases hxz : x = z
            · have HN : Hid (inn (ids (ps.take (p + 1))) z = true) := Lib.hid (by rw [HT.out]; simpa using hxz)
              have hb : (x == z) = true := by simpa using hxz
              clear HT hxz
              go_wp2_with (fail)
              go_quiet (fail)
              go_wp2
              go_roundw
              case rel => exact ⟨p + 1, true, by omega, by go_num, rfl, HN, Step.of inferInstance⟩
              case measure => simp [intOf]; omega
            · have HN : Hid (inn (ids (ps.take (p + 1))) z = false) := Lib.hid (by rw [HT.out]; simpa using hxz)
              have hb : (x == z) = false := by simpa using hxz
              clear HT hxz
              go_wp2_with (fail)
              go_quiet (fail)
              go_wp2
              go_roundw
              case rel => exact ⟨p + 1, false, by omega, by go_num, rfl, HN, Step.of inferInstance⟩
              case measure => simp [intOf]; omega
          · have HN : Hid (inn (ids (ps.take (p + 1))) z = true) := Lib.hid (by rw [HT.out]; rfl)
            clear HT
            go_wp2_with (fail)
            go_quiet (fail)
            go_wp2
            go_roundw
            case rel => exact ⟨p + 1, true, by omega, by go_num, rfl, HN, Step.of inferInstance⟩
            case measure => simp [intOf]; omega
        · have hpm : m = p := by omega
          subst hpm
          have HI : Hid (inn (ids ps) z = b) := Lib.hid (by have := HB.out; rwa [List.take_of_length_le (by omega)] at this)
          clear HB
          cases b
          · have HF : Hid (ids (hereF came ps) ≠ came) := Lib.hid (bad_in hasc.out HZ.out HI.out)
            clear HI HG hs64 hk64
            go_wp2_with (fail)
            go_quiet (fail)
            go_wp2
            exact bodyPost_ret (v := .tuple #[.slice none 0 0, .int .i64 1]) (by simp [results, Tryz.results12, go_sem]) rfl (.inl ⟨HF, rfl, Step.of inferInstance⟩)
          · rcases Nat.eq_zero_or_pos k with hk0 | hkp
            · have HN : Hid (Good ps (came.take (k + 1))) := Lib.hid (good_snoc HG.out HZ.out HI.out (fun y h => by omega))
              have bk : decide ((0 : Int) < (k : Int)) = false := decide_eq_false (by omega)
              have bkN : decide (0 < k) = false := decide_eq_false (by omega)
              clear HI HG hs64 hk64
              go_wp2_with (fail)
              go_quiet (fail)
              go_wp2
              go_roundw
              case rel => exact ⟨k + 1, by omega, by go_num, HN, Step.of inferInstance⟩
              case measure => simp [intOf]; omega
            · obtain ⟨ad2, y, e2, hab2, hy, hyc⟩ := hc.at (j := k - 1) (by omega)
              cases e2
              have hyr : wr.cell? (ad.add (k - 1)) = some (.int .i64 y) := ((show Step w wr from Step.of inferInstance).h.cell (by rw [blockAdd]; exact hab2)).trans hyc
              have HY := Lib.hid hy
              have bk : decide ((0 : Int) < (k : Int)) = true := decide_eq_true (by omega)
              have bkN : decide (0 < k) = true := decide_eq_true (by omega)
              obtain ⟨k1, hk1⟩ : ∃ k1, Hid (k1 = k - 1) := ⟨_, Lib.hid rfl⟩
              rw [← hk1.out] at hyr
              have hw1 : IntKind.i64.wrap ((k : Int) - 1) = (k1 : Int) := by have := hk1.out; rw [IntKind.wrap_i64] <;> omega
              have hkq : (k1 : Int) < q := by have := hk1.out; omega
              clear hy
              by_cases hle : z ≤ y
              · have HF : Hid (ids (hereF came ps) ≠ came) := Lib.hid (bad_lt hasc.out hkp HY.out HZ.out hle)
                have b5 : decide (z ≤ y) = true := decide_eq_true hle
                clear HI HG hs64 hk64
                go_wp2_with (fail)
                go_quiet (fail)
                go_wp2
                exact bodyPost_ret (v := .tuple #[.slice none 0 0, .int .i64 1]) (by simp [results, Tryz.results12, go_sem]) rfl (.inl ⟨HF, rfl, Step.of inferInstance⟩)
              · have b5 : decide (z ≤ y) = false := decide_eq_false hle
                have HN : Hid (Good ps (came.take (k + 1))) := Lib.hid (good_snoc HG.out HZ.out HI.out (fun y' _ h => by
                  rw [HY.out] at h
                  have := Option.some.inj h
                  omega))
                clear HI HG hs64 hk64
                go_wp2_with (fail)
                go_quiet (fail)
                go_wp2
                go_roundw
                case rel => exact ⟨k + 1, by omega, by go_num, HN, Step.of inferInstance⟩
                case measure => simp [intOf]; omega
    · have hqk : q = k := by omega
      subst hqk
      have HE : Hid (ids (hereF came ps) = came) := Lib.hid ((came_iff hasc.out came).mpr (by have := HG.out; rwa [List.take_of_length_le (by omega)] at this))
      have hbd := Lib.hid (mayF_all hmay.out)
      have h64 := Lib.hid (q64_may hmay.out)
      have cFS : ∀ (i : Int) (w : World), RowQ w AS sl → Calls Tryz.prog 32 #[.slice AS ns cs, .int .i64 i] w fun e w' => e = .returned (.tuple #[.int .u64 ((F i).getD 0 : Nat), .bool (F i).isSome]) ∧ Step w w' := fun i w h => by
        have := find_any AS cs ns sl i w hsl hns h
        rwa [← hF.out] at this
      have cFK : ∀ (i : Int) (w : World), RowQ w AK kl → Calls Tryz.prog 32 #[.slice AK nk ck, .int .i64 i] w fun e w' => e = .returned (.tuple #[.int .u64 ((G i).getD 0 : Nat), .bool (G i).isSome]) ∧ Step w w' := fun i w h => by
        have := find_any AK ck nk kl i w hkl hnk h
        rwa [← hG.out] at this
      have HA := Lib.hid (has_eq F G came ps HE.out)
      have HO := Lib.hid (open_eq (o := oN n) (w := wN n) F G came ps (oN_R n) (wN_R n) HE.out)
      clear HG hlt
      go_wp2_with (at_make; refine App.make .u32 (by simp [Region.wanted]) _ _ 22 rfl 51 i0 4 Tryz.underlying22 hi hz0 hz1 hz2 _ _ _ _ n rfl rfl rfl rfl (by omega) (by unfold maxLen; omega) ?_; intro w3 R3 S3)
      have hRA := Lib.hid fun k => openA_R (n := n) F (oN_R n) (came.take k)
      go_loopw [15, 16] (fun row i wr => ∃ (k : Nat) (A' : Option Addr) (c' : Nat), k ≤ q ∧ row = .slice A' n c' ∧ i = .int .i64 k ∧ Row .u32 wr A' (openA (oN n) F n (came.take k)) ∧ Hid ((came.take k).all (fun i => (F i).isSome) = true) ∧ Step w3 wr) (fun _ i _ => q - (intOf i).toNat)
      case atStart => exact ⟨0, _, _, Nat.zero_le _, rfl, rfl, R3, Lib.hid rfl, Step.of inferInstance⟩
      case round =>
        clear R3
        obtain ⟨k, A', c', hk, rfl, rfl, RR, HL, hS3⟩ := hrel
        by_cases hlt : k < q
        · obtain ⟨ad, z, rfl, hab, hz, hzc⟩ := hc.at (j := k) (by omega)
          have hzr : wr.cell? (ad.add k) = some (.int .i64 z) := ((show Step w wr from Step.of inferInstance).h.cell (by rw [blockAdd]; exact hab)).trans hzc
          have HT : Hid (openA (oN n) F n (came.take (k + 1)) = vAdd (openA (oN n) F n (came.take k)) (oN n ((F z).getD 0))) := Lib.hid (by
            rw [openA_snoc _ _ (by omega)]
            rw [List.getD_eq_getElem?_getD, hz]; rfl)
          have HL2 : Hid ((came.take (k + 1)).all (fun i => (F i).isSome) = (F z).isSome) := Lib.hid (by rw [take_snoc hz, List.all_append, HL.out]; simp)
          have HN : Hid ((F z).isSome = false → came.all (fun i => (F i).isSome) = false) := Lib.hid (fun e => by
            rw [List.all_eq_false]
            exact ⟨z, List.mem_of_getElem? hz, by rw [e]; simp⟩)
          have cZ := fun (w : World) h => cFS z w h
          have hs : Hid ((F z).getD 0 < 18446744073709551616) := Lib.hid (hs64.out z)
          have hRk := hRA.out k
          generalize openA (oN n) F n (came.take k) = row at RR HT hRk
          generalize (F z).getD 0 = s at cZ HT hs
          cases hb : (F z).isSome
          · rw [hb] at cZ
            have HZ : Hid (ps.all (hasF F G came) = false) := Lib.hid (by rw [HA.out, HN.out hb]; rfl)
            clear hz HN HL2 HT hRk hb hRA hs64 hk64 cFS
            go_wp2_with (go_at_call 32; ((with_reducible refine (cZ _ hS.to).mono ?_); rintro e w4 ⟨rfl, S4⟩))
            exact bodyPost_ret (v := .tuple #[.slice none 0 0, .int .i64 6]) (by simp [results, Tryz.results12, go_sem]) rfl (.inr (.inr ⟨Lib.hid ⟨HE.out, HZ.out⟩, rfl, Step.of inferInstance⟩))
          · rw [hb] at cZ
            have HL3 : Hid ((came.take (k + 1)).all (fun i => (F i).isSome) = true) := Lib.hid (by rw [HL2.out, hb])
            have cW := fun (w : World) => rwords_yes s own n w hs lab_own hn
            unfold own at cW
            have hON : Hid (oN n s = NL (wsP s ⟨#[111, 119, 110]⟩ n)) := Lib.hid rfl
            have hOR := oN_R n s
            generalize oN n s = O at HT hON hOR
            have cA : ∀ (A D : Option Addr) (c d : Nat) (w : World), Row .u32 w A row → Row .u32 w D O → Calls Tryz.prog 21 #[.slice A n c, .slice D n d, .int .u64 1] w (Ref02.YesB w n (vAdd row O)) := fun A D c d w h1 h2 => by
              have h := Ref02.add A D c d n 1 row O w hRk.1 hOR.1 h1 h2 hRk.2 hOR.2 hn (by omega)
              rwa [Ref02.vLin_one] at h
            clear hz HN HL2 hRk hOR hb hRA hs64 hk64 cFS
            go_wp2_with (first
              | (go_at_call 32; ((with_reducible refine (cZ _ hS.to).mono ?_); rintro e w4 ⟨rfl, S4⟩))
              | (go_at_call 9; ((with_reducible refine (cW _).mono ?_); rintro e w5 ⟨A5, c5, rfl, R5, S5⟩; have R5 : Row .u32 w5 A5 O := hON.out ▸ R5))
              | (go_at_call 21; ((with_reducible refine (cA _ _ _ _ _ RR.to R5.to).mono ?_); rintro e w6 ⟨A6, c6, rfl, R6, S6⟩)))
            go_roundw
            case rel => exact ⟨k + 1, A6, c6, by omega, rfl, by go_num, by rw [HT.out]; exact R6.to, HL3, Step.of inferInstance⟩
            case measure => simp [intOf]; omega
        · have hqk2 : q = k := by omega
          subst hqk2
          have HE2 : Hid (came.take q = came) := Lib.hid (List.take_of_length_le (by omega))
          rw [HE2.out] at RR HL
          obtain ⟨wL, hwL⟩ : ∃ y, y = wr := ⟨_, rfl⟩
          subst hwL
          have hRB := Lib.hid fun j => turnB_R (n := n) G came ps (wN_R n) (ps.take j) (openA_R F (oN_R n) came)
          clear hlt cFS hRA hs64
          go_wp2_with (fail)
          go_loopw [15, 21] (fun row i wr => ∃ (k : Nat) (A' : Option Addr) (c' : Nat), k ≤ m ∧ row = .slice A' n c' ∧ i = .int .i64 k ∧ Row .u32 wr A' ((ps.take k).foldl (turnB (wN n) G came ps n) (openA (oN n) F n came)) ∧ Hid ((ps.take k).all (fun p => inn came p.1 || (G p.1).isSome) = true) ∧ Step wL wr) (fun _ i _ => m - (intOf i).toNat)
          case atStart => exact ⟨0, _, _, Nat.zero_le _, rfl, rfl, RR, Lib.hid rfl, Step.of inferInstance⟩
          case round =>
            clear RR
            obtain ⟨k, A2', c2', hk2, rfl, rfl, RB, HB, hS4⟩ := hrel
            by_cases hlt : k < m
            · obtain ⟨B, O, rfl, hab2, hc1, hc2⟩ := (hr.to : RowQ wr D ps) k (by omega)
              obtain ⟨x, hx⟩ : ∃ x : Int, Hid (x = (ps.getD k (0, 0)).1) := ⟨_, Lib.hid rfl⟩
              obtain ⟨y, hy⟩ : ∃ y : Nat, Hid (y = (ps.getD k (0, 0)).2) := ⟨_, Lib.hid rfl⟩
              have hxy : Hid (ps.getD k (0, 0) = (x, y)) := Lib.hid (by rw [hx.out, hy.out])
              rw [← hx.out] at hc1
              rw [← hy.out] at hc2
              have hmem : Hid ((x, y) ∈ ps) := Lib.hid (by rw [← hxy.out]; exact mem_at (by omega))
              have HT : Hid ((ps.take (k + 1)).foldl (turnB (wN n) G came ps n) (openA (oN n) F n came) = turnB (wN n) G came ps n ((ps.take k).foldl (turnB (wN n) G came ps n) (openA (oN n) F n came)) (x, y)) := Lib.hid (by rw [turnB_snoc _ _ _ _ _ (by omega), hxy.out])
              have HS : Hid ((ps.take (k + 1)).all (fun p => inn came p.1 || (G p.1).isSome) = (inn came x || (G x).isSome)) := Lib.hid (by rw [all_snoc _ (by omega), HB.out, hxy.out]; rfl)
              have HN : Hid ((inn came x || (G x).isSome) = false → ps.all (fun p => inn came p.1 || (G p.1).isSome) = false) := Lib.hid (fun e => all_no (k := k) _ (by omega) (by rw [hxy.out]; exact e))
              have hRk := hRB.out k
              have cI := fun (w : World) (h : Row .i64 w (A) came) => in_any A c q came x w hq hq2 h
              have cZ := fun (w : World) h => cFK x w h
              generalize (ps.take k).foldl (turnB (wN n) G came ps n) (openA (oN n) F n came) = row at RB HT hRk
              cases hb : inn came x
              · rw [hb] at cI
                have hs : Hid ((G x).getD 0 < 18446744073709551616) := Lib.hid (hk64.out x)
                have HT2 : Hid ((ps.take (k + 1)).foldl (turnB (wN n) G came ps n) (openA (oN n) F n came) = vSub row (rowP (wN n) x ((G x).getD 0) (keepF came x ps) n)) := Lib.hid (by rw [HT.out]; unfold turnB; rw [hb]; rfl)
                generalize (G x).getD 0 = s at cZ hs HT2
                cases hg : (G x).isSome
                · rw [hg] at cZ
                  have HZ : Hid (ps.all (hasF F G came) = false) := Lib.hid (by rw [HA.out, HN.out (by rw [hb, hg]; rfl), Bool.and_false])
                  clear HT HT2 HS HN hRk hb hg hRB hk64 cFK
                  go_wp2_with (first
                    | (go_at_call 33; ((with_reducible refine (cI _ hc.to).mono ?_); rintro e w4 ⟨rfl, S4⟩; have d1 := cellT hc1 (w' := w4)))
                    | (go_at_call 32; ((with_reducible refine (cZ _ hK.to).mono ?_); rintro e w5 ⟨rfl, S5⟩)))
                  exact bodyPost_ret (v := .tuple #[.slice none 0 0, .int .i64 6]) (by simp [results, Tryz.results12, go_sem]) rfl (.inr (.inr ⟨Lib.hid ⟨HE.out, HZ.out⟩, rfl, Step.of inferInstance⟩))
                · rw [hg] at cZ
                  have HS2 : Hid ((ps.take (k + 1)).all (fun p => inn came p.1 || (G p.1).isSome) = true) := Lib.hid (by rw [HS.out, hb, hg]; rfl)
                  clear HT HS HN hb hg hRB hk64 cFK
                  go_wp2_with (first
                    | (go_at_call 33; ((with_reducible refine (cI _ hc.to).mono ?_); rintro e w4 ⟨rfl, S4⟩; have d1 := cellT hc1 (w' := w4)))
                    | (go_at_call 32; ((with_reducible refine (cZ _ hK.to).mono ?_); rintro e w5 ⟨rfl, S5⟩)))
                  go_loopw [24, 25] (fun v j wr => ∃ (p r : Nat), p ≤ m ∧ j = .int .i64 p ∧ r ≤ p ∧ Hid ((keepF came x (ps.take p)).length = r) ∧ wr.ownsRow w5.heap.size 56 2 v r (qc (keepF came x (ps.take p))) ∧ Step w5 wr) (fun _ j _ => m - (intOf j).toNat)
                  case atStart => exact ⟨0, 0, Nat.zero_le _, rfl, Nat.le_refl _, Lib.hid rfl, World.ownsRow_nil _ _ _ _, Step.of inferInstance⟩
                  case round =>
                    obtain ⟨p, r, hp, rfl, hrp, hlen, hown, hS5⟩ := hrel
                    obtain ⟨A3, c3, rfl, _⟩ := own_form2 hown
                    by_cases hpl : p < m
                    · obtain ⟨B', O', e', hab3, hd1, hd2⟩ := (hr.to : RowQ wr (some ⟨B, O, none⟩) ps) p (by omega)
                      cases e'
                      obtain ⟨x2, hx2⟩ : ∃ x2 : Int, Hid (x2 = (ps.getD p (0, 0)).1) := ⟨_, Lib.hid rfl⟩
                      obtain ⟨y2, hy2⟩ : ∃ y2 : Nat, Hid (y2 = (ps.getD p (0, 0)).2) := ⟨_, Lib.hid rfl⟩
                      have hxy2 : Hid (ps.getD p (0, 0) = (x2, y2)) := Lib.hid (by rw [hx2.out, hy2.out])
                      have hne : Hid (p ≠ k → x2 ≠ x) := Lib.hid (fun e => by rw [hx2.out, hx.out]; exact id_ne hasc.out (by omega) (by omega) e)
                      have heq : Hid (p = k → x2 = x) := Lib.hid (fun e => by rw [hx2.out, hx.out, e])
                      rw [← hx2.out] at hd1
                      rw [← hy2.out] at hd2
                      have HK2 : Hid (keepF came x (ps.take (p + 1)) = keepF came x (ps.take p) ++ (if (x2 == x || inn came x2) = true then [(x2, y2)] else [])) := Lib.hid (keep_snoc (by omega) hxy2.out)
                      have HOw := Lib.hid hown
                      have cI2 := fun (w : World) (h : Row .i64 w A came) => in_any A c q came x2 w hq hq2 h
                      clear hown hx2 hy2 hxy2 hRk HT2
                      by_cases hpk : p = k
                      · have HK3 : Hid (keepF came x (ps.take (p + 1)) = keepF came x (ps.take p) ++ [(x2, y2)]) := Lib.hid (by rw [HK2.out, heq.out hpk]; simp)
                        have hb5 : ((p : Int) == (k : Int)) = true := beq_iff_eq.mpr (by omega)
                        have hb5N : (p == k) = true := by simpa using hpk
                        clear HK2 hne heq hpk cI2
                        go_wp2_with (at_builtin; refine one w5 wr rfl _ _ 28 rfl 56 iq _ Tryz.underlying28 hiq hq0 hq1 hq2' rfl _ r _ rfl HOw.out wr.heap.size (x2, y2) rfl (RowQ.lit1 wr _ _ (x2, y2) rfl) (by omega) ?_; intro A6 c6 w6 O6 S6 hc6 hg6)
                        go_roundw
                        case rel => exact ⟨p + 1, r + 1, by omega, by go_num, by omega, Lib.hid (by rw [HK3.out, List.length_append, hlen.out]; rfl), by rw [HK3.out]; exact O6, S6⟩
                        case measure => simp [intOf]; omega
                      · have hxx := hne.out hpk
                        have hb5 : ((p : Int) == (k : Int)) = false := beq_eq_false_iff_ne.mpr (by omega)
                        have hb5N : (p == k) = false := by simpa using hpk
                        cases hb6 : inn came x2
                        · rw [hb6] at cI2
                          have HK3 : Hid (keepF came x (ps.take (p + 1)) = keepF came x (ps.take p)) := Lib.hid (by rw [HK2.out, hb6]; simp [hxx])
                          clear HK2 hne heq hpk hb6 hxx
                          go_wp2_with (go_at_call 33; ((with_reducible refine (cI2 _ hc.to).mono ?_); rintro e w6 ⟨rfl, S6⟩))
                          go_roundw
                          case rel => exact ⟨p + 1, r, by omega, by go_num, by omega, Lib.hid (by rw [HK3.out]; exact hlen.out), by rw [HK3.out]; exact Pe.own_ext HOw.out inferInstance, Step.of inferInstance⟩
                          case measure => simp [intOf]; omega
                        · rw [hb6] at cI2
                          have HK3 : Hid (keepF came x (ps.take (p + 1)) = keepF came x (ps.take p) ++ [(x2, y2)]) := Lib.hid (by rw [HK2.out, hb6]; simp)
                          clear HK2 hne heq hpk hb6 hxx
                          go_wp2_with (first
                            | (go_at_call 33; ((with_reducible refine (cI2 _ hc.to).mono ?_); rintro e w6 ⟨rfl, S6⟩; have f1 := cellT hd1 (w' := w6); have f2 := cellT hd2 (w' := w6)))
                            | (at_builtin; refine one w5 wr rfl _ _ 28 rfl 56 iq _ Tryz.underlying28 hiq hq0 hq1 hq2' rfl _ r _ rfl HOw.out w6.heap.size (x2, y2) rfl (RowQ.lit1 w6 _ _ (x2, y2) rfl) (by omega) ?_; intro A7 c7 w7 O7 S7 hc7 hg7))
                          go_roundw
                          case rel => exact ⟨p + 1, r + 1, by omega, by go_num, by omega, Lib.hid (by rw [HK3.out, List.length_append, hlen.out]; rfl), by rw [HK3.out]; exact O7, S7⟩
                          case measure => simp [intOf]; omega
                    · have hpm : m = p := by omega
                      subst hpm
                      have HE4 : Hid (keepF came x (ps.take m) = keepF came x ps) := Lib.hid (by rw [List.take_of_length_le (by omega)])
                      rw [HE4.out] at hown hlen
                      have RK : RowQ wr A3 (keepF came x ps) := RowQ.of_own hown hlen.out
                      have hmay2 : Hid (mayF 0 (keepF came x ps) = true) := Lib.hid (mayF_filter _ hmay.out)
                      have h642 : Hid (Q64 (keepF came x ps)) := Lib.hid (q64_may hmay2.out)
                      have hin2 : Hid (isIn x (keepF came x ps) = true) := Lib.hid (keep_in hmem.out)
                      have cR := fun (w : World) (h : RowQ w A3 (keepF came x ps)) => rrow_yes x s A3 c3 r n (keepF came x ps) w hs hlen.out (by omega) h h642 hmay2 hin2 hn
                      have hXR := rowP_R (n := n) (fun s => (wN_R n s).1) x s (keepF came x ps)
                      generalize rowP (wN n) x s (keepF came x ps) n = X at cR hXR HT2
                      have cA : ∀ (A D : Option Addr) (c d : Nat) (w : World), Row .u32 w A row → Row .u32 w D X → Calls Tryz.prog 21 #[.slice A n c, .slice D n d, .int .u64 4294967295] w (Ref02.YesB w n (vSub row X)) := fun A D c d w h1 h2 => by
                        have h := Ref02.add A D c d n 4294967295 row X w hRk.1 hXR.1 h1 h2 hRk.2 hXR.2 hn (by omega)
                        rwa [Ref02.vLin_neg] at h
                      have d2 := cellT d1 (w' := wr)
                      clear hown hlen hRk hXR hmay2 h642 hin2 HE4
                      go_wp2_with (first
                        | (go_at_call 20; ((with_reducible refine (cR _ RK.to).mono ?_); rintro e w6 ⟨A6, c6, rfl, R6, S6⟩))
                        | (go_at_call 21; ((with_reducible refine (cA _ _ _ _ _ RB.to R6.to).mono ?_); rintro e w7 ⟨A7, c7, rfl, R7, S7⟩)))
                      go_roundw
                      case rel => exact ⟨k + 1, A7, c7, by omega, rfl, by go_num, by rw [HT2.out]; exact R7.to, HS2, Step.of inferInstance⟩
                      case measure => simp [intOf]; omega
              · rw [hb] at cI
                have HT2 : Hid ((ps.take (k + 1)).foldl (turnB (wN n) G came ps n) (openA (oN n) F n came) = row) := Lib.hid (by rw [HT.out]; unfold turnB; rw [hb]; rfl)
                have HS2 : Hid ((ps.take (k + 1)).all (fun p => inn came p.1 || (G p.1).isSome) = true) := Lib.hid (by rw [HS.out, hb]; rfl)
                clear HT HS HN hRk hb hRB hk64 cFK cZ
                go_wp2_with (go_at_call 33; ((with_reducible refine (cI _ hc.to).mono ?_); rintro e w4 ⟨rfl, S4⟩))
                go_roundw
                case rel => exact ⟨k + 1, A2', c2', by omega, rfl, by go_num, by rw [HT2.out]; exact RB.to, HS2, Step.of inferInstance⟩
                case measure => simp [intOf]; omega
            · have hkm : m = k := by omega
              subst hkm
              have HE3 : Hid (ps.take m = ps) := Lib.hid (List.take_of_length_le (by omega))
              rw [HE3.out] at RB HB
              rw [HO.out] at RB
              have HF : Hid (ids (hereF came ps) = came ∧ ps.all (hasF F G came) = true) := Lib.hid ⟨HE.out, by rw [HA.out, HL.out, HB.out]; rfl⟩
              clear hRB hk64 cFK
              go_wp2
              exact bodyPost_ret (v := .tuple #[.slice A2' n c2', .int .i64 0]) (by simp [results, Tryz.results12, go_sem]) rfl (.inr (.inl ⟨HF, A2', c2', rfl, RB, Step.of inferInstance⟩))
end Bl
end Go.Proofs.YtfeahgcigmoijaaGreatDoor
