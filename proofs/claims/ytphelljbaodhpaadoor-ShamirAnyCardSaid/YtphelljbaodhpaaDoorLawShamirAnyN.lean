/- ShamirAny walked, over lists. Condition: errors.errorType reads as laid; the list of those left out has at most 2^47 entries. -/
import Derived.Test.YtphelljbaodhpaaDoorSure04
import Derived.Test.YtphelljbaodhpaaDoorShamAny
import Derived.Test.YtphelljbaodhpaaDoorTwo
import Derived.Deep.RegionHeld3
namespace Go.Proofs.YtphelljbaodhpaaDoor
open Go.RowKit Go.Lib Go.Maps
namespace LawShamirAny
open SlR FpM FpC PoM PoC ErrAs ShM
theorem snocF (ps : List (Nat × Nat)) (k : Nat) (h : k < ps.length) (p : Nat × Nat) (hp : ps.getD k (0, 0) = p) : (fs ps).take (k + 1) = (fs ps).take k ++ [p.1] := by
  subst hp; rw [take_snocN _ k (by rw [fs_len]; exact h), fs_at]
theorem snocS (ps : List (Nat × Nat)) (k : Nat) (h : k < ps.length) (p : Nat × Nat) (hp : ps.getD k (0, 0) = p) : (sn ps).take (k + 1) = (sn ps).take k ++ [p.2] := by
  subst hp; rw [take_snocN _ k (by simpa using h), sn_at]
set_option maxHeartbeats 3200000 in
set_option maxRecDepth 1000000 in
theorem walkN (s0 s1 : Nat) (C : Option Addr) (n c : Nat) (chs : List (Nat × Nat)) (D : Option Addr) (ns dc : Nat) (bs : List Bool) (W : World) (hn : chs.length = n) (hn8 : n ≤ 8) (hrc : RowP W C chs)
    (hbl : bs.length = ns) (hsz : Hid (ns ≤ 140737488351232)) (hrb : ∀ j b, bs[j]? = some b → ∃ ad : Addr, D = some ad ∧ ad.block < W.heap.size ∧ W.cell? (ad.add j) = some (.bool b)) (hL : Laid W) :
    Calls Tryd.prog 4 #[.agg #[.int .u64 s0, .int .u64 s1], .slice C n c, .slice D ns dc] W fun e w' => e = .returned (.bool true) ∧ Step W w' := by
  obtain ⟨i0, hi, hz0, hz1, hz2⟩ := info_parts infoN
  obtain ⟨t, ht⟩ : ∃ t, t = n + ns := ⟨_, rfl⟩
  have htl : Hid (t ≤ 140737488351240) := Lib.hid (by have := hsz.out; omega)
  have hwt : IntKind.i64.wrap ((n : Int) + (ns : Int)) = (t : Int) := by have := htl.out; simp [IntKind.wrap, IntKind.bits, IntKind.signed]; omega
  have ht := Lib.hid ht
  have h8 : ¬ (8 : Int) < (n : Int) := by omega
  have hnsI : Hid ((ns : Int) ≤ 140737488351232) := Lib.hid (by have := hsz.out; omega)
  obtain ⟨w0, hw0⟩ : ∃ w0, w0 = W.alloc (.cells #[.int .u64 s0, .int .u64 s1] 47 (0, 0)) := ⟨_, rfl⟩
  have S0 : Step W w0 := by rw [hw0]; exact Step.of inferInstance
  have hb0 : W.heap.size < w0.heap.size := by rw [hw0]; simp
  have hx0 : w0.cell? ⟨W.heap.size, 0, none⟩ = some (.int .u64 s0) := by rw [hw0]; simp
  have hx1 : w0.cell? ⟨W.heap.size, 1, none⟩ = some (.int .u64 s1) := by rw [hw0]; simp
  have hrc0 : RowP w0 C chs := hrc.to
  go_enter Tryd.func4, Tryd.ntmps4
  go_wp2
  rw [← hw0]
  clear hw0
  go_loopw [8, 9, 10] (fun u v i wr => ∃ j : Nat, j ≤ n ∧ i = .int .i64 j ∧ Two.Own 22 wr w0.heap.size u j ((fs chs).take j) ∧ Two.Own 22 wr w0.heap.size v j ((sn chs).take j) ∧ Hdr.Apart u v ∧ Step w0 wr) (fun _ _ i _ => n - (intOf i).toNat)
  case atStart => exact ⟨0, Nat.zero_le _, rfl, World.ownsRow_nil _ _ _ _, World.ownsRow_nil _ _ _ _, Hdr.Apart.nil _, Step.of inferInstance⟩
  case round =>
    obtain ⟨j, hj, rfl, hu, hv, hap, Sr⟩ := hrel
    obtain ⟨A1, c1, rfl⟩ := own_form hu
    obtain ⟨A2, c2, rfl⟩ := own_form hv
    by_cases hlt : j < n
    · obtain ⟨b, o, rfl, hbl2, hc1, hc2⟩ := hrc0.at (k := j) (by omega)
      have HF := Lib.hid (snocF chs j (by omega) _ rfl)
      have HS := Lib.hid (snocS chs j (by omega) _ rfl)
      generalize chs.getD j (0, 0) = p at hc1 hc2 HF HS
      obtain ⟨x, y⟩ := p
      dsimp only at hc1 hc2 HF HS
      have hr1 : wr.cell? ⟨b, o + j * 2, none⟩ = some (.int .u64 x) := (Sr.h.cell hbl2).trans hc1
      have hr2 : wr.cell? ⟨b, o + j * 2 + 1, none⟩ = some (.int .u64 y) := (Sr.h.cell hbl2).trans hc2
      have HU := Lib.hid hu
      have HV := Lib.hid hv
      have HA := Lib.hid hap
      have hl1 : ∀ g, (Value.slice A1 j c1).ownBlock = some g → g < wr.heap.size := fun g h => (World.ownsRow.lt hu g h).2
      have hl2 : ∀ g, (Value.slice A2 j c2).ownBlock = some g → g < wr.heap.size := fun g h => (World.ownsRow.lt hv g h).2
      clear hu hv hap
      go_wp2
      go_region_held3 (fun w' => w'.cell? ⟨b, o + j * 2, none⟩ = some (.int .u64 x) ∧ w'.cell? ⟨b, o + j * 2 + 1, none⟩ = some (.int .u64 y) ∧ Step w0 w')
        (exact ⟨((Step.of (w := w0) inferInstance).h.cell hbl2).trans hc1, ((Step.of (w := w0) inferInstance).h.cell hbl2).trans hc2, Step.of inferInstance⟩)
        ((first
          | (refine Two.step w0 wr (by rfl) _ _ 23 (by rfl) 22 i0 _ Tryd.underlying23 hi hz0 hz1 hz2 rfl (.slice A1 j c1) (.slice A2 j c2) j j _ _ (by rfl) HU.out HV.out HA.out.symm _ x (by rfl) (by first | exact Two.lit0 _ _ _ x (by simp) | exact Two.lit1 _ _ _ x _ (by simp)) (by omega) wr.heap.size hl1 ?_; intro A3 c3 w3 OU OV AP S3 HK)
          | (refine Two.step w0 w3 (by rfl) _ _ 23 (by rfl) 22 i0 _ Tryd.underlying23 hi hz0 hz1 hz2 rfl (.slice A2 j c2) (.slice A3 (j + 1) c3) j (j + 1) _ _ (by rfl) OV OU AP.symm _ y (by rfl) (by first | exact Two.lit0 _ _ _ y (by simp) | exact HK _ _ (by simp) (Two.lit0 _ _ _ y (by simp)) | exact HK _ _ (by simp) (Two.lit1 _ _ _ y _ (by simp))) (by omega) wr.heap.size hl2 ?_; intro A4 c4 w4 OV4 OU4 AP4 S4 HK4)
          | (refine Two.step w0 wr (by rfl) _ _ 23 (by rfl) 22 i0 _ Tryd.underlying23 hi hz0 hz1 hz2 rfl (.slice A2 j c2) (.slice A1 j c1) j j _ _ (by rfl) HV.out HU.out HA.out _ y (by rfl) (by first | exact Two.lit0 _ _ _ y (by simp) | exact Two.lit1 _ _ _ y _ (by simp)) (by omega) wr.heap.size hl2 ?_; intro A4 c4 w3 OV OU AP S3 HK)
          | (refine Two.step w0 w3 (by rfl) _ _ 23 (by rfl) 22 i0 _ Tryd.underlying23 hi hz0 hz1 hz2 rfl (.slice A1 j c1) (.slice A4 (j + 1) c4) j (j + 1) _ _ (by rfl) OU OV AP.symm _ x (by rfl) (by first | exact Two.lit0 _ _ _ x (by simp) | exact HK _ _ (by simp) (Two.lit0 _ _ _ x (by simp)) | exact HK _ _ (by simp) (Two.lit1 _ _ _ x _ (by simp))) (by omega) wr.heap.size hl1 ?_; intro A3 c3 w4 OU4 OV4 AP4 S4 HK4)))
      all_goals (go_wp2)
      all_goals (go_roundw)
      all_goals (try exact ⟨j + 1, by omega, by go_num, by rw [HF.out]; exact OU4, by rw [HS.out]; exact OV4, by first | exact AP4 | exact AP4.symm, Step.of inferInstance⟩)
      all_goals (simp [intOf]; omega)
    · have hjn : j = n := by omega
      subst hjn
      clear hlt hj
      have hT1 : (fs chs).take j = fs chs := List.take_of_length_le (by rw [fs_len]; omega)
      have hT2 : (sn chs).take j = sn chs := List.take_of_length_le (by simp; omega)
      rw [hT1] at hu
      rw [hT2] at hv
      obtain ⟨j0, hj, hy0, hy1, hy2⟩ := info_parts infoS
      obtain ⟨w9, hw9⟩ : ∃ w9, w9 = wr := ⟨_, rfl⟩
      subst hw9
      have RU : RowN w9 A1 (fs chs) := Row.of_own hu
      have RV : RowN w9 A2 (sn chs) := Row.of_own hv
      obtain ⟨m, hm⟩ : ∃ m, Hid (m = j + 1) := ⟨_, Lib.hid rfl⟩
      obtain ⟨N, hN⟩ : ∃ N, Hid (N = j + 4) := ⟨_, Lib.hid rfl⟩
      have hN12 : N ≤ 12 := by have := hN.out; omega
      have hN4 : 4 ≤ N := by have := hN.out; omega
      have hmN : m + 3 = N := by have := hN.out; have := hm.out; omega
      have hwm : IntKind.i64.wrap ((j : Int) + 1) = (m : Int) := by have := hm.out; simp [IntKind.wrap, IntKind.bits, IntKind.signed]; omega
      have hwN : IntKind.i64.wrap ((m : Int) + 3) = (N : Int) := by simp [IntKind.wrap, IntKind.bits, IntKind.signed]; omega
      have HmN := Lib.hid hmN
      clear hu hv hap hT1 hT2 hmN
      have cSp0 := fun w h => split_ok s0 A1 j c1 N (fs chs) w (by rw [fs_len]; exact hn) (by have := hN.out; omega) (by omega) h
      have cSp1 := fun w h => split_ok s1 A2 j c2 N (sn chs) w (by simp [hn]) (by have := hN.out; omega) (by omega) h
      have cSu : ∀ (A B : Option Addr) (c d : Nat) (w : World), RowP w A (shs s0 (fs chs) N) → RowP w B (shs s1 (sn chs) N) → Calls Tryd.prog 13 #[.slice A N c, .slice B N d] w fun e w' => ∃ A' c', e = .returned (.tuple #[.slice A' N c', .nilIface]) ∧ RowP w' A' (shs (fAdd s0 s1) (List.zipWith fAdd (fs chs) (sn chs)) N) ∧ Step w w' := fun A B c d w h1 h2 => by
        have h := sum_ok A B c d N _ _ w (shs_len _ _ _) (by omega) h1 (Lib.hid (cv_shs _ _ N (by omega)).fit) (Lib.hid (cv_shs _ _ N (by omega)).nd) (shs_len _ _ _) h2 (Lib.hid (cv_shs _ _ N (by omega)).fit) (Lib.hid (cv_shs _ _ N (by omega)).nd) (Lib.hid (fs_shs _ _ _ _ _))
        refine h.mono fun e w' ⟨A', c', e1, e2, _, e4⟩ => ⟨A', c', e1, ?_, e4⟩
        rw [sum_shs _ _ _ _ _ (by simp)] at e2
        exact RowP.of_own e2 (shs_len _ _ _)
      have hbx : ∀ w' : World, Ext w0 w' → w'.cell? ⟨W.heap.size, 0, none⟩ = some (.int .u64 s0) ∧ w'.cell? ⟨W.heap.size, 1, none⟩ = some (.int .u64 s1) := fun w' e => ⟨(e.h.cell hb0).trans hx0, (e.h.cell hb0).trans hx1⟩
      obtain ⟨b00, b01⟩ := hbx w9 inferInstance
      clear hx0 hx1
      go_wp2_with (first
        | (go_at_call 7; ((with_reducible refine (cSp0 _ RU.to).mono ?_); rintro e w1 ⟨Aa, ca, rfl, Oa, hca, S1⟩; obtain ⟨b10, b11⟩ := hbx w1 inferInstance))
        | (go_at_call 7; ((with_reducible refine (cSp1 _ RV.to).mono ?_); rintro e w2 ⟨Ab, cb, rfl, Ob, hcb, S2⟩; have Ra := (RowP.of_own Oa (shs_len _ _ _)); have Rb := (RowP.of_own Ob (shs_len _ _ _))))
        | (go_at_call 13; ((with_reducible refine (cSu _ _ _ _ _ Ra.to Rb.to).mono ?_); rintro e w3 ⟨As, cs, rfl, Rs, S3⟩)))
      obtain ⟨ga, rfl, Ra2⟩ := own_some Oa (by omega) (shs_len _ _ _)
      have Ra3 : RowP w3 (some ⟨ga, 0, none⟩) (shs s0 (fs chs) N) := Ra2.to
      clear Ra Ra2 Rb cSp0 cSp1 cSu b00 b01 b10 b11
      obtain ⟨g, hg⟩ : ∃ g : Nat → Nat × Nat, Hid (g = fun i => ((i + t) % N + 1, hor ((i + t) % N + 1) (s0 :: fs chs))) := ⟨_, Lib.hid rfl⟩
      go_loopw [18, 19, 20] (fun v lv i wr => ∃ (k : Nat) (L : List Nat) (l : Nat), k ≤ N ∧ i = .int .i64 k ∧ lv = .int .i64 l ∧ l ≤ 3 ∧ Hid (L.Nodup ∧ (∀ i ∈ L, i < k) ∧ L.length + 3 = k + l) ∧ wr.ownsRow w3.heap.size 51 2 v L.length (pc (L.map g)) ∧ Step w3 wr) (fun _ _ i _ => N - (intOf i).toNat)
      case atStart => exact ⟨0, [], 3, Nat.zero_le _, rfl, rfl, Nat.le_refl _, Lib.hid ⟨List.nodup_nil, by simp, rfl⟩, World.ownsRow_nil _ _ _ _, Step.of inferInstance⟩
      case round =>
        obtain ⟨k, L, l, hk, rfl, rfl, hl3, hL3, hown, S⟩ := hrel
        obtain ⟨A8, c8, rfl, hcc⟩ := own_form2 hown
        by_cases hlt : k < N
        · obtain ⟨q, hq⟩ : ∃ q, Hid (q = k + t) := ⟨_, Lib.hid rfl⟩
          have hwq : IntKind.i64.wrap ((k : Int) + ((j : Int) + (ns : Int))) = (q : Int) := by have := htl.out; have := hq.out; have := ht.out; simp [IntKind.wrap, IntKind.bits, IntKind.signed]; omega
          obtain ⟨r, hr⟩ : ∃ r, Hid (r = q % N) := ⟨_, Lib.hid rfl⟩
          have hrN : r < N := by rw [hr.out]; exact Nat.mod_lt _ (by omega)
          have hrI : (r : Int) < (N : Int) := by omega
          have hm1 : (q : Int).tmod (N : Int) = (r : Int) := by rw [Int.tmod_eq_emod_of_nonneg (by omega), hr.out]; rfl
          have hm2 : (q : Int) % (N : Int) = (r : Int) := by rw [hr.out]; rfl
          have hN0 : ¬ (N : Int) = 0 := by omega
          obtain ⟨b', o', e', hgl, hc1, hc2⟩ := (show RowP wr _ _ from Ra3.to).at (k := r) (by rw [shs_len]; exact hrN)
          cases e'
          rw [Nat.zero_add] at hc1 hc2
          rw [shs_at _ _ _ _ hrN] at hc1 hc2
          dsimp only at hc1 hc2
          obtain ⟨x, hx⟩ : ∃ x, Hid (x = r + 1) := ⟨_, Lib.hid rfl⟩
          obtain ⟨y, hy⟩ : ∃ y, Hid (y = hor (r + 1) (s0 :: fs chs)) := ⟨_, Lib.hid rfl⟩
          rw [← hx.out] at hc1
          rw [← hy.out] at hc2
          have HG : Hid ((L ++ [k]).Nodup ∧ (∀ i ∈ L ++ [k], i < k + 1) ∧ pc (L.map g ++ [(x, y)]) = pc ((L ++ [k]).map g)) := Lib.hid ⟨by
              unfold List.Nodup
              refine List.pairwise_append.mpr ⟨hL3.out.1, List.pairwise_singleton _ _, fun a ha b hb e => ?_⟩
              rw [List.mem_singleton] at hb
              have := hL3.out.2.1 a ha
              omega, fun i hi => by
              rcases List.mem_append.mp hi with h | h
              · have := hL3.out.2.1 i h; omega
              · rw [List.mem_singleton] at h; omega, by
              rw [List.map_append, hx.out, hy.out, hr.out, hq.out, hg.out]; rfl⟩
          have HO := Lib.hid hown
          clear hown
          by_cases hkn : k < ns
          · obtain ⟨ad, hD, hadl, hbc⟩ := hrb k _ (List.getElem?_eq_getElem (by omega))
            subst hD
            have hbw : wr.cell? (ad.add k) = some (.bool bs[k]) := ((Step.of (w := W) (inferInstance : Ext W wr)).h.cell (by rw [blockAdd]; exact hadl)).trans hbc
            clear hbc
            generalize bs[k] = bb at hbw
            cases bb with
            | false =>
              go_wp2_with (at_builtin; refine App2.wpE w3 wr rfl _ _ 28 rfl 51 j0 _ Tryd.underlying28 hj hy0 hy1 hy2 rfl _ L.length (L.map g) rfl HO.out _ 1 1 [(x, y)] rfl rfl (RowP.lit1 _ _ _ (x, y) (by simp)) (by have := hL3.out.2.2; omega) ?_; intro A8 c8 w8 O8 S8 hc8)
              go_roundw
              case rel => exact ⟨k + 1, L ++ [k], l, by omega, by go_num, rfl, hl3, Lib.hid ⟨HG.out.1, HG.out.2.1, by have := hL3.out.2.2; simp; omega⟩, by rw [List.length_append, ← HG.out.2.2]; exact O8, Step.of inferInstance⟩
              case measure => simp [intOf]; omega
            | true =>
              cases l with
              | zero =>
                have h00 : ¬ (0 : Int) < ((0 : Nat) : Int) := by omega
                go_wp2_with (at_builtin; refine App2.wpE w3 wr rfl _ _ 28 rfl 51 j0 _ Tryd.underlying28 hj hy0 hy1 hy2 rfl _ L.length (L.map g) rfl HO.out _ 1 1 [(x, y)] rfl rfl (RowP.lit1 _ _ _ (x, y) (by simp)) (by have := hL3.out.2.2; omega) ?_; intro A8 c8 w8 O8 S8 hc8)
                go_roundw
                case rel => exact ⟨k + 1, L ++ [k], 0, by omega, by go_num, rfl, hl3, Lib.hid ⟨HG.out.1, HG.out.2.1, by have := hL3.out.2.2; simp; omega⟩, by rw [List.length_append, ← HG.out.2.2]; exact O8, Step.of inferInstance⟩
                case measure => simp [intOf]; omega
              | succ l' =>
                have h01 : (0 : Int) < ((l' + 1 : Nat) : Int) := by omega
                have hwl : IntKind.i64.wrap (l' : Int) = (l' : Int) := by simp [IntKind.wrap, IntKind.bits, IntKind.signed]; omega
                go_wp2
                go_roundw
                case rel => exact ⟨k + 1, L, l', by omega, by go_num, rfl, by omega, Lib.hid ⟨hL3.out.1, fun i hi => by have := hL3.out.2.1 i hi; omega, by have := hL3.out.2.2; omega⟩, HO.out, Step.of inferInstance⟩
                case measure => simp [intOf]; omega
          · have hknI : ¬ (k : Int) < (ns : Int) := by omega
            go_wp2_with (at_builtin; refine App2.wpE w3 wr rfl _ _ 28 rfl 51 j0 _ Tryd.underlying28 hj hy0 hy1 hy2 rfl _ L.length (L.map g) rfl HO.out _ 1 1 [(x, y)] rfl rfl (RowP.lit1 _ _ _ (x, y) (by simp)) (by have := hL3.out.2.2; omega) ?_; intro A8 c8 w8 O8 S8 hc8)
            go_roundw
            case rel => exact ⟨k + 1, L ++ [k], l, by omega, by go_num, rfl, hl3, Lib.hid ⟨HG.out.1, HG.out.2.1, by have := hL3.out.2.2; simp; omega⟩, by rw [List.length_append, ← HG.out.2.2]; exact O8, Step.of inferInstance⟩
            case measure => simp [intOf]; omega
        · have hkN : k = N := by omega
          subst hkN
          have hpm : m ≤ L.length := by have := hL3.out.2.2; have := HmN.out; omega
          have hpk : L.length ≤ k := by have := hL3.out.2.2; omega
          have hcl : (s0 :: fs chs).length = m := by have := hm.out; simp; omega
          have HC : Hid (Cv (s0 :: fs chs) (L.map g)) := Lib.hid (by
            rw [hg.out]
            exact cv_map (N := k) (fun i => (i + t) % k) hL3.out.1 hL3.out.2.1 (fun i hi => by have := Nat.mod_lt (i + t) (show 0 < k by omega); omega) (fun i j hi hj h => rot_inj hi hj h))
          have hql : (L.map g).length = L.length := List.length_map _
          have R8 : RowP wr A8 (L.map g) := RowP.of_own hown hql
          obtain ⟨v0, hv0⟩ : ∃ v0, Hid (v0 = fOf s0) := ⟨_, Lib.hid rfl⟩
          have cJ1 : ∀ (w : World) (A : Option Addr) (c : Nat), RowP w A (L.map g) → Calls Tryd.prog 11 #[.slice A L.length c, .int .i64 m] w fun e w' => e = .returned (.tuple #[.int .u64 (v0 : Nat), .nilIface]) ∧ Step w w' := fun w A c h => by
            have h1 := HC.out.ok (by omega)
            have h2 := HC.out.jn (by omega)
            rw [hcl] at h1 h2
            have h3 := join_ok A c L.length m (L.map g) w hql (by omega) h (Lib.hid HC.out.fit) (Lib.hid HC.out.nd) (by have := hm.out; omega) hpm h1
            rwa [h2, hor0, ← hv0.out] at h3
          obtain ⟨v1, hv1⟩ : ∃ v1, Hid (v1 = fAdd s0 s1) := ⟨_, Lib.hid rfl⟩
          have cJ2 : ∀ (w : World) (A : Option Addr) (c : Nat), RowP w A (shs (fAdd s0 s1) (List.zipWith fAdd (fs chs) (sn chs)) k) → Calls Tryd.prog 11 #[.slice A k c, .int .i64 m] w fun e w' => e = .returned (.tuple #[.int .u64 (v1 : Nat), .nilIface]) ∧ Step w w' := fun w A c h => by
            have HV := cv_shs (fAdd s0 s1) (List.zipWith fAdd (fs chs) (sn chs)) k (by omega)
            have hl2 : (fAdd s0 s1 :: List.zipWith fAdd (fs chs) (sn chs)).length = m := by have := hm.out; simp; omega
            have h1 := HV.ok (by rw [shs_len]; omega)
            have h2 := HV.jn (by rw [shs_len]; omega)
            rw [hl2] at h1 h2
            have h3 := join_ok A c k m _ w (shs_len _ _ _) (by omega) h (Lib.hid HV.fit) (Lib.hid HV.nd) (by have := hm.out; omega) (by omega) h1
            rw [h2, hor0, fOf, Nat.mod_eq_of_lt (fAdd_lt s0 s1), ← hv1.out] at h3
            exact h3
          have cAd : ∀ w, Calls Tryd.prog 17 #[.int .u64 s0, .int .u64 s1] w (Qt (.int .u64 (v1 : Int)) w) := fun w => by
            have := radd s0 s1 w
            rwa [← hv1.out] at this
          have cJ3 : ∀ (w : World) (A : Option Addr) (c : Nat), RowP w A (L.map g) → Calls Tryd.prog 11 #[.slice A j c, .int .i64 m] w fun e w' => e = .returned (.tuple #[.int .u64 0, .iface 55 (.int .i64 7)]) ∧ Step w w' := fun w A c h => by
            have hT := HC.out.take j
            exact join_few A c j m ((L.map g).take j) w (by rw [List.length_take]; have := hm.out; omega) (by omega) (h.take j) (Lib.hid hT.fit) (Lib.hid hT.nd) (by have := hm.out; omega) (by have := hm.out; omega)
          obtain ⟨r, hr⟩ : ∃ r, Hid (r = t % k) := ⟨_, Lib.hid rfl⟩
          have hrN : r < k := by rw [hr.out]; exact Nat.mod_lt _ (by omega)
          have hrI : (r : Int) < (k : Int) := by omega
          have hm1 : ((j : Int) + (ns : Int)).tmod (k : Int) = (r : Int) := by rw [Int.tmod_eq_emod_of_nonneg (by omega), hr.out, ht.out]; rfl
          have hm2 : ((j : Int) + (ns : Int)) % (k : Int) = (r : Int) := by rw [hr.out, ht.out]; rfl
          have hN0 : ¬ (k : Int) = 0 := by omega
          have cJ4 : ∀ (w : World) (A : Option Addr) (c : Nat), RowP w A (turned s0 (fs chs) k r) → Calls Tryd.prog 11 #[.slice A k c, .int .i64 m] w fun e w' => e = .returned (.tuple #[.int .u64 0, .iface 55 (.int .i64 4)]) ∧ Step w w' := fun w A c h => by
            have h1 := turned_no s0 (fs chs) k r (by omega) hrN (by have := HmN.out; have := hm.out; rw [fs_len]; omega)
            rw [fs_len, hn, ← hm.out] at h1
            exact join_no A c k m _ w (turned_len _ _ _ _) (by omega) h (Lib.hid (turned_fit _ _ _ _ (by omega))) (Lib.hid (turned_nd _ _ _ _)) (by have := hm.out; omega) (by omega) h1
          obtain ⟨y, hy⟩ : ∃ y, Hid (y = hor (r + 1) (s0 :: fs chs)) := ⟨_, Lib.hid rfl⟩
          have hga := Oa.lt ga rfl
          have ownTo : ∀ w3, Ext w1 w3 → w3.ownsRow w9.heap.size 51 2 (.slice (some ⟨ga, 0, none⟩) k ca) k (pc (shs s0 (fs chs) k)) := fun w3 e => own_ext Oa e
          have hcell : ∀ w3, Ext w1 w3 → w3.cell? ⟨ga, r * 2 + 1, none⟩ = some (.int .u64 y) := fun w3 e => by
            have h1 := (pc_at (shs s0 (fs chs) k) r (by rw [shs_len]; exact hrN)).2
            rw [shs_at _ _ _ _ hrN] at h1
            rw [hy.out]
            exact ((ownTo w3 e).cellAt _ (by omega)).trans h1
          have hfroz : ∀ w3, Ext w1 w3 → w3.frozen? ⟨ga, r * 2 + 1, none⟩ = false := fun w3 e => (ownTo w3 e).frozenAt _
          have hstore : ∀ w3, Ext w1 w3 → RowP (w3.setCell ⟨ga, r * 2 + 1, none⟩ (.int .u64 (fAdd y 1 : Nat))) (some ⟨ga, 0, none⟩) (turned s0 (fs chs) k r) ∧ Step W (w3.setCell ⟨ga, r * 2 + 1, none⟩ (.int .u64 (fAdd y 1 : Nat))) := fun w3 e => by
            have h1 := ((ownTo w3 e).stored (r * 2 + 1) (.int .u64 (fAdd y 1 : Nat))).1
            rw [pc_setY, shs_at _ _ _ _ hrN, hy.out] at h1
            have S3 : Step w1 w3 := Step.of e
            have Sx : Below W.heap.size W w3 := (Step.of (w := W) (inferInstance : Ext W w3)).h
            have Sz : W.heap.size ≤ w9.heap.size := (Step.of (w := W) (inferInstance : Ext W w9)).h.size
            rw [hy.out]
            exact ⟨RowP.of_own h1 (turned_len _ _ _ _), ⟨Sx.setCell (Nat.le_trans Sz hga.1) _⟩⟩
          have hwm1 : IntKind.i64.wrap ((m : Int) - 1) = (j : Int) := by have := hm.out; simp [IntKind.wrap, IntKind.bits, IntKind.signed]; omega
          have hj0' : (0 : Int) ≤ (j : Int) := by omega
          have hjc : (j : Int) ≤ (c8 : Int) := by have := hm.out; omega
          have T1 : ((v0 : Int) != (s0 : Int) % 2305843009213693951) = false := by rw [hv0.out, fOf, P_lit]; simp
          have T2 : ((v0 : Int) != (s0 : Int).tmod 2305843009213693951) = false := by rw [Int.tmod_eq_emod_of_nonneg (by omega)]; exact T1
          have HW := hwm1
          clear hown ownTo HC hql Oa Ob hwm hwN hwt
          go_wp2_with (first
            | (go_at_call 11; ((with_reducible refine (cJ1 _ _ _ R8.to).mono ?_); rintro e w10 ⟨rfl, S10⟩))
            | (go_at_call 11; ((with_reducible refine (cJ2 _ _ _ Rs.to).mono ?_); rintro e w11 ⟨rfl, S11⟩))
            | (go_at_call 11; ((with_reducible refine (cJ3 _ _ _ R8.to).mono ?_); rintro e w12 ⟨rfl, S12⟩; obtain ⟨b20, b21⟩ := hbx w12 inferInstance))
            | (go_at_call 17; ((with_reducible refine (cAd _).mono ?_); rintro e w' ⟨rfl, n1, rfl⟩))
            | (go_at_call 16; ((with_reducible refine (Num04.some_ 7 _ hL.to).mono ?_); rintro e w13 ⟨rfl, S13⟩; have hcy := hcell w13 inferInstance; have hfy := hfroz w13 inferInstance)))
          have cAd2 : ∀ w, Calls Tryd.prog 17 #[.int .u64 y, .int .u64 1] w (Qt (.int .u64 ((fAdd y 1 : Nat) : Int)) w) := fun w => radd y 1 w
          generalize fAdd y 1 = z at hstore cAd2
          clear cJ1 cJ2 cJ3 cAd hbx hcell hfroz R8 Rs RU RV Ra3 hrc0 hrc hrb T1 T2 b20 b21
          go_region_with ((go_at_call 17; (refine (cAd2 _).mono ?_); rintro e w' ⟨rfl, n1, rfl⟩))
          all_goals (go_wp2_with (first
            | (go_at_call 11; ((with_reducible refine (cJ4 _ _ _ (hstore _ inferInstance).1).mono ?_); rintro e w14 ⟨rfl, S14⟩; have SW14 : Step W w14 := ⟨Below.step (hstore _ inferInstance).2.h S14.h⟩))
            | (go_at_call 16; ((with_reducible refine (Num04.some_ 4 _ hL.to).mono ?_); rintro e w15 ⟨rfl, S15⟩))
            | (go_at_call 5; ((with_reducible refine (sure_any _ hL.to).mono ?_); rintro e w16 ⟨rfl, S16⟩))))
          all_goals (go_ret)
          all_goals (exact ⟨rfl, Step.of inferInstance⟩)
end LawShamirAny
end Go.Proofs.YtphelljbaodhpaaDoor
