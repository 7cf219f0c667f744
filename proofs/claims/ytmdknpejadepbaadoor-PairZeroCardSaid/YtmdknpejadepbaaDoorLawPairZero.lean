/- The walk of the law PairZero: true whatever comes. Conditions: errors.errorType and sha.k read as laid. -/
import Derived.Test.YtmdknpejadepbaaDoorPairU
import Derived.Test.YtmdknpejadepbaaDoorLawPairMore
namespace Go.Proofs.YtmdknpejadepbaaDoor
open Go.RowKit Go.Lib
namespace LawPairZero
open SlR Sh Sp Mc Pg VecC VecE Pe Hdr LawPairMore
theorem infoS : (Tryd.prog.info? 33).map (fun i => (i.zero, i.size, i.bytes)) = some (some (.slice none 0 0), 1, 24) := by kernel_rfl
abbrev R3 (w : World) (B : Nat) (v : Value) (n : Nat) (ls : List (List Int)) : Prop := HR .u32 34 33 w B v n ls
theorem step_push {W w w' : World} {v v' : Value} {TU : TypeId} (e : Ext W w) (p : Push w w' v v' TU) (h : ∀ g, v.ownBlock = some g → W.heap.size ≤ g) : Step W w' := ⟨e.h.grown p.grown e.size h⟩
theorem cellT {w w' : World} {p : Addr} {v : Value} (h : w.cell? p = some v) [e : Ext w w'] : w'.cell? p = some v := (e.h.cell (World.block_lt_of_cell? w _ h)).trans h
/-- What is added to the ID, besides 1. -/
def gv (gs : List Int) (j : Nat) : Int := if j < gs.length then gs.getD j 0 % 4 else 0
theorem gv_bd (gs : List Int) (j : Nat) : 0 ≤ gv gs j ∧ gv gs j ≤ 3 := by unfold gv; split <;> omega
/-- The ID behind j rounds. -/
def idv (gs : List Int) : Nat → Int
  | 0 => -1
  | j + 1 => idv gs j + 1 + gv gs j
theorem idv_bd (gs : List Int) : ∀ j, -1 ≤ idv gs j ∧ idv gs j ≤ 4 * j - 1
  | 0 => by simp [idv]
  | j + 1 => by
    have := idv_bd gs j
    have := gv_bd gs j
    simp only [idv]
    omega
theorem idv_lt (gs : List Int) (j : Nat) : idv gs j + 1 ≤ idv gs (j + 1) := by
  have := gv_bd gs j
  simp only [idv]
  omega
/-- The peers. -/
def pl (xs gs : List Int) (m : Nat) : List (Int × Nat) := (List.range m).map fun j => (idv gs (j + 1), FpM.fPow 3 (xs.getD j 0).toNat)
theorem pl_len (xs gs : List Int) (m : Nat) : (pl xs gs m).length = m := by simp [pl]
theorem pl_at (xs gs : List Int) (m j : Nat) (h : j < m) : (pl xs gs m).getD j (0, 0) = (idv gs (j + 1), FpM.fPow 3 (xs.getD j 0).toNat) := by
  unfold pl
  rw [List.getD_eq_getElem?_getD, List.getElem?_map, List.getElem?_range h]; rfl
theorem pl_snoc (xs gs : List Int) (m j : Nat) (h : j < m) : (pl xs gs m).take (j + 1) = (pl xs gs m).take j ++ [(idv gs (j + 1), FpM.fPow 3 (xs.getD j 0).toNat)] := by
  rw [take_snocQ _ _ (by rw [pl_len]; exact h), pl_at _ _ _ _ h]
theorem pl_may (xs gs : List Int) (m : Nat) (hm : m ≤ 10) : ∀ d, d ≤ m → mayF (idv gs (m - d) + 1) ((pl xs gs m).drop (m - d)) = true
  | 0, _ => by rw [List.drop_of_length_le (by rw [pl_len]; omega)]; rfl
  | d + 1, h => by
    have ih := pl_may xs gs m hm d (by omega)
    rw [drop_cons _ (m - (d + 1)) (0, 0) (by rw [pl_len]; omega), pl_at _ _ _ _ (by omega)]
    have e : m - (d + 1) + 1 = m - d := by omega
    have h1 := idv_lt gs (m - (d + 1))
    have h2 := (idv_bd gs (m - (d + 1) + 1)).2
    rw [e] at h1 h2 ⊢
    exact may_pub h1 (by omega) ih
theorem pl_isIn (xs gs : List Int) (m j : Nat) (h : j < m) : isIn (idv gs (j + 1)) (pl xs gs m) = true :=
  isIn_take (k := j) (by rw [pl_len]; exact h) (by rw [pl_at _ _ _ _ h]; simp)
theorem pl_q (xs gs : List Int) (m : Nat) : Q64 (pl xs gs m) := q64_of fun p hp => by
  unfold pl at hp
  obtain ⟨j, _, rfl⟩ := List.mem_map.mp hp
  exact fpow_lt64 _ _
/-- The rows. -/
def rl (xs gs : List Int) (m n : Nat) : List (List Int) := (List.range m).map fun j => rowP (wN n) (idv gs (j + 1)) (xs.getD j 0).toNat (pl xs gs m) n
theorem rl_len (xs gs : List Int) (m n : Nat) : (rl xs gs m n).length = m := by simp [rl]
theorem rl_at (xs gs : List Int) (m n j : Nat) (h : j < m) : (rl xs gs m n)[j]? = some (rowP (wN n) (idv gs (j + 1)) (xs.getD j 0).toNat (pl xs gs m) n) := by
  unfold rl
  rw [List.getElem?_map, List.getElem?_range h]; rfl
theorem rl_row (xs gs : List Int) (m n : Nat) : ∀ row ∈ rl xs gs m n, row.length = n := fun row h => by
  unfold rl at h
  obtain ⟨j, _, rfl⟩ := List.mem_map.mp h
  exact (rowP_R (fun s => (wN_R n s).1) _ _ _).1
theorem rl_zero (xs gs : List Int) (m n : Nat) : vSum n (rl xs gs m n) = List.replicate n 0 :=
  all_zero (wN_R n) (fun i => idv gs (i + 1)) (fun i => (xs.getD i 0).toNat) (pl xs gs m) (fun k hk => pl_at _ _ _ _ (by rwa [pl_len] at hk)) (rl xs gs m n) (by rw [rl_len, pl_len]) fun i row h => by
    have hi : i < m := by have := (List.getElem?_eq_some_iff.mp h).1; rwa [rl_len] at this
    rw [rl_at _ _ _ _ _ hi] at h
    exact (Option.some.inj h).symm
theorem getD_row {xs : List Int} {j : Nat} (h : j < xs.length) : xs[j]? = some (xs.getD j 0) := by rw [List.getD_eq_getElem?_getD, List.getElem?_eq_getElem h]; rfl
set_option maxHeartbeats 6400000 in
set_option maxRecDepth 1000000 in
theorem far (A D : Option Addr) (m c m2 d : Nat) (dim : Int) (W : World) (h : m = 0 ∨ 10 < m) (hA : ErrAs.Laid W) (hL : LaidK W) :
    Calls Tryd.prog 10 #[.slice A m c, .slice D m2 d, .int .u8 dim] W fun e w' => e = .returned (.bool true) ∧ Step W w' := by
  rcases h with rfl | h
  · go_enter Tryd.func10, Tryd.ntmps10
    go_wp2_with (go_at_call 56; ((with_reducible refine (sure_any _ hA.to hL.to).mono ?_); rintro e w7 ⟨rfl, S7⟩))
    go_ret
    exact ⟨rfl, Step.of inferInstance⟩
  · have h1 : (10 : Int) < m := by omega
    clear h
    go_enter Tryd.func10, Tryd.ntmps10
    go_wp2_with (go_at_call 56; ((with_reducible refine (sure_any _ hA.to hL.to).mono ?_); rintro e w7 ⟨rfl, S7⟩))
    go_ret
    exact ⟨rfl, Step.of inferInstance⟩
set_option maxHeartbeats 25600000 in
set_option maxRecDepth 1000000 in
theorem core (A D : Option Addr) (m c m2 d : Nat) (xs gs : List Int) (dim : Int) (W : World) (hx : xs.length = m) (hg : gs.length = m2) (_hm2b : m2 ≤ maxLen) (hm0 : 0 < m) (hm10 : m ≤ 10) (hrx : Row .u64 W A xs) (hrg : Row .u8 W D gs)
    (hbx : ∀ z ∈ xs, 0 ≤ z ∧ z < 18446744073709551616) (hbg : ∀ z ∈ gs, 0 ≤ z ∧ z < 256) (hd : 0 ≤ dim ∧ dim ≤ 255) (hA : ErrAs.Laid W) (hL : LaidK W) :
    Calls Tryd.prog 10 #[.slice A m c, .slice D m2 d, .int .u8 dim] W fun e w' => e = .returned (.bool true) ∧ Step W w' := by
  obtain ⟨i0, hi, hz0, hz1, hz2⟩ := info_parts infoQ
  obtain ⟨i1, hi1, hy0, hy1, hy2⟩ := info_parts infoS
  obtain ⟨n, hKN, hn⟩ : ∃ n : Nat, dim % 33 = (n : Int) ∧ n ≤ 32 := ⟨(dim % 33).toNat, by omega, by omega⟩
  have g1 : ¬ (10 : Int) < m := by omega
  have g2 : ((m : Int) == 0) = false := by simp; omega
  have g2N : (m == 0) = false := by simp; omega
  have hx64 : Hid (∀ j, (xs.getD j 0).toNat < 18446744073709551616) := Lib.hid fun j => by
    by_cases hj : j < xs.length
    · have := hbx _ (List.mem_of_getElem? (getD_row hj)); omega
    · rw [List.getD_eq_getElem?_getD, List.getElem?_eq_none (by omega)]; exact (by decide : (0 : Int).toNat < 18446744073709551616)
  have hxn : Hid (∀ j, j < m → xs.getD j 0 = ((xs.getD j 0).toNat : Int)) := Lib.hid fun j hj => by
    have := hbx _ (List.mem_of_getElem? (getD_row (xs := xs) (j := j) (by omega))); omega
  go_enter Tryd.func10, Tryd.ntmps10
  go_wp2_with (fail)
  go_loopw [7, 8, 9] (fun v idw i wr => ∃ (j : Nat) (D0 : Int), j ≤ m ∧ i = .int .i64 j ∧ idw = .int .i64 D0 ∧ Hid (D0 = idv gs j) ∧ wr.ownsRow W.heap.size 80 2 v j (qc ((pl xs gs m).take j)) ∧ Step W wr) (fun _ _ i _ => m - (intOf i).toNat)
  case atStart => exact ⟨0, -1, Nat.zero_le _, rfl, rfl, Lib.hid rfl, World.ownsRow_nil _ _ _ _, Step.of inferInstance⟩
  case round =>
    obtain ⟨j, D0, hj, rfl, rfl, hD, hown, hS⟩ := hrel
    obtain ⟨A', c', rfl, hcc⟩ := own_form2 hown
    by_cases hlt : j < m
    · clear hKN hn hd g1 g2 g2N
      obtain ⟨ad, x, rfl, hab, hxj, hxc⟩ := (show Row .u64 wr A xs from hrx.to).at (j := j) (by omega)
      have hD1 := (idv_bd gs j).1
      have hD2 := (idv_bd gs j).2
      rw [← hD.out] at hD1 hD2
      have hgv := gv_bd gs j
      have hDn : Hid (idv gs (j + 1) = D0 + 1 + gv gs j) := Lib.hid (by rw [hD.out]; rfl)
      have hxx : x = ((xs.getD j 0).toNat : Int) := by
        rw [← hxn.out j hlt]
        rw [getD_row (by omega)] at hxj
        exact (Option.some.inj hxj).symm
      have HT := Lib.hid (pl_snoc xs gs m j hlt)
      have cP := fun w : World => public_any (xs.getD j 0).toNat (Lib.hid (hx64.out j)) w
      subst hxx
      clear hxj
      generalize (xs.getD j 0).toNat = k at cP hxc HT
      generalize FpM.fPow 3 k = p at cP HT
      have HO := Lib.hid hown
      have w1 : IntKind.i64.wrap (D0 + 1) = D0 + 1 := by rw [IntKind.wrap_i64] <;> omega
      clear hown hx64 hxn
      by_cases hg2 : j < m2
      · obtain ⟨bd, z, rfl, hbb, hzj, hzc⟩ := (show Row .u8 wr D gs from hrg.to).at (j := j) (by omega)
        have hzz : z = gs.getD j 0 := by
          rw [getD_row (by omega)] at hzj
          exact (Option.some.inj hzj).symm
        have hzb := hbg z (List.mem_of_getElem? hzj)
        have hgz : gv gs j = z % 4 := by unfold gv; rw [if_pos (by omega), hzz]
        rw [hgz] at hDn
        have w2 : IntKind.i64.wrap (D0 + 1 + z % 4) = D0 + 1 + z % 4 := by rw [IntKind.wrap_i64] <;> omega
        clear hzj hzz hgz hgv hrx hrg hbx hbg
        go_wp2_with (first
          | (go_at_call 61; ((with_reducible refine (cP _).mono ?_); rintro e w3 ⟨rfl, S3⟩))
          | (at_builtin; refine one W wr rfl _ _ 72 rfl 80 i0 _ Tryd.underlying72 hi hz0 hz1 hz2 rfl _ j _ rfl HO.out w3.heap.size (D0 + 1 + z % 4, p) rfl (RowQ.lit1 w3 _ _ (D0 + 1 + z % 4, p) rfl) (by omega) ?_; intro A2 c2 w4 O4 S4 hc4 hg4))
        go_roundw
        case rel => exact ⟨j + 1, D0 + 1 + z % 4, by omega, by go_num, rfl, Lib.hid hDn.out.symm, by rw [HT.out, hDn.out]; exact O4, S4⟩
        case measure => simp [intOf]; omega
      · have hgz : gv gs j = 0 := by unfold gv; rw [if_neg (by omega)]
        rw [hgz, Int.add_zero] at hDn
        have hg3 : ¬ (j : Int) < (m2 : Int) := by omega
        clear hgz hgv hrx hrg hbx hbg
        go_wp2_with (first
          | (go_at_call 61; ((with_reducible refine (cP _).mono ?_); rintro e w3 ⟨rfl, S3⟩))
          | (at_builtin; refine one W wr rfl _ _ 72 rfl 80 i0 _ Tryd.underlying72 hi hz0 hz1 hz2 rfl _ j _ rfl HO.out w3.heap.size (D0 + 1, p) rfl (RowQ.lit1 w3 _ _ (D0 + 1, p) rfl) (by omega) ?_; intro A2 c2 w4 O4 S4 hc4 hg4))
        go_roundw
        case rel => exact ⟨j + 1, D0 + 1, by omega, by go_num, rfl, Lib.hid hDn.out.symm, by rw [HT.out, hDn.out]; exact O4, S4⟩
        case measure => simp [intOf]; omega
    · have hjm : m = j := by omega
      subst hjm
      rw [List.take_of_length_le (by rw [pl_len]; omega)] at hown
      obtain ⟨g, cap, hv, hgb, hgl⟩ := hown.form (by omega)
      have hA' : A' = some ⟨g, 0, none⟩ := by injection hv
      subst hA'
      clear hv
      have Rl : RowQ wr (some ⟨g, 0, none⟩) (pl xs gs m) := RowQ.of_own hown (pl_len _ _ _)
      have hmay : Hid (mayF 0 (pl xs gs m) = true) := Lib.hid (by have := pl_may xs gs m hm10 m (Nat.le_refl _); rwa [Nat.sub_self] at this)
      have hlen := Lib.hid (pl_len xs gs m)
      clear hown hD hgb hgl hcc hi hz0 hz1 hz2 hbg hbx hrg
      obtain ⟨wL, hwL⟩ : ∃ x, x = wr := ⟨_, rfl⟩
      subst hwL
      go_wp2_with (fail)
      go_loopw [11, 12] (fun rows i wr => ∃ q : Nat, q ≤ m ∧ i = .int .i64 q ∧ R3 wr wL.heap.size rows q ((rl xs gs m n).take q) ∧ Step wL wr) (fun _ i _ => m - (intOf i).toNat)
      case atStart => exact ⟨0, Nat.zero_le _, rfl, HR.nil _, Step.of inferInstance⟩
      case round =>
        clear hKN
        obtain ⟨q, hq, rfl, hR, hS2⟩ := hrel
        obtain ⟨Ar, cr, rfl⟩ := hR.form
        by_cases hlt : q < m
        · obtain ⟨ad, x, rfl, hab, hxq, hxc⟩ := (show Row .u64 wr A xs from hrx.to).at (j := q) (by omega)
          obtain ⟨b', o', e', _, ci, cp⟩ := (show RowQ wr _ _ from Rl.to) q (by rw [hlen.out]; exact hlt)
          cases e'
          rw [pl_at _ _ _ _ hlt, Nat.zero_add] at ci cp
          have hxx : x = ((xs.getD q 0).toNat : Int) := by
            rw [← hxn.out q hlt]
            rw [getD_row (by omega)] at hxq
            exact (Option.some.inj hxq).symm
          subst hxx
          clear hxq
          have dR := fun (w : World) h h' => row_u (idv gs (q + 1)) (xs.getD q 0).toNat (some ⟨g, 0, none⟩) c' m n (pl xs gs m) w (Lib.hid (hx64.out q)) hlen.out (by omega) h (Lib.hid (pl_q _ _ _)) hmay (Lib.hid (pl_isIn _ _ _ _ hlt)) hn h'
          have HT := Lib.hid (take_snoc (rl_at xs gs m n q hlt))
          have hXl := (rowP_R (n := n) (fun s => (wN_R n s).1) (idv gs (q + 1)) (xs.getD q 0).toNat (pl xs gs m)).1
          generalize rowP (wN n) (idv gs (q + 1)) (xs.getD q 0).toNat (pl xs gs m) n = X at dR HT hXl
          obtain ⟨K, hK⟩ : ∃ K : Nat, Hid (K = (xs.getD q 0).toNat) := ⟨_, Lib.hid rfl⟩
          obtain ⟨ID, hID⟩ : ∃ i : Int, Hid (i = idv gs (q + 1)) := ⟨_, Lib.hid rfl⟩
          rw [← hK.out] at dR hxc cp
          rw [← hID.out] at dR ci
          go_wp2_with (fail)
          go_region_held3 (fun w' => w'.cell? ⟨g, q * 2, none⟩ = some (.int .i64 ID) ∧ w'.cell? (ad.add q) = some (.int .u64 K) ∧ Step wr w')
            (exact ⟨cellT ci, cellT hxc, Step.of inferInstance⟩)
            ((go_at_call 57; ((with_reducible refine (dR _ Rl.to hL.to).mono ?_); rintro e w3 ⟨A3, c3, rfl, U3, S3⟩)))
          rename_i hH
          clear hH
          go_wp2_with (at_builtin; refine Hdr.push (TU := 34) (TS := 33) (by decide) w3.heap.size rfl _ _ 44 rfl i1 _ 24 Tryd.underlying44 hi1 hy0 hy1 hy2 rfl wL.heap.size q (.slice Ar q cr) ((rl xs gs m n).take q) rfl hR.to rfl rfl A3 n c3 X hXl U3 (by unfold maxLen; omega) (by omega) (Ext.size inferInstance) ?_; intro A4 c4 w4 H4 P4; have S4 : Step wL w4 := step_push inferInstance P4 (fun g h => (hR.lt g h).1))
          clear ci cp hxc U3 dR hS2 hR hID hmay
          go_loopw [15] (fun kv wz => ∃ k : Nat, k ≤ q ∧ kv = .int .i64 k ∧ Step w4 wz) (fun kv _ => q - (intOf kv).toNat)
          case atStart => exact ⟨0, Nat.zero_le _, rfl, Step.of inferInstance⟩
          case round =>
            obtain ⟨k, hk, rfl, hS5⟩ := hrel
            by_cases hkq : k < q
            · obtain ⟨ad1, x1, e1, _, hx1, hc1⟩ := (show Row .u64 wr (some ad) xs from hrx.to).at (j := q) (by omega)
              cases e1
              obtain ⟨ad2, x2, e2, _, hx2, hc2⟩ := (show Row .u64 wr (some ad) xs from hrx.to).at (j := k) (by omega)
              cases e2
              obtain ⟨b1, o1, e3, _, _, hp1⟩ := (show RowQ wr (some ⟨g, 0, none⟩) _ from Rl.to) q (by rw [hlen.out]; exact hlt)
              cases e3
              obtain ⟨b2, o2, e4, _, _, hp2⟩ := (show RowQ wr (some ⟨g, 0, none⟩) _ from Rl.to) k (by rw [hlen.out]; omega)
              cases e4
              rw [pl_at _ _ _ _ hlt, Nat.zero_add] at hp1
              rw [pl_at _ _ _ _ (by omega : k < m), Nat.zero_add] at hp2
              have hy1' : x1 = (K : Int) := by
                rw [hK.out, ← hxn.out q hlt]
                rw [getD_row (by omega)] at hx1
                exact (Option.some.inj hx1).symm
              subst hy1'
              have hy2' : x2 = ((xs.getD k 0).toNat : Int) := by
                rw [← hxn.out k (by omega)]
                rw [getD_row (by omega)] at hx2
                exact (Option.some.inj hx2).symm
              subst hy2'
              clear hx1 hx2
              rw [← hK.out] at hp1
              have hKb : Hid (K < 18446744073709551616) := Lib.hid (by rw [hK.out]; exact hx64.out q)
              have hMb : Hid ((xs.getD k 0).toNat < 18446744073709551616) := Lib.hid (hx64.out k)
              generalize (xs.getD k 0).toNat = M at hc2 hp2 hMb
              have cS1 := fun w : World => shared_any K (FpM.fPow 3 M) hKb (Lib.hid (fpow_lt64 _ _)) w
              have cS2 := fun w : World => shared_any M (FpM.fPow 3 K) hMb (Lib.hid (fpow_lt64 _ _)) w
              rw [shared_comm 3 K M] at cS2
              generalize FpM.fPow (FpM.fPow 3 M) K = T at cS1 cS2
              have hp1 : wr.cell? ⟨g, q * 2 + 1, none⟩ = some (.int .u64 (FpM.fPow 3 K : Nat)) := hp1
              have hp2 : wr.cell? ⟨g, k * 2 + 1, none⟩ = some (.int .u64 (FpM.fPow 3 M : Nat)) := hp2
              generalize FpM.fPow 3 K = PK at hp1 cS2
              generalize FpM.fPow 3 M = PM at hp2 cS1
              have hkm : (k : Int) < (m : Int) := by omega
              have hqm : (q : Int) < (m : Int) := by omega
              have hkqI : (k : Int) < (q : Int) := by omega
              go_wp2_with (fail)
              go_region_held3 (fun w' => w'.cell? (ad.add q) = some (.int .u64 K) ∧ w'.cell? (ad.add k) = some (.int .u64 M) ∧ w'.cell? ⟨g, q * 2 + 1, none⟩ = some (.int .u64 PK) ∧ w'.cell? ⟨g, k * 2 + 1, none⟩ = some (.int .u64 PM) ∧ Step wr w')
                (exact ⟨cellT hc1, cellT hc2, cellT hp1, cellT hp2, Step.of inferInstance⟩)
                (first
                  | (go_at_call 62; ((with_reducible refine (cS1 _).mono ?_); rintro e w5 ⟨rfl, S5⟩))
                  | (go_at_call 62; ((with_reducible refine (cS2 _).mono ?_); rintro e w6 ⟨rfl, S6⟩)))
              all_goals (rename_i hH; clear hH)
              all_goals go_wp2
              all_goals go_roundw
              all_goals (try exact ⟨k + 1, by omega, by go_num, Step.of inferInstance⟩)
              all_goals (simp [intOf]; omega)
            · have hkq2 : k = q := by omega
              have hkqI : ¬ (k : Int) < (q : Int) := by omega
              clear hkq
              go_wp2
              go_roundw
              case rel => exact ⟨q + 1, by omega, by go_num, by rw [HT.out]; exact H4.to, Step.of inferInstance⟩
              case measure => simp [intOf]; omega
        · have hqm : q = m := by omega
          subst hqm
          rw [List.take_of_length_le (by rw [rl_len]; omega)] at hR
          have Rr : Rows2 wr Ar (rl xs gs q n) := hR.rows
          have cS : ∀ (w : World), Rows2 w Ar (rl xs gs q n) → Calls Tryd.prog 35 #[.slice Ar q cr, .int .i64 n] w (Yes w n (List.replicate n 0)) := fun w h => by
            have h2 := VecE.sum Ar cr n q (rl xs gs q n) w (rl_len _ _ _ _) (by omega) h hn (rl_row _ _ _ _)
            rwa [rl_zero] at h2
          have cZ := fun w : World => VecE.zero n hn w
          have mZ := fun (A D : Option Addr) (c d : Nat) (w : World) h1 h2 => VecE.same A D c d n n (List.replicate n 0) (List.replicate n 0) w (by simp) (by simp) h1 h2 (by omega) (by omega) true (by simp)
          have dU := fun (w : World) h1 h2 => sure_any w h1 h2
          generalize List.replicate n (0 : Int) = Z at cS cZ mZ
          clear hR Rl hxn hx64 hmay hlen
          go_wp2_with (first
            | (go_at_call 35; ((with_reducible refine (cS _ Rr.to).mono ?_); rintro e w5 ⟨A5, c5, rfl, Q5, S5⟩))
            | (go_at_call 33; ((with_reducible refine (cZ _).mono ?_); rintro e w6 ⟨A6, c6, rfl, Q6, S6⟩))
            | (go_at_call 34; ((with_reducible refine (mZ _ _ _ _ _ Q5.to Q6.to).mono ?_); rintro e w' ⟨rfl, t1, rfl⟩))
            | (go_at_call 56; ((with_reducible refine (dU _ hA.to hL.to).mono ?_); rintro e w9 ⟨rfl, S9⟩)))
          go_ret
          exact ⟨rfl, Step.of inferInstance⟩
theorem walk (A : Option Addr) (m c : Nat) (xs : List Int) (D : Option Addr) (m2 d : Nat) (gs : List Int) (dim : Int) (W : World) (hx : xs.length = m) (_hm : m ≤ maxLen) (hrx : Row .u64 W A xs) (hbx : ∀ z ∈ xs, 0 ≤ z ∧ z < 18446744073709551616)
    (hg : gs.length = m2) (hm2 : m2 ≤ maxLen) (hrg : Row .u8 W D gs) (hbg : ∀ z ∈ gs, 0 ≤ z ∧ z < 256) (hd : 0 ≤ dim ∧ dim ≤ 255) (hL : LaidX.LaidS W) :
    Calls Tryd.prog 10 #[.slice A m c, .slice D m2 d, .int .u8 dim] W fun e w' => e = .returned (.bool true) ∧ Step W w' := by
  by_cases h : m = 0 ∨ 10 < m
  · exact far A D m c m2 d dim W h hL.1 hL.2
  · exact core A D m c m2 d xs gs dim W hx hg hm2 (by omega) (by omega) hrx hrg hbx hbg hd hL.1 hL.2
end LawPairZero
end Go.Proofs.YtmdknpejadepbaaDoor
