/- The walk of the law PairMore: true whatever comes. Conditions: errors.errorType and sha.k read as laid. -/
import Derived.Test.YtmdknpejadepbaaDoorSure09
import Derived.Test.YtmdknpejadepbaaDoorLaidS
import Derived.Deep.RegionHeld3
namespace Go.Proofs.YtmdknpejadepbaaDoor
open Go.RowKit Go.Lib
namespace LawPairMore
open SlR Sh Sp Mc Pg VecC VecE Pe
theorem zero_any (n : Nat) (h : 0 < n) : FpM.fPow 0 n = 0 := by rw [FpM.fPow_eq, Nat.zero_pow h]; rfl
theorem one_any (n : Nat) : FpM.fPow 1 n = 1 := by rw [FpM.fPow_eq, Nat.one_pow]; rfl
theorem pub_ne (k : Nat) : FpM.fPow 3 k ≠ 0 := fun h => by
  have h1 : FpM.fPow (FpM.fPow 3 k) 2305843009213693950 = 1 := by
    rw [FpM.fPow_mul, Nat.mul_comm, ← FpM.fPow_mul, FpM.fermat 3 (by decide), one_any]
  rw [h, zero_any _ (by omega)] at h1
  exact absurd h1 (by decide)
theorem pub_lt (k : Nat) : FpM.fPow 3 k < 2305843009213693951 := FpM.fPow_lt 3 k
theorem may_pub {lo i : Int} {k : Nat} {l : List (Int × Nat)} (h1 : lo ≤ i) (h2 : i ≤ 63) (h : mayF (i + 1) l = true) : mayF lo ((i, FpM.fPow 3 k) :: l) = true := by
  rw [mayF_cons]
  simp [h1, h2, h, pub_ne k, pub_lt k]
theorem q64_of {ps : List (Int × Nat)} (h : ∀ p ∈ ps, p.2 < 18446744073709551616) : Q64 ps := fun k => by
  rw [List.getD_eq_getElem?_getD]
  cases e : ps[k]? with
  | none => exact (by decide : 0 < 18446744073709551616)
  | some p => exact h p (List.mem_of_getElem? e)
theorem rowA (w : Nat → List Int) (n k p0 p1 p2 : Nat) : rowP w 7 k [(0, p0), (7, p1), (14, p2)] n = vAdd (vSub (List.replicate n 0) (w (FpM.fPow p0 k))) (w (FpM.fPow p2 k)) := by
  show addP w 7 k (addP w 7 k (addP w 7 k (List.replicate n 0) (0, p0)) (7, p1)) (14, p2) = _
  unfold addP
  simp
theorem rowB (w : Nat → List Int) (n k p0 p1 p2 p3 : Nat) : rowP w 7 k [(0, p0), (7, p1), (14, p2), (21, p3)] n = vAdd (vAdd (vSub (List.replicate n 0) (w (FpM.fPow p0 k))) (w (FpM.fPow p2 k))) (w (FpM.fPow p3 k)) := by
  show addP w 7 k (addP w 7 k (addP w 7 k (addP w 7 k (List.replicate n 0) (0, p0)) (7, p1)) (14, p2)) (21, p3) = _
  unfold addP
  simp
theorem rowC (w : Nat → List Int) (n k p1 p3 : Nat) : rowP w 7 k [(7, p1), (21, p3)] n = vAdd (List.replicate n 0) (w (FpM.fPow p3 k)) := by
  show addP w 7 k (addP w 7 k (List.replicate n 0) (7, p1)) (21, p3) = _
  unfold addP
  simp
theorem rowD (w : Nat → List Int) (n k p1 p3 : Nat) : rowP w 21 k [(7, p1), (21, p3)] n = vSub (List.replicate n 0) (w (FpM.fPow p1 k)) := by
  show addP w 21 k (addP w 21 k (List.replicate n 0) (7, p1)) (21, p3) = _
  unfold addP
  simp
theorem row1 (w : Nat → List Int) (n k p1 : Nat) : rowP w 7 k [(7, p1)] n = List.replicate n 0 := by
  show addP w 7 k (List.replicate n 0) (7, p1) = _
  unfold addP
  simp
theorem sumAC {w : Nat → List Int} {n : Nat} (hw : ∀ s, R n (w s)) (k p0 p1 p2 p3 : Nat) : vAdd (rowP w 7 k [(0, p0), (7, p1), (14, p2)] n) (rowP w 7 k [(7, p1), (21, p3)] n) = rowP w 7 k [(0, p0), (7, p1), (14, p2), (21, p3)] n := by
  rw [rowA, rowB, rowC, zeros_add (hw _).1 (hw _).2]
theorem sumCD {w : Nat → List Int} {n : Nat} (hw : ∀ s, R n (w s)) (k1 k3 : Nat) : vAdd (rowP w 7 k1 [(7, FpM.fPow 3 k1), (21, FpM.fPow 3 k3)] n) (rowP w 21 k3 [(7, FpM.fPow 3 k1), (21, FpM.fPow 3 k3)] n) = List.replicate n 0 := by
  rw [rowC, rowD, shared_comm 3 k3 k1]
  have h := Is.self (hw (FpM.fPow (FpM.fPow 3 k1) k3))
  exact (((Is.zero n).add h).add ((Is.zero n).sub h)).eq (Is.zero n) fun j _ => by
    show (0 + (w (FpM.fPow (FpM.fPow 3 k1) k3)).getD j 0 + (0 - (w (FpM.fPow (FpM.fPow 3 k1) k3)).getD j 0)) % 4294967296 = 0 % 4294967296
    omega
def kf (k0 k1 k2 k3 : Nat) : Nat → Nat
  | 0 => k0
  | 1 => k1
  | 2 => k2
  | _ => k3
abbrev four (p0 p1 p2 p3 : Nat) : List (Int × Nat) := [(0, p0), (7, p1), (14, p2), (21, p3)]
theorem four_at (p0 p1 p2 p3 j : Nat) (h : j < 4) : (four p0 p1 p2 p3).take (j + 1) = (four p0 p1 p2 p3).take j ++ [(((7 * j : Nat) : Int), kf p0 p1 p2 p3 j)] := by
  match j, h with
  | 0, _ => rfl
  | 1, _ => rfl
  | 2, _ => rfl
  | 3, _ => rfl
theorem kf_pub (k0 k1 k2 k3 j : Nat) : FpM.fPow 3 (kf k0 k1 k2 k3 j) = kf (FpM.fPow 3 k0) (FpM.fPow 3 k1) (FpM.fPow 3 k2) (FpM.fPow 3 k3) j := by
  unfold kf; split <;> rfl
theorem kf_lt {k0 k1 k2 k3 : Nat} (h0 : k0 < 18446744073709551616) (h1 : k1 < 18446744073709551616) (h2 : k2 < 18446744073709551616) (h3 : k3 < 18446744073709551616) (j : Nat) : kf k0 k1 k2 k3 j < 18446744073709551616 := by
  unfold kf; split <;> assumption
set_option maxHeartbeats 12800000 in
set_option maxRecDepth 1000000 in
theorem core (k0 k1 k2 k3 : Nat) (dim : Int) (W : World) (hk0 : Hid (k0 < 18446744073709551616)) (hk1 : Hid (k1 < 18446744073709551616)) (hk2 : Hid (k2 < 18446744073709551616)) (hk3 : Hid (k3 < 18446744073709551616)) (hd : 0 ≤ dim ∧ dim ≤ 255) (hA : ErrAs.Laid W) (hL : LaidK W) :
    Calls Tryd.prog 11 #[.agg #[.int .u64 k0, .int .u64 k1, .int .u64 k2, .int .u64 k3], .int .u8 dim] W fun e w' => e = .returned (.bool true) ∧ Step W w' := by
  obtain ⟨i0, hi, hz0, hz1, hz2⟩ := info_parts infoQ
  obtain ⟨n, hKN, hn⟩ : ∃ n : Nat, dim % 33 = (n : Int) ∧ n ≤ 32 := ⟨(dim % 33).toNat, by omega, by omega⟩
  obtain ⟨W0, hW0⟩ : ∃ W0, W0 = W.alloc (.cells #[.int .u64 k0, .int .u64 k1, .int .u64 k2, .int .u64 k3] 82 (0, 0)) := ⟨_, rfl⟩
  have hK : Hid (∀ j, j < 4 → W0.cell? ⟨W.heap.size, j, none⟩ = some (.int .u64 (kf k0 k1 k2 k3 j : Nat))) := Lib.hid fun j hj => by
    rw [hW0]
    match j, hj with
    | 0, _ => simp [kf]
    | 1, _ => simp [kf]
    | 2, _ => simp [kf]
    | 3, _ => simp [kf]
  have S0 : Step W W0 := by rw [hW0]; exact Step.of inferInstance
  have hkl := Lib.hid (kf_lt hk0.out hk1.out hk2.out hk3.out)
  go_enter Tryd.func11, Tryd.ntmps11
  go_wp2_with (fail)
  rw [← hW0]
  clear hW0
  go_loopw [6, 7] (fun v i wr => ∃ j : Nat, j ≤ 4 ∧ i = .int .i64 j ∧ wr.ownsRow W0.heap.size 80 2 v j (qc ((four (FpM.fPow 3 k0) (FpM.fPow 3 k1) (FpM.fPow 3 k2) (FpM.fPow 3 k3)).take j)) ∧ Step W0 wr) (fun _ i _ => 4 - (intOf i).toNat)
  case atStart => exact ⟨0, Nat.zero_le _, rfl, World.ownsRow_nil _ _ _ _, Step.of inferInstance⟩
  case round =>
    clear hKN
    obtain ⟨j, hj, rfl, hown, hS⟩ := hrel
    obtain ⟨A', c', rfl, hcc⟩ := own_form2 hown
    by_cases hlt : j < 4
    · have HT := Lib.hid (four_at (FpM.fPow 3 k0) (FpM.fPow 3 k1) (FpM.fPow 3 k2) (FpM.fPow 3 k3) j hlt)
      have hc := cell_to (hK.out j hlt) (w' := wr)
      have cP := fun w : World => public_any (kf k0 k1 k2 k3 j) (Lib.hid (hkl.out j)) w
      rw [kf_pub] at cP
      generalize kf k0 k1 k2 k3 j = k at cP hc
      generalize kf (FpM.fPow 3 k0) (FpM.fPow 3 k1) (FpM.fPow 3 k2) (FpM.fPow 3 k3) j = p at cP HT
      have HO := Lib.hid hown
      have h7 : IntKind.i64.wrap (7 * (j : Int)) = ((7 * j : Nat) : Int) := by rw [IntKind.wrap_i64] <;> omega
      clear hown hkl
      go_wp2_with (first
        | (go_at_call 61; ((with_reducible refine (cP _).mono ?_); rintro e w1 ⟨rfl, S1⟩))
        | (at_builtin; refine one W0 wr rfl _ _ 72 rfl 80 i0 _ Tryd.underlying72 hi hz0 hz1 hz2 rfl _ j _ rfl HO.out w1.heap.size (((7 * j : Nat) : Int), p) rfl (RowQ.lit1 w1 _ _ (((7 * j : Nat) : Int), p) rfl) (by omega) ?_; intro A2 c2 w2 O2 S2 hc2' hg2))
      go_roundw
      case rel => exact ⟨j + 1, by omega, by go_num, by rw [HT.out]; exact O2, S2⟩
      case measure => simp [intOf]; omega
    · have hj4 : j = 4 := by omega
      subst hj4
      obtain ⟨g, cap, hv, hgb, hgl⟩ := hown.form (by omega)
      have hA' : A' = some ⟨g, 0, none⟩ := by injection hv
      subst hA'
      clear hv
      have hcap : (4 : Int) ≤ c' := by omega
      have hcap3 : (3 : Int) ≤ c' := by omega
      have hcap3N : 3 ≤ c' := by omega
      have hcap2 : (2 : Int) ≤ c' := by omega
      have hcap2N : 2 ≤ c' := by omega
      have hcap1 : ¬ c' = 1 := by omega
      have hcap0 : ¬ c' = 0 := by omega
      have Rl : RowQ wr (some ⟨g, 0, none⟩) (four (FpM.fPow 3 k0) (FpM.fPow 3 k1) (FpM.fPow 3 k2) (FpM.fPow 3 k3)) := RowQ.of_own (by rwa [List.take_of_length_le (by simp)] at hown) rfl
      have hmB : mayF 0 (four (FpM.fPow 3 k0) (FpM.fPow 3 k1) (FpM.fPow 3 k2) (FpM.fPow 3 k3)) = true := may_pub (by omega) (by omega) (may_pub (by omega) (by omega) (may_pub (by omega) (by omega) (may_pub (by omega) (by omega) rfl)))
      have hmA : mayF 0 [(0, FpM.fPow 3 k0), (7, FpM.fPow 3 k1), (14, FpM.fPow 3 k2)] = true := may_pub (by omega) (by omega) (may_pub (by omega) (by omega) (may_pub (by omega) (by omega) rfl))
      have hmC : mayF 0 [(7, FpM.fPow 3 k1), (21, FpM.fPow 3 k3)] = true := may_pub (by omega) (by omega) (may_pub (by omega) (by omega) rfl)
      have hm1 : mayF 0 [(7, FpM.fPow 3 k1)] = true := may_pub (by omega) (by omega) rfl
      have l0 := fpow_lt64 3 k0
      have l1 := fpow_lt64 3 k1
      have l2 := fpow_lt64 3 k2
      have l3 := fpow_lt64 3 k3
      have qB : Q64 (four (FpM.fPow 3 k0) (FpM.fPow 3 k1) (FpM.fPow 3 k2) (FpM.fPow 3 k3)) := q64_of (by simp [l0, l1, l2, l3])
      have qA : Q64 [(0, FpM.fPow 3 k0), (7, FpM.fPow 3 k1), (14, FpM.fPow 3 k2)] := q64_of (by simp [l0, l1, l2])
      have qC : Q64 [(7, FpM.fPow 3 k1), (21, FpM.fPow 3 k3)] := q64_of (by simp [l1, l3])
      have q1 : Q64 [(7, FpM.fPow 3 k1)] := q64_of (by simp [l1])
      have iA : ∀ p0 p1 p2 : Nat, isIn 7 [(0, p0), (7, p1), (14, p2)] = true := fun _ _ _ => rfl
      have iB : ∀ p0 p1 p2 p3 : Nat, isIn 7 (four p0 p1 p2 p3) = true := fun _ _ _ _ => rfl
      have iC : ∀ p1 p3 : Nat, isIn 7 [(7, p1), (21, p3)] = true := fun _ _ => rfl
      have iD : ∀ p1 p3 : Nat, isIn 21 [(7, p1), (21, p3)] = true := fun _ _ => rfl
      have i1 : ∀ p1 : Nat, isIn 7 [(7, p1)] = true := fun _ => rfl
      have hw := fun s => (wN_R n s).1
      have bA := rowP_R hw 7 k1 [(0, FpM.fPow 3 k0), (7, FpM.fPow 3 k1), (14, FpM.fPow 3 k2)]
      have bB := rowP_R hw 7 k1 (four (FpM.fPow 3 k0) (FpM.fPow 3 k1) (FpM.fPow 3 k2) (FpM.fPow 3 k3))
      have bC := rowP_R hw 7 k1 [(7, FpM.fPow 3 k1), (21, FpM.fPow 3 k3)]
      have bD := rowP_R hw 21 k3 [(7, FpM.fPow 3 k1), (21, FpM.fPow 3 k3)]
      have e1 := Lib.hid (sumAC (wN_R n) k1 (FpM.fPow 3 k0) (FpM.fPow 3 k1) (FpM.fPow 3 k2) (FpM.fPow 3 k3))
      have e2 := Lib.hid (sumCD (wN_R n) k1 k3)
      have dA := fun (A : Option Addr) (c : Nat) (w : World) h h' => row_yes 7 k1 A c 3 n [(0, FpM.fPow 3 k0), (7, FpM.fPow 3 k1), (14, FpM.fPow 3 k2)] w hk1 rfl (by omega) h (Lib.hid qA) (Lib.hid hmA) (Lib.hid (iA _ _ _)) hn h'
      have dB := fun (A : Option Addr) (c : Nat) (w : World) h h' => row_yes 7 k1 A c 4 n (four (FpM.fPow 3 k0) (FpM.fPow 3 k1) (FpM.fPow 3 k2) (FpM.fPow 3 k3)) w hk1 rfl (by omega) h (Lib.hid qB) (Lib.hid hmB) (Lib.hid (iB _ _ _ _)) hn h'
      have dC := fun (A : Option Addr) (c : Nat) (w : World) h h' => row_yes 7 k1 A c 2 n [(7, FpM.fPow 3 k1), (21, FpM.fPow 3 k3)] w hk1 rfl (by omega) h (Lib.hid qC) (Lib.hid hmC) (Lib.hid (iC _ _)) hn h'
      have dD := fun (A : Option Addr) (c : Nat) (w : World) h h' => row_yes 21 k3 A c 2 n [(7, FpM.fPow 3 k1), (21, FpM.fPow 3 k3)] w hk3 rfl (by omega) h (Lib.hid qC) (Lib.hid hmC) (Lib.hid (iD _ _)) hn h'
      have d1 : ∀ (A : Option Addr) (c : Nat) (w : World), RowQ w A [(7, FpM.fPow 3 k1)] → LaidK w → Calls Tryd.prog 57 #[.int .i64 7, .int .u64 k1, .slice A 1 c, .int .i64 n] w (Yes w n (List.replicate n 0)) := fun A c w h h' => by
        have h := row_yes 7 k1 A c 1 n [(7, FpM.fPow 3 k1)] w hk1 rfl (by omega) h (Lib.hid q1) (Lib.hid hm1) (Lib.hid (i1 _)) hn h'
        rwa [row1] at h
      clear hmB hmA hmC hm1 l0 l1 l2 l3 qB qA qC q1 iA iB iC iD i1 hw hgb hcc hown
      have R3 := Rl.take 3
      have RS := (Rl.drop 1).take 1
      generalize rowP (wN n) 7 k1 [(0, FpM.fPow 3 k0), (7, FpM.fPow 3 k1), (14, FpM.fPow 3 k2)] n = XA at bA e1 dA
      generalize rowP (wN n) 7 k1 (four (FpM.fPow 3 k0) (FpM.fPow 3 k1) (FpM.fPow 3 k2) (FpM.fPow 3 k3)) n = XB at bB e1 dB
      generalize rowP (wN n) 7 k1 [(7, FpM.fPow 3 k1), (21, FpM.fPow 3 k3)] n = XC at bC e1 e2 dC
      generalize rowP (wN n) 21 k3 [(7, FpM.fPow 3 k1), (21, FpM.fPow 3 k3)] n = XD at bD e2 dD
      have cK1 := cell_to (hK.out 1 (by omega)) (w' := wr)
      have cK3 := cell_to (hK.out 3 (by omega)) (w' := wr)
      obtain ⟨b', o', e', _, cq2, cq3⟩ := Rl 1 (by simp)
      cases e'
      obtain ⟨b', o', e', _, cq6, cq7⟩ := Rl 3 (by simp)
      cases e'
      have cK1 : wr.cell? ⟨W.heap.size, 1, none⟩ = some (.int .u64 k1) := cK1
      have cK3 : wr.cell? ⟨W.heap.size, 3, none⟩ = some (.int .u64 k3) := cK3
      have cq2 : wr.cell? ⟨g, 2, none⟩ = some (.int .i64 7) := cq2
      have cq3 : wr.cell? ⟨g, 3, none⟩ = some (.int .u64 (FpM.fPow 3 k1 : Nat)) := cq3
      have cq6 : wr.cell? ⟨g, 6, none⟩ = some (.int .i64 21) := cq6
      have cq7 : wr.cell? ⟨g, 7, none⟩ = some (.int .u64 (FpM.fPow 3 k3 : Nat)) := cq7
      have R3 : RowQ wr (some ⟨g, 0, none⟩) [(0, FpM.fPow 3 k0), (7, FpM.fPow 3 k1), (14, FpM.fPow 3 k2)] := R3
      have RS : RowQ wr (some ⟨g, 2, none⟩) [(7, FpM.fPow 3 k1)] := by simpa using RS
      generalize FpM.fPow 3 k0 = p0 at *
      generalize FpM.fPow 3 k1 = p1 at *
      generalize FpM.fPow 3 k2 = p2 at *
      generalize FpM.fPow 3 k3 = p3 at *
      have RL : ∀ (w : World) (H : Nat) (t : TypeId), w.heap.size = H → RowQ (w.alloc (.cells #[.int .i64 7, .int .u64 p1, .int .i64 21, .int .u64 p3] t (0, 0))) (some ⟨H, 0, none⟩) [(7, p1), (21, p3)] := fun w H t h => RowQ.lit2 w H t (7, p1) (21, p3) h
      have cS : ∀ (A D : Option Addr) (c d : Nat) (w : World), Row .u32 w A XA → Row .u32 w D XC → Calls Tryd.prog 27 #[.slice A n c, .slice D n d] w (Yes w n XB) := fun A D c d w h1 h2 => by
        have h := VecE.add A D c d n XA XC w bA.1 bC.1 h1 h2 bA.2 hn
        rwa [e1.out] at h
      have cT : ∀ (A D : Option Addr) (c d : Nat) (w : World), Row .u32 w A XC → Row .u32 w D XD → Calls Tryd.prog 27 #[.slice A n c, .slice D n d] w (Yes w n (List.replicate n 0)) := fun A D c d w h1 h2 => by
        have h := VecE.add A D c d n XC XD w bC.1 bD.1 h1 h2 bC.2 hn
        rwa [e2.out] at h
      have cZ := fun w : World => VecE.zero n hn w
      have mB := fun (A D : Option Addr) (c d : Nat) (w : World) h1 h2 => VecE.same A D c d n n XB XB w bB.1 bB.1 h1 h2 (by omega) (by omega) true (by simp)
      have mZ := fun (A D : Option Addr) (c d : Nat) (w : World) h1 h2 => VecE.same A D c d n n (List.replicate n 0) (List.replicate n 0) w (by simp) (by simp) h1 h2 (by omega) (by omega) true (by simp)
      have dU := fun (w : World) h1 h2 => sure_any w h1 h2
      generalize List.replicate n (0 : Int) = Z at *
      clear hkl hK bA bB bC bD e1 e2 hi hz0 hz1 hz2
      go_wp2
      go_region_held3 (fun w' => w'.cell? ⟨W.heap.size, 1, none⟩ = some (.int .u64 k1) ∧ Step wr w')
        (exact ⟨cell_to cK1, Step.of inferInstance⟩)
        ((go_at_call 57; ((with_reducible refine (dA _ _ _ R3.to hL.to).mono ?_); rintro e w1 ⟨A1, c1, rfl, Q1, S1⟩)))
      rename_i hH
      clear hH
      have f1 := cell_to cK1 (w' := w1)
      go_wp2_with (go_at_call 57; ((with_reducible refine (dB _ _ _ Rl.to hL.to).mono ?_); rintro e w2 ⟨A2, c2, rfl, Q2, S2⟩))
      clear f1
      have f1 := cell_to cK1 (w' := w2)
      have f2 := cell_to cq2 (w' := w2)
      have f3 := cell_to cq3 (w' := w2)
      have f6 := cell_to cq6 (w' := w2)
      have f7 := cell_to cq7 (w' := w2)
      go_region_held3 (fun w' => w'.cell? ⟨W.heap.size, 1, none⟩ = some (.int .u64 k1) ∧ w'.cell? ⟨g, 2, none⟩ = some (.int .i64 7) ∧ w'.cell? ⟨g, 3, none⟩ = some (.int .u64 p1) ∧ w'.cell? ⟨g, 6, none⟩ = some (.int .i64 21) ∧ w'.cell? ⟨g, 7, none⟩ = some (.int .u64 p3) ∧ Step w2 w')
        (exact ⟨cell_to f1, cell_to f2, cell_to f3, cell_to f6, cell_to f7, Step.of inferInstance⟩)
        ((go_at_call 57; ((with_reducible refine (dC _ _ _ (RL w2 _ 80 rfl).to hL.to).mono ?_); rintro e w3 ⟨A3, c3, rfl, Q3, S3⟩)))
      rename_i hH
      clear hH f1 f2 f3 f6 f7
      have f1 := cell_to cK3 (w' := w3)
      have f2 := cell_to cq2 (w' := w3)
      have f3 := cell_to cq3 (w' := w3)
      have f6 := cell_to cq6 (w' := w3)
      have f7 := cell_to cq7 (w' := w3)
      go_wp2
      go_region_held3 (fun w' => w'.cell? ⟨W.heap.size, 3, none⟩ = some (.int .u64 k3) ∧ w'.cell? ⟨g, 2, none⟩ = some (.int .i64 7) ∧ w'.cell? ⟨g, 3, none⟩ = some (.int .u64 p1) ∧ w'.cell? ⟨g, 6, none⟩ = some (.int .i64 21) ∧ w'.cell? ⟨g, 7, none⟩ = some (.int .u64 p3) ∧ Step w3 w')
        (exact ⟨cell_to f1, cell_to f2, cell_to f3, cell_to f6, cell_to f7, Step.of inferInstance⟩)
        ((go_at_call 57; ((with_reducible refine (dD _ _ _ (RL w3 _ 80 rfl).to hL.to).mono ?_); rintro e w4 ⟨A4, c4, rfl, Q4, S4⟩)))
      rename_i hH
      clear hH f1 f2 f3 f6 f7
      go_wp2_with (first
        | (go_at_call 27; ((with_reducible refine (cS _ _ _ _ _ Q1.to Q3.to).mono ?_); rintro e w5 ⟨A5, c5, rfl, Q5, S5⟩))
        | (go_at_call 27; ((with_reducible refine (cT _ _ _ _ _ Q3.to Q4.to).mono ?_); rintro e w6 ⟨A6, c6, rfl, Q6, S6⟩))
        | (go_at_call 33; ((with_reducible refine (cZ _).mono ?_); rintro e w7 ⟨A7, c7, rfl, Q7, S7⟩)))
      have f1 := cell_to cK1 (w' := w7)
      go_region_held3 (fun w' => w'.cell? ⟨W.heap.size, 1, none⟩ = some (.int .u64 k1) ∧ Step w7 w')
        (exact ⟨cell_to f1, Step.of inferInstance⟩)
        ((go_at_call 57; ((with_reducible refine (d1 _ _ _ RS.to hL.to).mono ?_); rintro e w8 ⟨A8, c8, rfl, Q8, S8⟩)))
      rename_i hH
      clear hH f1
      go_wp2_with (first
        | (go_at_call 34; ((with_reducible refine (mB _ _ _ _ _ Q5.to Q2.to).mono ?_); rintro e w' ⟨rfl, t1, rfl⟩))
        | (go_at_call 34; ((with_reducible refine (mZ _ _ _ _ _ Q6.to Q7.to).mono ?_); rintro e w' ⟨rfl, t2, rfl⟩))
        | (go_at_call 34; ((with_reducible refine (mZ _ _ _ _ _ Q8.to Q7.to).mono ?_); rintro e w' ⟨rfl, t3, rfl⟩))
        | (go_at_call 56; ((with_reducible refine (dU _ hA.to hL.to).mono ?_); rintro e w9 ⟨rfl, S9⟩)))
      go_ret
      exact ⟨rfl, Step.of inferInstance⟩
theorem walk (xs : List Int) (dim : Int) (W : World) (h4 : xs.length = 4) (hb : ∀ z ∈ xs, 0 ≤ z ∧ z < 18446744073709551616) (hd : 0 ≤ dim ∧ dim ≤ 255) (hL : LaidX.LaidS W) :
    Calls Tryd.prog 11 #[.agg (xs.map (Value.int .u64)).toArray, .int .u8 dim] W fun e w' => e = .returned (.bool true) ∧ Step W w' := by
  obtain ⟨a, b, c, d, rfl⟩ : ∃ a b c d, xs = [a, b, c, d] := by
    match xs, h4 with
    | [a, b, c, d], _ => exact ⟨a, b, c, d, rfl⟩
  have ha := hb a (by simp)
  have hb' := hb b (by simp)
  have hc := hb c (by simp)
  have hd' := hb d (by simp)
  clear hb
  obtain ⟨a, rfl⟩ : ∃ k : Nat, a = k := ⟨a.toNat, by omega⟩
  obtain ⟨b, rfl⟩ : ∃ k : Nat, b = k := ⟨b.toNat, by omega⟩
  obtain ⟨c, rfl⟩ : ∃ k : Nat, c = k := ⟨c.toNat, by omega⟩
  obtain ⟨d, rfl⟩ : ∃ k : Nat, d = k := ⟨d.toNat, by omega⟩
  exact core a b c d dim W (Lib.hid (by omega)) (Lib.hid (by omega)) (Lib.hid (by omega)) (Lib.hid (by omega)) hd hL.1 hL.2
end LawPairMore
end Go.Proofs.YtmdknpejadepbaaDoor
