/- VecOrder walked: true at every list of arrays of eight numbers and every two numbers. Condition: errors.errorType reads as laid. -/
import Derived.Test.YthplidolnffaaaaDoorVecMath
import Derived.Test.YthplidolnffaaaaDoorHdr
import Derived.Test.YthplidolnffaaaaDoorSure02
import Derived.RegionTactic
namespace Go.Proofs.YthplidolnffaaaaDoor
open Go.RowKit Go.Lib
namespace LawVecOrder
open SlR VecC VecE ErrAs Hdr
theorem infoS : (Tryd.prog.info? 22).map (fun i => (i.zero, i.size, i.bytes)) = some (some (.slice none 0 0), 1, 24) := by kernel_rfl
abbrev R3 (w : World) (B : Nat) (v : Value) (n : Nat) (ls : List (List Int)) : Prop := HR .u32 23 22 w B v n ls
theorem step_push {W w w' : World} {v v' : Value} {TU : TypeId} (e : Ext W w) (p : Push w w' v v' TU) (h : ∀ g, v.ownBlock = some g → W.heap.size ≤ g) : Step W w' := ⟨e.h.grown p.grown e.size h⟩
theorem rev_at {α : Type} {ls : List α} {n j : Nat} (hn : ls.length = n) (hj : j < n) {x : α} (h : ls[n - 1 - j]? = some x) : ls.reverse[j]? = some x := by
  rw [List.getElem?_reverse (by omega), hn]; exact h
theorem take2 {w : World} {A : Option Addr} {ls : List (List Int)} (h : Rows2 w A ls) (N : Nat) : Rows2 w A (ls.take N) := fun j row hj => by
  rw [List.getElem?_take] at hj
  split at hj
  · exact h j row hj
  · cases hj
theorem drop2 {w : World} {A : Option Addr} {ls : List (List Int)} (h : Rows2 w A ls) (N : Nat) : Rows2 w (A.map fun a => a.add N) (ls.drop N) := fun j row hj => by
  rw [List.getElem?_drop] at hj
  obtain ⟨ad, A', c', rfl, h2, h3, h4⟩ := h (N + j) row hj
  have e : (ad.add N).add j = ad.add (N + j) := by
    unfold Addr.add
    by_cases h1 : N = 0 <;> by_cases h2 : j = 0 <;> simp [h1, h2, Nat.add_assoc]
  exact ⟨ad.add N, A', c', rfl, by rw [blockAdd]; exact h2, by rw [e]; exact h3, h4⟩
theorem timesO (A : Option Addr) (c n : Nat) (q : Int) (xs : List Int) (w : World) (hxn : xs.length = n) (hx : Row .u32 w A xs) (hl : n ≤ 32) :
    Calls Tryd.prog 11 #[.slice A n c, .int .u32 q] w (Ans w n (vTimes q xs)) := times_ok A c n q xs w hxn hx hl
set_option maxHeartbeats 1600000 in
set_option maxRecDepth 1000000 in
theorem walk (A : Option Addr) (n c : Nat) (ls : List (List Int)) (K q : Int) (W : World) (hn : ls.length = n) (h8 : ∀ row ∈ ls, row.length = 8)
    (hr : ∀ (j : Nat) (row : List Int), ls[j]? = some row → ∃ ad : Addr, A = some ad ∧ Row .u32 W (some (ad.add (j * 8))) row) (hb : ∀ row ∈ ls, Bits row) (hK : 0 ≤ K ∧ K ≤ 255) (_hq : 0 ≤ q ∧ q ≤ 4294967295) (hL : Laid W) :
    Calls Tryd.prog 5 #[.slice A n c, .int .u8 K, .int .u32 q] W fun e w' => e = .returned (.bool true) ∧ Step W w' := by
  obtain ⟨i0, hi, hz0, hz1, hz2⟩ := info_parts info
  obtain ⟨i1, hi1, hy0, hy1, hy2⟩ := info_parts infoS
  by_cases h60 : 60 < n ∨ n = 0
  · by_cases h1 : 60 < n
    · have hbig : (60 : Int) < (n : Int) := by omega
      go_enter Tryd.func5, Tryd.ntmps5
      go_wp2_with (go_at_call 7; ((with_reducible refine (Sure02.sure_any _ hL.to).mono ?_); rintro e w' ⟨rfl, S⟩))
      go_ret
      exact ⟨rfl, Step.of inferInstance⟩
    · obtain rfl : n = 0 := by omega
      go_enter Tryd.func5, Tryd.ntmps5
      go_wp2_with (go_at_call 7; ((with_reducible refine (Sure02.sure_any _ hL.to).mono ?_); rintro e w' ⟨rfl, S⟩))
      go_ret
      exact ⟨rfl, Step.of inferInstance⟩
  · have hbig : ¬ (60 : Int) < (n : Int) := by omega
    have hn0 : ¬ (n : Int) = 0 := by omega
    have hn60 : n ≤ 60 := by omega
    obtain ⟨ad, hA, hx⟩ := hr 0 _ (List.getElem?_eq_getElem (by omega : 0 < ls.length))
    clear hx
    subst hA
    have hrow : ∀ (j : Nat) (row : List Int), ls[j]? = some row → Row .u32 W (some (ad.add (j * 8))) row := fun j row h => by
      obtain ⟨ad', e1, h2⟩ := hr j row h
      injection e1 with e1; subst e1; exact h2
    clear hr
    have HN := Lib.hid hn
    clear hn
    go_enter Tryd.func5, Tryd.ntmps5
    go_wp2_with (fail)
    go_loopw [7, 8, 9, 10] (fun va vt vm i wr => ∃ j : Nat, j ≤ n ∧ i = .int .i64 j ∧ R3 wr W.heap.size va j (ls.take j) ∧ R3 wr W.heap.size vt j (ls.reverse.take j) ∧ R3 wr W.heap.size vm j ((ls.map (vTimes q)).take j) ∧
      Apart va vt ∧ Apart va vm ∧ Apart vt vm ∧ Step W wr) (fun _ _ _ i _ => n - (intOf i).toNat)
    case atStart => exact ⟨0, Nat.zero_le _, rfl, HR.nil _, HR.nil _, HR.nil _, Apart.nil _, Apart.nil _, Apart.nil _, Step.of inferInstance⟩
    case round =>
      clear hbig
      obtain ⟨j, hj, rfl, ha, ht, hm, pat, pam, ptm, hS⟩ := hrel
      obtain ⟨Aa, ca, rfl⟩ := ha.form
      obtain ⟨At, ct, rfl⟩ := ht.form
      obtain ⟨Am, cm, rfl⟩ := hm.form
      by_cases hlt : j < n
      · obtain ⟨row, hrj⟩ : ∃ row, ls[j]? = some row := ⟨_, List.getElem?_eq_getElem (by have := HN.out; omega)⟩
        obtain ⟨rov, hvj⟩ : ∃ row, ls[n - 1 - j]? = some row := ⟨_, List.getElem?_eq_getElem (by have := HN.out; omega)⟩
        have l8 := h8 row (List.mem_of_getElem? hrj)
        have v8 := h8 rov (List.mem_of_getElem? hvj)
        have RW := hrow j row hrj
        have RV := hrow (n - 1 - j) rov hvj
        go_wp2_with (first
          | (at_builtin; refine App.copyO .u32 wr.heap.size rfl _ _ 22 rfl 23 i0 _ 4 Tryd.underlying22 hi hz0 hz1 hz2 rfl rfl rfl (some (ad.add (j * 8))) 8 8 row rfl l8 RW.to (by unfold maxLen; omega) (by omega) ?_; intro AX cX wX OX SX)
          | (at_builtin; refine Hdr.push (TU := 23) (TS := 22) (by decide) wX.heap.size rfl _ _ 38 rfl i1 _ 24 Tryd.underlying38 hi1 hy0 hy1 hy2 rfl W.heap.size j (.slice Aa j ca) (ls.take j) rfl ha.to rfl rfl AX 8 cX row l8 (RowU.of_own OX) (by unfold maxLen; omega) (by omega) (Ext.size inferInstance) ?_; intro A1 c1 w1 H1 P1; have T1 := HR.other ht.to P1 pat.symm; have M1 := HR.other hm.to P1 pam.symm; have S1 : Step W w1 := step_push inferInstance P1 (fun g h => (ha.lt g h).1))
          | (at_builtin; refine App.copyO .u32 w1.heap.size rfl _ _ 22 rfl 23 i0 _ 4 Tryd.underlying22 hi hz0 hz1 hz2 rfl rfl rfl (some (ad.add ((n - 1 - j) * 8))) 8 8 rov rfl v8 RV.to (by unfold maxLen; omega) (by omega) ?_; intro AY cY wY OY SY)
          | (at_builtin; refine Hdr.push (TU := 23) (TS := 22) (by decide) wY.heap.size rfl _ _ 38 rfl i1 _ 24 Tryd.underlying38 hi1 hy0 hy1 hy2 rfl W.heap.size j (.slice At j ct) (ls.reverse.take j) rfl T1.1.to rfl rfl AY 8 cY rov v8 (RowU.of_own OY) (by unfold maxLen; omega) (by omega) (Ext.size inferInstance) ?_; intro A2 c2 w2 H2 P2; have N2 := HR.other H1.to P2 T1.2.symm; have M2 := HR.other M1.1.to P2 ptm.symm; have S2 : Step W w2 := step_push inferInstance P2 (fun g h => (T1.1.lt g h).1))
          | (go_at_call 11; ((with_reducible refine (timesO (some (ad.add (j * 8))) 8 8 q row _ l8 RW.to (by omega)).mono ?_); rintro e w3 ⟨A3, c3, rfl, O3, B3⟩; have S3 := Step.mk B3))
          | (at_builtin; refine Hdr.push (TU := 23) (TS := 22) (by decide) w3.heap.size rfl _ _ 38 rfl i1 _ 24 Tryd.underlying38 hi1 hy0 hy1 hy2 rfl W.heap.size j (.slice Am j cm) ((ls.map (vTimes q)).take j) rfl M2.1.to rfl rfl A3 8 c3 (vTimes q row) (by simp [vTimes, l8]) (RowU.of_own O3) (by unfold maxLen; omega) (by omega) (Ext.size inferInstance) ?_; intro A4 c4 w4 H4 P4; have N4 := HR.other N2.1.to P4 M1.2.symm; have T4 := HR.other H2.to P4 M2.2.symm; have S4 : Step W w4 := step_push inferInstance P4 (fun g h => (M2.1.lt g h).1)))
        go_roundw
        case rel => exact ⟨j + 1, by omega, by go_num, by rw [take_snoc hrj]; exact N4.1, by rw [take_snoc (rev_at HN.out hlt hvj)]; exact T4.1, by rw [take_snoc (by rw [List.getElem?_map, hrj]; rfl)]; exact H4, N2.2, N4.2, T4.2, S4⟩
        case measure => simp [intOf]; omega
      · obtain rfl : j = n := by omega
        rw [List.take_of_length_le (by rw [HN.out]; omega)] at ha
        rw [List.take_of_length_le (by rw [List.length_reverse, HN.out]; omega)] at ht
        rw [List.take_of_length_le (by rw [List.length_map, HN.out]; omega)] at hm
        have hn1 : 1 ≤ (j : Int) := by omega
        obtain ⟨N, hKN, hNn⟩ : ∃ N : Nat, K % (j : Int) = (N : Int) ∧ N < j := ⟨(K % (j : Int)).toNat, by
          have := Int.emod_nonneg K (by omega : (j : Int) ≠ 0)
          omega, by
          have := Int.emod_nonneg K (by omega : (j : Int) ≠ 0)
          have := Int.emod_lt_of_pos K (by omega : 0 < (j : Int))
          omega⟩
        have hcap := ha.cap
        have r8 : ∀ row ∈ ls.reverse, row.length = 8 := fun row h => h8 row (List.mem_reverse.mp h)
        have t8 : ∀ row ∈ ls.map (vTimes q), row.length = 8 := fun row h => by
          obtain ⟨x, hx, rfl⟩ := List.mem_map.mp h
          simp [vTimes, h8 x hx]
        have Ra : Rows2 wr Aa ls := ha.rows
        have Rt : Rows2 wr At ls.reverse := ht.rows
        have Rm : Rows2 wr Am (ls.map (vTimes q)) := hm.rows
        have Lr := Lib.hid (show ls.reverse.length = j by rw [List.length_reverse]; exact HN.out)
        have Lm := Lib.hid (show (ls.map (vTimes q)).length = j by rw [List.length_map]; exact HN.out)
        clear ha ht hm pat pam ptm hrow
        have q8 : ∀ (A : Option Addr) (c m : Nat) (l : List (List Int)) (w : World), l.length = m → m ≤ 60 → Rows2 w A l → (∀ row ∈ l, row.length = 8) → Calls Tryd.prog 16 #[.slice A m c, .int .i64 8] w (Yes w 8 (vSum 8 l)) :=
          fun A c m l w h1 h2 h3 h4 => VecE.sum A c 8 m l w h1 (by omega) h3 (by omega) h4
        have Rp := take2 Ra N
        have Rs := drop2 Ra N
        have Lp := Lib.hid (show (ls.take N).length = N by rw [List.length_take, HN.out]; omega)
        have Ls := Lib.hid (show (ls.drop N).length = j - N by rw [List.length_drop, HN.out])
        have p8 : ∀ row ∈ ls.take N, row.length = 8 := fun row h => h8 row (List.mem_of_mem_take h)
        have s8 : ∀ row ∈ ls.drop N, row.length = 8 := fun row h => h8 row (List.mem_of_mem_drop h)
        have hcN : ¬ ca = N := by omega
        have l1 := vSum_length 8 ls h8
        have l2 := vSum_length 8 ls.reverse r8
        have l3 := vSum_length 8 (ls.take N) p8
        have l4 := vSum_length 8 (ls.drop N) s8
        have l8 := vSum_length 8 (ls.map (vTimes q)) t8
        have b3 := Ref02.vSum_bits 8 (ls.take N)
        have m1 : vAdd (vSum 8 (ls.take N)) (vSum 8 (ls.drop N)) = vSum 8 ls := by rw [← VecM.sum_append p8 s8, List.take_append_drop]
        have e1 := fun (A B : Option Addr) (c d : Nat) (w : World) h1 h2 => VecE.same A B c d 8 8 (vSum 8 ls) (vSum 8 ls.reverse) w l1 l2 h1 h2 (by omega) (by omega) true (by rw [VecM.sum_reverse h8 hb]; simp)
        have e2 := fun (A B : Option Addr) (c d : Nat) (w : World) h1 h2 => VecE.same A B c d 8 8 (vSum 8 ls) (vAdd (vSum 8 (ls.take N)) (vSum 8 (ls.drop N))) w l1 (vAdd_length l3 l4) h1 h2 (by omega) (by omega) true (by rw [m1]; simp)
        have e3 := fun (A B : Option Addr) (c d : Nat) (w : World) h1 h2 => VecE.same A B c d 8 8 (vSub (vSum 8 ls) (vSum 8 (ls.drop N))) (vSum 8 (ls.take N)) w (vSub_length l1 l4) l3 h1 h2 (by omega) (by omega) true (by rw [← m1, VecM.add_sub l3 l4 b3]; simp)
        have e4 := fun (A B : Option Addr) (c d : Nat) (w : World) h1 h2 => VecE.same A B c d 8 8 (vTimes q (vSum 8 ls)) (vSum 8 (ls.map (vTimes q))) w (by simp [vTimes, l1]) l8 h1 h2 (by omega) (by omega) true (by rw [VecM.times_sum h8]; simp)
        have HM := Lib.hid m1
        clear m1
        go_wp2_with (first
          | (go_at_call 16; ((with_reducible refine (q8 Aa ca N _ _ Lp.out (by omega) Rp.to p8).mono ?_); rintro e w3 ⟨A3, c3, rfl, R3, S3⟩))
          | (go_at_call 16; ((with_reducible refine (q8 (Aa.map fun a => a.add N) (ca - N) (j - N) _ _ Ls.out (by omega) Rs.to s8).mono ?_); rintro e w4 ⟨A4, c4, rfl, R4, S4⟩))
          | (go_at_call 16; ((with_reducible refine (q8 Aa ca j ls _ HN.out (by omega) Ra.to h8).mono ?_); rintro e w1 ⟨A1, c1, rfl, R1, S1⟩))
          | (go_at_call 16; ((with_reducible refine (q8 At ct j _ _ Lr.out (by omega) Rt.to r8).mono ?_); rintro e w2 ⟨A2, c2, rfl, R2, S2⟩))
          | (go_at_call 8; ((with_reducible refine (VecE.add A3 A4 c3 c4 8 _ _ _ l3 l4 R3.to R4.to b3 (by omega)).mono ?_); rintro e w5 ⟨A5, c5, rfl, R5, S5⟩))
          | (go_at_call 10; ((with_reducible refine (VecE.sub A1 A4 c1 c4 8 _ _ _ l1 l4 R1.to R4.to (by omega)).mono ?_); rintro e w6 ⟨A6, c6, rfl, R6, S6⟩))
          | (go_at_call 11; ((with_reducible refine (VecE.times A1 c1 8 q _ _ l1 R1.to (by omega)).mono ?_); rintro e w7 ⟨A7, c7, rfl, R7, S7⟩))
          | (go_at_call 16; ((with_reducible refine (q8 Am cm j _ _ Lm.out (by omega) Rm.to t8).mono ?_); rintro e w8 ⟨A8, c8, rfl, R8, S8⟩))
          | (go_at_call 15; ((with_reducible refine (e1 A1 A2 c1 c2 _ R1.to R2.to).mono ?_); rintro e w' ⟨rfl, t, rfl⟩))
          | (go_at_call 15; ((with_reducible refine (e2 A1 A5 c1 c5 _ R1.to R5.to).mono ?_); rintro e w' ⟨rfl, t, rfl⟩))
          | (go_at_call 15; ((with_reducible refine (e3 A6 A3 c6 c3 _ R6.to R3.to).mono ?_); rintro e w' ⟨rfl, t, rfl⟩))
          | (go_at_call 15; ((with_reducible refine (e4 A7 A8 c7 c8 _ R7.to R8.to).mono ?_); rintro e w' ⟨rfl, t, rfl⟩))
          | (go_at_call 7; ((with_reducible refine (Sure02.sure_any _ hL.to).mono ?_); rintro e w' ⟨rfl, S⟩)))
        go_ret
        exact ⟨rfl, Step.of inferInstance⟩
end LawVecOrder
end Go.Proofs.YthplidolnffaaaaDoor
