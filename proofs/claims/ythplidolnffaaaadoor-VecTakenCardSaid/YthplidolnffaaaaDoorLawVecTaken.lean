/- VecTaken walked: true at any two rows of six numbers and any number. Condition: errors.errorType reads as laid. -/
import Derived.Test.YthplidolnffaaaaDoorVecE
import Derived.Test.YthplidolnffaaaaDoorSure02
import Derived.RegionTactic
namespace Go.Proofs.YthplidolnffaaaaDoor
open Go.RowKit Go.Lib
namespace LawVecTaken
open SlR VecC VecE ErrAs
theorem sub_self {xs : List Int} {n : Nat} (h : xs.length = n) : vSub xs xs = List.replicate n 0 := by
  subst h
  induction xs with
  | nil => rfl
  | cons a l ih => rw [vSub, List.zipWith_cons_cons, List.length_cons, List.replicate_succ]; congr 1; omega
theorem add_zeros {xs : List Int} {n : Nat} (h : xs.length = n) (hb : Bits xs) : vAdd xs (List.replicate n 0) = xs := by
  subst h
  induction xs with
  | nil => rfl
  | cons a l ih =>
    have ha := hb a (by simp)
    rw [vAdd, List.length_cons, List.replicate_succ, List.zipWith_cons_cons]
    congr 1
    · omega
    · exact ih fun x hx => hb x (by simp [hx])
theorem sub_zeros {xs : List Int} {n : Nat} (h : xs.length = n) (hb : Bits xs) : vSub xs (List.replicate n 0) = xs := by
  subst h
  induction xs with
  | nil => rfl
  | cons a l ih =>
    have ha := hb a (by simp)
    rw [vSub, List.length_cons, List.replicate_succ, List.zipWith_cons_cons]
    congr 1
    · omega
    · exact ih fun x hx => hb x (by simp [hx])
theorem neg_sub {xs ys : List Int} {n : Nat} (h : xs.length = n) (h2 : ys.length = n) : vSub (List.replicate n 0) (vSub ys xs) = vSub xs ys := by
  induction n generalizing xs ys with
  | zero => simp [vSub, List.length_eq_zero_iff.mp h]
  | succ n ih =>
    match xs, ys, h, h2 with
    | a :: l, b :: m, h, h2 =>
      rw [List.replicate_succ]
      show vSub (0 :: List.replicate n 0) ((b - a) % 4294967296 :: vSub m l) = (a - b) % 4294967296 :: vSub l m
      rw [← ih (xs := l) (ys := m) (by simpa using h) (by simpa using h2)]
      show (0 - (b - a) % 4294967296) % 4294967296 :: _ = _
      congr 1
      omega
theorem times_zero {xs : List Int} {n : Nat} (h : xs.length = n) : vTimes ((0 : Nat) : Int) xs = List.replicate n 0 := by
  subst h
  induction xs with
  | nil => rfl
  | cons a l ih => rw [vTimes, List.map_cons, List.length_cons, List.replicate_succ]; congr 1; simp
theorem times_succ (xs : List Int) (j : Nat) : vAdd (vTimes j xs) xs = vTimes ((j + 1 : Nat) : Int) xs := by
  induction xs with
  | nil => rfl
  | cons a l ih =>
    show (a * (j : Int) % 4294967296 + a) % 4294967296 :: vAdd (vTimes j l) l = a * ((j + 1 : Nat) : Int) % 4294967296 :: vTimes ((j + 1 : Nat) : Int) l
    rw [ih]
    congr 1
    rw [Int.natCast_add, Int.mul_add, Int.mul_comm a ((1 : Nat) : Int)]
    generalize a * (j : Int) = p
    omega
theorem times_bits (q : Int) (xs : List Int) : Bits (vTimes q xs) := fun x hx => by
  obtain ⟨a, _, rfl⟩ := List.mem_map.mp hx
  exact ⟨Int.emod_nonneg _ (by decide), Int.emod_lt_of_pos _ (by decide)⟩
set_option maxHeartbeats 1600000 in
set_option maxRecDepth 1000000 in
theorem walk (xs ys : List Int) (K : Int) (W : World) (hxn : xs.length = 6) (hbx : Bits xs) (hyn : ys.length = 6) (_hby : Bits ys) (hK : 0 ≤ K ∧ K ≤ 255) (hL : Laid W) :
    Calls Tryd.prog 6 #[.agg (xs.map (Value.int .u32)).toArray, .agg (ys.map (Value.int .u32)).toArray, .int .u8 K] W fun e w' => e = .returned (.bool true) ∧ Step W w' := by
  have RX0 : Row .u32 (W.alloc (.cells (xs.map (Value.int .u32)).toArray 45 (0, 0))) (some ⟨W.heap.size, 0, none⟩) xs := Row.litN W _ _ xs rfl
  have RX : Row .u32 ((W.alloc (.cells (xs.map (Value.int .u32)).toArray 45 (0, 0))).alloc (.cells (ys.map (Value.int .u32)).toArray 45 (0, 0))).drew (some ⟨W.heap.size, 0, none⟩) xs := RX0.to
  have RY0 : Row .u32 ((W.alloc (.cells (xs.map (Value.int .u32)).toArray 45 (0, 0))).alloc (.cells (ys.map (Value.int .u32)).toArray 45 (0, 0))) (some ⟨W.heap.size + 1, 0, none⟩) ys := Row.litN _ _ _ ys (by simp)
  have RY : Row .u32 ((W.alloc (.cells (xs.map (Value.int .u32)).toArray 45 (0, 0))).alloc (.cells (ys.map (Value.int .u32)).toArray 45 (0, 0))).drew (some ⟨W.heap.size + 1, 0, none⟩) ys := RY0.to
  clear RX0 RY0
  have z6 : ∀ w, Calls Tryd.prog 14 #[.int .i64 6] w (Yes w 6 (List.replicate 6 0)) := fun w => VecE.zero 6 (by omega) w
  have hE : Ext W ((W.alloc (.cells (xs.map (Value.int .u32)).toArray 45 (0, 0))).alloc (.cells (ys.map (Value.int .u32)).toArray 45 (0, 0))).drew := inferInstance
  go_enter Tryd.func6, Tryd.ntmps6
  go_wp2_with (fail)
  go_region
  go_wp2_with (first
    | (go_at_call 14; have h0 := Rn; clear h0; ((with_reducible refine (z6 _).mono ?_); rintro e wq ⟨Aq, cq, rfl, Rq, Sq⟩))
    | (go_at_call 14; ((with_reducible refine (z6 _).mono ?_); rintro e wz ⟨Az, cz, rfl, Rz, Sz⟩))
    | (go_at_call 10; ((with_reducible refine (VecE.sub (some ⟨W.heap.size, 0, none⟩) (some ⟨W.heap.size, 0, none⟩) 6 6 6 xs xs _ hxn hxn RX.to RX.to (by omega)).mono ?_); rintro e wd ⟨Ad, cd, rfl, Rd, Sd⟩))
    | (go_at_call 8; ((with_reducible refine (VecE.add (some ⟨W.heap.size, 0, none⟩) Az 6 cz 6 xs _ _ hxn (by simp) RX.to Rz.to hbx (by omega)).mono ?_); rintro e ws ⟨As, cs, rfl, Rs, Ss⟩))
    | (go_at_call 10; ((with_reducible refine (VecE.sub (some ⟨W.heap.size, 0, none⟩) Az 6 cz 6 xs _ _ hxn (by simp) RX.to Rz.to (by omega)).mono ?_); rintro e wt ⟨At, ct, rfl, Rt, St⟩))
    | (go_at_call 10; ((with_reducible refine (VecE.sub (some ⟨W.heap.size, 0, none⟩) (some ⟨W.heap.size + 1, 0, none⟩) 6 6 6 xs ys _ hxn hyn RX.to RY.to (by omega)).mono ?_); rintro e wu ⟨Au, cu, rfl, Ru, Su⟩))
    | (go_at_call 10; ((with_reducible refine (VecE.sub (some ⟨W.heap.size + 1, 0, none⟩) (some ⟨W.heap.size, 0, none⟩) 6 6 6 ys xs _ hyn hxn RY.to RX.to (by omega)).mono ?_); rintro e wv ⟨Av, cv, rfl, Rv, Sv⟩))
    | (go_at_call 10; ((with_reducible refine (VecE.sub Az Av cz cv 6 _ (vSub ys xs) _ (by simp) (vSub_length hyn hxn) Rz.to Rv.to (by omega)).mono ?_); rintro e ww ⟨Aw, cw, rfl, Rw, Sw⟩))
    | (go_at_call 11; ((with_reducible refine (VecE.times (some ⟨W.heap.size, 0, none⟩) 6 6 (K % 9) xs _ hxn RX.to (by omega)).mono ?_); rintro e wn ⟨An, cn, rfl, Rn, Sn⟩)))
  have hK9 : 0 ≤ K % 9 ∧ K % 9 < 9 := by omega
  go_loopw [25, 26, 27] (fun s p i wr => ∃ (j : Nat) (A' : Option Addr) (c' : Nat), (j : Int) ≤ K % 9 ∧ i = .int .i64 j ∧ s = .slice A' 6 c' ∧ p = .nilIface ∧ Row .u32 wr A' (vTimes j xs) ∧ Step wq wr) (fun _ _ i _ => 9 - (intOf i).toNat)
  case atStart => exact ⟨0, Aq, cq, by omega, rfl, rfl, rfl, by rw [times_zero hxn]; exact Rq, Step.of inferInstance⟩
  case round =>
    obtain ⟨j, A', c', hj, rfl, rfl, rfl, R', S'⟩ := hrel
    by_cases hlt : (j : Int) < K % 9
    · have cA := fun w h1 h2 => VecE.add A' (some ⟨W.heap.size, 0, none⟩) c' 6 6 (vTimes j xs) xs w (by simp [vTimes, hxn]) hxn h1 h2 (times_bits _ _) (by omega)
      go_wp2_with (go_at_call 8; ((with_reducible refine (cA _ R'.to RX.to).mono ?_); rintro e w2 ⟨A2, c2, rfl, R2, S2⟩))
      go_roundw
      case rel => exact ⟨j + 1, A2, c2, by omega, by go_num, rfl, rfl, by rw [← times_succ]; exact R2, Step.of inferInstance⟩
      case measure => simp [intOf]; omega
    · have hjK : K % 9 = j := by omega
      have l6 : (List.replicate 6 (0 : Int)).length = 6 := by simp
      have lT : (vTimes (K % 9) xs).length = 6 := by simp [vTimes, hxn]
      have sD := fun w h1 h2 => VecE.same Ad Az cd cz 6 6 (vSub xs xs) (List.replicate 6 0) w (vSub_length hxn hxn) l6 h1 h2 (by omega) (by omega) true (by rw [sub_self hxn]; simp)
      have sS := fun w h1 h2 => VecE.same As (some ⟨W.heap.size, 0, none⟩) cs 6 6 6 (vAdd xs (List.replicate 6 0)) xs w (vAdd_length hxn l6) hxn h1 h2 (by omega) (by omega) true (by rw [add_zeros hxn hbx]; simp)
      have sT := fun w h1 h2 => VecE.same At (some ⟨W.heap.size, 0, none⟩) ct 6 6 6 (vSub xs (List.replicate 6 0)) xs w (vSub_length hxn l6) hxn h1 h2 (by omega) (by omega) true (by rw [sub_zeros hxn hbx]; simp)
      have sU := fun w h1 h2 => VecE.same Au Aw cu cw 6 6 (vSub xs ys) (vSub (List.replicate 6 0) (vSub ys xs)) w (vSub_length hxn hyn) (vSub_length l6 (vSub_length hyn hxn)) h1 h2 (by omega) (by omega) true (by rw [neg_sub hxn hyn]; simp)
      have sN := fun w h1 h2 => VecE.same An A' cn c' 6 6 (vTimes (K % 9) xs) (vTimes j xs) w lT (by rw [← hjK]; exact lT) h1 h2 (by omega) (by omega) true (by rw [hjK]; simp)
      have HJ := Lib.hid hjK
      clear hjK
      go_wp2_with (first
        | (go_at_call 15; ((with_reducible refine (sD _ Rd.to Rz.to).mono ?_); rintro e w' ⟨rfl, t, rfl⟩))
        | (go_at_call 15; ((with_reducible refine (sS _ Rs.to RX.to).mono ?_); rintro e w' ⟨rfl, t, rfl⟩))
        | (go_at_call 15; ((with_reducible refine (sT _ Rt.to RX.to).mono ?_); rintro e w' ⟨rfl, t, rfl⟩))
        | (go_at_call 15; ((with_reducible refine (sU _ Ru.to Rw.to).mono ?_); rintro e w' ⟨rfl, t, rfl⟩))
        | (go_at_call 15; ((with_reducible refine (sN _ Rn.to R'.to).mono ?_); rintro e w' ⟨rfl, t, rfl⟩))
        | (go_at_call 7; ((with_reducible refine (Sure02.sure_any _ hL.to).mono ?_); rintro e w' ⟨rfl, S⟩)))
      go_ret
      exact ⟨rfl, Step.of inferInstance⟩
end LawVecTaken
end Go.Proofs.YthplidolnffaaaaDoor
