/- sure of law 03: true whatever comes. Condition: errors.errorType reads as laid. -/
import Derived.Test.YtjiagdkopchaeaaDoorRefL03
import Derived.Test.YtjiagdkopchaeaaDoorNumE03
import Derived.ArgAppend
namespace Go.Proofs.YtjiagdkopchaeaaDoor
open Go.RowKit Go.Lib Go.Maps
namespace PoC
open SlR FpM FpC PoM ErrAs
theorem RowS.lit2 (w : World) (H : Nat) (t : TypeId) (a b c d : Nat) (h : w.heap.size = H) : RowS (w.alloc (.cells #[.int .u64 a, .int .u64 b, .int .u64 c, .int .u64 d] t (0, 0))) (some ⟨H, 0, none⟩) [a, c] [b, d] := by
  subst h
  intro j hj
  match j, hj with
  | 0, hj => exact ⟨_, 0, rfl, by simp, by simp, by simp⟩
  | 1, hj => exact ⟨_, 0, rfl, by simp, by simp, by simp⟩
theorem RowS.cellsPl {w : World} {b o : Nat} {xs ys : List Nat} (h : RowS w (some ⟨b, o, none⟩) xs ys) (n : Nat) (hn : n ≤ xs.length) : ∀ j u, (pl xs ys n)[j]? = some u → w.cell? ((⟨b, o, none⟩ : Addr).add j) = some u := fun j u hj => by
  have hl : j < n * 2 := by rw [← pl_len xs ys n]; exact (List.getElem?_eq_some_iff.mp hj).1
  obtain ⟨b', o', e, _, h1, h2⟩ := h (j / 2) (by omega)
  cases e
  rw [Addr.add_lit]
  have hp := pl_at xs ys (j / 2) n (by omega)
  rcases Nat.mod_two_eq_zero_or_one j with hm | hm
  · rw [show j / 2 * 2 = j by omega] at h1 hp
    rw [h1, ← hj]; exact hp.1.symm
  · rw [show o + j / 2 * 2 + 1 = o + j by omega] at h2
    rw [show j / 2 * 2 + 1 = j by omega] at hp
    rw [h2, ← hj]; exact hp.2.symm
theorem Step.grown {w w' : World} (h : w.grownBy w' none) : Step w w' := ⟨(Below.refl _ _).grown h (Nat.le_refl _) (fun k h => by cases h)⟩
theorem pl_front (xs ys : List Nat) (p q : Nat) : ∀ k, k ≤ xs.length → k ≤ ys.length → pl (xs ++ [p]) (ys ++ [q]) k = pl xs ys k
  | 0, _, _ => rfl
  | k + 1, h1, h2 => by rw [pl, pl, pl_front xs ys p q k (by omega) (by omega), getD_left (by omega), getD_left (by omega)]
theorem pl_more (xs ys : List Nat) (p q n : Nat) (hn : xs.length = n) (hy : ys.length = n) : pl xs ys n ++ [.int .u64 p, .int .u64 q] = pl (xs ++ [p]) (ys ++ [q]) (n + 1) := by
  rw [pl, pl_front xs ys p q n (by omega) (by omega)]
  have e1 := getD_last xs p
  have e2 := getD_last ys q
  rw [hn] at e1
  rw [hy] at e2
  rw [e1, e2]
/-- One point behind a full row of points. -/
theorem more {ops : Array Oper} {rest : List Oper} {o : Oper} {a : Act} {Q : Exit → Act → World → Prop} {w : World} (hgd : o.guard = none) (s x : Operand)
    (ho : o.op = .call { callee := .builtin .append, args := #[s, x], argTypes := #[28, 28] })
    (b n c : Nat) (xs ys : List Nat) (hs : a.eval s = .slice (some ⟨b, 0, none⟩) n c) (hr : RowS w (some ⟨b, 0, none⟩) xs ys) (hn : xs.length = n) (hn2 : n ≤ 100000) (hc : c = n)
    (H p q : Nat) (hx : a.eval x = .slice (some ⟨H, 0, none⟩) 1 1) (hH : w.heap.size = H) (hy : ys.length = n)
    (h : ∀ A' c' w', n + 1 ≤ c' → RowS w' A' (xs ++ [p]) (ys ++ [q]) → Step w w' → wpList Tryd.prog ops Q rest (a.put o.dst (.slice A' (n + 1) c')) w') : wpList Tryd.prog ops Q (o :: rest) a (w.alloc (.cells #[.int .u64 p, .int .u64 q] 47 (0, 0))) := by
  subst hH
  obtain ⟨i0, hi, hz0, hz1, hz2⟩ := info_parts infoS
  refine wpList_append_grows _ hgd s x 28 ho 47 i0 _ 2 16 Tryd.underlying28 hi hz0 hz1 hz2 rfl (by decide) (some ⟨b, 0, none⟩) n c (pl xs ys n) hs (fun h => by cases h) (pl_len _ _ _)
    (fun b' e => by cases e; exact (show RowS (w.alloc _) _ xs ys from hr.to).cellsPl n (by omega)) ⟨w.heap.size, 0, none⟩ 1 1 [.int .u64 p, .int .u64 q] hx rfl (two_new _ _ _ _) (ints_oneCell .u64 [(p : Int), (q : Int)]) (by omega) (by unfold maxLen; omega) (by omega) fun v' w' hown hg => ?_
  obtain ⟨A', c', rfl, hcc⟩ := own_form2 hown
  rw [pl_more xs ys p q n hn hy] at hown
  have S := Step.grown hg
  exact h A' c' w' hcc (RowS.of_own hown (by simp [hn])) (Step.of inferInstance)
theorem ap2 : Ap [1, 2] := by decide
theorem ap3 : Ap [1, 2, 3] := by decide
theorem nap : ¬ Ap [1, 2305843009213693952] := by decide
theorem t12 (y : Nat) : thr [1, 2] [5, 7] y 2 = hor y [3, 2] := thr_curve (xs := [1, 2]) (c := [3, 2]) ap2 (by decide) (fun j hj => by
  match j, hj with
  | 0, _ => decide
  | 1, _ => decide) y
theorem inv_m1 : fInv 2305843009213693950 = 2305843009213693950 := (inv_unique _ _ (by decide) (by decide)).symm
theorem w12 : wt [1, 2] 0 0 = 2 := by
  have e1 : ab [1, 2] 0 0 2 = 2305843009213693949 := by decide
  have e2 : ab [1, 2] 0 1 2 = 2305843009213693950 := by decide
  show fMul (ab [1, 2] 0 0 2) (fInv (ab [1, 2] 0 1 2)) = 2
  rw [e1, e2, inv_m1]; decide
theorem line9 : lineB [1, 2, 3] [5, 7, 9] 2 = true := line_yes fun j h1 h2 => by
  have : j = 2 := by simp at h2; omega
  subst this
  show thr [1, 2] [5, 7] 3 2 = fOf 9
  rw [t12]; decide
theorem line8 : lineB [1, 2, 3] [5, 7, 8] 2 = false := line_no (j := 2) (by decide) (by decide) (by
  show thr [1, 2] [5, 7] 3 2 ≠ fOf 8
  rw [t12]; decide)
theorem b64_of {xs : List Nat} (h : ∀ x ∈ xs, x < 18446744073709551616) : B64 xs := fun i => by
  rw [List.getD_eq_getElem?_getD]
  cases e : xs[i]? with
  | none => decide
  | some x => exact h x (List.mem_of_getElem? e)
theorem more3 {ops : Array Oper} {rest : List Oper} {o : Oper} {a : Act} {Q : Exit → Act → World → Prop} {w : World} (q : Int) (q' : Nat) (hq : q = (q' : Int)) (hgd : o.guard = none) (s x : Operand)
    (ho : o.op = .call { callee := .builtin .append, args := #[s, x], argTypes := #[28, 28] })
    (b : Nat) (hs : a.eval s = .slice (some ⟨b, 0, none⟩) 2 2) (hr : RowS w (some ⟨b, 0, none⟩) [1, 2] [5, 7])
    (H : Nat) (hx : a.eval x = .slice (some ⟨H, 0, none⟩) 1 1) (hH : w.heap.size = H)
    (h : ∀ A' c' w', 3 ≤ c' → RowS w' A' [1, 2, 3] [5, 7, q'] → Step w w' → wpList Tryd.prog ops Q rest (a.put o.dst (.slice A' 3 c')) w') : wpList Tryd.prog ops Q (o :: rest) a (w.alloc (.cells #[.int .u64 3, .int .u64 q] 47 (0, 0))) := by
  subst hq
  exact more hgd s x ho b 2 2 [1, 2] [5, 7] hs hr rfl (by omega) rfl H 3 q' hx hH rfl h
theorem c_thr (A : Option Addr) (w : World) (hr : RowS w A [1, 2] [5, 7]) : Calls Tryd.prog 8 #[.slice A 2 2, .int .u64 0] w fun e w' => e = .returned (.tuple #[.int .u64 3, .nilIface]) ∧ Step w w' := by
  have h := through_ok A 2 2 0 [1, 2] [5, 7] w rfl (by omega) hr (Lib.hid (b64_of (by decide))) (Lib.hid ap2)
  rw [t12, show hor 0 [3, 2] = 3 by decide] at h
  exact h
theorem c_two (A : Option Addr) (w : World) (hr : RowS w A [1, 2305843009213693952] [0, 0]) : Calls Tryd.prog 8 #[.slice A 2 2, .int .u64 0] w fun e w' => e = .returned (.tuple #[.int .u64 0, .iface 57 (.int .i64 8)]) ∧ Step w w' :=
  through_no A 2 2 0 _ _ w rfl (by omega) hr (Lib.hid nap)
theorem addr0 (a : Addr) : a.add 0 = a := by
  unfold Addr.add
  split <;> simp_all
theorem c_wts (H : Nat) (w : World) (hH : w.heap.size = H) : Calls Tryd.prog 12 #[.slice (some ⟨H, 0, none⟩) 2 2, .int .u64 0] (w.alloc (.cells #[.int .u64 1, .int .u64 2] 24 (0, 0))) fun e w' => ∃ A' c', e = .returned (.tuple #[.slice (some A') 2 c', .nilIface]) ∧ (∀ z, Ext w' z → z.cell? A' = some (.int .u64 2)) ∧ Step w w' :=
  (weights_ok (some ⟨H, 0, none⟩) 2 2 0 [1, 2] _ rfl (by omega) (Row.lit2 w H _ 1 2 hH) (Lib.hid ap2)).mono fun e w' ⟨A', c', h1, h2, h3⟩ => by
    obtain ⟨ad, rfl, h4⟩ := h2.at (j := 0) (by decide)
    rw [wts_at [1, 2] 0 (by decide), w12] at h4
    refine ⟨ad, c', h1, fun z hz => ?_, Step.of inferInstance⟩
    obtain ⟨ad', e', h5⟩ := (show RowN z _ _ from h2.to).at (j := 0) (by decide)
    cases e'
    rw [wts_at [1, 2] 0 (by decide), w12] at h5
    rwa [addr0] at h5
theorem c_line9 (A : Option Addr) (c : Nat) (w : World) (hc : 3 ≤ c) (hr : RowS w A [1, 2, 3] [5, 7, 9]) : Calls Tryd.prog 10 #[.slice A 3 c, .int .i64 2] w fun e w' => e = .returned (.tuple #[.bool true, .nilIface]) ∧ Step w w' := by
  have h := line_lo A c 3 2 [1, 2, 3] [5, 7, 9] w (by omega) rfl (by omega) hc hr (Lib.hid (b64_of (by decide))) (Lib.hid ap3)
  rw [line9] at h
  exact h
theorem c_line8 (A : Option Addr) (c : Nat) (w : World) (hc : 3 ≤ c) (hr : RowS w A [1, 2, 3] [5, 7, 8]) : Calls Tryd.prog 10 #[.slice A 3 c, .int .i64 2] w fun e w' => e = .returned (.tuple #[.bool false, .nilIface]) ∧ Step w w' := by
  have h := line_lo A c 3 2 [1, 2, 3] [5, 7, 8] w (by omega) rfl (by omega) hc hr (Lib.hid (b64_of (by decide))) (Lib.hid ap3)
  rw [line8] at h
  exact h
theorem c_eval (H : Nat) (w : World) (hH : w.heap.size = H) : Calls Tryd.prog 13 #[.slice (some ⟨H, 0, none⟩) 2 2, .int .u64 2] (w.alloc (.cells #[.int .u64 3, .int .u64 2] 24 (0, 0))) (Qt (.int .u64 7) (w.alloc (.cells #[.int .u64 3, .int .u64 2] 24 (0, 0)))) := by
  have h := eval_any (some ⟨H, 0, none⟩) 2 2 2 [3, 2] (w.alloc (.cells #[.int .u64 3, .int .u64 2] 24 (0, 0))) rfl (by omega) (Row.lit2 w H _ 3 2 hH) (Lib.hid (by omega))
  rw [show hor 2 [3, 2] = 7 by decide] at h
  exact h
theorem lit57 (w : World) (H : Nat) (t : TypeId) (h : w.heap.size = H) : RowS (w.alloc (.cells #[.int .u64 1, .int .u64 5, .int .u64 2, .int .u64 7] t (0, 0))) (some ⟨H, 0, none⟩) [1, 2] [5, 7] := RowS.lit2 w H t 1 5 2 7 h
theorem lit00 (w : World) (H : Nat) (t : TypeId) (h : w.heap.size = H) : RowS (w.alloc (.cells #[.int .u64 1, .int .u64 0, .int .u64 2305843009213693952, .int .u64 0] t (0, 0))) (some ⟨H, 0, none⟩) [1, 2305843009213693952] [0, 0] := RowS.lit2 w H t 1 0 2305843009213693952 0 h
set_option maxHeartbeats 800000 in
set_option maxRecDepth 100000 in
theorem sure_any (w : World) (hL : Laid w) : Calls Tryd.prog 6 #[] w fun e w' => e = .returned (.bool true) ∧ Step w w' := by
  have R0 := lit57 w w.heap.size 47 rfl
  go_enter Tryd.func6, Tryd.ntmps6
  go_wp2_with (first
    | (go_at_call 8; ((with_reducible refine (c_thr _ _ R0.to).mono ?_); rintro e w1 ⟨rfl, S1⟩))
    | (go_at_call 12; ((with_reducible refine (c_wts _ _ (by simp)).mono ?_); rintro e w2 ⟨A2, c2, rfl, R2, S2⟩))
    | (at_builtin; refine more3 9 9 rfl rfl _ _ rfl w.heap.size rfl R0.to _ rfl rfl ?_; intro A3 c3 w3 hc3 R3 S3)
    | (at_builtin; refine more3 8 8 rfl rfl _ _ rfl w.heap.size rfl R0.to _ rfl rfl ?_; intro A4 c4 w4 hc4 R4 S4)
    | (go_at_call 10; ((with_reducible refine (c_line9 _ _ _ hc3 R3.to).mono ?_); rintro e w5 ⟨rfl, S5⟩))
    | (go_at_call 10; ((with_reducible refine (c_line8 _ _ _ hc4 R4.to).mono ?_); rintro e w6 ⟨rfl, S6⟩))
    | (go_at_call 8; ((with_reducible refine (c_two _ _ (lit00 _ _ _ (by simp))).mono ?_); rintro e w7 ⟨rfl, S7⟩; have hW := R2 w7 inferInstance))
    | (go_at_call 15; ((with_reducible refine (Num03.some_ 8 _ hL.to).mono ?_); rintro e w8 ⟨rfl, S8⟩))
    | (go_at_call 13; ((with_reducible refine (c_eval _ _ (by simp)).mono ?_); rintro e w9 ⟨rfl, t, rfl⟩)))
  go_ret
  exact ⟨rfl, Step.of inferInstance⟩
end PoC
end Go.Proofs.YtjiagdkopchaeaaDoor
