/- vec.Add and vec.Times: what each answers. Conditions: what is handed in reads as rows of 32 bits; lengths as stated. -/
import Derived.Test.YtfeahgcigmoijaaGreatDoorVecB
namespace Go.Proofs.YtfeahgcigmoijaaGreatDoor
open Go.RowKit Go.Lib
namespace VecC
open SlR
theorem zeros_add {n : Nat} {xs : List Int} (h : xs.length = n) (hb : Bits xs) : vAdd (List.replicate n 0) xs = xs := by
  subst h
  induction xs with
  | nil => rfl
  | cons a l ih =>
    have ha := hb a (by simp)
    rw [List.length_cons, List.replicate_succ, vAdd, List.zipWith_cons_cons]
    congr 1
    · omega
    · exact ih fun x hx => hb x (by simp [hx])
theorem vSum_two {n : Nat} {xs ys : List Int} (h : xs.length = n) (hb : Bits xs) : vSum n [xs, ys] = vAdd xs ys := by
  show vAdd (vAdd (List.replicate n 0) xs) ys = _
  rw [zeros_add h hb]
theorem two_rows (A D : Option Addr) (c d : Nat) (xs ys : List Int) (w : World) (hx : Rd .u32 w w.heap.size A xs) (hy : Rd .u32 w w.heap.size D ys) :
    RdR (w.alloc (.cells #[.slice A xs.length c, .slice D ys.length d] 22 (0, 0))) (w.heap.size + 1) (some ⟨w.heap.size, 0, none⟩) [xs, ys] := by
  intro j row hj
  have hc : ∀ i, (w.alloc (.cells #[.slice A xs.length c, .slice D ys.length d] 22 (0, 0))).cell? ⟨w.heap.size, i, none⟩ = (#[Value.slice A xs.length c, .slice D ys.length d])[i]? := fun i => cell_of_row _ _ i _ _ (0, 0) (heap_alloc_new w _)
  match j, hj with
  | 0, hj =>
    simp at hj; subst hj
    exact ⟨_, A, c, rfl, by show w.heap.size < _; omega, by simp [Addr.add], (hx.alloc (Nat.le_refl _) _).more (by omega)⟩
  | 1, hj =>
    simp at hj; subst hj
    exact ⟨_, D, d, rfl, by show w.heap.size < _; omega, by simp [Addr.add], (hy.alloc (Nat.le_refl _) _).more (by omega)⟩
theorem Ans.of_alloc {w : World} {o : Obj} {n : Nat} {zs : List Int} {e : Ending} {w' : World} (h : Ans (w.alloc o) n zs e w') : Ans w n zs e w' := by
  obtain ⟨A, c, h1, h2, h3⟩ := h
  have hs : w.heap.size ≤ (w.alloc o).heap.size := by simp
  exact ⟨A, c, h1, h2.mono hs, ((Below.refl _ w).alloc (Nat.le_refl _) o).trans (h3.mono hs)⟩
theorem No.of_alloc {w : World} {o : Obj} {e : Ending} {w' : World} (h : No (w.alloc o) e w') : No w e w' :=
  ⟨h.1, ((Below.refl _ w).alloc (Nat.le_refl _) o).trans (h.2.mono (by simp))⟩
theorem add_ok (A D : Option Addr) (c d n : Nat) (xs ys : List Int) (w : World) (hxn : xs.length = n) (hyn : ys.length = n) (hx : Rd .u32 w w.heap.size A xs) (hy : Rd .u32 w w.heap.size D ys) (hbx : Bits xs) (hl : n ≤ 32) :
    Calls Tryz.prog 53 #[.slice A n c, .slice D n d] w (Ans w n (vAdd xs ys)) := by
  have HR := two_rows A D c d xs ys w hx hy
  rw [hxn, hyn] at HR
  have HS : (w.alloc (.cells #[.slice A n c, .slice D n d] 22 (0, 0))).heap.size = w.heap.size + 1 := by simp
  rw [← HS] at HR
  have HV := Lib.hid (vSum_two (ys := ys) hxn hbx)
  have HG : ¬ ∃ row ∈ [xs, ys], row.length ≠ n := by simp [hxn, hyn]
  go_enter Tryz.func53, Tryz.ntmps53
  go_wp2_with (go_at_call 19; refine (sum_any (some ⟨w.heap.size, 0, none⟩) 2 n 2 [xs, ys] _ rfl (by omega) HR hl).mono ?_; rintro e w' h0; have h1 := Ans.of_alloc ((h0.resolve_right (fun h => HG h.1)).2); rw [HV.out] at h1; obtain ⟨A', c', rfl, R2, R3⟩ := h1)
  exact bodyPost_ret (v := .tuple #[.slice A' n c', .nilIface]) (by simp [results, Tryz.results53, go_sem]) rfl ⟨A', c', rfl, R2, R3⟩
theorem add_no (A D : Option Addr) (c d n m : Nat) (xs ys : List Int) (w : World) (hxn : xs.length = n) (hym : ys.length = m) (hx : Rd .u32 w w.heap.size A xs) (hy : Rd .u32 w w.heap.size D ys) (h : 32 < n ∨ n ≠ m) :
    Calls Tryz.prog 53 #[.slice A n c, .slice D m d] w (No w) := by
  by_cases hn : n ≤ 32
  · have HR := two_rows A D c d xs ys w hx hy
    rw [hxn, hym] at HR
    have HS : (w.alloc (.cells #[.slice A n c, .slice D m d] 22 (0, 0))).heap.size = w.heap.size + 1 := by simp
    rw [← HS] at HR
    have HG : ¬ ∀ row ∈ [xs, ys], row.length = n := by simp [hxn, hym]; omega
    go_enter Tryz.func53, Tryz.ntmps53
    go_wp2_with (go_at_call 19; refine (sum_any (some ⟨w.heap.size, 0, none⟩) 2 n 2 [xs, ys] _ rfl (by omega) HR hn).mono ?_; rintro e w' h0; have h1 := No.of_alloc ((h0.resolve_left (fun h => HG h.1)).2); obtain ⟨rfl, R3⟩ := h1)
    exact bodyPost_ret (v := .tuple #[.slice none 0 0, .iface 77 (.int .i64 1)]) (by simp [results, Tryz.results53, go_sem]) rfl ⟨rfl, R3⟩
  · go_enter Tryz.func53, Tryz.ntmps53
    go_wp2_with (go_at_call 19; refine (sum_no (some ⟨w.heap.size, 0, none⟩) 2 2 n _ (by omega)).mono ?_; rintro e w' h0; have h1 := No.of_alloc h0; obtain ⟨rfl, R3⟩ := h1)
    exact bodyPost_ret (v := .tuple #[.slice none 0 0, .iface 77 (.int .i64 1)]) (by simp [results, Tryz.results53, go_sem]) rfl ⟨rfl, R3⟩
def vTimes (q : Int) (xs : List Int) : List Int := xs.map fun x => x * q % 4294967296
theorem vTimes_at {q x : Int} {xs : List Int} {k : Nat} (h : xs[k]? = some x) : (vTimes q xs)[k]? = some (x * q % 4294967296) := by simp [vTimes, h]
end VecC
end Go.Proofs.YtfeahgcigmoijaaGreatDoor
