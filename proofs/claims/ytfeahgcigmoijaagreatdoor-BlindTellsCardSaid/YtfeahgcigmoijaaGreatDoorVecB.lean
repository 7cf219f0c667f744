/- vec.Sub, Sum, Add, Times, Same: what each answers. Conditions: what is handed in reads as rows of 32 bits; lengths as stated. -/
import Derived.Test.YtfeahgcigmoijaaGreatDoorVec
import Derived.RegionTactic
namespace Go.Proofs.YtfeahgcigmoijaaGreatDoor
open Go.RowKit Go.Lib
namespace VecC
open SlR
/-- A new row of n numbers, and no error. -/
def Ans (w : World) (n : Nat) (zs : List Int) (e : Ending) (w' : World) : Prop :=
  ∃ A c, e = .returned (.tuple #[.slice A n c, .nilIface]) ∧ w'.ownsRow w.heap.size 51 1 (.slice A n c) n (zs.map (Value.int .u32)) ∧ Below w.heap.size w w'
def No (w : World) (e : Ending) (w' : World) : Prop := e = .returned (.tuple #[.slice none 0 0, .iface 77 (.int .i64 1)]) ∧ Below w.heap.size w w'
theorem sub_ok (A D : Option Addr) (c d n : Nat) (xs ys : List Int) (w : World) (hxn : xs.length = n) (hyn : ys.length = n) (hx : Rd .u32 w w.heap.size A xs) (hy : Rd .u32 w w.heap.size D ys) (hl : n ≤ 32) :
    Calls Tryz.prog 16 #[.slice A n c, .slice D n d] w (Ans w n (vSub xs ys)) := by
  have hmf : ∀ (fn : Fn) (first cap : Array Value) (w : World), (Instr.makeFunc fn first cap).run Tryz.prog w = .ok (.func fn first cap) w := fun _ _ _ _ => rfl
  have hx1 := hx.alloc (Nat.le_refl _) (.cells #[.slice none 0 0] 22 (0, 0))
  have hy1 := hy.alloc (Nat.le_refl _) (.cells #[.slice none 0 0] 22 (0, 0))
  have hv1 := heap_alloc_new w (.cells #[.slice none 0 0] 22 (0, 0))
  have hb1 := (Below.refl w.heap.size w).alloc (Nat.le_refl _) (.cells #[.slice none 0 0] 22 (0, 0))
  go_enter Tryz.func16, Tryz.ntmps16
  go_wp2_with (go_at_call 36; refine (together_sub A D c d w.heap.size n xs ys _ hxn hyn hx1 hy1 hv1 hl).mono ?_; rintro e w' ⟨rfl, v, R1, R2, R3⟩; obtain ⟨A', c', rfl⟩ := own_form R2; have R4 := cell_of_one R1)
  exact bodyPost_ret (v := .tuple #[.slice A' n c', .nilIface]) (by simp [results, Tryz.results16, go_sem]) rfl ⟨A', c', rfl, R2.mono (by omega), hb1.trans R3⟩
theorem sub_no (A D : Option Addr) (c d n m : Nat) (w : World) (h : 32 < n ∨ n ≠ m) : Calls Tryz.prog 16 #[.slice A n c, .slice D m d] w (No w) := by
  have hmf : ∀ (fn : Fn) (first cap : Array Value) (w : World), (Instr.makeFunc fn first cap).run Tryz.prog w = .ok (.func fn first cap) w := fun _ _ _ _ => rfl
  have hb1 := (Below.refl w.heap.size w).alloc (Nat.le_refl _) (.cells #[.slice none 0 0] 22 (0, 0))
  go_enter Tryz.func16, Tryz.ntmps16
  go_wp2_with (go_at_call 36; refine (together_no A D c d n m _ _ h).mono ?_; rintro e w' ⟨rfl, rfl⟩)
  exact bodyPost_ret (v := .tuple #[.slice none 0 0, .iface 77 (.int .i64 1)]) (by simp [results, Tryz.results16, go_sem]) rfl ⟨rfl, hb1⟩
/-- The sum of rows, from noughts. -/
def vSum (n : Nat) (ls : List (List Int)) : List Int := ls.foldl vAdd (List.replicate n 0)
/-- A slice of rows: the headers, and each row. -/
def RdR (w : World) (B : Nat) (A : Option Addr) (ls : List (List Int)) : Prop :=
  ∀ j row, ls[j]? = some row → ∃ (ad : Addr) (A' : Option Addr) (c : Nat), A = some ad ∧ ad.block < B ∧ w.cell? (ad.add j) = some (.slice A' row.length c) ∧ Rd .u32 w B A' row
theorem RdR.below {w w' : World} {B : Nat} {A : Option Addr} {ls : List (List Int)} (h : RdR w B A ls) (hb : Below B w w') : RdR w' B A ls := fun j row hj => by
  obtain ⟨ad, A', c, h1, h2, h3, h4⟩ := h j row hj
  exact ⟨ad, A', c, h1, h2, (hb.cell (by rw [blockAdd]; exact h2)).trans h3, h4.below hb⟩
theorem RdR.more {w : World} {B B' : Nat} {A : Option Addr} {ls : List (List Int)} (h : RdR w B A ls) (hb : B ≤ B') : RdR w B' A ls := fun j row hj => by
  obtain ⟨ad, A', c, h1, h2, h3, h4⟩ := h j row hj
  exact ⟨ad, A', c, h1, by omega, h3, h4.more hb⟩
theorem vSum_length (n : Nat) (ls : List (List Int)) (h : ∀ row ∈ ls, row.length = n) : (vSum n ls).length = n := by
  have key : ∀ (ls : List (List Int)) (z : List Int), z.length = n → (∀ row ∈ ls, row.length = n) → (ls.foldl vAdd z).length = n := by
    intro ls
    induction ls with
    | nil => intro z hz _; exact hz
    | cons a l ih => intro z hz hl; exact ih _ (vAdd_length hz (hl a (by simp))) (fun r hr => hl r (by simp [hr]))
  exact key ls _ (by simp) h
theorem vSum_snoc {n k : Nat} {ls : List (List Int)} {row : List Int} (h : ls[k]? = some row) : vSum n (ls.take (k + 1)) = vAdd (vSum n (ls.take k)) row := by
  rw [take_snoc h, vSum, List.foldl_append]; rfl
set_option maxHeartbeats 800000 in
theorem sum_any (A : Option Addr) (c n m : Nat) (ls : List (List Int)) (w : World) (hm : ls.length = m) (hm2 : m ≤ 100000) (hr : RdR w w.heap.size A ls) (hl : n ≤ 32) :
    Calls Tryz.prog 19 #[.slice A m c, .int .i64 n] w fun e w' => (∀ row ∈ ls, row.length = n) ∧ Ans w n (vSum n ls) e w' ∨ (∃ row ∈ ls, row.length ≠ n) ∧ No w e w' := by
  have hmf : ∀ (fn : Fn) (first cap : Array Value) (w : World), (Instr.makeFunc fn first cap).run Tryz.prog w = .ok (.func fn first cap) w := fun _ _ _ _ => rfl
  go_enter Tryz.func19, Tryz.ntmps19
  go_wp2_with (go_at_call 26; refine (zero_ok n hl _).mono ?_; rintro e w1 ⟨rfl, O1, B1⟩)
  have hgh : w1.heap.size ≠ w.heap.size := by have := (World.ownsRow.lt O1 w.heap.size rfl).2; omega
  have hst : Hid ((w1.alloc (.cells #[.slice (some ⟨w.heap.size, 0, none⟩) n n] 22 (0, 0))).heap[w1.heap.size]? = some (.cells #[.slice (some ⟨w.heap.size, 0, none⟩) n n] 22 (0, 0)) ∧
      (w1.alloc (.cells #[.slice (some ⟨w.heap.size, 0, none⟩) n n] 22 (0, 0))).ownsRow w.heap.size 51 1 (.slice (some ⟨w.heap.size, 0, none⟩) n n) n ((vSum n (ls.take 0)).map (Value.int .u32)) ∧
      Below w.heap.size w (w1.alloc (.cells #[.slice (some ⟨w.heap.size, 0, none⟩) n n] 22 (0, 0)))) :=
    Lib.hid ⟨heap_alloc_new _ _, by have := World.ownsRow.alloc O1 (.cells #[.slice (some ⟨w.heap.size, 0, none⟩) n n] 22 (0, 0)); rw [List.length_replicate] at this; exact this, B1.alloc B1.size _⟩
  clear O1
  go_loopw [21] (fun i wr => ∃ (k : Nat), k ≤ m ∧ i = .int .i64 k ∧ wr.heap[w1.heap.size]? = some (.cells #[.slice (some ⟨w.heap.size, 0, none⟩) n n] 22 (0, 0)) ∧
    wr.ownsRow w.heap.size 51 1 (.slice (some ⟨w.heap.size, 0, none⟩) n n) n ((vSum n (ls.take k)).map (Value.int .u32)) ∧ Below w.heap.size w wr ∧ (∀ row ∈ ls.take k, row.length = n)) (fun i _ => m - (intOf i).toNat)
  case atStart => exact ⟨0, Nat.zero_le _, rfl, hst.out.1, hst.out.2.1, hst.out.2.2, fun _ h => by simp at h⟩
  case round =>
    clear hst B1
    obtain ⟨k, hk, rfl, hv, hown, hb, hgood⟩ := hrel
    by_cases hlt : k < m
    · obtain ⟨row, hrow⟩ : ∃ row, ls[k]? = some row := ⟨_, List.getElem?_eq_getElem (by omega)⟩
      obtain ⟨ad, D, d, rfl, hab, hac, hD⟩ := (hr.below hb) k row hrow
      have HB := Lib.hid hb
      have HV := Lib.hid hv
      have HO := Lib.hid hown
      have HC := cell_of_one hv
      have HG := Lib.hid hgood
      have HD := Lib.hid hD
      have HL := Lib.hid (vSum_length n (ls.take k) hgood)
      have HS := Lib.hid (vSum_snoc (n := n) hrow)
      have HT := Lib.hid (take_snoc hrow)
      have HM : Hid (row ∈ ls) := Lib.hid (List.mem_of_getElem? hrow)
      clear hb hv hown hgood hD hr hrow
      by_cases hrn : row.length = n
      · rw [hrn] at hac
        go_wp2_with (go_at_call 36; refine (together_sum D d w1.heap.size w.heap.size w.heap.size w.heap.size n _ row _ HL.out hrn HD.out HV.out HO.out hgh (Nat.le_refl _) hl).mono ?_; rintro e w' ⟨rfl, R1, R2, R3⟩)
        go_roundw
        case rel => exact ⟨k + 1, by omega, by go_num, R1, by rw [HS.out]; exact R2, HB.out.trans R3, by
          rw [HT.out]; intro r hr; rcases List.mem_append.mp hr with h | h
          · exact HG.out r h
          · rw [List.mem_singleton.mp h]; exact hrn⟩
        case measure => simp [intOf]; omega
      · go_wp2_with (go_at_call 36; refine (together_no _ D n d n row.length _ _ (.inr (fun h => hrn h.symm))).mono ?_; rintro e w' ⟨rfl, rfl⟩)
        exact bodyPost_ret (v := .tuple #[.slice none 0 0, .iface 77 (.int .i64 1)]) (by simp [results, Tryz.results19, go_sem]) rfl (.inr ⟨⟨row, HM.out, hrn⟩, rfl, HB.out⟩)
    · have hkn : k = m := by omega
      subst hkn
      have HT : Hid (ls.take k = ls) := Lib.hid (List.take_of_length_le (by omega))
      rw [HT.out] at hown hgood
      have HC := cell_of_one hv
      clear hr
      go_wp2
      exact bodyPost_ret (v := .tuple #[.slice (some ⟨w.heap.size, 0, none⟩) n n, .nilIface]) (by simp [results, Tryz.results19, go_sem]) rfl (.inl ⟨hgood, _, _, rfl, hown, hb⟩)
theorem sum_no (A : Option Addr) (c m : Nat) (n : Int) (w : World) (hn : n < 0 ∨ 32 < n) : Calls Tryz.prog 19 #[.slice A m c, .int .i64 n] w (No w) := by
  go_enter Tryz.func19, Tryz.ntmps19
  go_wp2_with (go_at_call 26; refine (zero_no n hn _).mono ?_; rintro e w' ⟨rfl, rfl⟩)
  exact bodyPost_ret (v := .tuple #[.slice none 0 0, .iface 77 (.int .i64 1)]) (by simp [results, Tryz.results19, go_sem]) rfl ⟨rfl, (Below.refl _ _).alloc (Nat.le_refl _) _⟩
end VecC
end Go.Proofs.YtfeahgcigmoijaaGreatDoor
