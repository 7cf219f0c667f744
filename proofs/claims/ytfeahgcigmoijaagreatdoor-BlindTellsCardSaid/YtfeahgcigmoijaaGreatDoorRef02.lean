/- The document's own answers of layer 2 (package caucusref02): rows added, so many times, and summed. Conditions: what is handed in reads as rows of 32 bits; lengths as stated. -/
import Derived.Test.YtfeahgcigmoijaaGreatDoorVecB
import Derived.Test.YtfeahgcigmoijaaGreatDoorSlEq
import Derived.Deep.RegionHeld3
namespace Go.Proofs.YtfeahgcigmoijaaGreatDoor
open Go.RowKit Go.Lib
namespace Ref02
open SlR VecC
/-- A row and so many times another. -/
def vLin (q : Int) (xs ys : List Int) : List Int := List.zipWith (fun x y => (x + q * y) % 4294967296) xs ys
theorem vLin_length {q : Int} {xs ys : List Int} {n : Nat} (h1 : xs.length = n) (h2 : ys.length = n) : (vLin q xs ys).length = n := by simp [vLin, h1, h2]
def AnsB (w : World) (n : Nat) (zs : List Int) (e : Ending) (w' : World) : Prop :=
  ∃ A c, e = .returned (.tuple #[.slice A n c, .bool true]) ∧ w'.ownsRow w.heap.size 51 1 (.slice A n c) n (zs.map (Value.int .u32)) ∧ Below w.heap.size w w'
def NoB (w : World) (e : Ending) (w' : World) : Prop := e = .returned (.tuple #[.slice none 0 0, .bool false]) ∧ Below w.heap.size w w'
theorem bits_at {xs : List Int} {k : Nat} {x : Int} (h : Bits xs) (hx : xs[k]? = some x) : 0 ≤ x ∧ x < 4294967296 := h x (List.mem_of_getElem? hx)
theorem wraps (x y q : Int) (hx : 0 ≤ x ∧ x < 4294967296) (hy : 0 ≤ y ∧ y < 4294967296) :
    IntKind.u32.wrap ((IntKind.u64.wrap (IntKind.u64.wrap x + IntKind.u64.wrap (q * IntKind.u64.wrap y))).tmod 4294967296) = (x + q * y) % 4294967296 := by
  have e1 : IntKind.u64.wrap x = x := by rw [IntKind.wrap_u64]; omega
  have e2 : IntKind.u64.wrap y = y := by rw [IntKind.wrap_u64]; omega
  rw [e1, e2]
  simp only [IntKind.wrap_u64, IntKind.wrap_u32]
  generalize q * y = p
  rw [Int.tmod_eq_emod_of_nonneg (by omega)]
  omega
set_option maxHeartbeats 800000 in
theorem add_ok (A D : Option Addr) (c d n : Nat) (q : Int) (xs ys : List Int) (w : World) (hxn : xs.length = n) (hyn : ys.length = n) (hx : Rd .u32 w w.heap.size A xs) (hy : Rd .u32 w w.heap.size D ys) (hbx : Bits xs) (hby : Bits ys) (hl : n ≤ 32) (hq : 0 ≤ q ∧ q < 18446744073709551616) :
    Calls Tryz.prog 21 #[.slice A n c, .slice D n d, .int .u64 q] w (AnsB w n (vLin q xs ys)) := by
  obtain ⟨i0, hi, hz0, hz1, hz2⟩ := info_parts info
  have hlz := Lib.hid (vLin_length (q := q) hxn hyn)
  have hst : Hid (w.ownsRow w.heap.size 51 1 (.slice none 0 0) 0 (((vLin q xs ys).take 0).map (Value.int .u32))) := Lib.hid (World.ownsRow_nil _ _ _ _)
  have hbig : ¬ (32 : Int) < (n : Int) := by omega
  have HQ := Lib.hid hq
  have HBX := Lib.hid hbx
  have HBY := Lib.hid hby
  clear hq hbx hby
  go_enter Tryz.func21, Tryz.ntmps21
  go_wp2
  go_loopw [8, 9] (fun v i wr => ∃ (k : Nat), k ≤ n ∧ i = .int .i64 k ∧ wr.ownsRow w.heap.size 51 1 v k (((vLin q xs ys).take k).map (Value.int .u32)) ∧ Below w.heap.size w wr) (fun _ i _ => n - (intOf i).toNat)
  case atStart => exact ⟨0, Nat.zero_le _, rfl, hst.out, Below.refl _ _⟩
  case round =>
    clear hst hbig
    obtain ⟨k, hk, rfl, hown, hb⟩ := hrel
    by_cases hlt : k < n
    · obtain ⟨ad, x, rfl, hab, hxk, hxc⟩ := (hx.below hb).at (j := k) (by omega)
      obtain ⟨bd, y, rfl, hbb, hyk, hyc⟩ := (hy.below hb).at (j := k) (by omega)
      have hx1 := bits_at HBX.out hxk
      have hy1 := bits_at HBY.out hyk
      have HX := Lib.hid hxk
      have HY := Lib.hid hyk
      have HB := Lib.hid hb
      have HO := Lib.hid hown
      obtain ⟨A', c', rfl⟩ := own_form hown
      clear hxk hyk hx hy hb hown
      go_wp2
      have hfar : ∀ (p : Addr) (j : Nat), p.block < w.heap.size → some (p.add j).block ≠ (Value.slice A' k c').ownBlock := fun p j hp h => by
        have := (HO.out.lt _ h.symm).1; rw [blockAdd] at this; omega
      have hold : ∀ (p : Addr) (j : Nat), p.block < w.heap.size → (p.add j).block < wr.heap.size := fun p j hp => by
        have := HB.out.size; rw [blockAdd]; omega
      have HZ := Lib.hid (wraps x y q hx1 hy1)
      have HT : Hid (((vLin q xs ys).take (k + 1)).map (Value.int .u32) = ((vLin q xs ys).take k).map (Value.int .u32) ++ [.int .u32 (IntKind.u32.wrap ((IntKind.u64.wrap (IntKind.u64.wrap x + IntKind.u64.wrap (q * IntKind.u64.wrap y))).tmod 4294967296))]) := Lib.hid (by
        rw [HZ.out, vLin, take_snoc (zip_at HX.out HY.out), List.map_append]; rfl)
      go_region_held3 (fun w' => w'.cell? (ad.add k) = some (.int .u32 x) ∧ w'.cell? (bd.add k) = some (.int .u32 y))
        (first | go_keep | (go_split_ands; exact ⟨by rw [hgrow.cell_far _ (by have := hold ad k hab; simp; omega) (hfar ad k hab)]; assumption, by rw [hgrow.cell_far _ (by have := hold bd k hbb; simp; omega) (hfar bd k hbb)]; assumption⟩))
        ((refine step_append_lies _ (by rfl) _ _ _ (by rfl) w.heap.size 51 i0 _ 1 4 Tryz.underlying22 hi hz0 hz1 hz2 rfl (by omega) _ k _ (by rfl) ((HO.out.alloc _).drew)
            ⟨wr.heap.size, 0, none⟩ 1 1 [.int .u32 (IntKind.u32.wrap ((IntKind.u64.wrap (IntKind.u64.wrap x + IntKind.u64.wrap (q * IntKind.u64.wrap y))).tmod 4294967296))] (by rfl) (by rfl) (World.news_of_block (cs := #[.int .u32 (IntKind.u32.wrap ((IntKind.u64.wrap (IntKind.u64.wrap x + IntKind.u64.wrap (q * IntKind.u64.wrap y))).tmod 4294967296))]) (t := 51) (fr := (0, 0)) (heap_alloc_new wr _)) (by simp [Value.oneCell'])
            (by omega) (by unfold maxLen; omega) (by omega) (by have := HB.out.size; simp; omega) (wr.heap.size + 1) (by simp) ?_; intro gg cap w1 hown1 hgrow hat hlt1))
      go_wp2
      go_roundw
      case rel => exact ⟨k + 1, by omega, by go_num, by rw [HT.out]; exact hown1, (((HB.out.alloc HB.out.size _).drew).grown hgrow (by have := HB.out.size; simp; omega) (fun g hg => (HO.out.lt g hg).1))⟩
      case measure => simp [intOf]; omega
    · have hkn : k = n := by omega
      subst hkn
      have HT : Hid ((vLin q xs ys).take k = vLin q xs ys) := Lib.hid (by rw [List.take_of_length_le (by rw [hlz.out]; omega)])
      rw [HT.out] at hown
      obtain ⟨A', c', rfl⟩ := own_form hown
      clear hx hy
      go_wp2
      exact bodyPost_ret (v := .tuple #[.slice A' k c', .bool true]) (by simp [results, Tryz.results21, go_sem]) rfl ⟨_, _, rfl, hown, hb⟩
theorem add_no (A D : Option Addr) (c d n m : Nat) (q : Int) (w : World) (h : 32 < n ∨ n ≠ m) :
    Calls Tryz.prog 21 #[.slice A n c, .slice D m d, .int .u64 q] w (NoB w) := by
  by_cases h1 : 32 < n
  · have hbig : (32 : Int) < (n : Int) := by omega
    go_enter Tryz.func21, Tryz.ntmps21
    go_wp2
    exact bodyPost_ret (v := .tuple #[.slice none 0 0, .bool false]) (by simp [results, Tryz.results21, go_sem]) rfl ⟨rfl, Below.refl _ _⟩
  · have hbig : ¬ (32 : Int) < (n : Int) := by omega
    have hne : ¬ (n : Int) = (m : Int) := by omega
    go_enter Tryz.func21, Tryz.ntmps21
    go_wp2
    exact bodyPost_ret (v := .tuple #[.slice none 0 0, .bool false]) (by simp [results, Tryz.results21, go_sem]) rfl ⟨rfl, Below.refl _ _⟩
theorem vLin_one (xs ys : List Int) : vLin 1 xs ys = vAdd xs ys := by simp [vLin, vAdd]
theorem vLin_neg (xs ys : List Int) : vLin 4294967295 xs ys = vSub xs ys := by
  unfold vLin vSub
  congr 1
  funext x y
  omega
theorem zip_bits (f : Int → Int → Int) (xs ys : List Int) (hf : ∀ x y, 0 ≤ f x y ∧ f x y < 4294967296) : Bits (List.zipWith f xs ys) := by
  intro z hz
  induction xs generalizing ys with
  | nil => simp at hz
  | cons a l ih =>
    cases ys with
    | nil => simp at hz
    | cons b m =>
      simp only [List.zipWith_cons_cons, List.mem_cons] at hz
      rcases hz with rfl | hz
      · exact hf _ _
      · exact ih m hz
theorem vAdd_bits (xs ys : List Int) : Bits (vAdd xs ys) := zip_bits _ _ _ fun x y => ⟨Int.emod_nonneg _ (by decide), Int.emod_lt_of_pos _ (by decide)⟩
theorem vSub_bits (xs ys : List Int) : Bits (vSub xs ys) := zip_bits _ _ _ fun x y => ⟨Int.emod_nonneg _ (by decide), Int.emod_lt_of_pos _ (by decide)⟩
theorem zeros_bits (n : Nat) : Bits (List.replicate n 0) := fun x hx => by rw [(List.mem_replicate.mp hx).2]; decide
theorem vSum_bits (n : Nat) (ls : List (List Int)) : Bits (vSum n ls) := by
  have key : ∀ (ls : List (List Int)) (z : List Int), Bits z → Bits (ls.foldl vAdd z) := by
    intro ls
    induction ls with
    | nil => intro z hz; exact hz
    | cons a l ih => intro z _; exact ih _ (vAdd_bits _ _)
  exact key ls _ (zeros_bits n)
end Ref02
end Go.Proofs.YtfeahgcigmoijaaGreatDoor
