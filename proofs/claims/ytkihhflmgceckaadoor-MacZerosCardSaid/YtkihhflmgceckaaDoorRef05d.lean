/- The document's own answers of layer 5 (package caucusref05): a sum as text. Conditions: what is handed in is 32 bytes. -/
import Derived.Test.YtkihhflmgceckaaDoorRef05b
import Derived.Test.YtkihhflmgceckaaDoorRef05c
import Derived.Laws.BytesArg
import Derived.Deep.MidRow
namespace Go.Proofs.YtkihhflmgceckaaDoor
open Go.RowKit Go.Lib
namespace Sh
open SlR
/-- A digit's byte. -/
def hx (d : Nat) : Nat := if d < 10 then 48 + d else 87 + d
def tx (b : Nat) : List Nat := [hx (b / 16), hx (b % 16)]
def txt (bs : List Nat) : List Nat := bs.flatMap tx
theorem txt_app (xs ys : List Nat) : txt (xs ++ ys) = txt xs ++ txt ys := by unfold txt; rw [List.flatMap_append]
theorem txt_one (x : Nat) : txt [x] = tx x := by simp [txt]
theorem txt_len (xs : List Nat) : (txt xs).length = 2 * xs.length := by
  induction xs with
  | nil => rfl
  | cons x t ih => rw [show txt (x :: t) = txt [x] ++ txt t from txt_app [x] t, List.length_append, ih, txt_one]; simp [tx]; omega
theorem hx_at (n d : Nat) (h : n = d) (hd : d < 16) (p : n < (ByteArray.mk #[48, 49, 50, 51, 52, 53, 54, 55, 56, 57, 97, 98, 99, 100, 101, 102]).size) :
    ((ByteArray.mk #[48, 49, 50, 51, 52, 53, 54, 55, 56, 57, 97, 98, 99, 100, 101, 102])[n]'p).toNat = hx d := by
  subst h
  rcases (by omega : n = 0 ∨ n = 1 ∨ n = 2 ∨ n = 3 ∨ n = 4 ∨ n = 5 ∨ n = 6 ∨ n = 7 ∨ n = 8 ∨ n = 9 ∨ n = 10 ∨ n = 11 ∨ n = 12 ∨ n = 13 ∨ n = 14 ∨ n = 15) with rfl | rfl | rfl | rfl | rfl | rfl | rfl | rfl | rfl | rfl | rfl | rfl | rfl | rfl | rfl | rfl <;> rfl
theorem tx_eq (x : Nat) (h : (x : Int) < 256) (p : (IntKind.u8.wrap ((x : Int) / 16)).toNat < (ByteArray.mk #[48, 49, 50, 51, 52, 53, 54, 55, 56, 57, 97, 98, 99, 100, 101, 102]).size) (q : ((x : Int).tmod 16).toNat < (ByteArray.mk #[48, 49, 50, 51, 52, 53, 54, 55, 56, 57, 97, 98, 99, 100, 101, 102]).size) :
    [((((ByteArray.mk #[48, 49, 50, 51, 52, 53, 54, 55, 56, 57, 97, 98, 99, 100, 101, 102])[(IntKind.u8.wrap ((x : Int) / 16)).toNat]'p).toNat : Nat) : Int), ((((ByteArray.mk #[48, 49, 50, 51, 52, 53, 54, 55, 56, 57, 97, 98, 99, 100, 101, 102])[((x : Int).tmod 16).toNat]'q).toNat : Nat) : Int)] = NL (tx x) := by
  rw [hx_at _ (x / 16) (by rw [IntKind.wrap_u8']; omega) (by omega) p, hx_at _ (x % 16) (by rw [Int.tmod_eq_emod_of_nonneg (by omega)]; omega) (by omega) q]
  rfl
set_option maxHeartbeats 1600000 in
set_option maxRecDepth 100000 in
theorem text_any (cs : Array Value) (bs : List Nat) (w : World) (hn : bs.length = 32) (hc : ∀ j, j < 32 → cs[j]? = some (.int .u8 (bs.getD j 0))) (hb : Hid (B8 bs)) :
    Calls Tryd.prog 14 #[.agg cs] w fun e w' => e = .returned (.string (strOfNums (NL (txt bs)))) ∧ Step w w' := by
  obtain ⟨i0, hi, hz0, hz1, hz2⟩ := info_parts infoB
  go_enter Tryd.func14, Tryd.ntmps14
  go_wp2
  have H : ∀ j, j < 32 → (w.alloc (Obj.cells cs 24)).cell? ⟨w.heap.size, j, none⟩ = some (.int .u8 (bs.getD j 0)) := fun j hj => by
    rw [World.cell?_alloc_new]
    exact hc j hj
  have S1 : Step w (w.alloc (Obj.cells cs 24)) := Step.of inferInstance
  have hbl : w.heap.size < (w.alloc (Obj.cells cs 24)).heap.size := by simp
  generalize w.alloc (Obj.cells cs 24) = w1 at H S1 hbl ⊢
  generalize w.heap.size = G at H hbl ⊢
  clear hc
  go_loopw [3, 4] (fun v i wr => ∃ k m : Nat, k ≤ 32 ∧ Hid (m = 2 * k) ∧ i = .int .i64 k ∧ ApE.Own .u8 5 wr w1.heap.size v m (NL (txt (bs.take k))) ∧ Step w1 wr) (fun _ i _ => 32 - (intOf i).toNat)
  case atStart => exact ⟨0, 0, Nat.zero_le _, Lib.hid rfl, rfl, World.ownsRow_nil _ _ _ _, Step.of inferInstance⟩
  case round =>
    obtain ⟨k, m, hk, hm, rfl, hown, S⟩ := hrel
    obtain ⟨A', c', rfl⟩ := own_form hown
    have hm2 : m ≤ 64 := by have := hm.out; omega
    by_cases hlt : k < 32
    · have hck := H k hlt
      have hx := hb.out k
      have hX : Hid (txt (bs.take k) ++ tx (bs.getD k 0) = txt (bs.take (k + 1))) := Lib.hid (by rw [take_snocN bs k (by omega), txt_app, txt_one])
      generalize bs.getD k 0 = x at hck hx hX
      have hxI : (x : Int) < 256 := by omega
      have q1 : IntKind.u8.wrap ((x : Int) / 16) < 16 := by rw [IntKind.wrap_u8']; omega
      have q2 : (x : Int).tmod 16 < 16 := by rw [Int.tmod_eq_emod_of_nonneg (by omega)]; omega
      have q3 : 0 ≤ (x : Int).tmod 16 := by rw [Int.tmod_eq_emod_of_nonneg (by omega)]; omega
      have HO := Lib.hid hown
      clear hown
      go_wp2
      go_region_held3 (fun w' => w'.cell? ⟨G, k, none⟩ = some (.int .u8 x) ∧ Step w1 w')
        (exact ⟨((Step.of (w := w1) inferInstance).h.cell hbl).trans hck, Step.of inferInstance⟩)
        ((refine ApE.stepE .u8 w1 wr (by rfl) _ _ 22 (by rfl) 5 i0 _ 1 Tryd.underlying22 hi hz0 hz1 hz2 rfl _ m (NL (txt (bs.take k))) (by rfl) HO.out _ 2 2 _ (by rfl) rfl (Row.lit2 _ _ _ _ _ (by simp)) (by omega) (by omega) ?_; intro A4 c4 w4 O4 S4))
      all_goals
        go_wp2
        go_roundw
        case rel => exact ⟨k + 1, m + 2, by omega, Lib.hid (by have := hm.out; omega), by go_num, by
          rw [← hX.out, NL_app]
          exact own_list O4 (tx_eq x hxI _ _), Step.of inferInstance⟩
        case measure => simp [intOf]; omega
    · have hkn : k = 32 := by omega
      subst hkn
      have hT : bs.take 32 = bs := List.take_of_length_le (by omega)
      rw [hT] at hown
      have e := hm.out
      subst e
      have hlen : (NL (txt bs)).length = 64 := by rw [NL_len, txt_len, hn]
      obtain ⟨g, cap, hv, -, hgl⟩ := hown.form (by omega)
      injection hv with hA h64 hcap
      subst hA
      subst hcap
      have C := run_convert_bytes_arg (P := Tryd.prog) wr 22 5 Tryd.underlying22 Tryd.underlying5 g 0 64 c' (NL (txt bs)) hlen (fun i hi => by
        have := hown.cells (g := g) rfl i (.int .u8 ((NL (txt bs)).getD i 0)) (by
          rw [List.getElem?_map, List.getElem?_eq_getElem (by omega)]
          simp [List.getD, List.getElem?_eq_getElem (show i < (NL (txt bs)).length by omega)])
        rw [Addr.add_mid] at this
        exact this) 9 Tryd.underlying9
      clear hown H
      go_wp2
      go_ret
      exact ⟨rfl, Step.of inferInstance⟩
end Sh
end Go.Proofs.YtkihhflmgceckaaDoor
