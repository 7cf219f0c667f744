/- The document's own answers of layer 5 (package caucusref05): the sum's walk. Conditions: what is handed in reads as bytes. -/
import Derived.Test.YtfeahgcigmoijaaGreatDoorPkT
import Derived.Test.YtfeahgcigmoijaaGreatDoorPkS
import Derived.Test.YtfeahgcigmoijaaGreatDoorPkA
import Derived.BigQuiet
import Derived.Great.BuildSlice
namespace Go.Proofs.YtfeahgcigmoijaaGreatDoor
open Go.RowKit Go.Lib
namespace Sh
open SlR
theorem e1_form (y : Nat) (h : y < 4294967296) : bits .xor .u32 (bits .xor .u32 (rot y 17 : Nat) (rot y 19 : Nat)) (IntKind.u32.wrap ((y : Int) / 1024)) = ((e1 y : Nat) : Int) := by
  have h1 := rot_lt h (show 17 ≤ 31 by omega)
  have h2 := rot_lt h (show 19 ≤ 31 by omega)
  rw [B3.xor32 _ _ h1 h2, IntKind.wrap_u32', show (y : Int) / 1024 % 4294967296 = ((y / 1024 : Nat) : Int) by omega, B3.xor32 _ _ (B3.xor_lt h1 h2) (by omega)]
  rfl
theorem e0_form (y : Nat) (h : y < 4294967296) : bits .xor .u32 (bits .xor .u32 (rot y 7 : Nat) (rot y 18 : Nat)) (IntKind.u32.wrap ((y : Int) / 8)) = ((e0 y : Nat) : Int) := by
  have h1 := rot_lt h (show 7 ≤ 31 by omega)
  have h2 := rot_lt h (show 18 ≤ 31 by omega)
  rw [B3.xor32 _ _ h1 h2, IntKind.wrap_u32', show (y : Int) / 8 % 4294967296 = ((y / 8 : Nat) : Int) by omega, B3.xor32 _ _ (B3.xor_lt h1 h2) (by omega)]
  rfl
/-- A sum of four words that lie in a row just made. -/
theorem add4 (w : World) (H : Nat) (t : TypeId) (a b c d : Int) (p q r s : Nat) (hH : w.heap.size = H) (ha : a = (p : Nat)) (hb : b = (q : Nat)) (hc : c = (r : Nat)) (hd : d = (s : Nat)) (h : p < 4294967296 ∧ q < 4294967296 ∧ r < 4294967296 ∧ s < 4294967296) :
    Calls Tryz.prog 80 #[.slice (some ⟨H, 0, none⟩) 4 4] (w.alloc (.cells #[.int .u32 a, .int .u32 b, .int .u32 c, .int .u32 d] t (0, 0))) fun e w' => e = .returned (.int .u32 (md [p, q, r, s] : Nat)) ∧ w' = (w.alloc (.cells #[.int .u32 a, .int .u32 b, .int .u32 c, .int .u32 d] t (0, 0))) := by
  subst ha hb hc hd
  refine add_any (some ⟨H, 0, none⟩) 4 4 [p, q, r, s] _ rfl (by omega) (ApE.lit4 w H t _ _ _ _ hH) (Lib.hid fun i => ?_)
  match i with
  | 0 => exact h.1
  | 1 => exact h.2.1
  | 2 => exact h.2.2.1
  | 3 => exact h.2.2.2
  | i + 4 => show (0 : Nat) < _; omega
theorem chf_form (e f g : Nat) (he : e < 4294967296) (hf : f < 4294967296) (hg : g < 4294967296) : bits .or .u32 (bits .and .u32 (e : Nat) (f : Nat)) (bits .and .u32 (4294967295 - (e : Int)) (g : Nat)) = ((chf e f g : Nat) : Int) := by
  rw [show 4294967295 - (e : Int) = ((4294967295 - e : Nat) : Int) by omega, B3.and32 _ _ he hf, B3.and32 _ _ (by omega) hg, B3.or32 _ _ (B3.and_lt he hf) (B3.and_lt (by omega) hg)]
  rfl
theorem chf_lt {e f g : Nat} (he : e < 4294967296) (hf : f < 4294967296) (hg : g < 4294967296) : chf e f g < 4294967296 := B3.or_lt (B3.and_lt he hf) (B3.and_lt (by omega) hg)
theorem mjf_form (a b c : Nat) (ha : a < 4294967296) (hb : b < 4294967296) (hc : c < 4294967296) : bits .or .u32 (bits .or .u32 (bits .and .u32 (a : Nat) (b : Nat)) (bits .and .u32 (a : Nat) (c : Nat))) (bits .and .u32 (b : Nat) (c : Nat)) = ((mjf a b c : Nat) : Int) := by
  rw [B3.and32 _ _ ha hb, B3.and32 _ _ ha hc, B3.and32 _ _ hb hc, B3.or32 _ _ (B3.and_lt ha hb) (B3.and_lt ha hc), B3.or32 _ _ (B3.or_lt (B3.and_lt ha hb) (B3.and_lt ha hc)) (B3.and_lt hb hc)]
  rfl
theorem mjf_lt {a b c : Nat} (ha : a < 4294967296) (hb : b < 4294967296) (hc : c < 4294967296) : mjf a b c < 4294967296 := B3.or_lt (B3.or_lt (B3.and_lt ha hb) (B3.and_lt ha hc)) (B3.and_lt hb hc)
theorem x3_form {p q r : Nat} (hp : p < 4294967296) (hq : q < 4294967296) (hr : r < 4294967296) : bits .xor .u32 (bits .xor .u32 (p : Nat) (q : Nat)) (r : Nat) = (((p ^^^ q) ^^^ r : Nat) : Int) := by
  rw [B3.xor32 _ _ hp hq, B3.xor32 _ _ (B3.xor_lt hp hq) hr]
theorem E1_lt {e : Nat} (h : e < 4294967296) : E1 e < 4294967296 := B3.xor_lt (B3.xor_lt (rot_lt h (by omega)) (rot_lt h (by omega))) (rot_lt h (by omega))
theorem E0_lt {e : Nat} (h : e < 4294967296) : E0 e < 4294967296 := B3.xor_lt (B3.xor_lt (rot_lt h (by omega)) (rot_lt h (by omega))) (rot_lt h (by omega))
theorem E1_form {e : Nat} (h : e < 4294967296) : bits .xor .u32 (bits .xor .u32 (rot e 6 : Nat) (rot e 11 : Nat)) (rot e 25 : Nat) = ((E1 e : Nat) : Int) := x3_form (rot_lt h (by omega)) (rot_lt h (by omega)) (rot_lt h (by omega))
theorem E0_form {e : Nat} (h : e < 4294967296) : bits .xor .u32 (bits .xor .u32 (rot e 2 : Nat) (rot e 13 : Nat)) (rot e 22 : Nat) = ((E0 e : Nat) : Int) := x3_form (rot_lt h (by omega)) (rot_lt h (by omega)) (rot_lt h (by omega))
theorem md_lt (xs : List Nat) : md xs < 4294967296 := Nat.mod_lt _ (by omega)
theorem add2 (w : World) (H : Nat) (t : TypeId) (a b : Int) (p q : Nat) (hH : w.heap.size = H) (ha : a = (p : Nat)) (hb : b = (q : Nat)) (h : p < 4294967296 ∧ q < 4294967296) :
    Calls Tryz.prog 80 #[.slice (some ⟨H, 0, none⟩) 2 2] (w.alloc (.cells #[.int .u32 a, .int .u32 b] t (0, 0))) fun e w' => e = .returned (.int .u32 (md [p, q] : Nat)) ∧ w' = (w.alloc (.cells #[.int .u32 a, .int .u32 b] t (0, 0))) := by
  subst ha hb
  refine add_any (some ⟨H, 0, none⟩) 2 2 [p, q] _ rfl (by omega) (Row.lit2 w H t _ _ hH) (Lib.hid fun i => ?_)
  match i with
  | 0 => exact h.1
  | 1 => exact h.2
  | i + 2 => show (0 : Nat) < _; omega
theorem add5 (w : World) (H : Nat) (t : TypeId) (a b c d f : Int) (p q r s u : Nat) (hH : w.heap.size = H) (ha : a = (p : Nat)) (hb : b = (q : Nat)) (hc : c = (r : Nat)) (hd : d = (s : Nat)) (hf : f = (u : Nat)) (h : p < 4294967296 ∧ q < 4294967296 ∧ r < 4294967296 ∧ s < 4294967296 ∧ u < 4294967296) :
    Calls Tryz.prog 80 #[.slice (some ⟨H, 0, none⟩) 5 5] (w.alloc (.cells #[.int .u32 a, .int .u32 b, .int .u32 c, .int .u32 d, .int .u32 f] t (0, 0))) fun e w' => e = .returned (.int .u32 (md [p, q, r, s, u] : Nat)) ∧ w' = (w.alloc (.cells #[.int .u32 a, .int .u32 b, .int .u32 c, .int .u32 d, .int .u32 f] t (0, 0))) := by
  subst ha hb hc hd hf
  refine add_any (some ⟨H, 0, none⟩) 5 5 [p, q, r, s, u] _ rfl (by omega) (Row.litN w H t [(p : Int), (q : Int), (r : Int), (s : Int), (u : Int)] hH) (Lib.hid fun i => ?_)
  match i with
  | 0 => exact h.1
  | 1 => exact h.2.1
  | 2 => exact h.2.2.1
  | 3 => exact h.2.2.2.1
  | 4 => exact h.2.2.2.2
  | i + 5 => show (0 : Nat) < _; omega
theorem add2d (w : World) (H : Nat) (t : TypeId) (a b : Int) (p q : Nat) (hH : w.heap.size = H) (ha : a = (p : Nat)) (hb : b = (q : Nat)) (h : p < 4294967296 ∧ q < 4294967296) :
    Calls Tryz.prog 80 #[.slice (some ⟨H, 0, none⟩) 2 2] (w.alloc (.cells #[.int .u32 a, .int .u32 b] t (0, 0))).drew fun e w' => e = .returned (.int .u32 (md [p, q] : Nat)) ∧ w' = (w.alloc (.cells #[.int .u32 a, .int .u32 b] t (0, 0))).drew := by
  subst ha hb
  refine add_any (some ⟨H, 0, none⟩) 2 2 [p, q] _ rfl (by omega) (Row.to (Row.lit2 w H t _ _ hH)) (Lib.hid fun i => ?_)
  match i with
  | 0 => exact h.1
  | 1 => exact h.2
  | i + 2 => show (0 : Nat) < _; omega
theorem add2x (w : World) (o : Obj) (H : Nat) (t : TypeId) (a b : Int) (p q : Nat) (hH : w.heap.size = H) (ha : a = (p : Nat)) (hb : b = (q : Nat)) (h : p < 4294967296 ∧ q < 4294967296) :
    Calls Tryz.prog 80 #[.slice (some ⟨H, 0, none⟩) 2 2] ((w.alloc (.cells #[.int .u32 a, .int .u32 b] t (0, 0))).alloc o).drew fun e w' => e = .returned (.int .u32 (md [p, q] : Nat)) ∧ w' = ((w.alloc (.cells #[.int .u32 a, .int .u32 b] t (0, 0))).alloc o).drew := by
  subst ha hb
  refine add_any (some ⟨H, 0, none⟩) 2 2 [p, q] _ rfl (by omega) (Row.to (Row.lit2 w H t _ _ hH)) (Lib.hid fun i => ?_)
  match i with
  | 0 => exact h.1
  | 1 => exact h.2
  | i + 2 => show (0 : Nat) < _; omega
theorem lit8d (w : World) (H : Nat) (t : TypeId) (a b c d e f g h : Nat) (hH : w.heap.size = H) : R32 (w.alloc (.cells #[.int .u32 (a : Nat), .int .u32 (b : Nat), .int .u32 (c : Nat), .int .u32 (d : Nat), .int .u32 (e : Nat), .int .u32 (f : Nat), .int .u32 (g : Nat), .int .u32 (h : Nat)] t (0, 0))).drew (some ⟨H, 0, none⟩) [a, b, c, d, e, f, g, h] := by
  have r : R32 (w.alloc (.cells #[.int .u32 (a : Nat), .int .u32 (b : Nat), .int .u32 (c : Nat), .int .u32 (d : Nat), .int .u32 (e : Nat), .int .u32 (f : Nat), .int .u32 (g : Nat), .int .u32 (h : Nat)] t (0, 0))) (some ⟨H, 0, none⟩) [a, b, c, d, e, f, g, h] := Row.litN w H t (NL [a, b, c, d, e, f, g, h]) hH
  exact Row.to r
theorem letter {p : World → Prop} {w0 : World} (w : World) (s : Step w0 w) (h : ∀ z, Step w0 z → p z) : p w := h w s
theorem letter2 {p : World → Prop} {w0 : World} (q : World → Prop) (w : World) (s : Step w0 w) (hq : q w) (h : ∀ z, Step w0 z → q z → p z) : p w := h w s hq
theorem b32_two {p q : Nat} (hp : p < 4294967296) (hq : q < 4294967296) : B32 [p, q] := fun i => by
  match i with
  | 0 => exact hp
  | 1 => exact hq
  | i + 2 => show (0 : Nat) < _; omega
theorem row_upd {k : IntKind} {w : World} {g : Nat} {xs : List Int} (h : Row k w (some ⟨g, 0, none⟩) xs) (j : Nat) (x : Int) (hj : j < xs.length) : Row k (w.setCell ⟨g, j, none⟩ (.int k x)) (some ⟨g, 0, none⟩) (xs.set j x) := fun i y hy => by
  have hi : i < xs.length := by have := (List.getElem?_eq_some_iff.1 hy).1; simpa using this
  obtain ⟨ad, h1, h2, h3⟩ := h i _ (List.getElem?_eq_getElem hi)
  cases h1
  refine ⟨_, rfl, by rw [World.size_setCell]; exact h2, ?_⟩
  rw [Addr.add_mid, Nat.zero_add] at h3 ⊢
  by_cases e : j = i
  · subst e
    rw [List.getElem?_set_self hj] at hy
    rw [World.cell?_setCell_same _ _ _ h3, Option.some.inj hy]
  · rw [List.getElem?_set_ne e, List.getElem?_eq_getElem hi] at hy
    rw [World.cell?_setCell_other _ _ _ _ (by intro q; injection q; omega), h3, Option.some.inj hy]
theorem there_lt {w : World} {g n : Nat} (h : w.there g 0 n) (hn : 0 < n) : g < w.heap.size := by
  obtain ⟨u, hu⟩ := Option.isSome_iff_exists.1 (h 0 hn).1
  exact World.block_lt_of_cell? w _ hu
theorem hsh_b32 (p : List Nat) : ∀ n, B32 (hsh p n)
  | 0 => Sp.HL_fine.2
  | n + 1 => by
    have e : hsh p (n + 1) = cmp (hsh p n) ((p.drop (64 * n)).take 64) := rfl
    rw [e]
    unfold cmp
    rw [← Sp.ad8_end]
    exact (Sp.ad8_fine _ _).2
theorem KL_b32 : B32 KL := fun i => by
  have h : ∀ x ∈ KL, x < 4294967296 := by decide
  rw [List.getD_eq_getElem?_getD]
  cases hq : KL[i]? with
  | none => show (0 : Nat) < _; omega
  | some v => exact h v (List.mem_of_getElem? hq)
theorem there_below {w w' : World} {B g n : Nat} (h : w.there g 0 n) (hb : Below B w w') (hg : g < B) : w'.there g 0 n := fun j hj => by
  rw [hb.cell (p := ⟨g, 0 + j, none⟩) hg, hb.frozen (p := ⟨g, 0 + j, none⟩) hg]
  exact h j hj
theorem row_set {k : IntKind} {w : World} {g : Nat} {xs : List Int} (h : Row k w (some ⟨g, 0, none⟩) xs) (p : Addr) (u : Value) (hp : p.block ≠ g) : Row k (w.setCell p u) (some ⟨g, 0, none⟩) xs := fun j x hx => by
  obtain ⟨ad, h1, h2, h3⟩ := h j x hx
  cases h1
  refine ⟨_, rfl, by rw [World.size_setCell]; exact h2, ?_⟩
  rw [World.cell?_setCell_other _ _ _ _ (fun e => hp (by rw [e, blockAdd]))]
  exact h3
theorem row_drop {k : IntKind} {w : World} {g : Nat} {xs : List Int} (h : Row k w (some ⟨g, 0, none⟩) xs) (o : Nat) : Row k w (some ⟨g, o, none⟩) (xs.drop o) := fun j x hx => by
  obtain ⟨ad, h1, h2, h3⟩ := h (o + j) x (by rw [List.getElem?_drop] at hx; exact hx)
  cases h1
  refine ⟨_, rfl, h2, ?_⟩
  rw [Addr.add_mid] at h3 ⊢
  rw [← h3, Nat.zero_add]
theorem loop4 (w wr : World) (G g gv j L c m : Nat) (o : Obj) (K V R P : List Nat) (hjV : j < V.length) (hG : w.heap.size = G) (hgv : G + 3 ≤ gv)
    (t0 : wr.there G 0 32) (rK : R32 wr (some ⟨G + 1, 0, none⟩) K) (rH : R32 wr (some ⟨G + 2, 0, none⟩) V) (tH : wr.there (G + 2) 0 8)
    (oP : ApE.Own .u8 5 wr (G + 3) (.slice (some ⟨g, 0, none⟩) L c) L (NL P)) (rv : R32 wr (some ⟨gv, 0, none⟩) R) (BW : Below w.heap.size w wr) :
    ((wr.setCell ⟨G + 2, j, none⟩ (.int .u32 (m : Nat))).alloc o).drew.there G 0 32 ∧ R32 ((wr.setCell ⟨G + 2, j, none⟩ (.int .u32 (m : Nat))).alloc o).drew (some ⟨G + 1, 0, none⟩) K ∧
      R32 ((wr.setCell ⟨G + 2, j, none⟩ (.int .u32 (m : Nat))).alloc o).drew (some ⟨G + 2, 0, none⟩) (V.set j m) ∧ ((wr.setCell ⟨G + 2, j, none⟩ (.int .u32 (m : Nat))).alloc o).drew.there (G + 2) 0 8 ∧
      ApE.Own .u8 5 ((wr.setCell ⟨G + 2, j, none⟩ (.int .u32 (m : Nat))).alloc o).drew (G + 3) (.slice (some ⟨g, 0, none⟩) L c) L (NL P) ∧
      R32 ((wr.setCell ⟨G + 2, j, none⟩ (.int .u32 (m : Nat))).alloc o).drew (some ⟨gv, 0, none⟩) R ∧ Below w.heap.size w ((wr.setCell ⟨G + 2, j, none⟩ (.int .u32 (m : Nat))).alloc o).drew := by
  have k1 := there_setCell t0 ⟨G + 2, j, none⟩ (.int .u32 (m : Nat))
  have k2 := row_set rK ⟨G + 2, j, none⟩ (.int .u32 (m : Nat)) (by show G + 2 ≠ G + 1; omega)
  have k3 := row_upd rH j ((m : Nat) : Int) (by rw [NL_len]; exact hjV)
  have k4 := there_setCell tH ⟨G + 2, j, none⟩ (.int .u32 (m : Nat))
  have k5 := ownsRow_setCell_below oP (a := ⟨G + 2, j, none⟩) (by show G + 2 < G + 3; omega) (.int .u32 (m : Nat))
  have k6 := row_set rv ⟨G + 2, j, none⟩ (.int .u32 (m : Nat)) (by show G + 2 ≠ gv; omega)
  have k7 : Below w.heap.size w (wr.setCell ⟨G + 2, j, none⟩ (.int .u32 (m : Nat))) := BW.setCell (p := ⟨G + 2, j, none⟩) (by show w.heap.size ≤ G + 2; omega) _
  have e3 : NL (V.set j m) = (NL V).set j ((m : Nat) : Int) := by unfold NL; rw [List.map_set]
  generalize wr.setCell ⟨G + 2, j, none⟩ (.int .u32 (m : Nat)) = z at k1 k2 k3 k4 k5 k6 k7 ⊢
  have X : Ext z (z.alloc o).drew := inferInstance
  refine ⟨(World.there_drew _ _ _ _).2 (World.there_alloc k1 _), Row.to k2, ?_, (World.there_drew _ _ _ _).2 (World.there_alloc k4 _), ApE.own_ext k5 X, Row.to k6, k7.trans (X.h.mono k7.size)⟩
  show Row .u32 _ _ (NL (V.set j m))
  rw [e3]
  exact Row.to k3
theorem loop5 (w wr : World) (G GO gq j x : Nat) (D Q : List Nat) (hjD : j < D.length) (hG : w.heap.size ≤ GO) (hne : GO ≠ gq)
    (t0 : wr.there G 0 32) (tO : wr.there GO 0 32) (rO : wr.rangeAt GO 0 (Sp.vl .u8 D)) (rQ : R8 wr (some ⟨gq, 0, none⟩) Q) (B : Below w.heap.size w wr) :
    (wr.setCell ⟨GO, j, none⟩ (.int .u8 (x : Nat))).there G 0 32 ∧ (wr.setCell ⟨GO, j, none⟩ (.int .u8 (x : Nat))).there GO 0 32 ∧ (wr.setCell ⟨GO, j, none⟩ (.int .u8 (x : Nat))).rangeAt GO 0 (Sp.vl .u8 (D.set j x)) ∧
      R8 (wr.setCell ⟨GO, j, none⟩ (.int .u8 (x : Nat))) (some ⟨gq, 0, none⟩) Q ∧ Below w.heap.size w (wr.setCell ⟨GO, j, none⟩ (.int .u8 (x : Nat))) :=
  ⟨there_setCell t0 _ _, there_setCell tO _ _, by rw [← Sp.vl_set]; exact rangeAt_set rO j _ (by rw [Sp.vl_len]; exact hjD), row_set rQ _ _ (by show GO ≠ gq; exact hne), B.setCell (by show w.heap.size ≤ GO; exact hG) _⟩
set_option maxHeartbeats 3200000 in
set_option maxRecDepth 1000000 in
theorem of_any (A : Option Addr) (c nb : Nat) (b : List Nat) (w : World) (hn : b.length = nb) (hn2 : nb ≤ 90000) (hr : R8 w A b) (hb : Hid (B8 b)) :
    Calls Tryz.prog 68 #[.slice A nb c] w fun e w' => e = .returned (.agg ((sum b).map fun v => Value.int .u8 (v : Nat)).toArray) ∧ Step w w' := by
  obtain ⟨i0, hi, hz0, hz1, hz2⟩ := info_parts infoW
  obtain ⟨Z, hZ⟩ : ∃ Z, zs.toArray = Z := ⟨_, rfl⟩
  have hz : Hid (∀ w, (zeroValue 62).run Tryz.prog w = .ok (.agg Z) w) := Lib.hid (hZ ▸ zero32)
  have hsz : Z.size = 32 := by rw [← hZ]; rfl
  have hZl : Hid (zs = Z.toList) := Lib.hid (by rw [← hZ])
  clear hZ
  obtain ⟨K, hK⟩ : ∃ K, Hid (K = KL) := ⟨_, Lib.hid rfl⟩
  obtain ⟨H, hH⟩ : ∃ H, Hid (H = HL) := ⟨_, Lib.hid rfl⟩
  have lK : (NL K).length = 64 := by rw [hK.out]; rfl
  have lH : (NL H).length = 8 := by rw [hH.out]; rfl
  have eW : Hid ((Tryz.prog.info? 51).map (·.size) = some 1 ∧ ((Tryz.prog.info? 51).bind (·.zero)).isSome = true) := Lib.hid ⟨by rw [hi]; exact congrArg some hz1, by rw [hi]; simp [hz0]⟩
  have cP := fun (w' : World) (h : R8 w' A b) => padded_any A c nb b w' hn (by omega) h
  go_enter Tryz.func68, Tryz.ntmps68
  go_wp2_with (first
    | refine Lg.wpAlloc (by rfl) 62 (by rfl) Z hz.out ?_
    | refine wpList_buildFlat (by rfl) 22 51 64 _ (by rfl) .u32 (NL K) Tryz.underlying22 eW.out.1 eW.out.2 lK.symm (by omega) (by omega) (by rw [hK.out]; rfl) ?_
    | refine wpList_buildFlat (by rfl) 22 51 8 _ (by rfl) .u32 (NL H) Tryz.underlying22 eW.out.1 eW.out.2 lH.symm (by omega) (by omega) (by rw [hH.out]; rfl) ?_
    | (go_at_call 78; ((with_reducible refine (cP _ hr.to).mono ?_); rintro e w1 ⟨A1, c1, rfl, O1, S1⟩)))
  have w3 : (((w.alloc (Obj.cells Z 62)).alloc (Obj.cells ((NL K).map (Value.int .u32)).toArray 51)).alloc (Obj.cells ((NL H).map (Value.int .u32)).toArray 51)).heap.size = w.heap.size + 3 := by simp
  have T0 : w1.there w.heap.size 0 32 := there_below (World.there_alloc (World.there_alloc (Lg.there_new w Z 62 32 hsz) _) _) S1.h (by rw [w3]; omega)
  have RK : R32 w1 (some ⟨w.heap.size + 1, 0, none⟩) K := by
    have := Row.litN (k := .u32) (w.alloc (Obj.cells Z 62)) (w.heap.size + 1) 51 (NL K) (by simp)
    exact this.to
  have RH : R32 w1 (some ⟨w.heap.size + 2, 0, none⟩) H := by
    have := Row.litN (k := .u32) ((w.alloc (Obj.cells Z 62)).alloc (Obj.cells ((NL K).map (Value.int .u32)).toArray 51)) (w.heap.size + 2) 51 (NL H) (by simp)
    exact this.to
  have TH : w1.there (w.heap.size + 2) 0 8 := by
    refine there_below ?_ S1.h (by rw [w3]; omega)
    have := Lg.there_new ((w.alloc (Obj.cells Z 62)).alloc (Obj.cells ((NL K).map (Value.int .u32)).toArray 51)) ((NL H).map (Value.int .u32)).toArray 51 8 (by simpa using lH)
    simpa using this
  have SB : Step w w1 := Step.of inferInstance
  have O1' : Hid (ApE.Own .u8 5 w1 (w.heap.size + 3) (.slice A1 (pad b).length c1) (pad b).length (NL (pad b))) := Lib.hid (by rw [← w3]; exact O1)
  clear O1 w3 S1 cP
  have lP : Hid ((pad b).length % 64 = 0 ∧ (pad b).length ≤ 91000) := Lib.hid ⟨pad_mod b, by rw [pad_len, hn]; unfold zn; omega⟩
  have bP : Hid (B8 (pad b)) := Lib.hid (Sp.b8_pad hb.out (by omega))
  have eS : Hid (sum b = bys (hsh (pad b) ((pad b).length / 64))) := Lib.hid rfl
  have iH : Hid (H = hsh (pad b) 0) := hH
  clear hr hb hH lH hn
  generalize pad b = P at O1' lP bP eS iH ⊢
  generalize hL : P.length = L at O1' lP eS ⊢
  obtain ⟨M, hM⟩ : ∃ M, Hid (L = 64 * M ∧ L / 64 = M) := ⟨L / 64, Lib.hid (by have := lP.out; omega)⟩
  rw [hM.out.2] at eS
  have hLn : L ≤ 91000 := lP.out.2
  rw [iH.out] at RH
  clear iH lP
  generalize hG : w.heap.size = G at T0 RK RH TH O1' ⊢
  have cap1 := ApE.capped O1'.out
  go_loopw [6] (fun i wr => ∃ n : Nat, Hid (n ≤ M) ∧ i = .int .i64 (64 * n : Nat) ∧ wr.there G 0 32 ∧ R32 wr (some ⟨G + 1, 0, none⟩) K ∧ R32 wr (some ⟨G + 2, 0, none⟩) (hsh P n) ∧ wr.there (G + 2) 0 8 ∧ Hid (ApE.Own .u8 5 wr (G + 3) (.slice A1 L c1) L (NL P)) ∧ Step w wr) (fun i _ => L + 64 - (intOf i).toNat)
  case atStart => exact ⟨0, Lib.hid (Nat.zero_le _), rfl, T0, RK, RH, TH, O1', SB⟩
  case round =>
    obtain ⟨n, hnM, rfl, t0, rK, rH, tH, oP, S⟩ := hrel
    obtain ⟨w9, h9⟩ : ∃ w9, w9 = wr := ⟨_, rfl⟩
    subst h9
    obtain ⟨at', hat⟩ : ∃ at', Hid (at' = 64 * n) := ⟨_, Lib.hid rfl⟩
    rw [← hat.out]
    by_cases hlt : at' < L
    · have h64 : at' + 64 ≤ L := by have := hat.out; have := hM.out; omega
      have a1 : (at' : Int) + 64 ≤ (L : Int) := by omega
      have a2 : (L : Int) ≤ 91000 := by omega
      have a3 : (L : Int) ≤ (c1 : Int) := by omega
      obtain ⟨g, cap, hv, -, hgl⟩ := oP.out.form (by omega)
      injection hv with hA _ hcap
      subst hA
      subst hcap
      have rP : R8 w9 (some ⟨g, at', none⟩) ((P.drop at').take 64) := by
        have := (row_drop (Row.of_own oP.out) at').front 64
        unfold R8 Row NL
        rw [List.map_take, List.map_drop]
        exact this
      have cW := fun (w' : World) (h : R8 w' (some ⟨g, at', none⟩) ((P.drop at').take 64)) (c : Nat) => words_any (some ⟨g, at', none⟩) c 16 64 ((P.drop at').take 64) w' (Lib.hid rfl) (by rw [List.length_take, List.length_drop]; omega) (by omega) h (Lib.hid (Sp.b8_part bP.out _ _))
      go_wp2_with (go_at_call 79; ((with_reducible refine (cW _ rP.to _).mono ?_); rintro e w2 ⟨A2, c2, rfl, O2, S2⟩))
      obtain ⟨W, hW⟩ : ∃ W, Hid (W = wds ((P.drop at').take 64) 16) := ⟨_, Lib.hid rfl⟩
      have bW : Hid (B32 W) := Lib.hid (by rw [hW.out]; exact Sp.b32_wds (Sp.b8_part bP.out _ _) _)
      have lW : Hid (W.length = 16) := Lib.hid (by rw [hW.out, wds_len])
      rw [← hW.out] at O2
      have O2' := Lib.hid O2
      clear O2 cW rP
      go_loopw [7, 8] (fun v i wq => ∃ k t : Nat, Hid (t = 16 + k) ∧ Hid (k ≤ 48) ∧ i = .int .i64 t ∧ Hid (ApE.Own .u32 51 wq w9.heap.size v t (NL (ext W k))) ∧ Step w9 wq) (fun _ i _ => 64 - (intOf i).toNat)
      case atStart => exact ⟨0, 16, Lib.hid rfl, Lib.hid (Nat.zero_le _), rfl, O2', Step.of inferInstance⟩
      case round =>
        obtain ⟨k, t, ht, hk, rfl, hown, S3⟩ := hrel
        obtain ⟨A5, c5, rfl⟩ := own_form hown.out
        have ht16 : 16 ≤ t := by have := ht.out; omega
        by_cases hlt2 : t < 64
        · obtain ⟨g5, cap5, hv5, -, hgl5⟩ := hown.out.form (by omega)
          injection hv5 with hA5 _ hcap5
          subst hA5
          subst hcap5
          have lX : (ext W k).length = t := by rw [ext_len, lW.out, ht.out]
          have row := Row.of_own hown.out
          have cell := fun (j : Nat) (hj : j < t) => (Row.atN (xs := ext W k) row (j := j) (by omega))
          have cel : ∀ j, j < t → wr.cell? ⟨g5, j, none⟩ = some (.int .u32 ((ext W k).getD j 0 : Nat)) := fun j hj => by
            obtain ⟨_, e, _, h⟩ := cell j hj
            cases e
            rw [Addr.add_mid, Nat.zero_add] at h
            exact h
          clear cell row
          have bX := ext_B32 bW.out k
          have hX : Hid (nx (ext W k) = md [e1 ((ext W k).getD (t - 2) 0), (ext W k).getD (t - 7) 0, e0 ((ext W k).getD (t - 15) 0), (ext W k).getD (t - 16) 0]) := Lib.hid (by unfold nx; rw [lX]; rfl)
          have c15 := cel (t - 15) (by omega)
          have c2' := cel (t - 2) (by omega)
          have c7 := cel (t - 7) (by omega)
          have c16 := cel (t - 16) (by omega)
          have b15 := bX (t - 15)
          have b2 := bX (t - 2)
          have b7 := bX (t - 7)
          have b16 := bX (t - 16)
          clear cel bX
          generalize (ext W k).getD (t - 15) 0 = x at hX c15 b15
          generalize (ext W k).getD (t - 2) 0 = y at hX c2' b2
          generalize (ext W k).getD (t - 7) 0 = x7 at hX c7 b7
          generalize (ext W k).getD (t - 16) 0 = x16 at hX c16 b16
          have q15 : ((t : Int) - 15).toNat = t - 15 := by omega
          have q2 : ((t : Int) - 2).toNat = t - 2 := by omega
          have q7 : ((t : Int) - 7).toNat = t - 7 := by omega
          have q16 : ((t : Int) - 16).toNat = t - 16 := by omega
          have lj7 : t - 7 < t := by omega
          have lj16 : t - 16 < t := by omega
          generalize t - 15 = j15 at q15 c15
          generalize t - 2 = j2 at q2 c2'
          generalize t - 7 = j7 at q7 c7 lj7
          generalize t - 16 = j16 at q16 c16 lj16
          have tI : (t : Int) < 64 := by omega
          have tI2 : (16 : Int) ≤ (t : Int) := by omega
          have p15 : (0 : Int) ≤ (t : Int) - 15 := by omega
          have p2 : (0 : Int) ≤ (t : Int) - 2 := by omega
          have p7 : (0 : Int) ≤ (t : Int) - 7 := by omega
          have p16 : (0 : Int) ≤ (t : Int) - 16 := by omega
          have l15 : (t : Int) - 15 < (t : Int) := by omega
          have l2 : (t : Int) - 2 < (t : Int) := by omega
          have l7 : (t : Int) - 7 < (t : Int) := by omega
          have l16 : (t : Int) - 16 < (t : Int) := by omega
          have n7 : (7 : Int) ≤ (t : Int) := by omega
          have w7 : IntKind.i64.wrap ((t : Int) - 7) = (t : Int) - 7 := by simp [IntKind.wrap, IntKind.bits, IntKind.signed]; omega
          have w16 : IntKind.i64.wrap ((t : Int) - 16) = (t : Int) - 16 := by simp [IntKind.wrap, IntKind.bits, IntKind.signed]; omega
          clear hlt2 ht16
          have r17 : ∀ w, Calls Tryz.prog 81 #[.int .u32 y, .int .i64 17] w fun e w' => e = .returned (.int .u32 (rot y 17 : Nat)) ∧ ∃ t, w' = w.drewN t := fun w => rot_any y 17 w b2 (by omega)
          have r19 : ∀ w, Calls Tryz.prog 81 #[.int .u32 y, .int .i64 19] w fun e w' => e = .returned (.int .u32 (rot y 19 : Nat)) ∧ ∃ t, w' = w.drewN t := fun w => rot_any y 19 w b2 (by omega)
          have r7 : ∀ w, Calls Tryz.prog 81 #[.int .u32 x, .int .i64 7] w fun e w' => e = .returned (.int .u32 (rot x 7 : Nat)) ∧ ∃ t, w' = w.drewN t := fun w => rot_any x 7 w b15 (by omega)
          have r18 : ∀ w, Calls Tryz.prog 81 #[.int .u32 x, .int .i64 18] w fun e w' => e = .returned (.int .u32 (rot x 18 : Nat)) ∧ ∃ t, w' = w.drewN t := fun w => rot_any x 18 w b15 (by omega)
          go_wp2
          go_quiet (fail)
          go_wp2
          go_region_held3 (fun w' => w'.cell? ⟨g5, j7, none⟩ = some (.int .u32 x7) ∧ w'.cell? ⟨g5, j16, none⟩ = some (.int .u32 x16) ∧ Step w9 w')
            (first
              | exact ⟨((Step.of (w := wr) inferInstance).h.cell (p := ⟨g5, j7, none⟩) hgl5).trans c7, ((Step.of (w := wr) inferInstance).h.cell (p := ⟨g5, j16, none⟩) hgl5).trans c16, Step.of inferInstance⟩
              | exact ⟨(C6 j7 lj7).trans (((Step.of (w := wr) inferInstance).h.cell (p := ⟨g5, j7, none⟩) hgl5).trans c7), (C6 j16 lj16).trans (((Step.of (w := wr) inferInstance).h.cell (p := ⟨g5, j16, none⟩) hgl5).trans c16), Step.of inferInstance⟩)
            (first
              | ((with_reducible refine (r17 _).mono ?_); rintro e w' ⟨rfl, tt, rfl⟩)
              | ((with_reducible refine (r19 _).mono ?_); rintro e w' ⟨rfl, tt, rfl⟩)
              | ((with_reducible refine (r7 _).mono ?_); rintro e w' ⟨rfl, tt, rfl⟩)
              | ((with_reducible refine (r18 _).mono ?_); rintro e w' ⟨rfl, tt, rfl⟩)
              | (go_at_call 80; ((with_reducible refine (add4 _ _ _ _ _ _ _ (e1 y) x7 (e0 x) x16 (by simp) (e1_form y b2) rfl (e0_form x b15) rfl ⟨e1_lt b2, b7, e0_lt b15, b16⟩).mono ?_); rintro e w' ⟨rfl, rfl⟩))
              | (refine ApE.stepK .u32 w9 wr (by rfl) _ _ 22 (by rfl) 51 i0 _ 4 Tryz.underlying22 hi hz0 hz1 hz2 rfl g5 t c5 (NL (ext W k)) (by rfl) hown.out _ 1 1 _ (by rfl) rfl (Row.lit1 _ _ _ _ (by simp)) (by omega) (by omega) ?_; intro A6 c6 w6 O6 S6 C6))
          go_wp2
          go_roundw
          case rel => exact ⟨k + 1, t + 1, Lib.hid (by have := ht.out; omega), Lib.hid (by have := ht.out; omega), by go_num, Lib.hid (by
            rw [ext, NL_app, hX.out]
            exact O6), Step.of inferInstance⟩
          case measure => simp [intOf]; omega
        · have hk48 : k = 48 := by have := ht.out; have := hk.out; omega
          have ht64 : t = 64 := by have := ht.out; omega
          subst hk48
          subst ht64
          obtain ⟨g5, cap5, hv5, -, hgl5⟩ := hown.out.form (by omega)
          injection hv5 with hA5 _ hcap5
          subst hA5
          subst hcap5
          have rX0 : R32 wr (some ⟨g5, 0, none⟩) (ext W 48) := Row.of_own hown.out
          have bX := ext_B32 bW.out 48
          have lX : Hid ((ext W 48).length = 64) := Lib.hid (by rw [ext_len, lW.out])
          have hWX : Hid (ext (wds ((P.drop at').take 64) 16) 48 = ext W 48) := Lib.hid (by rw [hW.out])
          have lV : (NL (hsh P n)).length = 8 := by rw [NL_len]; exact Ev.hsh_len P n
          have SW : Step w wr := Step.of inferInstance
          have rH' : R32 wr (some ⟨G + 2, 0, none⟩) (hsh P n) := rH.to
          have rX : Hid (R32 wr (some ⟨g5, 0, none⟩) (ext W 48)) := Lib.hid rX0
          clear rX0 hown hlt2 hW lW bW hk ht
          generalize ext W 48 = X at rX bX lX hWX
          go_wp2_with (at_builtin; refine App.copyO .u32 wr.heap.size rfl _ _ 22 rfl 51 i0 _ 4 Tryz.underlying22 hi hz0 hz1 hz2 rfl rfl rfl (some ⟨G + 2, 0, none⟩) 8 8 (NL (hsh P n)) rfl lV rH' (by unfold maxLen; omega) (by omega) ?_; intro AV cV wV OV SV)
          obtain ⟨gV, capV, hvV, hbV, hgV⟩ := OV.form (by omega)
          injection hvV with hAV _ hcapV
          subst hAV
          subst hcapV
          have rV0 : R32 wV (some ⟨gV, 0, none⟩) (hsh P n) := Row.of_own OV
          have bV : Hid ((hsh P n).length = 8 ∧ B32 (hsh P n)) := Lib.hid ⟨Ev.hsh_len P n, hsh_b32 P n⟩
          obtain ⟨w8, h8⟩ : ∃ w8, w8 = wr := ⟨_, rfl⟩
          subst h8
          clear OV lV rH'
          generalize hVV : hsh P n = V at rV0 bV rH
          have hV := Lib.hid hVV
          clear hVV
          have hG3 : G + 3 ≤ wV.heap.size := by
            have h1 := (there_lt tH (by omega))
            have h2 := (inferInstance : Ext w9 wV).h.size
            omega
          have hgV3 : G + 3 ≤ gV := by
            have h1 := (there_lt tH (by omega))
            have h2 := (inferInstance : Ext w9 w8).h.size
            omega
          go_loopw [11, 12] (fun v i wq => ∃ t gv cv : Nat, Hid (t ≤ 64) ∧ i = .int .i64 t ∧ v = .slice (some ⟨gv, 0, none⟩) 8 cv ∧ Hid (G + 3 ≤ gv) ∧ R32 wq (some ⟨gv, 0, none⟩) (run X V t) ∧ Hid ((run X V t).length = 8 ∧ B32 (run X V t)) ∧ Step wV wq) (fun _ i _ => 64 - (intOf i).toNat)
          case atStart => exact ⟨0, gV, _, Lib.hid (Nat.zero_le _), rfl, rfl, Lib.hid hgV3, rV0, bV, Step.of inferInstance⟩
          case round =>
            obtain ⟨t, gv, cv, ht, rfl, rfl, hg3, rv, lb, S5⟩ := hrel
            have hGw : G + 3 ≤ wr.heap.size := Nat.le_trans hG3 (inferInstance : Ext wV wr).h.size
            by_cases hlt3 : t < 64
            · have hR : Hid (run X V (t + 1) = rnd X (run X V t) t) := Lib.hid rfl
              have cel : ∀ j, j < 8 → wr.cell? ⟨gv, j, none⟩ = some (.int .u32 ((run X V t).getD j 0 : Nat)) ∧ gv < wr.heap.size := fun j hj => by
                obtain ⟨_, e, hl, h⟩ := Row.atN rv (j := j) (by rw [lb.out.1]; exact hj)
                cases e
                rw [Addr.add_mid, Nat.zero_add] at h
                exact ⟨h, hl⟩
              have celX : wr.cell? ⟨g5, t, none⟩ = some (.int .u32 (X.getD t 0 : Nat)) ∧ g5 < wr.heap.size := by
                obtain ⟨_, e, hl, h⟩ := Row.atN (rX.out.to (w' := wr)) (j := t) (by rw [lX.out]; exact hlt3)
                cases e
                rw [Addr.add_mid, Nat.zero_add] at h
                exact ⟨h, hl⟩
              have celK : wr.cell? ⟨G + 1, t, none⟩ = some (.int .u32 (K.getD t 0 : Nat)) ∧ G + 1 < wr.heap.size := by
                obtain ⟨_, e, hl, h⟩ := Row.atN (rK.to (w' := wr)) (j := t) (by rw [← NL_len, lK]; exact hlt3)
                cases e
                rw [Addr.add_mid, Nat.zero_add] at h
                exact ⟨h, hl⟩
              have hgv := (cel 0 (by omega)).2
              have hg5 := celX.2
              have hG1 := celK.2
              have ck := celK.1
              have cx := celX.1
              have c0 := (cel 0 (by omega)).1
              have c1' := (cel 1 (by omega)).1
              have c2' := (cel 2 (by omega)).1
              have c3 := (cel 3 (by omega)).1
              have c4 := (cel 4 (by omega)).1
              have c5 := (cel 5 (by omega)).1
              have c6 := (cel 6 (by omega)).1
              have c7 := (cel 7 (by omega)).1
              have b0 := lb.out.2 0
              have b1 := lb.out.2 1
              have b2 := lb.out.2 2
              have b3 := lb.out.2 3
              have b4 := lb.out.2 4
              have b5 := lb.out.2 5
              have b6 := lb.out.2 6
              have b7 := lb.out.2 7
              have bx := bX t
              have bk : K.getD t 0 < 4294967296 := by rw [hK.out]; exact KL_b32 t
              have hK2 : Hid (KL.getD t 0 = K.getD t 0) := Lib.hid (by rw [hK.out])
              clear cel celX celK rv lb
              unfold rnd at hR
              rw [hK2.out] at hR
              generalize (run X V t).getD 0 0 = v0 at hR c0 b0
              generalize (run X V t).getD 1 0 = v1 at hR c1' b1
              generalize (run X V t).getD 2 0 = v2 at hR c2' b2
              generalize (run X V t).getD 3 0 = v3 at hR c3 b3
              generalize (run X V t).getD 4 0 = v4 at hR c4 b4
              generalize (run X V t).getD 5 0 = v5 at hR c5 b5
              generalize (run X V t).getD 6 0 = v6 at hR c6 b6
              generalize (run X V t).getD 7 0 = v7 at hR c7 b7
              generalize X.getD t 0 = xt at hR cx bx
              generalize K.getD t 0 = kt at hR ck bk hK2
              have r6 : ∀ w, Calls Tryz.prog 81 #[.int .u32 v4, .int .i64 6] w fun e w' => e = .returned (.int .u32 (rot v4 6 : Nat)) ∧ ∃ t, w' = w.drewN t := fun w => rot_any v4 6 w b4 (by omega)
              have r11 : ∀ w, Calls Tryz.prog 81 #[.int .u32 v4, .int .i64 11] w fun e w' => e = .returned (.int .u32 (rot v4 11 : Nat)) ∧ ∃ t, w' = w.drewN t := fun w => rot_any v4 11 w b4 (by omega)
              have r25 : ∀ w, Calls Tryz.prog 81 #[.int .u32 v4, .int .i64 25] w fun e w' => e = .returned (.int .u32 (rot v4 25 : Nat)) ∧ ∃ t, w' = w.drewN t := fun w => rot_any v4 25 w b4 (by omega)
              have r2 : ∀ w, Calls Tryz.prog 81 #[.int .u32 v0, .int .i64 2] w fun e w' => e = .returned (.int .u32 (rot v0 2 : Nat)) ∧ ∃ t, w' = w.drewN t := fun w => rot_any v0 2 w b0 (by omega)
              have r13 : ∀ w, Calls Tryz.prog 81 #[.int .u32 v0, .int .i64 13] w fun e w' => e = .returned (.int .u32 (rot v0 13 : Nat)) ∧ ∃ t, w' = w.drewN t := fun w => rot_any v0 13 w b0 (by omega)
              have r22 : ∀ w, Calls Tryz.prog 81 #[.int .u32 v0, .int .i64 22] w fun e w' => e = .returned (.int .u32 (rot v0 22 : Nat)) ∧ ∃ t, w' = w.drewN t := fun w => rot_any v0 22 w b0 (by omega)
              have tI : (t : Int) < 64 := by omega
              go_wp2
              go_quiet (fail)
              go_wp2
              go_quiet (fail)
              go_wp2
              go_quiet (fail)
              go_wp2
              go_region_held3 (fun w' => w'.cell? ⟨gv, 7, none⟩ = some (.int .u32 v7) ∧ w'.cell? ⟨G + 1, t, none⟩ = some (.int .u32 kt) ∧ w'.cell? ⟨g5, t, none⟩ = some (.int .u32 xt) ∧ Step wr w')
                (exact ⟨((Step.of (w := wr) inferInstance).h.cell (p := ⟨gv, 7, none⟩) hgv).trans c7, ((Step.of (w := wr) inferInstance).h.cell (p := ⟨G + 1, t, none⟩) hG1).trans ck, ((Step.of (w := wr) inferInstance).h.cell (p := ⟨g5, t, none⟩) hg5).trans cx, Step.of inferInstance⟩)
                (first
                | ((with_reducible refine (r6 _).mono ?_); rintro e w' ⟨rfl, tt, rfl⟩)
                | ((with_reducible refine (r11 _).mono ?_); rintro e w' ⟨rfl, tt, rfl⟩)
                | ((with_reducible refine (r25 _).mono ?_); rintro e w' ⟨rfl, tt, rfl⟩)
                | (go_at_call 80; ((with_reducible refine (add5 _ _ _ _ _ _ _ _ v7 (E1 v4) (chf v4 v5 v6) kt xt (by simp) rfl (E1_form b4) (chf_form v4 v5 v6 b4 b5 b6) rfl rfl ⟨b7, E1_lt b4, chf_lt b4 b5 b6, bk, bx⟩).mono ?_); rintro e w' ⟨rfl, rfl⟩)))
              obtain ⟨t1, ht1⟩ : ∃ t1, Hid (t1 = (md [v7, E1 v4, chf v4 v5 v6, kt, xt])) := ⟨_, Lib.hid rfl⟩
              rw [← ht1.out]
              have bt1 : t1 < 4294967296 := by rw [ht1.out]; exact md_lt _
              go_wp2_with (first
                | ((with_reducible refine (r2 _).mono ?_); rintro e w' ⟨rfl, tt, rfl⟩)
                | ((with_reducible refine (r13 _).mono ?_); rintro e w' ⟨rfl, tt, rfl⟩)
                | ((with_reducible refine (r22 _).mono ?_); rintro e w' ⟨rfl, tt, rfl⟩)
                | (go_at_call 80; ((with_reducible refine (add2 _ _ _ _ _ (E0 v0) (mjf v0 v1 v2) (by simp) (E0_form b0) (mjf_form v0 v1 v2 b0 b1 b2) ⟨E0_lt b0, mjf_lt b0 b1 b2⟩).mono ?_); rintro e w' ⟨rfl, rfl⟩)))
              obtain ⟨t2, ht2⟩ : ∃ t2, Hid (t2 = md [E0 v0, mjf v0 v1 v2]) := ⟨_, Lib.hid rfl⟩
              rw [← ht2.out]
              have bt2 : t2 < 4294967296 := by rw [ht2.out]; exact md_lt _
              refine letter (w0 := wr) _ (Step.of inferInstance) ?_
              intro wz SZ
              have hL : Hid (run X V (t + 1) = [md [t1, t2], v0, v1, v2, md [v3, t1], v4, v5, v6]) := Lib.hid (by
                have h := hR.out
                rw [h, ht1.out, ht2.out])
              have hB : Hid (B32 [md [t1, t2], v0, v1, v2, md [v3, t1], v4, v5, v6]) := Lib.hid fun i => by
                match i with
                | 0 => exact md_lt _
                | 1 => exact b0
                | 2 => exact b1
                | 3 => exact b2
                | 4 => exact md_lt _
                | 5 => exact b4
                | 6 => exact b5
                | 7 => exact b6
                | i + 8 => show (0 : Nat) < _; omega
              have hGz : Hid (G + 3 ≤ wz.heap.size) := Lib.hid (by
                have := (inferInstance : Ext wr wz).h.size
                omega)
              have hGy : Hid (G + 3 ≤ wz.heap.size + 1 + 1) := Lib.hid (Nat.le_trans hGz.out (Nat.le_add_right _ 2))
              have key : Hid (64 - (t + 1) < 64 - t) := Lib.hid (Nat.sub_lt_sub_left hlt3 (Nat.lt_succ_self t))
              have c1a := add2d wz wz.heap.size 51 t1 t2 t1 t2 rfl rfl rfl ⟨bt1, bt2⟩
              have c1b := fun o => add2x wz o wz.heap.size 51 t1 t2 t1 t2 rfl rfl rfl ⟨bt1, bt2⟩
              have c1c := fun o => add2d (wz.alloc o) (wz.heap.size + 1) 51 t1 t2 t1 t2 (by simp) rfl rfl ⟨bt1, bt2⟩
              have c2a := fun o => add2d (wz.alloc o) (wz.heap.size + 1) 51 v3 t1 v3 t1 (by simp) rfl rfl ⟨b3, bt1⟩
              have c2b := fun o => add2x wz o wz.heap.size 51 v3 t1 v3 t1 rfl rfl rfl ⟨b3, bt1⟩
              go_region_held3 (fun w' => w'.cell? ⟨gv, 1, none⟩ = some (.int .u32 v1) ∧ w'.cell? ⟨gv, 2, none⟩ = some (.int .u32 v2) ∧ w'.cell? ⟨gv, 3, none⟩ = some (.int .u32 v3) ∧ w'.cell? ⟨gv, 5, none⟩ = some (.int .u32 v5) ∧ w'.cell? ⟨gv, 6, none⟩ = some (.int .u32 v6) ∧ Step wr w')
                (exact ⟨((Step.of (w := wr) inferInstance).h.cell (p := ⟨gv, 1, none⟩) hgv).trans c1', ((Step.of (w := wr) inferInstance).h.cell (p := ⟨gv, 2, none⟩) hgv).trans c2', ((Step.of (w := wr) inferInstance).h.cell (p := ⟨gv, 3, none⟩) hgv).trans c3, ((Step.of (w := wr) inferInstance).h.cell (p := ⟨gv, 5, none⟩) hgv).trans c5, ((Step.of (w := wr) inferInstance).h.cell (p := ⟨gv, 6, none⟩) hgv).trans c6, Step.of inferInstance⟩)
                (first
                | (go_at_call 80; ((with_reducible refine (c2a _).mono ?_); rintro e w' ⟨rfl, rfl⟩))
                | (go_at_call 80; ((with_reducible refine c1a.mono ?_); rintro e w' ⟨rfl, rfl⟩))
                | (go_at_call 80; ((with_reducible refine (c1b _).mono ?_); rintro e w' ⟨rfl, rfl⟩))
                | (go_at_call 80; ((with_reducible refine (c1c _).mono ?_); rintro e w' ⟨rfl, rfl⟩))
                | (go_at_call 80; ((with_reducible refine (c2b _).mono ?_); rintro e w' ⟨rfl, rfl⟩))
                | fail)
              all_goals
                clear c1a c1b c1c c2a c2b
                clear c0 c1' c2' c3 c4 c5 c6 c7 ck cx r2 r6 r11 r13 r22 r25 b0 b1 b2 b3 b4 b5 b6 b7 bx bk
                refine letter2 (w0 := wr) (fun z => R32 z (some ⟨wz.heap.size + 1 + 1, 0, none⟩) [md [t1, t2], v0, v1, v2, md [v3, t1], v4, v5, v6]) _ (Step.of inferInstance) (lit8d _ _ _ _ _ _ _ _ _ _ _ (by simp)) ?_
                intro wy SY RY
                rename_i hHH
                clear hHH
                have RY2 := Lib.hid RY
                clear RY
                have hGy2 := hGy.out
                generalize wz.heap.size + 1 + 1 = gy at RY2 hGy2 ⊢
                have hGy3 := Lib.hid hGy2
                clear hGy2
                go_wp2
                go_roundw
                case rel => exact ⟨t + 1, gy, 8, Lib.hid hlt3, by go_num, rfl, hGy3, by
                  rw [hL.out]
                  exact RY2.out, Lib.hid ⟨by rw [hL.out]; rfl, by rw [hL.out]; exact hB.out⟩, Step.of inferInstance⟩
                case measure => exact key.out
            · have ht64 : t = 64 := by have := ht.out; omega
              subst ht64
              obtain ⟨w7, h7⟩ : ∃ w7, w7 = wr := ⟨_, rfl⟩
              subst h7
              have hnext : Hid (hsh P (n + 1) = Sp.ad8 V (run X V 64) 8) := Lib.hid (by
                show cmp (hsh P n) ((P.drop (64 * n)).take 64) = _
                unfold cmp
                rw [hV.out, ← hat.out, hWX.out, Sp.ad8_end])
              have lR := lb.out.1
              have bR := Lib.hid lb.out.2
              have lV8 : V.length = 8 := by rw [← hV.out]; exact Ev.hsh_len P n
              have bV8 : Hid (B32 V) := Lib.hid (by rw [← hV.out]; exact hsh_b32 P n)
              have x97 : Ext w9 w7 := inferInstance
              have g0 := there_lt t0 (show 0 < 32 by omega)
              have g2 := there_lt tH (show 0 < 8 by omega)
              have t07 : w7.there G 0 32 := there_below t0 x97.h g0
              have t27 : w7.there (G + 2) 0 8 := there_below tH x97.h g2
              have rK7 : R32 w7 (some ⟨G + 1, 0, none⟩) K := rK.to
              have rH7 : R32 w7 (some ⟨G + 2, 0, none⟩) (Sp.ad8 V (run X V 64) 0) := by rw [Sp.ad8_zero V _ lV8]; exact rH.to
              have oP7 : Hid (ApE.Own .u8 5 w7 (G + 3) (.slice (some ⟨g, 0, none⟩) L c1) L (NL P)) := Lib.hid (ApE.own_ext oP.out x97)
              have S7 : Step w w7 := Step.of inferInstance
              have hW7 := S7.h
              clear lb rX bV rV0 rH tH t0 rK oP S5
              generalize run X V 64 = R at lR bR rv rH7 hnext
              go_wp2
              go_loopw [19] (fun i wq => ∃ j : Nat, Hid (j ≤ 8) ∧ i = .int .i64 j ∧ wq.there G 0 32 ∧ R32 wq (some ⟨G + 1, 0, none⟩) K ∧ R32 wq (some ⟨G + 2, 0, none⟩) (Sp.ad8 V R j) ∧ wq.there (G + 2) 0 8 ∧ Hid (ApE.Own .u8 5 wq (G + 3) (.slice (some ⟨g, 0, none⟩) L c1) L (NL P)) ∧ R32 wq (some ⟨gv, 0, none⟩) R ∧ Below w.heap.size w wq) (fun i _ => 8 - (intOf i).toNat)
              case atStart => exact ⟨0, Lib.hid (Nat.zero_le _), rfl, t07, rK7, rH7, t27, oP7, rv, hW7⟩
              case round =>
                obtain ⟨j, hj, rfl, t0, rK, rH, tH, oP, rv, BW⟩ := hrel
                by_cases hlt4 : j < 8
                · have hst := Lib.hid (Sp.ad8_step V R j)
                  have cH : wr.cell? ⟨G + 2, j, none⟩ = some (.int .u32 (V.getD j 0 : Nat)) := by
                    obtain ⟨_, e, _, h⟩ := Row.atN rH (j := j) (by simp [Sp.ad8]; exact hlt4)
                    cases e
                    rw [Addr.add_mid, Nat.zero_add, Sp.ad8_at V R j hlt4] at h
                    exact h
                  have cR : wr.cell? ⟨gv, j, none⟩ = some (.int .u32 (R.getD j 0 : Nat)) ∧ gv < wr.heap.size := by
                    obtain ⟨_, e, hl, h⟩ := Row.atN rv (j := j) (by rw [lR]; exact hlt4)
                    cases e
                    rw [Addr.add_mid, Nat.zero_add] at h
                    exact ⟨h, hl⟩
                  have hf := (tH j hlt4).2
                  rw [Nat.zero_add] at hf
                  have cr := cR.1
                  have hgvl := cR.2
                  have hg2l := there_lt tH (show 0 < 8 by omega)
                  have bh := bV8.out j
                  have br := bR.out j
                  have lA : (Sp.ad8 V R j).length = 8 := by simp [Sp.ad8]
                  generalize V.getD j 0 = hj0 at cH bh hst
                  generalize R.getD j 0 = rj0 at cr br hst
                  have jI : (j : Int) < 8 := by omega
                  have hv : Hid (((sm [hj0, rj0] : Nat) : Int) % 4294967296 = ((md [hj0, rj0] : Nat) : Int)) := Lib.hid (by
                    unfold md
                    omega)
                  generalize md [hj0, rj0] = m1 at hv hst
                  clear cR hlt4
                  go_wp2
                  have cA2 := fun (z : World) (h : R32 z (some ⟨wr.heap.size, 0, none⟩) [hj0, rj0]) => add_any (some ⟨wr.heap.size, 0, none⟩) 2 2 [hj0, rj0] z rfl (by omega) h (Lib.hid (b32_two bh br))
                  go_region_with (go_at_call 80; ((with_reducible refine (cA2 _ (Row.to (Row.lit2 (k := .u32) wr wr.heap.size 51 (hj0 : Nat) (rj0 : Nat) rfl))).mono ?_); rintro e w' ⟨rfl, rfl⟩))
                  all_goals
                    go_wp2
                    go_roundw
                    case rel =>
                      rw [hv.out]
                      obtain ⟨q1, q2, q3, q4, q5, q6, q7⟩ := loop4 w wr G g gv j L c1 m1 (Obj.cells #[Value.int .u32 (hj0 : Nat), Value.int .u32 (rj0 : Nat)] 51) K (Sp.ad8 V R j) R P (by rw [lA]; omega) (by omega) hg3.out t0 rK rH tH oP.out rv BW
                      rw [hst.out] at q3
                      exact ⟨j + 1, Lib.hid (by omega), by go_num, q1, q2, q3, q4, Lib.hid q5, q6, q7⟩
                    case measure => simp [intOf]; omega
                · have hj8 : j = 8 := by have := hj.out; omega
                  subst hj8
                  rw [← hnext.out] at rH
                  have atI : (at' : Int) + 64 ≤ 91000 := by omega
                  go_wp2
                  go_roundw
                  case rel => exact ⟨n + 1, Lib.hid (by have := hat.out; have := hM.out; omega), by have := hat.out; go_num, t0, rK, rH, tH, oP, ⟨BW⟩⟩
                  case measure => have := hat.out; simp [intOf]; omega
    · have hnM2 : n = M := by have := hat.out; have := hM.out; have := hnM.out; omega
      subst hnM2
      have lH8 := Ev.hsh_len P n
      have bH8 := hsh_b32 P n
      have cB := fun (w' : World) (h : R32 w' (some ⟨G + 2, 0, none⟩) (hsh P n)) => bytes_any (some ⟨G + 2, 0, none⟩) 8 8 (hsh P n) w' lH8 (by omega) h (Lib.hid bH8)
      have g0 := there_lt t0 (show 0 < 32 by omega)
      have RZ : (w9.alloc (Obj.cells Z 62)).rangeAt w9.heap.size 0 (Sp.vl .u8 (Sp.ol (hsh P n) 0)) := by
        rw [Sp.ol_zero, hZl.out]
        exact Sp.range_new w9 Z 62
      have TZ := Lg.there_new w9 Z 62 32 hsz
      have T0z := World.there_alloc t0 (Obj.cells Z 62)
      have z9 : (w9.alloc (Obj.cells Z 62)).heap.size = w9.heap.size + 1 := by simp
      go_wp2_with (first
        | refine Lg.wpAlloc (by rfl) 62 (by rfl) Z hz.out ?_
        | (go_at_call 82; ((with_reducible refine (cB _ rH.to).mono ?_); rintro e w2 ⟨A2, c2, rfl, O2, S2⟩)))
      obtain ⟨gq, capq, hvq, hbq, hlq⟩ := O2.form (by omega)
      injection hvq with hAq _ hcq
      subst hAq
      subst hcq
      have RQ : R8 w2 (some ⟨gq, 0, none⟩) (bys (hsh P n)) := Row.of_own O2
      have lQ : (bys (hsh P n)).length = 32 := by rw [bys_len, lH8]
      obtain ⟨GO, hGO⟩ : ∃ GO, GO = w9.heap.size := ⟨_, rfl⟩
      have hgq : Hid (GO ≠ gq) := Lib.hid (by omega)
      have hGG : G < GO := by omega
      have R2 : w2.rangeAt w9.heap.size 0 (Sp.vl .u8 (Sp.ol (hsh P n) 0)) := Sp.range_under RZ S2.h (by omega)
      have T2 : w2.there w9.heap.size 0 32 := there_below TZ S2.h (by omega)
      have T02 : w2.there G 0 32 := there_below T0z S2.h (by omega)
      have BW : Below w.heap.size w w2 := (Step.of (w := w) inferInstance).h
      have hGOw : w.heap.size ≤ GO := by omega
      rw [← hGO] at R2 T2 ⊢
      clear hGO hbq O2 RZ TZ T0z cB rH rK tH oP cap1 z9
      go_loopw [22] (fun i wq => ∃ j : Nat, Hid (j ≤ 32) ∧ i = .int .i64 j ∧ wq.there G 0 32 ∧ wq.there GO 0 32 ∧ wq.rangeAt GO 0 (Sp.vl .u8 (Sp.ol (hsh P n) j)) ∧ R8 wq (some ⟨gq, 0, none⟩) (bys (hsh P n)) ∧ Below w.heap.size w wq) (fun i _ => 32 - (intOf i).toNat)
      case atStart => exact ⟨0, Lib.hid (Nat.zero_le _), rfl, T02, T2, R2, RQ, BW⟩
      case round =>
        obtain ⟨j, hj, rfl, t0, tO, rO, rQ, B⟩ := hrel
        by_cases hlt5 : j < 32
        · have hst := Lib.hid (Sp.ol_step (hsh P n) j)
          have cQ : wr.cell? ⟨gq, j, none⟩ = some (.int .u8 ((bys (hsh P n)).getD j 0 : Nat)) := by
            obtain ⟨_, e, _, h⟩ := Row.atN rQ (j := j) (by rw [lQ]; exact hlt5)
            cases e
            rw [Addr.add_mid, Nat.zero_add] at h
            exact h
          obtain ⟨u, ec⟩ := Option.isSome_iff_exists.1 (tO j hlt5).1
          have hf := (tO j hlt5).2
          rw [Nat.zero_add] at ec hf
          generalize (bys (hsh P n)).getD j 0 = x at cQ hst
          have jI : (j : Int) < 32 := by omega
          have hj32 := Lib.hid hlt5
          clear hlt5
          go_wp2
          go_roundw
          case rel =>
            obtain ⟨q1, q2, q3, q4, q5⟩ := loop5 w wr G GO gq j x (Sp.ol (hsh P n) j) (bys (hsh P n)) (by rw [← Sp.vl_len .u8, Sp.ol_len]; exact hj32.out) hGOw hgq.out t0 tO rO rQ B
            rw [hst.out] at q3
            exact ⟨j + 1, Lib.hid (by have := hj32.out; omega), by go_num, q1, q2, q3, q4, q5⟩
          case measure => have := hj32.out; simp [intOf]; omega
        · have hj32 : j = 32 := by have := hj.out; omega
          subst hj32
          have lF := Sp.ol_len (hsh P n) 32
          have oF := Lib.hid (Sp.vl_one .u8 (Sp.ol (hsh P n) 32))
          have eF : Hid (Sp.vl .u8 (Sp.ol (hsh P n) 32) = (sum b).map fun v => Value.int .u8 (v : Nat)) := Lib.hid (by rw [Sp.ol_end _ lH8, eS.out]; rfl)
          generalize Sp.vl .u8 (Sp.ol (hsh P n) 32) = E at rO lF oF eF
          have eE : E.toArray.size = 32 := lF
          go_wp2_with (first
            | refine wpList_load_mid (by rfl) 62 (.tmp 20) (by rfl) GO 0 (by rfl) E _ rO Tryz.underlying62 rfl (by rw [lF]; exact size32) ?_
            | refine wpList_store_mid (by rfl) 62 (.tmp 2) (.tmp 215) (by rfl) G 0 E.toArray (by rfl) (by rfl) (by rw [eE]; exact t0) (by rw [eE]; exact size32) oF.out ?_)
          refine bodyPost_ret (Sp.results_one (by rfl) _ _ G 0 E _ (by rfl) (World.rangeAt_setCells_same _ _ _ _ (by rw [lF]; exact t0)) Tryz.underlying62 rfl (by rw [lF]; exact size32)) (by rfl) ?_
          exact ⟨by rw [eF.out], ⟨Lg.below_setCells (by omega) _ _ _ B⟩⟩
end Sh
end Go.Proofs.YtfeahgcigmoijaaGreatDoor
