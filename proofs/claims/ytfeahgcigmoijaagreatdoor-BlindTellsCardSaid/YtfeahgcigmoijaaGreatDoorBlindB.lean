/- blind: those that came, and what opens. Conditions: what is handed in reads as rows of peers and of numbers, and as maps; lengths as stated; sha.k reads as laid. -/
import Derived.Test.YtfeahgcigmoijaaGreatDoorBlind
namespace Go.Proofs.YtfeahgcigmoijaaGreatDoor
open Go.RowKit Go.Lib
namespace Bl
open SlR Sh Sp Mc Pg VecC VecE Pe Mp
theorem q64_may {lo : Int} {ps : List (Int × Nat)} (h : mayF lo ps = true) : Q64 ps := fun k => by
  by_cases hk : k < ps.length
  · have := (mayF_all h _ (List.getElem_mem hk)).2.2
    rw [List.getD_eq_getElem?_getD, List.getElem?_eq_getElem hk]
    exact Nat.lt_trans this (by decide)
  · rw [List.getD_eq_getElem?_getD, List.getElem?_eq_none (by omega)]
    exact (by decide : 0 < 18446744073709551616)
theorem here_snoc {came : List Int} {ps : List (Int × Nat)} {k : Nat} {p : Int × Nat} (h : k < ps.length) (e : ps.getD k (0, 0) = p) : hereF came (ps.take (k + 1)) = hereF came (ps.take k) ++ (if inn came p.1 = true then [p] else []) := by
  unfold hereF
  rw [filter_snoc _ h, e]
/-- Those that came: what is answered. -/
def Pres (w : World) (d : Bool) (hs : List (Int × Nat)) (e : Ending) (w' : World) : Prop :=
  (Hid (d = true) ∧ ∃ A q c, e = .returned (.tuple #[.slice A q c, .nilIface]) ∧ hs.length = q ∧ RowQ w' A hs ∧ Step w w') ∨ (Hid (d = false) ∧ Err w e w')
set_option maxHeartbeats 3200000 in
set_option maxRecDepth 100000 in
theorem present_may (A D : Option Addr) (c d n m : Nat) (came : List Int) (ps : List (Int × Nat)) (w : World) (hn : came.length = n) (hn2 : n ≤ 100000) (hm : ps.length = m) (hm2 : m ≤ 100000) (hc : Row .i64 w A came) (hr : RowQ w D ps) (hmay : Hid (mayF 0 ps = true)) :
    Calls Tryz.prog 25 #[.slice A n c, .slice D m d] w (Pres w (decide (ids (hereF came ps) = came)) (hereF came ps)) := by
  obtain ⟨i0, hi, hz0, hz1, hz2⟩ := info_parts infoQ
  have cC := fun (w : World) (h : RowQ w D ps) => check_yes D d m ps w hm hm2 h hmay
  have cI := fun (x : Int) (w : World) (h : Row .i64 w A came) => conI_any A c n came x w hn hn2 h
  have cE := fun (D' : Option Addr) (d' q : Nat) (w : World) (h1 : (hereF came ps).length = q) (h2 : Row .i64 w A came) (h3 : RowQ w D' (hereF came ps)) => equal_any A D' c d' n q came (hereF came ps) w hn h1 hn2 h2 h3
  clear hmay
  go_enter Tryz.func25, Tryz.ntmps25
  go_wp2_with (go_at_call 39; ((with_reducible refine (cC _ hr.to).mono ?_); rintro e w1 ⟨rfl, S1⟩; clear cC))
  go_loopw [7, 17] (fun v i wr => ∃ (k q : Nat), k ≤ m ∧ i = .int .i64 k ∧ q ≤ k ∧ Hid ((hereF came (ps.take k)).length = q) ∧ wr.ownsRow w1.heap.size 50 2 v q (qc (hereF came (ps.take k))) ∧ Step w1 wr) (fun _ i _ => m - (intOf i).toNat)
  case atStart => exact ⟨0, 0, Nat.zero_le _, rfl, Nat.le_refl _, Lib.hid rfl, World.ownsRow_nil _ _ _ _, Step.of inferInstance⟩
  case round =>
    obtain ⟨k, q, hk, rfl, hq, hlen, hown, hS⟩ := hrel
    obtain ⟨A', c', rfl, hcc⟩ := own_form2 hown
    by_cases hlt : k < m
    · obtain ⟨B, O, rfl, hab, hc1, hc2⟩ := (hr.to : RowQ wr D ps) k (by omega)
      obtain ⟨x, hx⟩ : ∃ x : Int, Hid (x = (ps.getD k (0, 0)).1) := ⟨_, Lib.hid rfl⟩
      obtain ⟨y, hy⟩ : ∃ y : Nat, Hid (y = (ps.getD k (0, 0)).2) := ⟨_, Lib.hid rfl⟩
      have hxy : Hid (ps.getD k (0, 0) = (x, y)) := Lib.hid (by rw [hx.out, hy.out])
      rw [← hx.out] at hc1
      rw [← hy.out] at hc2
      have HT : Hid (hereF came (ps.take (k + 1)) = hereF came (ps.take k) ++ (if inn came x = true then [(x, y)] else [])) := Lib.hid (here_snoc (by omega) hxy.out)
      have HO := Lib.hid hown
      have hV0 : (wr.alloc (.cells #[.int .i64 x, .int .u64 y] 50 (0, 0))).cell? ⟨wr.heap.size, 0, none⟩ = some (.int .i64 x) := by simp
      have hV1 : (wr.alloc (.cells #[.int .i64 x, .int .u64 y] 50 (0, 0))).cell? ⟨wr.heap.size, 1, none⟩ = some (.int .u64 y) := by simp
      have cX := fun (w : World) h => cI x w h
      cases hb : inn came x
      · rw [hb] at cX HT
        have HT2 : Hid (hereF came (ps.take (k + 1)) = hereF came (ps.take k)) := Lib.hid (by rw [HT.out]; simp)
        clear hr hown hx hy hxy hb HT cI cE
        go_wp2_with (go_at_call 49; ((with_reducible refine (cX _ hc.to).mono ?_); rintro e w2 ⟨rfl, S2⟩))
        go_roundw
        case rel => exact ⟨k + 1, q, by omega, by go_num, by omega, Lib.hid (by rw [HT2.out]; exact hlen.out), by rw [HT2.out]; exact own_ext HO.out inferInstance, Step.of inferInstance⟩
        case measure => simp [intOf]; omega
      · rw [hb] at cX HT
        have HT2 : Hid (hereF came (ps.take (k + 1)) = hereF came (ps.take k) ++ [(x, y)]) := Lib.hid (by rw [HT.out]; simp)
        clear hr hown hx hy hxy hb HT cI cE
        go_wp2_with (first
          | (go_at_call 49; ((with_reducible refine (cX _ hc.to).mono ?_); rintro e w2 ⟨rfl, S2⟩; have hX0 := cellT hV0 (w' := w2); have hX1 := cellT hV1 (w' := w2)))
          | (at_builtin; refine one w1 wr rfl _ _ 34 rfl 50 i0 _ Tryz.underlying34 hi hz0 hz1 hz2 rfl _ q (hereF came (ps.take k)) rfl HO.out w2.heap.size (x, y) rfl (RowQ.lit1 w2 _ _ (x, y) rfl) (by omega) ?_; intro A3 c3 w3 O3 S3 hc3 hg3))
        go_roundw
        case rel => exact ⟨k + 1, q + 1, by omega, by go_num, by omega, Lib.hid (by rw [HT2.out, List.length_append, hlen.out]; rfl), by rw [HT2.out]; exact O3, S3⟩
        case measure => simp [intOf]; omega
    · have hkm : m = k := by omega
      subst hkm
      have HE : Hid (hereF came (ps.take m) = hereF came ps) := Lib.hid (by rw [List.take_of_length_le (by omega)])
      rw [HE.out] at hown hlen
      have R2 : RowQ wr A' (hereF came ps) := RowQ.of_own hown hlen.out
      have cF := fun (w : World) h1 h2 => cE A' c' q w hlen.out h1 h2
      have hlen2 := hlen.out
      have HL := Lib.hid hlen2
      clear hlen hlen2 hown hr cE cI HE
      cases hb : decide (ids (hereF came ps) = came)
      · rw [hb] at cF
        have hd : Hid (decide (ids (hereF came ps) = came) = false) := Lib.hid hb
        clear hb
        go_wp2_with (go_at_call 50; ((with_reducible refine (cF _ hc.to R2.to).mono ?_); rintro e w2 ⟨rfl, S2⟩))
        exact bodyPost_ret (v := .tuple #[.slice none 0 0, eArg]) (by simp [results, Tryz.results25, go_sem]) rfl (by first | exact .inr ⟨hd, rfl, Step.of inferInstance⟩ | exact .inr ⟨Lib.hid rfl, rfl, Step.of inferInstance⟩)
      · rw [hb] at cF
        have hd : Hid (decide (ids (hereF came ps) = came) = true) := Lib.hid hb
        clear hb
        go_wp2_with (go_at_call 50; ((with_reducible refine (cF _ hc.to R2.to).mono ?_); rintro e w2 ⟨rfl, S2⟩))
        exact bodyPost_ret (v := .tuple #[.slice A' q c', .nilIface]) (by simp [results, Tryz.results25, go_sem]) rfl (by first | exact .inl ⟨hd, A', q, c', rfl, HL.out, R2.to, Step.of inferInstance⟩ | exact .inl ⟨Lib.hid rfl, A', q, c', rfl, HL.out, R2.to, Step.of inferInstance⟩)
theorem present_no (A D : Option Addr) (c d n m : Nat) (ps : List (Int × Nat)) (w : World) (hm : ps.length = m) (hm2 : m ≤ 100000) (hr : RowQ w D ps) (hmay : Hid (mayF 0 ps = false)) :
    Calls Tryz.prog 25 #[.slice A n c, .slice D m d] w (Err w) := by
  have cC := fun (w : World) (h : RowQ w D ps) => check_no D d m ps w hm hm2 h hmay
  clear hmay
  go_enter Tryz.func25, Tryz.ntmps25
  go_wp2_with (go_at_call 39; ((with_reducible refine (cC _ hr.to).mono ?_); rintro e w1 ⟨rfl, S1⟩; clear cC))
  exact bodyPost_ret (v := .tuple #[.slice none 0 0, eArg]) (by simp [results, Tryz.results25, go_sem]) rfl ⟨rfl, Step.of inferInstance⟩
end Bl
end Go.Proofs.YtfeahgcigmoijaaGreatDoor
