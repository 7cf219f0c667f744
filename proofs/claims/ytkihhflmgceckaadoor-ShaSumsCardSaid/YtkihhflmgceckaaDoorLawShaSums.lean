/- The walk of the law ShaSums: true whatever comes. Conditions: what is handed in reads as bytes; the listed variables read as laid. -/
import Derived.Test.YtkihhflmgceckaaDoorRef05i
import Derived.Test.YtkihhflmgceckaaDoorLaidS
import Derived.Test.YtkihhflmgceckaaDoorApp
import Derived.Deep.RegionHeld3
import Derived.Laws.BytesArg
namespace Go.Proofs.YtkihhflmgceckaaDoor
open Go.RowKit Go.Lib
namespace LawShaSums
open SlR Sh
theorem conv (w : World) (A : Option Addr) (n c : Nat) (b : List Nat) (hn : b.length = n) (hr : R8 w A b) :
    (convert 22 9 (.slice A n c)).run Tryd.prog w = .ok (.string (strOfNums (NL b))) w := by
  cases A with
  | none =>
    have h0 : b = [] := by
      cases b with
      | nil => rfl
      | cons x t =>
        obtain ⟨_, e, _, _⟩ := Row.atN hr (j := 0) (by simp)
        cases e
    subst h0
    exact run_convert_bytes_nil w 22 5 Tryd.underlying22 Tryd.underlying5 n c 9 Tryd.underlying9
  | some ad =>
    have hl : (loadCells ad n).run Tryd.prog w = .ok ((NL b).map (Value.int .u8)).toArray w := by
      have := run_loadCells_list (P := Tryd.prog) w ad ((NL b).map (Value.int .u8)) (fun j v hj => by
        have hjl : j < b.length := by
          have := (List.getElem?_eq_some_iff.1 hj).1
          simpa [NL] using this
        obtain ⟨_, e, _, h⟩ := Row.atN hr hjl
        cases e
        rw [h, ← hj, List.getElem?_map]
        unfold NL
        rw [List.getElem?_map, List.getElem?_eq_getElem hjl, List.getD_eq_getElem?_getD, List.getElem?_eq_getElem hjl]
        rfl)
      simpa [NL_len, hn] using this
    rw [run_convert_bytes_string w 22 9 5 _ n c Tryd.underlying22 Tryd.underlying5 Tryd.underlying9, run_bytesToString w _ n c (NL b) hl, foldl_push_bytes]
    simp [strOfNums, ByteArray.empty, ByteArray.emptyWithCapacity]
    rfl
set_option maxHeartbeats 3200000 in
set_option maxRecDepth 100000 in
theorem walkN (A : Option Addr) (n c : Nat) (b : List Nat) (w : World) (hn : b.length = n) (hr : R8 w A b) (bb : B8 b) (hA : ErrAs.Laid w) (hL : Sp.LaidK w) :
    Calls Tryd.prog 3 #[.slice A n c] w fun e w' => e = .returned (.bool true) ∧ Step w w' := by
  have cS := fun (w : World) h1 h2 => Sp.sure_any w h1 h2
  by_cases hlen : n ≤ 600
  case neg =>
    have h1 : ¬ (n : Int) ≤ 600 := by omega
    go_enter Tryd.func3, Tryd.ntmps3
    go_wp2_with (go_at_call 7; ((with_reducible refine (cS _ hA.to hL.to).mono ?_); rintro e w7 ⟨rfl, S7⟩))
    go_ret
    exact ⟨rfl, Step.of inferInstance⟩
  obtain ⟨i0, hi, hz0, hz1, hz2⟩ := info_parts infoB
  have h1 : (n : Int) ≤ 600 := by omega
  have hb100 : b.length ≤ 100000 := by omega
  obtain ⟨C, hC⟩ : ∃ C, Hid (C = Sp.vl .u8 (Sh.sum b)) := ⟨_, Lib.hid rfl⟩
  have lS := Sp.sum_fine b
  have cO := fun (w : World) (A : Option Addr) (c : Nat) (hc : n ≤ c) (h : R8 w A b) (hL : Sp.LaidK w) => Sp.of_dev A c n ⟨b, bb, hb100⟩ w hn hc h hL
  have cR := fun (w : World) (h : R8 w A b) => of_any A c n b w hn (by omega) h (Lib.hid bb)
  have e2 : ((Sh.sum b).map fun v => Value.int .u8 (v : Nat)) = C := hC.out.symm
  rw [e2] at cR
  have e3 : Sp.vl .u8 (Sh.sum b) = C := hC.out.symm
  have hE : ∀ w, (Op.equalIn 10000 24 (.agg C.toArray) (.agg C.toArray)).run Tryd.prog w = .ok true w := fun w => by
    rw [← e3]
    simpa using Sp.eq32 (Sh.sum b) (Sh.sum b) lS lS w
  have cO' : ∀ (w : World) (A : Option Addr) (c : Nat), n ≤ c → R8 w A b → Sp.LaidK w → Calls Tryd.prog 8 #[.slice A n c] w fun e w' => e = .returned (.agg C.toArray) ∧ Step w w' := fun w A c h1 h2 h3 => by
    have := cO w A c h1 h2 h3
    rw [← e3]
    exact this
  clear cO e2 e3 lS
  go_enter Tryd.func3, Tryd.ntmps3
  go_wp2_with (first
    | (at_builtin; refine App.copyO .u8 w.heap.size rfl _ _ 22 rfl 5 i0 _ 1 Tryd.underlying22 hi hz0 hz1 hz2 rfl rfl rfl A n c (NL b) rfl (by rw [NL_len]; exact hn) hr (by unfold maxLen; omega) (by omega) ?_; intro A2 c2 w2 O2 S2; have rA2 : R8 w2 A2 b := Row.of_own O2; have hcap := ApE.capped O2; clear O2)
    | (go_at_call 8; ((with_reducible refine (cO' _ _ _ hcap rA2.to hL.to).mono ?_); rintro e w3 ⟨rfl, S3⟩))
    | (go_at_call 9; ((with_reducible refine (cR _ hr.to).mono ?_); rintro e w4 ⟨rfl, S4⟩; have kA := conv w4 A2 n c2 b hn rA2.to; have kB := conv w4 A n c b hn hr.to))
    | (go_at_call 7; ((with_reducible refine (cS _ hA.to hL.to).mono ?_); rintro e w7 ⟨rfl, S7⟩)))
  go_ret
  exact ⟨rfl, Step.of inferInstance⟩
theorem walk (A : Option Addr) (n c : Nat) (xs : List Int) (w : World) (hl : xs.length = n) (_hc : n ≤ maxLen) (hr : Row .u8 w A xs) (bd : ∀ z ∈ xs, 0 ≤ z ∧ z < 256) (hL : LaidX.LaidS w) :
    Calls Tryd.prog 3 #[.slice A n c] w fun e w' => e = .returned (.bool true) ∧ Step w w' := by
  have e : xs = NL (xs.map Int.toNat) := by
    unfold NL
    rw [List.map_map]
    refine (List.map_id' xs).symm.trans (List.map_congr_left fun z hz => ?_)
    have := bd z hz
    exact (Int.toNat_of_nonneg this.1).symm
  have b8 : B8 (xs.map Int.toNat) := Sp.b8_mem fun x hx => by
    obtain ⟨z, hz, rfl⟩ := List.mem_map.1 hx
    have := bd z hz
    omega
  rw [e] at hr
  exact walkN A n c (xs.map Int.toNat) w (by simp [hl]) hr b8 hL.1 hL.2
end LawShaSums
end Go.Proofs.YtkihhflmgceckaaDoor
