/- Layer 10's Open, the program's and the document's, side by side. Conditions: what is handed in reads as rows of peers, of numbers and of pairs, and as maps; lengths as stated; errors.errorType and sha.k read as laid. -/
import Derived.Test.YtfeahgcigmoijaaGreatDoorRef10C
import Derived.Test.YtfeahgcigmoijaaGreatDoorNumE10
namespace Go.Proofs.YtfeahgcigmoijaaGreatDoor
open Go.RowKit Go.Lib
namespace Bl
open SlR Sh Sp Mc Pg VecC VecE Pe Mp
set_option maxHeartbeats 1600000 in
set_option maxRecDepth 1000000 in
theorem dopen_arg (A D AS AK : Option Addr) (c d cs ck q m ns nk : Nat) (n : Int) (ps : List (Int × Nat)) (w : World) (hm : ps.length = m) (hm2 : m ≤ 100000) (hr : RowQ w D ps) (h : mayF 0 ps = false ∨ n < 0 ∨ 32 < n) :
    Calls Tryz.prog 12 #[.slice A q c, .slice D m d, .slice AS ns cs, .slice AK nk ck, .int .i64 n] w (No10 w 1) := by
  cases hmay : mayF 0 ps
  · have cM := fun (w : World) (h : RowQ w D ps) => may_no D d m ps w hm hm2 h (Lib.hid hmay)
    clear hmay h
    go_enter Tryz.func12, Tryz.ntmps12
    go_wp2_with (go_at_call 31; ((with_reducible refine (cM _ hr.to).mono ?_); rintro e w1 ⟨rfl, S1⟩; clear cM))
    exact bodyPost_ret (v := .tuple #[.slice none 0 0, .int .i64 1]) (by simp [results, Tryz.results12, go_sem]) rfl ⟨rfl, Step.of inferInstance⟩
  · have cM := fun (w : World) (h : RowQ w D ps) => may_yes D d m ps w hm hm2 h (Lib.hid hmay)
    have h := h.resolve_left (by rw [hmay]; simp)
    clear hmay
    by_cases h1 : n < 0
    · clear h
      go_enter Tryz.func12, Tryz.ntmps12
      go_wp2_with (go_at_call 31; ((with_reducible refine (cM _ hr.to).mono ?_); rintro e w1 ⟨rfl, S1⟩; clear cM))
      exact bodyPost_ret (v := .tuple #[.slice none 0 0, .int .i64 1]) (by simp [results, Tryz.results12, go_sem]) rfl ⟨rfl, Step.of inferInstance⟩
    · have h2 : 32 < n := by omega
      clear h
      go_enter Tryz.func12, Tryz.ntmps12
      go_wp2_with (go_at_call 31; ((with_reducible refine (cM _ hr.to).mono ?_); rintro e w1 ⟨rfl, S1⟩; clear cM))
      exact bodyPost_ret (v := .tuple #[.slice none 0 0, .int .i64 1]) (by simp [results, Tryz.results12, go_sem]) rfl ⟨rfl, Step.of inferInstance⟩
theorem num_nil (w : World) : Calls Tryz.prog 14 #[.nilIface] w fun e w' => e = .returned (.int .i64 0) ∧ Step w w' := by
  go_enter Tryz.func14, Tryz.ntmps14
  go_wp2
  go_ret
  exact ⟨rfl, Step.of inferInstance⟩
/-- Both answers of Open. -/
theorem open_both (A D AS AK : Option Addr) (c d cs ck q m ns nk : Nat) (n : Int) (came : List Int) (ps sl kl : List (Int × Nat)) (hq : came.length = q) (hq2 : q ≤ 100000) (hm : ps.length = m) (hm2 : m ≤ 100000) (hsl : sl.length = ns) (hns : ns ≤ 100000) (hkl : kl.length = nk) (hnk : nk ≤ 100000)
    (hs64 : Hid (∀ i, (lastF sl i).getD 0 < 18446744073709551616)) (hk64 : Hid (∀ i, (lastF kl i).getD 0 < 18446744073709551616)) :
    ∃ (r : Nat) (U : List Int) (g : Value) (h : Int), (U.length = r ∧ r ≤ 32) ∧
      (∀ (P : Option Addr) (p : Nat) (sv kv : Value) (w : World), Row .i64 w A came → RowQ w P ps → MapF w sv (lastF sl) → MapF w kv (lastF kl) → LaidK w → Calls Tryz.prog 10 #[.slice A q c, .slice P m p, sv, kv, .int .i64 n] w fun e w' => ∃ A' c', e = .returned (.tuple #[.slice A' r c', g]) ∧ Row .u32 w' A' U ∧ Step w w') ∧
      (∀ w : World, Row .i64 w A came → RowQ w D ps → RowQ w AS sl → RowQ w AK kl → Calls Tryz.prog 12 #[.slice A q c, .slice D m d, .slice AS ns cs, .slice AK nk ck, .int .i64 n] w fun e w' => ∃ A' c', e = .returned (.tuple #[.slice A' r c', .int .i64 h]) ∧ Row .u32 w' A' U ∧ Step w w') ∧
      (∀ w : World, ErrAs.Laid w → Calls Tryz.prog 14 #[g] w fun e w' => e = .returned (.int .i64 h) ∧ Step w w') := by
  by_cases h1 : mayF 0 ps = false ∨ n < 0 ∨ 32 < n
  · refine ⟨0, [], .iface 77 (.int .i64 1), 1, ⟨rfl, by omega⟩, fun P p sv kv w g1 g2 g3 g4 g5 => ?_, fun w g1 g2 g3 g4 => ?_, fun w g1 => Num10.some_ 1 w g1⟩
    · exact (open_arg A P c p q m n came ps sv kv w hq hq2 hm hm2 g1 g2 (by
        rcases h1 with h | h
        · exact .inl h
        · exact .inr (.inr h))).mono fun e w' ⟨h2, h3⟩ => ⟨none, 0, h2, Row.nil, h3⟩
    · exact (dopen_arg A D AS AK c d cs ck q m ns nk n ps w hm hm2 g2 h1).mono fun e w' ⟨h2, h3⟩ => ⟨none, 0, h2, Row.nil, h3⟩
  · obtain ⟨n, rfl⟩ : ∃ k : Nat, n = k := ⟨n.toNat, by omega⟩
    have hn : n ≤ 32 := by omega
    have hmay : Hid (mayF 0 ps = true) := Lib.hid (by
      cases h : mayF 0 ps
      · exact absurd (.inl h) h1
      · rfl)
    have hgo := fun (w : World) g1 g2 g3 g4 => dopen_go A D AS AK c d cs ck q m n ns nk came ps sl kl w hq hq2 hm hm2 g1 g2 hsl hns g3 hkl hnk g4 (lastF sl) (lastF kl) (Lib.hid rfl) (Lib.hid rfl) hs64 hk64 hmay hn
    by_cases h2 : ids (hereF came ps) = came
    · cases h3 : ps.all (hasF (lastF sl) (lastF kl) came)
      · refine ⟨0, [], .iface 77 (.int .i64 6), 6, ⟨rfl, by omega⟩, fun P p sv kv w g1 g2 g3 g4 g5 => ?_, fun w g1 g2 g3 g4 => ?_, fun w g1 => Num10.some_ 6 w g1⟩
        · exact (open_none A P c p q m n came ps sv kv _ _ w hq hq2 hm hm2 g1 g2 hmay (Lib.hid h2) g3 g4 hn g5 (Lib.hid h3)).mono fun e w' ⟨h2, h3⟩ => ⟨none, 0, h2, Row.nil, h3⟩
        · refine (hgo w g1 g2 g3 g4).mono fun e w' h => ?_
          rcases h with h | h | h
          · exact absurd h2 h.1.out
          · have := h.1.out.2; rw [h3] at this; cases this
          · exact ⟨none, 0, h.2.1, Row.nil, h.2.2⟩
      · refine ⟨n, openF (oN n) (wN n) (lastF sl) (lastF kl) came ps n ps, .nilIface, 0, ⟨(openF_R _ _ _ _ (oN_R n) (wN_R n) ps).1, hn⟩, fun P p sv kv w g1 g2 g3 g4 g5 => ?_, fun w g1 g2 g3 g4 => ?_, fun w g1 => num_nil w⟩
        · exact open_yes A P c p q m n came ps sv kv _ _ w hq hq2 hm hm2 g1 g2 hmay (Lib.hid h2) g3 g4 hn g5 (Lib.hid h3)
        · refine (hgo w g1 g2 g3 g4).mono fun e w' h => ?_
          rcases h with h | h | h
          · exact absurd h2 h.1.out
          · exact h.2
          · have := h.1.out.2; rw [h3] at this; cases this
    · refine ⟨0, [], .iface 77 (.int .i64 1), 1, ⟨rfl, by omega⟩, fun P p sv kv w g1 g2 g3 g4 g5 => ?_, fun w g1 g2 g3 g4 => ?_, fun w g1 => Num10.some_ 1 w g1⟩
      · exact (open_arg A P c p q m n came ps sv kv w hq hq2 hm hm2 g1 g2 (.inr (.inl h2))).mono fun e w' ⟨h2, h3⟩ => ⟨none, 0, h2, Row.nil, h3⟩
      · refine (hgo w g1 g2 g3 g4).mono fun e w' h => ?_
        rcases h with h | h | h
        · exact ⟨none, 0, h.2.1, Row.nil, h.2.2⟩
        · exact absurd h.1.out.1 h2
        · exact absurd h.1.out.1 h2
end Bl
end Go.Proofs.YtfeahgcigmoijaaGreatDoor
