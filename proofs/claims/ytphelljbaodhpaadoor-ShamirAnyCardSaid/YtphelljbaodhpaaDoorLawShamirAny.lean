/- ShamirAny walked: true at any secrets, chance and ones left out. Condition: errors.errorType reads as laid; the list of those left out has at most 2^47 entries. -/
import Derived.Test.YtphelljbaodhpaaDoorLawShamirAnyN
namespace Go.Proofs.YtphelljbaodhpaaDoor
open Go.RowKit Go.Lib Go.Maps
namespace LawShamirAny
open SlR FpM FpC PoM PoC ErrAs ShM
set_option maxRecDepth 1000000 in
theorem walk (zs : List Int) (C : Option Addr) (n c : Nat) (ls : List (List Int)) (D : Option Addr) (ns dc : Nat) (bs : List Bool) (W : World) (hz : zs.length = 2) (hzb : ∀ z ∈ zs, 0 ≤ z ∧ z < 18446744073709551616)
    (hl : ls.length = n) (h2 : ∀ row ∈ ls, row.length = 2) (hr : ∀ j row, ls[j]? = some row → ∃ ad : Addr, C = some ad ∧ Row .u64 W (some (ad.add (j * 2))) row) (hlb : ∀ row ∈ ls, ∀ z ∈ row, 0 ≤ z ∧ z < 18446744073709551616)
    (hbl : bs.length = ns) (hsz : ns ≤ reachBytes) (hrb : ∀ j b, bs[j]? = some b → ∃ ad : Addr, D = some ad ∧ ad.block < W.heap.size ∧ W.cell? (ad.add j) = some (.bool b)) (hL : Laid W) :
    Calls Tryd.prog 4 #[.agg (zs.map (Value.int .u64)).toArray, .slice C n c, .slice D ns dc] W fun e w' => e = .returned (.bool true) ∧ Step W w' := by
  obtain ⟨s0, s1, rfl⟩ : ∃ s0 s1 : Nat, zs = [(s0 : Int), (s1 : Int)] := by
    match zs, hz with
    | [a, b], _ =>
      have h1 := hzb a (by simp)
      have h2 := hzb b (by simp)
      exact ⟨a.toNat, b.toNat, by congr 1 <;> first | omega | (congr 1; omega)⟩
  by_cases h8 : 8 < n
  · have h8I : (8 : Int) < (n : Int) := by omega
    have hnsI : ¬ 140737488351232 < ns := by unfold reachBytes at hsz; omega
    show Calls _ _ #[.agg #[.int .u64 s0, .int .u64 s1], _, _] _ _
    go_enter Tryd.func4, Tryd.ntmps4
    go_wp2_with (go_at_call 5; ((with_reducible refine (sure_any _ hL.to).mono ?_); rintro e w' ⟨rfl, S⟩))
    go_ret
    exact ⟨rfl, Step.of inferInstance⟩
  · refine walkN s0 s1 C n c (ls.map fun row => ((row.getD 0 0).toNat, (row.getD 1 0).toNat)) D ns dc bs W (by simp [hl]) (by omega) (fun j hj => ?_) hbl (Lib.hid (by unfold reachBytes at hsz; omega)) hrb hL
    have hj2 : j < ls.length := by simpa using hj
    obtain ⟨ad, hC, hrow⟩ := hr j ls[j] (List.getElem?_eq_getElem hj2)
    have hrl := h2 ls[j] (List.getElem_mem hj2)
    have hb := hlb ls[j] (List.getElem_mem hj2)
    have hs : ad.spot = none := by
      obtain ⟨ad', hC', hrow'⟩ := hr 0 ls[0] (List.getElem?_eq_getElem (by omega))
      have hl0 := h2 ls[0] (List.getElem_mem (by omega))
      rw [hC] at hC'
      cases hC'
      obtain ⟨p, e1, _, hc⟩ := hrow' 0 _ (List.getElem?_eq_getElem (by omega))
      cases e1
      have := World.cell?_spot hc
      simpa [Addr.add] using this
    rw [fs_at, sn_at, getD_ofP (by simpa using hj2), List.getElem_map]
    revert hrl hrow hb
    generalize ls[j] = row
    intro hrow hrl hb
    match row, hrl, hrow, hb with
    | [a, b], _, hrow, hb =>
      obtain ⟨p, e1, hp1, hc1⟩ := hrow 0 a rfl
      obtain ⟨q, e2, hq1, hc2⟩ := hrow 1 b rfl
      cases e1
      cases e2
      have ha := hb a (by simp)
      have hb2 := hb b (by simp)
      obtain ⟨B, o, s⟩ := ad
      obtain rfl : s = none := hs
      rw [Addr.add_lit, Addr.add_lit] at hc1 hc2
      rw [blockAdd] at hp1
      refine ⟨B, o, hC, hp1, ?_, ?_⟩
      · rw [Nat.add_zero] at hc1
        rw [hc1]; congr 2; show a = ((a.toNat : Nat) : Int); omega
      · rw [hc2]; congr 2; show b = ((b.toNat : Nat) : Int); omega
end LawShamirAny
end Go.Proofs.YtphelljbaodhpaaDoor
