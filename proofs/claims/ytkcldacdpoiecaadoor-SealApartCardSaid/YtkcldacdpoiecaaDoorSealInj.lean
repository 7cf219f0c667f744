/- Layer 8: a list, and a seed and a salt, are known by what they are summed as. Conditions: at most 31 rows of at most 300 bytes; numbers of 64 bits. -/
import Derived.Test.YtkcldacdpoiecaaDoorSealB
namespace Go.Proofs.YtkcldacdpoiecaaDoor
namespace Se
open SlR Sh Sp Pg
theorem spl_mod (x y : Nat) : ∀ k, spl x k = spl y k → x % 256 ^ k = y % 256 ^ k
  | 0, _ => by rw [Nat.pow_zero, Nat.mod_one, Nat.mod_one]
  | k + 1, h => by
    rw [spl, spl] at h
    injection h with h1 h2
    rw [Nat.mod_pow_succ, Nat.mod_pow_succ, spl_mod x y k h2, h1]
theorem spl_inj {x y : Nat} (k : Nat) (hx : x < 256 ^ k) (hy : y < 256 ^ k) (h : spl x k = spl y k) : x = y := by
  have := spl_mod x y k h
  rwa [Nat.mod_eq_of_lt hx, Nat.mod_eq_of_lt hy] at this
theorem sdt_inj {p q r s : Nat} (hp : p < 18446744073709551616) (hq : q < 18446744073709551616) (hr : r < 18446744073709551616) (hs : s < 18446744073709551616) (h : sdt p q = sdt r s) : p = r ∧ q = s := by
  unfold sdt at h
  rw [List.append_assoc, List.append_assoc] at h
  have h1 := List.append_cancel_left h
  obtain ⟨h2, h3⟩ := List.append_inj h1 (by rw [spl_len, spl_len])
  exact ⟨spl_inj 8 hp hr h2, spl_inj 8 hq hs h3⟩
theorem segs_inj : ∀ (ls ks : List (List Nat)), ls.length = ks.length → (∀ r ∈ ls, r.length < 65536) → (∀ r ∈ ks, r.length < 65536) → (ls.map seg).flatten = (ks.map seg).flatten → ls = ks
  | [], [], _, _, _, _ => rfl
  | [], _ :: _, h, _, _, _ => by simp at h
  | _ :: _, [], h, _, _, _ => by simp at h
  | r :: ls, t :: ks, h, hl, hk, e => by
    rw [List.map_cons, List.map_cons, List.flatten_cons, List.flatten_cons] at e
    unfold seg at e
    rw [List.append_assoc, List.append_assoc] at e
    obtain ⟨e1, e2⟩ := List.append_inj e (by rw [spl_len, spl_len])
    have hrt : r.length = t.length := spl_inj 2 (hl r (by simp)) (hk t (by simp)) e1
    obtain ⟨e3, e4⟩ := List.append_inj e2 hrt
    rw [e3, segs_inj ls ks (by simpa using h) (fun r hr => hl r (by simp [hr])) (fun r hr => hk r (by simp [hr])) e4]
theorem mem_len {ls : List (List Nat)} (h : ∀ i, (ls.getD i []).length ≤ 300) : ∀ r ∈ ls, r.length < 65536 := fun r hr => by
  obtain ⟨i, hi, rfl⟩ := List.getElem_of_mem hr
  have := h i
  rw [List.getD_eq_getElem?_getD, List.getElem?_eq_getElem hi] at this
  simp at this
  omega
theorem ltx_inj {ls ks : List (List Nat)} (hn : ls.length ≤ 31) (hm : ks.length ≤ 31) (hl : ∀ i, (ls.getD i []).length ≤ 300) (hk : ∀ i, (ks.getD i []).length ≤ 300) (h : ltx ls = ltx ks) : ls = ks := by
  unfold ltx lt at h
  rw [List.take_length, List.take_length, List.append_assoc, List.append_assoc] at h
  have h1 := List.append_cancel_left h
  obtain ⟨h2, h3⟩ := List.append_inj h1 (by rw [spl_len, spl_len])
  have e : ls.length = ks.length := spl_inj 2 (by omega) (by omega) h2
  exact segs_inj ls ks e (mem_len hl) (mem_len hk) h3
theorem lt_len (ls : List (List Nat)) (hl : ∀ i, (ls.getD i []).length ≤ 300) : ∀ k, k ≤ ls.length → (lt ls k).length ≤ 3 + 302 * k
  | 0, _ => by rw [lt_zero]; simp [spl_len]
  | k + 1, h => by
    have ih := lt_len ls hl k (by omega)
    rw [← lt_step ls k h, List.length_append, List.length_append, spl_len]
    have := hl k
    omega
end Se
end Go.Proofs.YtkcldacdpoiecaaDoor
