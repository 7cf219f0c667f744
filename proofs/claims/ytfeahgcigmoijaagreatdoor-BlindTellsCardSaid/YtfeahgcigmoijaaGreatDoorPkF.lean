/- Several texts in one, each with its own word ahead. -/
import Derived.KernelRfl
import Derived.Test.YtfeahgcigmoijaaGreatDoorProg
import Derived.Test.YtfeahgcigmoijaaGreatDoorPkA
import Derived.WalkKit
import Derived.Lib.Mul64
import Derived.WalkSpells
import Derived.Deep.Cut
import Derived.Laws.Bits64b
/- The numbers of the field of 2^61 - 1 elements as plain arithmetic: sums, products, powers; 37 has order 2^61 - 2, so every number but 0 is a power of it, and Fermat's equation follows; Euclid's steps give the inverse, in fewer than 100 rounds. No condition. -/
namespace Go.Proofs.YtfeahgcigmoijaaGreatDoor
namespace FpM
def P : Nat := 2305843009213693951
theorem P_pos : 0 < P := by unfold P; omega
theorem P_gt1 : 1 < P := by unfold P; omega
def fOf (a : Nat) : Nat := a % P
theorem fOf_lt (a : Nat) : fOf a < P := Nat.mod_lt _ P_pos
def fAdd (a b : Nat) : Nat := (a % P + b % P) % P
def fSub (a b : Nat) : Nat := (a % P + (P - b % P)) % P
def fMul (a b : Nat) : Nat := a * b % P
def fPow (a : Nat) : Nat → Nat
  | 0 => 1
  | n + 1 => fMul (fPow a n) a
def fInv (a : Nat) : Nat := fPow a 2305843009213693949

theorem fAdd_eq (a b : Nat) : fAdd a b = (a + b) % P := by unfold fAdd; rw [← Nat.add_mod]
theorem fAdd_lt (a b : Nat) : fAdd a b < P := Nat.mod_lt _ P_pos
theorem fSub_lt (a b : Nat) : fSub a b < P := Nat.mod_lt _ P_pos
theorem fMul_lt (a b : Nat) : fMul a b < P := Nat.mod_lt _ P_pos
theorem fPow_lt (a n : Nat) : fPow a n < P := by
  cases n with
  | zero => exact P_gt1
  | succ n => exact fMul_lt _ _
theorem fInv_lt (a : Nat) : fInv a < P := fPow_lt _ _
theorem fPow_eq (a n : Nat) : fPow a n = a ^ n % P := by
  induction n with
  | zero => rw [Nat.pow_zero, Nat.mod_eq_of_lt P_gt1]; rfl
  | succ n ih => rw [fPow, ih, fMul, Nat.mod_mul_mod, Nat.pow_succ]
theorem fMul_comm (a b : Nat) : fMul a b = fMul b a := by unfold fMul; rw [Nat.mul_comm]
theorem fMul_mod_l (a b : Nat) : fMul (a % P) b = fMul a b := by unfold fMul; rw [Nat.mod_mul_mod]
theorem fMul_mod_r (a b : Nat) : fMul a (b % P) = fMul a b := by unfold fMul; rw [Nat.mul_mod_mod]
theorem fMul_assoc (a b c : Nat) : fMul (fMul a b) c = fMul a (fMul b c) := by
  unfold fMul; rw [Nat.mod_mul_mod, Nat.mul_mod_mod, Nat.mul_assoc]
theorem fMul_one (a : Nat) : fMul a 1 = a % P := by unfold fMul; rw [Nat.mul_one]
theorem fMul_zero (a : Nat) : fMul a 0 = 0 := by unfold fMul; rw [Nat.mul_zero, Nat.zero_mod]
theorem fAdd_comm (a b : Nat) : fAdd a b = fAdd b a := by unfold fAdd; rw [Nat.add_comm]
theorem fAdd_mod_l (a b : Nat) : fAdd (a % P) b = fAdd a b := by unfold fAdd; rw [Nat.mod_mod]
theorem fAdd_mod_r (a b : Nat) : fAdd a (b % P) = fAdd a b := by unfold fAdd; rw [Nat.mod_mod]
theorem fAdd_assoc (a b c : Nat) : fAdd (fAdd a b) c = fAdd a (fAdd b c) := by
  rw [fAdd_eq, fAdd_eq a b, fAdd_eq a, fAdd_eq b c, Nat.mod_add_mod, Nat.add_mod_mod, Nat.add_assoc]
theorem fAdd_zero (a : Nat) : fAdd a 0 = a % P := by rw [fAdd_eq, Nat.add_zero]
theorem fMul_add (a b c : Nat) : fMul a (fAdd b c) = fAdd (fMul a b) (fMul a c) := by
  rw [fAdd_eq b c, fMul_mod_r, fAdd_eq]; unfold fMul; rw [← Nat.add_mod, Nat.mul_add]
theorem fSub_add (a b : Nat) : fAdd (fSub a b) b = a % P := by
  rw [fAdd_eq, fSub, Nat.mod_add_mod]
  have h := Nat.mod_lt b P_pos
  have e := Nat.div_add_mod b P
  have e2 : a % P + (P - b % P) + b = a % P + P * (b / P) + P := by omega
  rw [e2, Nat.add_mod_right, Nat.add_mul_mod_self_left, Nat.mod_mod]
theorem fAdd_sub (a b : Nat) : fSub (fAdd a b) b = a % P := by
  rw [fSub, Nat.mod_eq_of_lt (fAdd_lt a b), fAdd_eq, Nat.mod_add_mod]
  have h := Nat.mod_lt b P_pos
  have e := Nat.div_add_mod b P
  have e2 : a + b + (P - b % P) = a + P * (b / P) + P := by omega
  rw [e2, Nat.add_mod_right, Nat.add_mul_mod_self_left]
theorem fPow_add (a m n : Nat) : fMul (fPow a m) (fPow a n) = fPow a (m + n) := by
  rw [fPow_eq, fPow_eq, fPow_eq, fMul_mod_l, fMul_mod_r, fMul, Nat.pow_add]
theorem fPow_mul (a m n : Nat) : fPow (fPow a m) n = fPow a (m * n) := by
  rw [fPow_eq (fPow a m), fPow_eq a m, fPow_eq, ← Nat.pow_mod, Nat.pow_mul]
theorem fPow_mod (a n : Nat) : fPow (a % P) n = fPow a n := by rw [fPow_eq, fPow_eq, ← Nat.pow_mod]
theorem fPow_zero (a : Nat) : fPow a 0 = 1 := rfl
theorem fPow_one (a : Nat) : fPow a 1 = a % P := by rw [fPow_eq, Nat.pow_one]
theorem fPow_two (a : Nat) : fPow a 2 = fMul a a := by rw [fPow_eq, fMul, Nat.pow_two]
theorem fPow_sq (a n : Nat) : fPow (fMul a a) n = fPow a (2 * n) := by rw [← fPow_two, fPow_mul]

/-- Powers by squaring, which the kernel can reckon. -/
def fast : Nat → Nat → Nat → Nat → Nat
  | 0, _, _, p => p
  | k + 1, a, n, p => fast k (fMul a a) (n / 2) (if n % 2 = 1 then fMul p a else p)
theorem fast_eq (k : Nat) : ∀ a n p, n < 2 ^ k → p < P → fast k a n p = fMul p (fPow a n) := by
  induction k with
  | zero => intro a n p h hp; obtain rfl : n = 0 := by simpa using h
            rw [fast, fPow, fMul_one, Nat.mod_eq_of_lt hp]
  | succ k ih =>
    intro a n p h hp
    rw [fast, ih _ _ _ (by rw [Nat.pow_succ] at h; omega) (by split <;> first | exact fMul_lt _ _ | exact hp), fPow_sq]
    by_cases ho : n % 2 = 1
    · rw [if_pos ho]
      have : n = 2 * (n / 2) + 1 := by omega
      rw [fMul_assoc]
      conv => rhs; rw [this, fPow]
      rw [fMul_comm a]
    · rw [if_neg ho]
      have : 2 * (n / 2) = n := by omega
      rw [this]
theorem fPow_fast (a n : Nat) (h : n < 2 ^ 64) : fPow a n = fast 64 a n 1 := by
  rw [fast_eq 64 a n 1 h P_gt1, fMul_comm, fMul_one, Nat.mod_eq_of_lt (fPow_lt _ _)]

/-! ### 37 has order P - 1 -/
def g : Nat := 37
theorem g_full : fPow g 2305843009213693950 = 1 := by rw [fPow_fast _ _ (by omega)]; kernel_rfl
theorem g_q {n : Nat} (h : n < 2 ^ 64) (hf : (fast 64 g n 1 == 1) = false) : fPow g n ≠ 1 := by
  rw [fPow_fast _ _ h]; intro e; rw [e] at hf; exact absurd hf (by decide)
theorem mul_dvd (m : Nat) (hm : m ∣ 2305843009213693950) (hlt : m < 2305843009213693950) :
    ∃ q ∈ [2, 3, 5, 7, 11, 13, 31, 41, 61, 151, 331, 1321], m ∣ 2305843009213693950 / q := by
  obtain ⟨k, hk⟩ := hm
  by_cases hall : ∀ q ∈ [2, 3, 5, 7, 11, 13, 31, 41, 61, 151, 331, 1321], Nat.gcd k q = 1
  · exfalso
    have c2 : Nat.Coprime k 2 := hall 2 (by simp)
    have c3 : Nat.Coprime k 3 := hall 3 (by simp)
    have c5 : Nat.Coprime k 5 := hall 5 (by simp)
    have c7 : Nat.Coprime k 7 := hall 7 (by simp)
    have c11 : Nat.Coprime k 11 := hall 11 (by simp)
    have c13 : Nat.Coprime k 13 := hall 13 (by simp)
    have c31 : Nat.Coprime k 31 := hall 31 (by simp)
    have c41 : Nat.Coprime k 41 := hall 41 (by simp)
    have c61 : Nat.Coprime k 61 := hall 61 (by simp)
    have c151 : Nat.Coprime k 151 := hall 151 (by simp)
    have c331 : Nat.Coprime k 331 := hall 331 (by simp)
    have c1321 : Nat.Coprime k 1321 := hall 1321 (by simp)
    have hc : Nat.Coprime k (2 * (3 * 3) * (5 * 5) * 7 * 11 * 13 * 31 * 41 * 61 * 151 * 331 * 1321) :=
      (((((((((((c2.mul_right (c3.mul_right c3)).mul_right (c5.mul_right c5)).mul_right c7).mul_right c11).mul_right c13).mul_right c31).mul_right c41).mul_right c61).mul_right c151).mul_right c331).mul_right c1321)
    have he : 2 * (3 * 3) * (5 * 5) * 7 * 11 * 13 * 31 * 41 * 61 * 151 * 331 * 1321 = 2305843009213693950 := by kernel_rfl
    rw [he, hk, Nat.Coprime, Nat.gcd_mul_left_right] at hc
    subst hc
    omega
  · have : ∃ q ∈ [2, 3, 5, 7, 11, 13, 31, 41, 61, 151, 331, 1321], Nat.gcd k q ≠ 1 := by
      refine Classical.byContradiction fun hno => hall fun q hq => ?_
      exact Classical.byContradiction fun hne => hno ⟨q, hq, hne⟩
    obtain ⟨q, hq, hg⟩ := this
    refine ⟨q, hq, ?_⟩
    have hpr : ∀ q ∈ [2, 3, 5, 7, 11, 13, 31, 41, 61, 151, 331, 1321], ∀ d < q + 1, q % d = 0 → d = 1 ∨ d = q := by
      have : ([2, 3, 5, 7, 11, 13, 31, 41, 61, 151, 331, 1321].all fun q => (List.range (q + 1)).all fun d => q % d != 0 || d == 1 || d == q) = true := by kernel_rfl
      intro q hq d hd h0
      have h1 := List.all_eq_true.1 (List.all_eq_true.1 this q hq) d (List.mem_range.2 hd)
      simpa [h0] using h1
    have hqpos : 0 < q := by
      simp at hq; omega
    have hgd := Nat.gcd_dvd_right k q
    have := hpr q hq (Nat.gcd k q) (by have := Nat.le_of_dvd hqpos hgd; omega) (Nat.mod_eq_zero_of_dvd hgd)
    have hgq : Nat.gcd k q = q := by rcases this with h | h; exact absurd h hg; exact h
    obtain ⟨j, hj⟩ := Nat.gcd_dvd_left k q
    rw [hgq] at hj
    refine ⟨j, ?_⟩
    rw [hk, hj, show m * (q * j) = q * (m * j) by rw [← Nat.mul_assoc, Nat.mul_comm m q, Nat.mul_assoc], Nat.mul_div_cancel_left _ hqpos]
theorem g_pow_mul (m k : Nat) (h : fPow g m = 1) : fPow g (m * k) = 1 := by
  rw [← fPow_mul, h]
  induction k with
  | zero => rfl
  | succ k ih => rw [fPow, ih, fMul_one, Nat.mod_eq_of_lt P_gt1]
theorem g_order (m : Nat) : 0 < m → m < 2305843009213693950 → fPow g m ≠ 1 := by
  induction m using Nat.strongRecOn with
  | ind m ih =>
    intro h0 hlt h1
    have hr : fPow g (2305843009213693950 % m) = 1 := by
      have e := Nat.div_add_mod 2305843009213693950 m
      have h2 := g_full
      rw [← e, ← fPow_add, g_pow_mul _ _ h1, fMul_comm, fMul_one, Nat.mod_eq_of_lt (fPow_lt _ _)] at h2
      exact h2
    have hml := Nat.mod_lt 2305843009213693950 h0
    by_cases hz : 2305843009213693950 % m = 0
    · obtain ⟨q, hq, hd⟩ := mul_dvd m (Nat.dvd_of_mod_eq_zero hz) hlt
      obtain ⟨j, hj⟩ := hd
      have hone : fPow g (2305843009213693950 / q) = 1 := by rw [hj]; exact g_pow_mul _ _ h1
      revert hone
      simp only [List.mem_cons, List.not_mem_nil, or_false] at hq
      rcases hq with rfl | rfl | rfl | rfl | rfl | rfl | rfl | rfl | rfl | rfl | rfl | rfl
      all_goals exact g_q (by omega) (by kernel_rfl)
    · exact ih _ hml (by omega) (by omega) hr

/-- A one-to-one map of the first n numbers into themselves meets each. -/
theorem onto (n : Nat) : ∀ f : Nat → Nat, (∀ i, i < n → f i < n) → (∀ i j, i < n → j < n → f i = f j → i = j) → ∀ m, m < n → ∃ i, i < n ∧ f i = m := by
  induction n with
  | zero => intro f _ _ m h; omega
  | succ n ih =>
    intro f hf hi m hm
    have key := ih (fun i => if f i = n then f n else f i) ?_ ?_
    · by_cases hmt : f n = m
      · exact ⟨n, by omega, hmt⟩
      · by_cases hmn : m = n
        · subst hmn
          have ht : f m < m := by have := hf m (by omega); omega
          obtain ⟨i, hil, hie⟩ := key (f m) ht
          by_cases h : f i = m
          · exact ⟨i, by omega, h⟩
          · simp only [if_neg h] at hie
            have := hi i m (by omega) (by omega) hie
            omega
        · obtain ⟨i, hil, hie⟩ := key m (by omega)
          by_cases h : f i = n
          · simp only [if_pos h] at hie; exact absurd hie hmt
          · simp only [if_neg h] at hie; exact ⟨i, by omega, hie⟩
    · intro i hil
      have h1 := hf i (by omega)
      have h2 := hf n (by omega)
      show (if f i = n then f n else f i) < n
      split
      · rename_i h
        have : f n ≠ n := fun e => by have := hi i n (by omega) (by omega) (by rw [h, e]); omega
        omega
      · omega
    · intro i j hil hjl he
      have he' : (if f i = n then f n else f i) = (if f j = n then f n else f j) := he
      have a1 := hi i j (by omega) (by omega)
      have a2 := hi n j (by omega) (by omega)
      have a3 := hi i n (by omega) (by omega)
      split at he' <;> split at he'
      · rename_i h1 h2; exact a1 (by rw [h1, h2])
      · have := a2 he'; omega
      · have := a3 he'; omega
      · exact a1 he'

theorem g_ne0 (k : Nat) (h : k ≤ 2305843009213693950) : fPow g k ≠ 0 := by
  intro e
  have := fPow_add g k (2305843009213693950 - k)
  rw [show k + (2305843009213693950 - k) = 2305843009213693950 by omega, g_full, e, fMul_comm, fMul_zero] at this
  omega
theorem g_inj {i j : Nat} (hij : i < j) (hj : j < 2305843009213693950) : fPow g i ≠ fPow g j := by
  intro e
  have h1 := fPow_add g i (2305843009213693950 - i)
  rw [show i + (2305843009213693950 - i) = 2305843009213693950 by omega, g_full, e, fPow_add] at h1
  rw [show j + (2305843009213693950 - i) = 2305843009213693950 + (j - i) by omega, ← fPow_add, g_full, fMul_comm, fMul_one, Nat.mod_eq_of_lt (fPow_lt _ _)] at h1
  exact g_order (j - i) (by omega) (by omega) h1
theorem is_power (a : Nat) (h0 : a % P ≠ 0) : ∃ k, fPow g k = a % P := by
  have hP : P = 2305843009213693951 := rfl
  have hlt := Nat.mod_lt a P_pos
  obtain ⟨i, _, he⟩ := onto 2305843009213693950 (fun i => fPow g i - 1)
    (fun i hi => by have h1 := fPow_lt g i; have h2 := g_ne0 i (by omega); show fPow g i - 1 < _; omega)
    (fun i j hi hj he => by
      have e : fPow g i - 1 = fPow g j - 1 := he
      have h1 := g_ne0 i (by omega); have h2 := g_ne0 j (by omega)
      have e2 : fPow g i = fPow g j := by omega
      rcases Nat.lt_trichotomy i j with h | h | h
      · exact absurd e2 (g_inj h hj)
      · exact h
      · exact absurd e2.symm (g_inj h hi))
    (a % P - 1) (by omega)
  have e : fPow g i - 1 = a % P - 1 := he
  have h2 := g_ne0 i (by omega)
  exact ⟨i, by omega⟩
/-- Fermat. -/
theorem fermat (a : Nat) (h0 : a % P ≠ 0) : fPow a 2305843009213693950 = 1 := by
  obtain ⟨k, hk⟩ := is_power a h0
  rw [← fPow_mod, ← hk, fPow_mul, Nat.mul_comm, g_pow_mul _ _ g_full]
theorem fInv_mul (a : Nat) (h0 : a % P ≠ 0) : fMul (fInv a) a = 1 := by
  have h := fermat a h0
  rw [show 2305843009213693950 = 2305843009213693949 + 1 by omega, fPow] at h
  exact h
theorem fPow_P (a : Nat) : fPow a 2305843009213693951 = a % P := by
  by_cases h0 : a % P = 0
  · rw [h0, show 2305843009213693951 = 2305843009213693950 + 1 by omega, fPow, ← fMul_mod_r, h0, fMul_zero]
  · rw [show 2305843009213693951 = 2305843009213693950 + 1 by omega, fPow, fermat a h0, fMul_comm, fMul_one]
theorem fInv_zero (a : Nat) (h0 : a % P = 0) : fInv a = 0 := by
  rw [fInv, show 2305843009213693949 = 2305843009213693948 + 1 by omega, fPow, ← fMul_mod_r, h0, fMul_zero]
theorem inv_unique (x a : Nat) (hx : x < P) (h : fMul x a = 1) : x = fInv a := by
  have h0 : a % P ≠ 0 := by
    intro e; rw [← fMul_mod_r, e, fMul_zero] at h; omega
  have h1 := fInv_mul a h0
  have h2 := fMul_assoc x a (fInv a)
  rw [h, fMul_comm a, h1, fMul_one, fMul_comm, fMul_one, Nat.mod_eq_of_lt hx, Nat.mod_eq_of_lt (fInv_lt a)] at h2
  exact h2.symm
theorem div_mul (a b : Nat) (h0 : b % P ≠ 0) : fMul (fMul a (fInv b)) b = a % P := by
  rw [fMul_assoc, fInv_mul b h0, fMul_one]

/-! ### Euclid's steps -/
def fib : Nat → Nat
  | 0 => 0
  | 1 => 1
  | n + 2 => fib n + fib (n + 1)
def fibs : Nat → Nat × Nat
  | 0 => (0, 1)
  | n + 1 => ((fibs n).2, (fibs n).1 + (fibs n).2)
theorem fibs_eq (n : Nat) : fibs n = (fib n, fib (n + 1)) := by
  induction n with
  | zero => rfl
  | succ n ih => rw [fibs, ih]; rfl
theorem fib_100 : P < fib 101 := by
  have h : (fibs 101).1 = fib 101 := by rw [fibs_eq]
  have h2 : ((fibs 101).1).blt (P + 1) = false := by kernel_rfl
  rw [← h]
  rcases Nat.lt_or_ge (fibs 101).1 (P + 1) with h3 | h3
  · have h4 : (fibs 101).1.blt (P + 1) = true := by rw [Nat.blt_eq]; exact h3
    rw [h4] at h2; exact absurd h2 (by decide)
  · omega
/-- What holds of r, s, x, y at the head of round i. -/
structure Eu (a i r s x y : Nat) : Prop where
  gr : s < r
  rP : r ≤ P
  xP : x < P
  yP : y < P
  fb : r * fib (i + 1) + s * fib i ≤ P
  ex : fMul x a = r % P
  ey : fMul y a = s % P
  gc : Nat.gcd r s = Nat.gcd P (a % P)
theorem Eu.start (a : Nat) : Eu a 0 P (a % P) 0 1 :=
  ⟨Nat.mod_lt _ P_pos, Nat.le_refl _, P_pos, P_gt1, by show P * 1 + (a % P) * 0 ≤ P; omega, by rw [fMul_comm, fMul_zero, Nat.mod_self], by rw [fMul_comm, fMul_one, Nat.mod_mod], rfl⟩
theorem quo_sub (r s : Nat) : r - r / s * s = r % s := by
  have := Nat.div_add_mod r s; rw [Nat.mul_comm] at this; omega
theorem fSub_mul (x q y a : Nat) : fMul (fSub x (fMul q y)) a = fSub (fMul x a) (fMul q (fMul y a)) := by
  have h1 : fAdd (fMul (fSub x (fMul q y)) a) (fMul q (fMul y a)) = fMul x a := by
    rw [← fMul_assoc, fMul_comm _ a, fMul_comm _ a, ← fMul_add, fSub_add, fMul_mod_r, fMul_comm]
  rw [← h1, fAdd_sub, Nat.mod_eq_of_lt (fMul_lt _ _)]
theorem fSub_nat (r m : Nat) (h : m ≤ r) : fSub (r % P) (m % P) = (r - m) % P := by
  have e : r = (r - m) + m := by omega
  have h1 : fAdd (r - m) m = r % P := by rw [fAdd_eq, ← e]
  have h2 : fSub (fAdd (r - m) m) m = (r - m) % P := fAdd_sub _ _
  rw [h1] at h2
  rw [← h2]
  unfold fSub
  rw [Nat.mod_mod]
  rw [Nat.mod_mod]
theorem Eu.step {a i r s x y : Nat} (h : Eu a i r s x y) (hs : 0 < s) : Eu a (i + 1) s (r % s) y (fSub x (fMul (r / s) y)) := by
  have hq : 1 ≤ r / s := (Nat.one_le_div_iff hs).2 (Nat.le_of_lt h.gr)
  have he := Nat.div_add_mod r s
  have hle : s + r % s ≤ r := by
    have : s * 1 ≤ s * (r / s) := Nat.mul_le_mul_left _ hq
    omega
  refine ⟨Nat.mod_lt _ hs, by have := h.gr; have := h.rP; omega, h.yP, fSub_lt _ _, ?_, h.ey, ?_, ?_⟩
  · have hb := h.fb
    have e2 : fib (i + 1 + 1) = fib i + fib (i + 1) := rfl
    rw [e2]
    have h3 : (s + r % s) * fib (i + 1) ≤ r * fib (i + 1) := Nat.mul_le_mul_right _ hle
    rw [Nat.mul_add]
    rw [Nat.add_mul] at h3
    omega
  · rw [fSub_mul, h.ex, h.ey, fMul_mod_r]
    have : fMul (r / s) s = (r / s * s) % P := rfl
    rw [this, fSub_nat _ _ (by rw [Nat.mul_comm]; omega), quo_sub]
  · rw [← h.gc, Nat.gcd_comm r s, Nat.gcd_rec s r, Nat.gcd_comm]
theorem Eu.short {a i r s x y : Nat} (h : Eu a i r s x y) : i < 100 := by
  rcases Nat.lt_or_ge i 100 with hl | hl
  · exact hl
  · exfalso
    have hm : ∀ m n, m ≤ n → fib m ≤ fib n := by
      intro m n hmn
      induction n with
      | zero => obtain rfl : m = 0 := by omega
                exact Nat.le_refl _
      | succ n ih =>
        rcases Nat.lt_or_ge m (n + 1) with h1 | h1
        · refine Nat.le_trans (ih (by omega)) ?_
          cases n with
          | zero => exact Nat.zero_le _
          | succ n => show fib (n + 1) ≤ fib n + fib (n + 1); omega
        · obtain rfl : m = n + 1 := by omega
          exact Nat.le_refl _
    have h1 := hm 101 (i + 1) (by omega)
    have h2 := fib_100
    have h3 := h.fb
    have h4 : 1 * fib (i + 1) ≤ r * fib (i + 1) := Nat.mul_le_mul_right _ (by have := h.gr; omega)
    omega
theorem Eu.done {a i r x y : Nat} (h : Eu a i r 0 x y) : (a % P = 0 → r ≠ 1) ∧ (a % P ≠ 0 → r = 1 ∧ x = fInv a) := by
  have hg := h.gc
  rw [Nat.gcd_zero_right] at hg
  constructor
  · intro h0; rw [h0, Nat.gcd_zero_right] at hg; have := P_gt1; omega
  · intro h0
    have h1 : Nat.gcd P (a % P) = 1 := by
      have hd1 := Nat.gcd_dvd_left P (a % P)
      have hd2 := Nat.gcd_dvd_right P (a % P)
      have hm : fInv a * (a % P) % P = 1 := by have := fInv_mul a h0; rw [← fMul_mod_r] at this; exact this
      have he := Nat.div_add_mod (fInv a * (a % P)) P
      rw [hm] at he
      have hd3 : Nat.gcd P (a % P) ∣ P * (fInv a * (a % P) / P) + 1 := by rw [he]; exact Nat.dvd_mul_left_of_dvd hd2 _
      exact Nat.dvd_one.1 ((Nat.dvd_add_right (Nat.dvd_mul_right_of_dvd hd1 _)).1 hd3)
    have hr : r = 1 := by rw [hg, h1]
    refine ⟨hr, inv_unique x a h.xP ?_⟩
    rw [h.ex, hr, Nat.mod_eq_of_lt P_gt1]
end FpM
end Go.Proofs.YtfeahgcigmoijaaGreatDoor
/- math/bits.Mul64, LeadingZeros64, Div64 and Rem64 at the divisor 2^61 - 1 (Go's own text walked): the product's halves, the rest. Conditions: the numbers fit 64 bits; the upper half lies below the divisor. -/
namespace Go.Proofs.YtfeahgcigmoijaaGreatDoor
open Go.RowKit Go.Lib
namespace BitsC
theorem maskN (a : Nat) (ha : a < 18446744073709551616) : bits .and .u64 (a : Int) 4294967295 = ((a % 4294967296 : Nat) : Int) := by
  have h := bits_and_u64_nat a 4294967295 ha (by omega)
  have e : a &&& 4294967295 = a % 4294967296 := Nat.and_two_pow_sub_one_eq_mod a 32
  rw [e] at h
  exact h
theorem divN (a : Nat) : (a : Int) / 4294967296 = ((a / 4294967296 : Nat) : Int) := by omega
theorem mulN (a b : Nat) : (a : Int) * (b : Int) = ((a * b : Nat) : Int) := (Int.natCast_mul a b).symm
theorem addN (a b : Nat) : (a : Int) + (b : Int) = ((a + b : Nat) : Int) := (Int.natCast_add a b).symm
theorem wrapN (a : Nat) (ha : a < 18446744073709551616) : IntKind.u64.wrap (a : Int) = (a : Int) := by rw [IntKind.wrap_u64]; omega
theorem wrapM (a : Nat) : IntKind.u64.wrap (a : Int) = ((a % 18446744073709551616 : Nat) : Int) := by rw [IntKind.wrap_u64]; omega

set_option maxHeartbeats 1000000 in
theorem mul64 (x y : Nat) (hx : x < 18446744073709551616) (hy : y < 18446744073709551616) (w : World) :
    Calls Tryz.prog 73 #[.int .u64 x, .int .u64 y] w fun e w' => e = .returned (.tuple #[.int .u64 ((x * y / 18446744073709551616 : Nat) : Int), .int .u64 ((x * y % 18446744073709551616 : Nat) : Int)]) ∧ w = w' := by
  obtain ⟨bd, bt, bw, hhi⟩ := Lib.mul64_hi x y hx hy
  have ba := Lib.half_mul_le (a := x / 4294967296) (b := y / 4294967296) (by omega) (by omega)
  have bb := Lib.half_mul_le (a := x / 4294967296) (b := y % 4294967296) (by omega) (by omega)
  have bc := Lib.half_mul_le (a := x % 4294967296) (b := y / 4294967296) (by omega) (by omega)
  have ba' : x / 4294967296 * (y / 4294967296) < 18446744073709551616 := by omega
  have bb' : x / 4294967296 * (y % 4294967296) < 18446744073709551616 := by omega
  have bc' : x % 4294967296 * (y / 4294967296) < 18446744073709551616 := by omega
  have bh1 : x / 4294967296 * (y / 4294967296) + (x / 4294967296 * (y % 4294967296) + x % 4294967296 * (y % 4294967296) / 4294967296) / 4294967296 < 18446744073709551616 := by omega
  have bh : x / 4294967296 * (y / 4294967296) + (x / 4294967296 * (y % 4294967296) + x % 4294967296 * (y % 4294967296) / 4294967296) / 4294967296 + ((x / 4294967296 * (y % 4294967296) + x % 4294967296 * (y % 4294967296) / 4294967296) % 4294967296 + x % 4294967296 * (y / 4294967296)) / 4294967296 < 18446744073709551616 := by omega
  go_enter Tryz.func73, Tryz.ntmps73
  go_wp2
  simp only [maskN x hx, maskN y hy, divN, mulN, addN, wrapN _ bd, wrapN _ bb', wrapN _ bt, maskN _ bt, wrapN _ bc', wrapN _ bw, wrapN _ ba', wrapN _ bh1, wrapN _ bh, wrapM (x * y)]
  rw [hhi]
  go_ret2
  exact ⟨rfl, rfl⟩

set_option maxRecDepth 100000 in
theorem lz (w : World) : Calls Tryz.prog 87 #[.int .u64 2305843009213693951] w fun e w' => e = .returned (.int .i64 3) ∧ w = w' := by
  go_enter Tryz.func87, Tryz.ntmps87
  go_wp2
  go_ret
  exact ⟨by kernel_rfl, rfl⟩

/-! ### The school's division at the divisor 8 (2^61 - 1): the numbers of one step -/
theorem tdivN (a : Nat) (_ : a < 18446744073709551616) : IntKind.u64.wrap ((a : Int).tdiv 4294967295) = ((a / 4294967295 : Nat) : Int) := by
  rw [Int.tdiv_eq_ediv_of_nonneg (by omega), IntKind.wrap_u64]; omega
theorem tdivN2 (a : Nat) (_ : a < 18446744073709551616) : IntKind.u64.wrap ((a : Int) / 4294967295) = ((a / 4294967295 : Nat) : Int) := by
  rw [IntKind.wrap_u64]; omega
theorem qmulN (a : Nat) (_ : a < 18446744073709551616) : IntKind.u64.wrap (((a / 4294967295 : Nat) : Int) * 4294967295) = ((a / 4294967295 * 4294967295 : Nat) : Int) := by
  rw [IntKind.wrap_u64]; omega
theorem qsubN (a : Nat) (_ : a < 18446744073709551616) : IntKind.u64.wrap ((a : Int) - ((a / 4294967295 * 4294967295 : Nat) : Int)) = ((a % 4294967295 : Nat) : Int) := by
  rw [IntKind.wrap_u64]; omega
theorem orN (hi lo : Nat) (hP : hi < 2305843009213693951) (hl : lo < 18446744073709551616) :
    bits .or .u64 (IntKind.u64.wrap ((hi : Int) * 8)) ((lo : Int) / 2305843009213693952) = ((hi * 8 + lo / 2305843009213693952 : Nat) : Int) := by
  have e1 : IntKind.u64.wrap ((hi : Int) * 8) = ((hi * 8 : Nat) : Int) := by rw [IntKind.wrap_u64]; omega
  have e2 : (lo : Int) / 2305843009213693952 = ((lo / 2305843009213693952 : Nat) : Int) := by omega
  rw [e1, e2, bits_or_u64_nat _ _ (by omega) (by omega)]
  have h : hi * 8 ||| lo / 2305843009213693952 = hi * 8 + lo / 2305843009213693952 := by
    have := Nat.two_pow_add_eq_or_of_lt (i := 3) (b := lo / 2305843009213693952) (by omega) hi
    rw [Nat.mul_comm hi 8]
    exact this.symm
  rw [h]
theorem shlN (lo : Nat) : IntKind.u64.wrap ((lo : Int) * 8) = ((lo * 8 % 18446744073709551616 : Nat) : Int) := by rw [IntKind.wrap_u64]; omega
/-- What is left of u 2^32 + v behind the quotient q: no step's wrap is to be seen. -/
theorem restN (u v q : Nat) (hq : q = (u * 4294967296 + v) / 18446744073709551608) :
    IntKind.u64.wrap (IntKind.u64.wrap (IntKind.u64.wrap ((u : Int) * 4294967296) + (v : Int)) - IntKind.u64.wrap ((q : Int) * 18446744073709551608)) = (((u * 4294967296 + v) % 18446744073709551608 : Nat) : Int) := by
  simp only [IntKind.wrap_u64]; omega
def Rel (u v : Nat) (q r : Value) : Prop := ∃ a b : Nat, q = .int .u64 a ∧ r = .int .u64 b ∧ (u * 4294967296 + v) / 18446744073709551608 ≤ a ∧ a * 4294967295 + b = u ∧ a ≤ 4294967296 ∧ b < 4294967296
theorem Rel.start (u v : Nat) (hu : u < 18446744073709551608) (hv : v < 4294967296) : Rel u v (.int .u64 ((u / 4294967295 : Nat) : Int)) (.int .u64 ((u % 4294967295 : Nat) : Int)) :=
  ⟨_, _, rfl, rfl, by omega, by omega, by omega, by omega⟩

theorem end_num (hi lo u l a b v : Nat) (_ : lo < 18446744073709551616) (hu : u = hi * 8 + lo / 2305843009213693952) (hL : l = lo * 8 % 18446744073709551616)
    (ha : a = l / 4294967296) (hb : b = l % 4294967296) (hv : v = (u * 4294967296 + a) % 18446744073709551608) :
    (v * 4294967296 + b) % 18446744073709551608 / 8 = (hi * 18446744073709551616 + lo) % 2305843009213693951 := by
  omega
def DivPost (hi lo : Nat) (w : World) (e : Ending) (w' : World) : Prop :=
  ∃ q : Int, e = .returned (.tuple #[.int .u64 q, .int .u64 (((hi * 18446744073709551616 + lo) % 2305843009213693951 : Nat) : Int)]) ∧ w = w'
theorem DivPost.mk {hi lo v b q : Nat} {w : World} {Q : Int} (hq : Hid (q = (v * 4294967296 + b) / 18446744073709551608)) (hr : (v * 4294967296 + b) % 18446744073709551608 / 8 = (hi * 18446744073709551616 + lo) % 2305843009213693951) :
    DivPost hi lo w (.returned (.tuple #[.int .u64 Q, .int .u64 (IntKind.u64.wrap (IntKind.u64.wrap (IntKind.u64.wrap ((v : Int) * 4294967296) + (b : Int)) - IntKind.u64.wrap ((q : Int) * 18446744073709551608)) / 8)])) w :=
  ⟨Q, by rw [restN v b q hq.out, ← hr]; rfl, rfl⟩
theorem lin (K p q r s u : Nat) (hq : q = p + 1) (hr : r = 0) (hs : s = K) (h : q * K + r = u) : p * K + s = u := by
  subst hq hr hs
  rw [Nat.succ_mul] at h; omega
/-- One look at a quotient: too great, and how it goes on, or right. -/
theorem look (u a q r : Nat) (hu : Hid (u < 18446744073709551608)) (ha : Hid (a < 4294967296)) (hq : (u * 4294967296 + a) / 18446744073709551608 ≤ q) (hqr : q * 4294967295 + r = u) (hq2 : q ≤ 4294967296) (hr : r < 4294967296) :
    (decide ((4294967296 : Int) ≤ q) = true ∧ decide ((4294967296 : Int) ≤ (r : Int) + 4294967295) = false ∧ Hid (Rel u a (.int .u64 (IntKind.u64.wrap ((q : Int) - 1))) (.int .u64 ((r : Int) + 4294967295)) ∧ (IntKind.u64.wrap ((q : Int) - 1)).toNat < q)) ∨
    (decide ((4294967296 : Int) ≤ q) = false ∧ decide ((4294967296 : Int) * r + a < (q : Int) * 4294967288) = true ∧ decide ((4294967296 : Int) ≤ (r : Int) + 4294967295) = false ∧ Hid (Rel u a (.int .u64 (IntKind.u64.wrap ((q : Int) - 1))) (.int .u64 ((r : Int) + 4294967295)) ∧ (IntKind.u64.wrap ((q : Int) - 1)).toNat < q)) ∨
    (decide ((4294967296 : Int) ≤ q) = true ∧ decide ((4294967296 : Int) ≤ (r : Int) + 4294967295) = true ∧ ∃ p : Nat, Hid (IntKind.u64.wrap ((q : Int) - 1) = (p : Int)) ∧ Hid (p = (u * 4294967296 + a) / 18446744073709551608)) ∨
    (decide ((4294967296 : Int) ≤ q) = false ∧ decide ((4294967296 : Int) * r + a < (q : Int) * 4294967288) = true ∧ decide ((4294967296 : Int) ≤ (r : Int) + 4294967295) = true ∧ ∃ p : Nat, Hid (IntKind.u64.wrap ((q : Int) - 1) = (p : Int)) ∧ Hid (p = (u * 4294967296 + a) / 18446744073709551608)) ∨
    (decide ((4294967296 : Int) ≤ q) = false ∧ decide ((4294967296 : Int) * r + a < (q : Int) * 4294967288) = false ∧ Hid (q = (u * 4294967296 + a) / 18446744073709551608)) := by
  have hu := hu.out
  have ha := ha.out
  have hw : 1 ≤ q → IntKind.u64.wrap ((q : Int) - 1) = ((q - 1 : Nat) : Int) := by rw [IntKind.wrap_u64]; omega
  have hrel : 1 ≤ q → r = 0 → (u * 4294967296 + a) / 18446744073709551608 ≤ q - 1 → Hid (Rel u a (.int .u64 (IntKind.u64.wrap ((q : Int) - 1))) (.int .u64 ((r : Int) + 4294967295)) ∧ (IntKind.u64.wrap ((q : Int) - 1)).toNat < q) := by
    intro h1 h2 h3
    obtain ⟨s, hs⟩ : ∃ s : Nat, (s : Int) = (r : Int) + 4294967295 := ⟨(r + 4294967295 : Int).toNat, by omega⟩
    obtain ⟨p, hp⟩ : ∃ p : Nat, q = p + 1 := ⟨q - 1, by omega⟩
    have e1 : IntKind.u64.wrap ((q : Int) - 1) = (p : Int) := by rw [hw h1]; omega
    rw [e1, ← hs]
    have e2 : (u * 4294967296 + a) / 18446744073709551608 ≤ p := by omega
    have e3 : p * 4294967295 + s = u := lin _ p q r s u hp h2 (by omega) hqr
    have e4 : p ≤ 4294967296 := by omega
    have e5 : s < 4294967296 := by omega
    exact Lib.hid ⟨⟨p, s, rfl, rfl, e2, e3, e4, e5⟩, by omega⟩
  by_cases c1 : 4294967296 ≤ q
  · by_cases c2 : r = 0
    · exact .inl ⟨by simp; omega, by simp; omega, hrel (by omega) c2 (by omega)⟩
    · exact .inr (.inr (.inl ⟨by simp; omega, by simp; omega, q - 1, Lib.hid (hw (by omega)), Lib.hid (by omega)⟩))
  · by_cases c3 : 4294967296 * r + a < q * 4294967288
    · by_cases c2 : r = 0
      · exact .inr (.inl ⟨by simp; omega, by simp; omega, by simp; omega, hrel (by omega) c2 (by omega)⟩)
      · exact .inr (.inr (.inr (.inl ⟨by simp; omega, by simp; omega, by simp; omega, q - 1, Lib.hid (hw (by omega)), Lib.hid (by omega)⟩)))
    · exact .inr (.inr (.inr (.inr ⟨by simp; omega, by simp; omega, Lib.hid (by omega)⟩)))

set_option maxRecDepth 100000 in
set_option maxHeartbeats 4000000 in
theorem div64 (hi lo y : Nat) (hy : Hid (y = 2305843009213693951)) (h0 : 0 < hi) (hP : hi < y) (hl : Hid (lo < 18446744073709551616)) (w : World) :
    Calls Tryz.prog 83 #[.int .u64 hi, .int .u64 lo, .int .u64 y] w (DivPost hi lo w) := by
  have t0 : ((y : Int) == 0) = false := by have := hy.out; simp; omega
  have t1 : decide ((y : Int) ≤ hi) = false := by simp; omega
  have t2 : ((hi : Int) == 0) = false := by simp; omega
  have hP2 : Hid (hi < 2305843009213693951) := Lib.hid (hy.out ▸ hP)
  go_enter Tryz.func83, Tryz.ntmps83
  go_wp2_with (go_at_call 87; rw [hy.out]; refine (lz _).mono ?_; rintro e w' ⟨rfl, rfl⟩)
  clear t0 t1 t2 hP
  have e10 : bits BinOp.and IntKind.u64 18446744073709551608 4294967295 = 4294967288 := by kernel_rfl
  obtain ⟨u, hu⟩ : ∃ u : Nat, Hid (u = hi * 8 + lo / 2305843009213693952) := ⟨_, Lib.hid rfl⟩
  obtain ⟨l, hL⟩ : ∃ l : Nat, Hid (l = lo * 8 % 18446744073709551616) := ⟨_, Lib.hid rfl⟩
  obtain ⟨a, ha⟩ : ∃ a : Nat, Hid (a = l / 4294967296) := ⟨_, Lib.hid rfl⟩
  obtain ⟨b, hb⟩ : ∃ b : Nat, Hid (b = l % 4294967296) := ⟨_, Lib.hid rfl⟩
  have hu2 : Hid (u < 18446744073709551608) := Lib.hid (by have := hu.out; have := hP2.out; have := hl.out; omega)
  have ha2 : a < 4294967296 := by have := ha.out; have := hL.out; omega
  have hb2 : b < 4294967296 := by have := hb.out; have := hL.out; omega
  have HA := Lib.hid ha2
  have HB := Lib.hid hb2
  rw [orN hi lo hP2.out hl.out, shlN, ← hu.out, ← hL.out, maskN l (by have := hL.out; omega), divN, tdivN u (by have := hu2.out; omega), qmulN u (by have := hu2.out; omega), qsubN u (by have := hu2.out; omega), e10, ← ha.out, ← hb.out]
  clear e10
  have hst := Lib.hid (Rel.start u a hu2.out ha2)
  obtain ⟨v, hv⟩ : ∃ v : Nat, Hid (v = (u * 4294967296 + a) % 18446744073709551608) := ⟨_, Lib.hid rfl⟩
  have hv2 : Hid (v < 18446744073709551608) := Lib.hid (by have := hv.out; omega)
  have hst2 := Lib.hid (Rel.start v b hv2.out hb2)
  have hend := Lib.hid (end_num hi lo u l a b v hl.out hu.out hL.out ha.out hb.out hv.out)
  go_loop [15, 16] (Rel u a) (fun q _ => (intOf q).toNat)
  case atStart => exact hst.out
  case round =>
    clear hst
    obtain ⟨q, r, rfl, rfl, hq, hqr, hq2, hr⟩ := hrel
    have hlook := look u a q r hu2 HA hq hqr hq2 hr
    clear hq hqr
    rcases hlook with ⟨T1, T2, hR⟩ | ⟨T1, T3, T2, hR⟩ | ⟨T1, T2, p, hp, hQ⟩ | ⟨T1, T3, T2, p, hp, hQ⟩ | ⟨T1, T3, hQ⟩
    · go_wp2
      go_round
      case rel => exact hR.out.1
      case measure => simpa [intOf] using hR.out.2
    · go_wp2
      go_round
      case rel => exact hR.out.1
      case measure => simpa [intOf] using hR.out.2
    all_goals go_upto_region 22 with (fail)
    all_goals first | rw [hp.out, restN u a p hQ.out, ← hv.out] | rw [restN u a q hQ.out, ← hv.out]
    all_goals
      clear hq2 hr ha2
      go_wp2
      rw [tdivN2 v (by have := hv2.out; omega), qmulN v (by have := hv2.out; omega), qsubN v (by have := hv2.out; omega)]
      go_loop [18, 16] (Rel v b) (fun q _ => (intOf q).toNat)
      case atStart => exact hst2.out
      case round =>
        clear hst2
        obtain ⟨q', r', rfl, rfl, hq, hqr, hq2, hr⟩ := hrel
        have hlook := look v b q' r' hv2 HB hq hqr hq2 hr
        clear hq hqr
        rcases hlook with ⟨T1, T2, hR⟩ | ⟨T1, T3, T2, hR⟩ | ⟨T1, T2, p', hp, hQ⟩ | ⟨T1, T3, T2, p', hp, hQ⟩ | ⟨T1, T3, hQ⟩
        · go_wp2
          go_round
          case rel => exact hR.out.1
          case measure => simpa [intOf] using hR.out.2
        · go_wp2
          go_round
          case rel => exact hR.out.1
          case measure => simpa [intOf] using hR.out.2
        all_goals
          go_wp2
          try rw [hp.out]
          go_ret2
          exact DivPost.mk hQ hend.out


set_option maxRecDepth 100000 in
theorem div64_0 (lo y : Nat) (hy : Hid (y = 2305843009213693951)) (w : World) :
    Calls Tryz.prog 83 #[.int .u64 0, .int .u64 lo, .int .u64 y] w fun e w' => ∃ q : Int, Qt (.tuple #[.int .u64 q, .int .u64 ((lo % 2305843009213693951 : Nat) : Int)]) w e w' := by
  have t0 : ((y : Int) == 0) = false := by have := hy.out; simp; omega
  have t1 : decide (y = 0) = false := by have := hy.out; simp; omega
  have hy1 : 0 < y := by have := hy.out; omega
  have t3 : ((lo : Int) % (y : Int)) = ((lo % 2305843009213693951 : Nat) : Int) := by have := hy.out; subst this; omega
  have T3 := Lib.hid t3
  clear t3
  go_enter Tryz.func83, Tryz.ntmps83
  go_wp2_with (fail)
  go_quiet (fail)
  go_wp2
  go_ret2
  exact ⟨_, Qt.of (by rw [← T3.out]; rfl)⟩

theorem rem64_0 (hi lo y : Nat) (hm : Hid (((hi : Int) % (y : Int)) = 0)) (hy : Hid (y = 2305843009213693951)) (w : World) :
    Calls Tryz.prog 74 #[.int .u64 hi, .int .u64 lo, .int .u64 y] w (Qt (.int .u64 ((lo % 2305843009213693951 : Nat) : Int)) w) := by
  have hy1 : 0 < y := by have := hy.out; omega
  go_enter Tryz.func74, Tryz.ntmps74
  go_wp2_with (go_at_call 83; rw [hm.out]; refine (div64_0 lo y hy _).mono ?_; rintro e w' ⟨q, rfl, n, rfl⟩)
  go_ret
  exact Qt.some
theorem rem64_1 (hi h lo y : Nat) (hm : Hid (((hi : Int) % (y : Int)) = (h : Int))) (hpos : 0 < h) (hlt : h < y) (hl : Hid (lo < 18446744073709551616)) (hy : Hid (y = 2305843009213693951)) (w : World) :
    Calls Tryz.prog 74 #[.int .u64 hi, .int .u64 lo, .int .u64 y] w (Qt (.int .u64 (((h * 18446744073709551616 + lo) % 2305843009213693951 : Nat) : Int)) w) := by
  go_enter Tryz.func74, Tryz.ntmps74
  go_wp2_with (go_at_call 83; rw [hm.out]; refine (div64 h lo y hy hpos hlt hl _).mono ?_; rintro e w' ⟨q, rfl, rfl⟩)
  go_ret
  exact Qt.zero
theorem mod_hi (hi lo : Nat) : (hi % 2305843009213693951 * 18446744073709551616 + lo) % 2305843009213693951 = (hi * 18446744073709551616 + lo) % 2305843009213693951 := by omega
theorem imod (hi y : Nat) (hy : y = 2305843009213693951) : (hi : Int) % (y : Int) = ((hi % 2305843009213693951 : Nat) : Int) := by subst hy; omega
/-- math/bits.Rem64 at the divisor 2^61 - 1. -/
theorem rem64 (hi lo : Nat) (hl : Hid (lo < 18446744073709551616)) (y : Nat) (hy : Hid (y = 2305843009213693951)) (w : World) :
    Calls Tryz.prog 74 #[.int .u64 hi, .int .u64 lo, .int .u64 y] w (Qt (.int .u64 (((hi * 18446744073709551616 + lo) % 2305843009213693951 : Nat) : Int)) w) := by
  have hm := imod hi y hy.out
  rw [← mod_hi]
  have hlt : hi % 2305843009213693951 < y := by rw [hy.out]; exact Nat.mod_lt _ (by omega)
  generalize hi % 2305843009213693951 = h at *
  by_cases h0 : h = 0
  · subst h0
    rw [Nat.zero_mul, Nat.zero_add]
    exact rem64_0 hi lo y (Lib.hid hm) hy w
  · exact rem64_1 hi h lo y (Lib.hid hm) (by omega) hlt hl hy w
end BitsC
end Go.Proofs.YtfeahgcigmoijaaGreatDoor
/- The calls of package fp as plain arithmetic modulo 2^61 - 1; nothing of the world changes but the count of draws. Condition: the arguments fit 64 bits. -/
namespace Go.Proofs.YtfeahgcigmoijaaGreatDoor
open Go.RowKit Go.Lib
namespace FpC
open FpM
theorem P_lit : P = 2305843009213693951 := rfl
theorem parts (a b : Nat) : a * b / 18446744073709551616 * 18446744073709551616 + a * b % 18446744073709551616 = a * b := by
  have := Nat.div_add_mod (a * b) 18446744073709551616
  omega
theorem mul_any (a b : Nat) (ha : Hid (a < 18446744073709551616)) (hb : Hid (b < 18446744073709551616)) (w : World) :
    Calls Tryz.prog 61 #[.int .u64 a, .int .u64 b] w (Qt (.int .u64 (fMul a b : Int)) w) := by
  obtain ⟨h, hh⟩ : ∃ h : Nat, Hid (h = a * b / 18446744073709551616) := ⟨_, Lib.hid rfl⟩
  obtain ⟨l, hl⟩ : ∃ l : Nat, Hid (l = a * b % 18446744073709551616) := ⟨_, Lib.hid rfl⟩
  have hl2 : Hid (l < 18446744073709551616) := Lib.hid (by rw [hl.out]; exact Nat.mod_lt _ (by omega))
  have he : Hid ((h * 18446744073709551616 + l) % 2305843009213693951 = fMul a b) := Lib.hid (by rw [hh.out, hl.out, parts]; rfl)
  go_enter Tryz.func61, Tryz.ntmps61
  go_wp2_with (first | (go_at_call 73; refine (BitsC.mul64 a b ha.out hb.out _).mono ?_; rintro e w' ⟨rfl, rfl⟩; rw [← hh.out, ← hl.out]) | (go_at_call 74; refine (BitsC.rem64 h l hl2 2305843009213693951 (Lib.hid rfl) _).mono ?_; rintro e w' ⟨rfl, n, rfl⟩; rw [he.out]))
  go_ret
  exact Qt.some

theorem bit_no (m : Nat) (hm : m < 18446744073709551616) (h : m % 2 = 0) : (bits .and .u64 (m : Int) 1 == 1) = false := by
  have := bits_and_u64_nat m 1 hm (by omega)
  have e : bits .and .u64 (m : Int) 1 = ((m &&& 1 : Nat) : Int) := this
  rw [e, Nat.and_one_is_mod, h]; rfl
theorem bit_yes (m : Nat) (hm : m < 18446744073709551616) (h : m % 2 = 1) : (bits .and .u64 (m : Int) 1 == 1) = true := by
  have := bits_and_u64_nat m 1 hm (by omega)
  have e : bits .and .u64 (m : Int) 1 = ((m &&& 1 : Nat) : Int) := this
  rw [e, Nat.and_one_is_mod, h]; rfl
theorem lt64 {a : Nat} (h : a < P) : a < 18446744073709551616 := by rw [P_lit] at h; omega
/-- What holds of a, n, p at the head of a round of Pow. -/
def PowRel (a0 n0 : Nat) (w : World) (a n p : Value) (wr : World) : Prop :=
  ∃ x m q : Nat, a = .int .u64 x ∧ n = .int .u64 m ∧ p = .int .u64 q ∧ x < 18446744073709551616 ∧ m < 18446744073709551616 ∧ q < P ∧ fMul q (fPow x m) = fPow a0 n0 ∧ ∃ k, wr = w.drewN k
theorem half (m : Nat) : (m : Int) / 2 = ((m / 2 : Nat) : Int) := by omega
theorem step_yes {a0 n0 x m q : Nat} (h : fMul q (fPow x m) = fPow a0 n0) (ho : m % 2 = 1) : fMul (fMul q x) (fPow (fMul x x) (m / 2)) = fPow a0 n0 := by
  rw [← h, fPow_sq, fMul_assoc]
  congr 1
  have e : m = 2 * (m / 2) + 1 := by omega
  conv => rhs; rw [e, fPow]
  rw [fMul_comm]
theorem step_no {a0 n0 x m q : Nat} (h : fMul q (fPow x m) = fPow a0 n0) (ho : m % 2 = 0) : fMul q (fPow (fMul x x) (m / 2)) = fPow a0 n0 := by
  rw [← h, fPow_sq, show 2 * (m / 2) = m by omega]
theorem pow_any (a n : Nat) (ha : Hid (a < 18446744073709551616)) (hn : Hid (n < 18446744073709551616)) (w : World) :
    Calls Tryz.prog 35 #[.int .u64 a, .int .u64 n] w (Qt (.int .u64 (fPow a n : Int)) w) := by
  have hst : Hid (PowRel a n w (.int .u64 a) (.int .u64 n) (.int .u64 1) w) := Lib.hid
    ⟨a, n, 1, rfl, rfl, rfl, ha.out, hn.out, P_gt1, by rw [fMul_comm, fMul_one, Nat.mod_eq_of_lt (fPow_lt _ _)], 0, rfl⟩
  go_enter Tryz.func35, Tryz.ntmps35
  go_wp2_with (fail)
  go_loopw [0, 1, 5] (PowRel a n w) (fun _ m _ _ => (intOf m).toNat)
  case atStart => exact hst.out
  case round =>
    obtain ⟨x, m, q, rfl, rfl, rfl, hx, hm, hq, he, k, rfl⟩ := hrel
    have HX := Lib.hid hx
    have HM := Lib.hid hm
    have HQ := Lib.hid hq
    have HE := Lib.hid he
    clear hst hx hm hq he
    by_cases h0 : m = 0
    · have hend : Hid (q = fPow a n) := Lib.hid (by have := HE.out; rw [h0, fPow_zero, fMul_one, Nat.mod_eq_of_lt HQ.out] at this; exact this)
      have T0 : decide ((0 : Int) < m) = false := by simp; omega
      subst h0
      go_wp2_with (fail)
      go_ret
      exact Qt.of (by rw [← hend.out]; rfl)
    · have hpos : 0 < m := by omega
      by_cases ho : m % 2 = 0
      · have T1 := bit_no m HM.out ho
        have HO := Lib.hid ho
        clear ho h0
        go_wp2_with (go_at_call 61; refine (mul_any x x HX HX _).mono ?_; rintro e w' ⟨rfl, n, rfl⟩)
        go_roundw
        case rel => exact ⟨_, m / 2, q, rfl, by rw [half], rfl, lt64 (fMul_lt _ _), by have := HM.out; omega, HQ.out, step_no HE.out HO.out, _, rfl⟩
        case measure => simp [intOf]; omega
      · have T1 := bit_yes m HM.out (by omega)
        have HO := Lib.hid ho
        clear ho h0
        have HQ64 : Hid (q < 18446744073709551616) := Lib.hid (lt64 HQ.out)
        go_wp2_with (go_at_call 61; refine (mul_any _ _ (by assumption) (by assumption) _).mono ?_; rintro e w' ⟨rfl, n, rfl⟩)
        go_roundw
        case rel => exact ⟨_, m / 2, _, rfl, by rw [half], rfl, lt64 (fMul_lt _ _), by have := HM.out; omega, fMul_lt _ _, step_yes HE.out (by have := HO.out; omega), _, rfl⟩
        case measure => simp [intOf]; omega

end FpC
end Go.Proofs.YtfeahgcigmoijaaGreatDoor
