/- The numbers of the field of 2^61 - 1 elements as plain arithmetic: sums, products, powers; 37 has order 2^61 - 2, so every number but 0 is a power of it, and Fermat's equation follows; Euclid's steps give the inverse, in fewer than 100 rounds. No condition. -/
import Derived.KernelRfl
namespace Go.Proofs.YtphelljbaodhpaaDoor
namespace FpM
def P : Nat := 2305843009213693951
theorem P_pos : 0 < P := by unfold P; omega
theorem P_gt1 : 1 < P := by unfold P; omega
def fOf (a : Nat) : Nat := a % P
theorem fOf_lt (a : Nat) : fOf a < P := Nat.mod_lt _ P_pos
def fAdd (a b : Nat) : Nat := (a % P + b % P) % P
def fSub (a b : Nat) : Nat := (a % P + (P - b % P)) % P
def fMul (a b : Nat) : Nat := a * b % P
def fPow (a : Nat) : Nat → Nat
  | 0 => 1
  | n + 1 => fMul (fPow a n) a
def fInv (a : Nat) : Nat := fPow a 2305843009213693949

theorem fAdd_eq (a b : Nat) : fAdd a b = (a + b) % P := by unfold fAdd; rw [← Nat.add_mod]
theorem fAdd_lt (a b : Nat) : fAdd a b < P := Nat.mod_lt _ P_pos
theorem fSub_lt (a b : Nat) : fSub a b < P := Nat.mod_lt _ P_pos
theorem fMul_lt (a b : Nat) : fMul a b < P := Nat.mod_lt _ P_pos
theorem fPow_lt (a n : Nat) : fPow a n < P := by
  cases n with
  | zero => exact P_gt1
  | succ n => exact fMul_lt _ _
theorem fInv_lt (a : Nat) : fInv a < P := fPow_lt _ _
theorem fPow_eq (a n : Nat) : fPow a n = a ^ n % P := by
  induction n with
  | zero => rw [Nat.pow_zero, Nat.mod_eq_of_lt P_gt1]; rfl
  | succ n ih => rw [fPow, ih, fMul, Nat.mod_mul_mod, Nat.pow_succ]
theorem fMul_comm (a b : Nat) : fMul a b = fMul b a := by unfold fMul; rw [Nat.mul_comm]
theorem fMul_mod_l (a b : Nat) : fMul (a % P) b = fMul a b := by unfold fMul; rw [Nat.mod_mul_mod]
theorem fMul_mod_r (a b : Nat) : fMul a (b % P) = fMul a b := by unfold fMul; rw [Nat.mul_mod_mod]
theorem fMul_assoc (a b c : Nat) : fMul (fMul a b) c = fMul a (fMul b c) := by
  unfold fMul; rw [Nat.mod_mul_mod, Nat.mul_mod_mod, Nat.mul_assoc]
theorem fMul_one (a : Nat) : fMul a 1 = a % P := by unfold fMul; rw [Nat.mul_one]
theorem fMul_zero (a : Nat) : fMul a 0 = 0 := by unfold fMul; rw [Nat.mul_zero, Nat.zero_mod]
theorem fAdd_comm (a b : Nat) : fAdd a b = fAdd b a := by unfold fAdd; rw [Nat.add_comm]
theorem fAdd_mod_l (a b : Nat) : fAdd (a % P) b = fAdd a b := by unfold fAdd; rw [Nat.mod_mod]
theorem fAdd_mod_r (a b : Nat) : fAdd a (b % P) = fAdd a b := by unfold fAdd; rw [Nat.mod_mod]
theorem fAdd_assoc (a b c : Nat) : fAdd (fAdd a b) c = fAdd a (fAdd b c) := by
  rw [fAdd_eq, fAdd_eq a b, fAdd_eq a, fAdd_eq b c, Nat.mod_add_mod, Nat.add_mod_mod, Nat.add_assoc]
theorem fAdd_zero (a : Nat) : fAdd a 0 = a % P := by rw [fAdd_eq, Nat.add_zero]
theorem fMul_add (a b c : Nat) : fMul a (fAdd b c) = fAdd (fMul a b) (fMul a c) := by
  rw [fAdd_eq b c, fMul_mod_r, fAdd_eq]; unfold fMul; rw [← Nat.add_mod, Nat.mul_add]
theorem fSub_add (a b : Nat) : fAdd (fSub a b) b = a % P := by
  rw [fAdd_eq, fSub, Nat.mod_add_mod]
  have h := Nat.mod_lt b P_pos
  have e := Nat.div_add_mod b P
  have e2 : a % P + (P - b % P) + b = a % P + P * (b / P) + P := by omega
  rw [e2, Nat.add_mod_right, Nat.add_mul_mod_self_left, Nat.mod_mod]
theorem fAdd_sub (a b : Nat) : fSub (fAdd a b) b = a % P := by
  rw [fSub, Nat.mod_eq_of_lt (fAdd_lt a b), fAdd_eq, Nat.mod_add_mod]
  have h := Nat.mod_lt b P_pos
  have e := Nat.div_add_mod b P
  have e2 : a + b + (P - b % P) = a + P * (b / P) + P := by omega
  rw [e2, Nat.add_mod_right, Nat.add_mul_mod_self_left]
theorem fPow_add (a m n : Nat) : fMul (fPow a m) (fPow a n) = fPow a (m + n) := by
  rw [fPow_eq, fPow_eq, fPow_eq, fMul_mod_l, fMul_mod_r, fMul, Nat.pow_add]
theorem fPow_mul (a m n : Nat) : fPow (fPow a m) n = fPow a (m * n) := by
  rw [fPow_eq (fPow a m), fPow_eq a m, fPow_eq, ← Nat.pow_mod, Nat.pow_mul]
theorem fPow_mod (a n : Nat) : fPow (a % P) n = fPow a n := by rw [fPow_eq, fPow_eq, ← Nat.pow_mod]
theorem fPow_zero (a : Nat) : fPow a 0 = 1 := rfl
theorem fPow_one (a : Nat) : fPow a 1 = a % P := by rw [fPow_eq, Nat.pow_one]
theorem fPow_two (a : Nat) : fPow a 2 = fMul a a := by rw [fPow_eq, fMul, Nat.pow_two]
theorem fPow_sq (a n : Nat) : fPow (fMul a a) n = fPow a (2 * n) := by rw [← fPow_two, fPow_mul]

/-- Powers by squaring, which the kernel can reckon. -/
def fast : Nat → Nat → Nat → Nat → Nat
  | 0, _, _, p => p
  | k + 1, a, n, p => fast k (fMul a a) (n / 2) (if n % 2 = 1 then fMul p a else p)
theorem fast_eq (k : Nat) : ∀ a n p, n < 2 ^ k → p < P → fast k a n p = fMul p (fPow a n) := by
  induction k with
  | zero => intro a n p h hp; obtain rfl : n = 0 := by simpa using h
            rw [fast, fPow, fMul_one, Nat.mod_eq_of_lt hp]
  | succ k ih =>
    intro a n p h hp
    rw [fast, ih _ _ _ (by rw [Nat.pow_succ] at h; omega) (by split <;> first | exact fMul_lt _ _ | exact hp), fPow_sq]
    by_cases ho : n % 2 = 1
    · rw [if_pos ho]
      have : n = 2 * (n / 2) + 1 := by omega
      rw [fMul_assoc]
      conv => rhs; rw [this, fPow]
      rw [fMul_comm a]
    · rw [if_neg ho]
      have : 2 * (n / 2) = n := by omega
      rw [this]
theorem fPow_fast (a n : Nat) (h : n < 2 ^ 64) : fPow a n = fast 64 a n 1 := by
  rw [fast_eq 64 a n 1 h P_gt1, fMul_comm, fMul_one, Nat.mod_eq_of_lt (fPow_lt _ _)]

/-! ### 37 has order P - 1 -/
def g : Nat := 37
theorem g_full : fPow g 2305843009213693950 = 1 := by rw [fPow_fast _ _ (by omega)]; kernel_rfl
theorem g_q {n : Nat} (h : n < 2 ^ 64) (hf : (fast 64 g n 1 == 1) = false) : fPow g n ≠ 1 := by
  rw [fPow_fast _ _ h]; intro e; rw [e] at hf; exact absurd hf (by decide)
theorem mul_dvd (m : Nat) (hm : m ∣ 2305843009213693950) (hlt : m < 2305843009213693950) :
    ∃ q ∈ [2, 3, 5, 7, 11, 13, 31, 41, 61, 151, 331, 1321], m ∣ 2305843009213693950 / q := by
  obtain ⟨k, hk⟩ := hm
  by_cases hall : ∀ q ∈ [2, 3, 5, 7, 11, 13, 31, 41, 61, 151, 331, 1321], Nat.gcd k q = 1
  · exfalso
    have c2 : Nat.Coprime k 2 := hall 2 (by simp)
    have c3 : Nat.Coprime k 3 := hall 3 (by simp)
    have c5 : Nat.Coprime k 5 := hall 5 (by simp)
    have c7 : Nat.Coprime k 7 := hall 7 (by simp)
    have c11 : Nat.Coprime k 11 := hall 11 (by simp)
    have c13 : Nat.Coprime k 13 := hall 13 (by simp)
    have c31 : Nat.Coprime k 31 := hall 31 (by simp)
    have c41 : Nat.Coprime k 41 := hall 41 (by simp)
    have c61 : Nat.Coprime k 61 := hall 61 (by simp)
    have c151 : Nat.Coprime k 151 := hall 151 (by simp)
    have c331 : Nat.Coprime k 331 := hall 331 (by simp)
    have c1321 : Nat.Coprime k 1321 := hall 1321 (by simp)
    have hc : Nat.Coprime k (2 * (3 * 3) * (5 * 5) * 7 * 11 * 13 * 31 * 41 * 61 * 151 * 331 * 1321) :=
      (((((((((((c2.mul_right (c3.mul_right c3)).mul_right (c5.mul_right c5)).mul_right c7).mul_right c11).mul_right c13).mul_right c31).mul_right c41).mul_right c61).mul_right c151).mul_right c331).mul_right c1321)
    have he : 2 * (3 * 3) * (5 * 5) * 7 * 11 * 13 * 31 * 41 * 61 * 151 * 331 * 1321 = 2305843009213693950 := by kernel_rfl
    rw [he, hk, Nat.Coprime, Nat.gcd_mul_left_right] at hc
    subst hc
    omega
  · have : ∃ q ∈ [2, 3, 5, 7, 11, 13, 31, 41, 61, 151, 331, 1321], Nat.gcd k q ≠ 1 := by
      refine Classical.byContradiction fun hno => hall fun q hq => ?_
      exact Classical.byContradiction fun hne => hno ⟨q, hq, hne⟩
    obtain ⟨q, hq, hg⟩ := this
    refine ⟨q, hq, ?_⟩
    have hpr : ∀ q ∈ [2, 3, 5, 7, 11, 13, 31, 41, 61, 151, 331, 1321], ∀ d < q + 1, q % d = 0 → d = 1 ∨ d = q := by
      have : ([2, 3, 5, 7, 11, 13, 31, 41, 61, 151, 331, 1321].all fun q => (List.range (q + 1)).all fun d => q % d != 0 || d == 1 || d == q) = true := by kernel_rfl
      intro q hq d hd h0
      have h1 := List.all_eq_true.1 (List.all_eq_true.1 this q hq) d (List.mem_range.2 hd)
      simpa [h0] using h1
    have hqpos : 0 < q := by
      simp at hq; omega
    have hgd := Nat.gcd_dvd_right k q
    have := hpr q hq (Nat.gcd k q) (by have := Nat.le_of_dvd hqpos hgd; omega) (Nat.mod_eq_zero_of_dvd hgd)
    have hgq : Nat.gcd k q = q := by rcases this with h | h; exact absurd h hg; exact h
    obtain ⟨j, hj⟩ := Nat.gcd_dvd_left k q
    rw [hgq] at hj
    refine ⟨j, ?_⟩
    rw [hk, hj, show m * (q * j) = q * (m * j) by rw [← Nat.mul_assoc, Nat.mul_comm m q, Nat.mul_assoc], Nat.mul_div_cancel_left _ hqpos]
theorem g_pow_mul (m k : Nat) (h : fPow g m = 1) : fPow g (m * k) = 1 := by
  rw [← fPow_mul, h]
  induction k with
  | zero => rfl
  | succ k ih => rw [fPow, ih, fMul_one, Nat.mod_eq_of_lt P_gt1]
theorem g_order (m : Nat) : 0 < m → m < 2305843009213693950 → fPow g m ≠ 1 := by
  induction m using Nat.strongRecOn with
  | ind m ih =>
    intro h0 hlt h1
    have hr : fPow g (2305843009213693950 % m) = 1 := by
      have e := Nat.div_add_mod 2305843009213693950 m
      have h2 := g_full
      rw [← e, ← fPow_add, g_pow_mul _ _ h1, fMul_comm, fMul_one, Nat.mod_eq_of_lt (fPow_lt _ _)] at h2
      exact h2
    have hml := Nat.mod_lt 2305843009213693950 h0
    by_cases hz : 2305843009213693950 % m = 0
    · obtain ⟨q, hq, hd⟩ := mul_dvd m (Nat.dvd_of_mod_eq_zero hz) hlt
      obtain ⟨j, hj⟩ := hd
      have hone : fPow g (2305843009213693950 / q) = 1 := by rw [hj]; exact g_pow_mul _ _ h1
      revert hone
      simp only [List.mem_cons, List.not_mem_nil, or_false] at hq
      rcases hq with rfl | rfl | rfl | rfl | rfl | rfl | rfl | rfl | rfl | rfl | rfl | rfl
      all_goals exact g_q (by omega) (by kernel_rfl)
    · exact ih _ hml (by omega) (by omega) hr

/-- A one-to-one map of the first n numbers into themselves meets each. -/
theorem onto (n : Nat) : ∀ f : Nat → Nat, (∀ i, i < n → f i < n) → (∀ i j, i < n → j < n → f i = f j → i = j) → ∀ m, m < n → ∃ i, i < n ∧ f i = m := by
  induction n with
  | zero => intro f _ _ m h; omega
  | succ n ih =>
    intro f hf hi m hm
    have key := ih (fun i => if f i = n then f n else f i) ?_ ?_
    · by_cases hmt : f n = m
      · exact ⟨n, by omega, hmt⟩
      · by_cases hmn : m = n
        · subst hmn
          have ht : f m < m := by have := hf m (by omega); omega
          obtain ⟨i, hil, hie⟩ := key (f m) ht
          by_cases h : f i = m
          · exact ⟨i, by omega, h⟩
          · simp only [if_neg h] at hie
            have := hi i m (by omega) (by omega) hie
            omega
        · obtain ⟨i, hil, hie⟩ := key m (by omega)
          by_cases h : f i = n
          · simp only [if_pos h] at hie; exact absurd hie hmt
          · simp only [if_neg h] at hie; exact ⟨i, by omega, hie⟩
    · intro i hil
      have h1 := hf i (by omega)
      have h2 := hf n (by omega)
      show (if f i = n then f n else f i) < n
      split
      · rename_i h
        have : f n ≠ n := fun e => by have := hi i n (by omega) (by omega) (by rw [h, e]); omega
        omega
      · omega
    · intro i j hil hjl he
      have he' : (if f i = n then f n else f i) = (if f j = n then f n else f j) := he
      have a1 := hi i j (by omega) (by omega)
      have a2 := hi n j (by omega) (by omega)
      have a3 := hi i n (by omega) (by omega)
      split at he' <;> split at he'
      · rename_i h1 h2; exact a1 (by rw [h1, h2])
      · have := a2 he'; omega
      · have := a3 he'; omega
      · exact a1 he'

theorem g_ne0 (k : Nat) (h : k ≤ 2305843009213693950) : fPow g k ≠ 0 := by
  intro e
  have := fPow_add g k (2305843009213693950 - k)
  rw [show k + (2305843009213693950 - k) = 2305843009213693950 by omega, g_full, e, fMul_comm, fMul_zero] at this
  omega
theorem g_inj {i j : Nat} (hij : i < j) (hj : j < 2305843009213693950) : fPow g i ≠ fPow g j := by
  intro e
  have h1 := fPow_add g i (2305843009213693950 - i)
  rw [show i + (2305843009213693950 - i) = 2305843009213693950 by omega, g_full, e, fPow_add] at h1
  rw [show j + (2305843009213693950 - i) = 2305843009213693950 + (j - i) by omega, ← fPow_add, g_full, fMul_comm, fMul_one, Nat.mod_eq_of_lt (fPow_lt _ _)] at h1
  exact g_order (j - i) (by omega) (by omega) h1
theorem is_power (a : Nat) (h0 : a % P ≠ 0) : ∃ k, fPow g k = a % P := by
  have hP : P = 2305843009213693951 := rfl
  have hlt := Nat.mod_lt a P_pos
  obtain ⟨i, _, he⟩ := onto 2305843009213693950 (fun i => fPow g i - 1)
    (fun i hi => by have h1 := fPow_lt g i; have h2 := g_ne0 i (by omega); show fPow g i - 1 < _; omega)
    (fun i j hi hj he => by
      have e : fPow g i - 1 = fPow g j - 1 := he
      have h1 := g_ne0 i (by omega); have h2 := g_ne0 j (by omega)
      have e2 : fPow g i = fPow g j := by omega
      rcases Nat.lt_trichotomy i j with h | h | h
      · exact absurd e2 (g_inj h hj)
      · exact h
      · exact absurd e2.symm (g_inj h hi))
    (a % P - 1) (by omega)
  have e : fPow g i - 1 = a % P - 1 := he
  have h2 := g_ne0 i (by omega)
  exact ⟨i, by omega⟩
/-- Fermat. -/
theorem fermat (a : Nat) (h0 : a % P ≠ 0) : fPow a 2305843009213693950 = 1 := by
  obtain ⟨k, hk⟩ := is_power a h0
  rw [← fPow_mod, ← hk, fPow_mul, Nat.mul_comm, g_pow_mul _ _ g_full]
theorem fInv_mul (a : Nat) (h0 : a % P ≠ 0) : fMul (fInv a) a = 1 := by
  have h := fermat a h0
  rw [show 2305843009213693950 = 2305843009213693949 + 1 by omega, fPow] at h
  exact h
theorem fPow_P (a : Nat) : fPow a 2305843009213693951 = a % P := by
  by_cases h0 : a % P = 0
  · rw [h0, show 2305843009213693951 = 2305843009213693950 + 1 by omega, fPow, ← fMul_mod_r, h0, fMul_zero]
  · rw [show 2305843009213693951 = 2305843009213693950 + 1 by omega, fPow, fermat a h0, fMul_comm, fMul_one]
theorem fInv_zero (a : Nat) (h0 : a % P = 0) : fInv a = 0 := by
  rw [fInv, show 2305843009213693949 = 2305843009213693948 + 1 by omega, fPow, ← fMul_mod_r, h0, fMul_zero]
theorem inv_unique (x a : Nat) (hx : x < P) (h : fMul x a = 1) : x = fInv a := by
  have h0 : a % P ≠ 0 := by
    intro e; rw [← fMul_mod_r, e, fMul_zero] at h; omega
  have h1 := fInv_mul a h0
  have h2 := fMul_assoc x a (fInv a)
  rw [h, fMul_comm a, h1, fMul_one, fMul_comm, fMul_one, Nat.mod_eq_of_lt hx, Nat.mod_eq_of_lt (fInv_lt a)] at h2
  exact h2.symm
theorem div_mul (a b : Nat) (h0 : b % P ≠ 0) : fMul (fMul a (fInv b)) b = a % P := by
  rw [fMul_assoc, fInv_mul b h0, fMul_one]

/-! ### Euclid's steps -/
def fib : Nat → Nat
  | 0 => 0
  | 1 => 1
  | n + 2 => fib n + fib (n + 1)
def fibs : Nat → Nat × Nat
  | 0 => (0, 1)
  | n + 1 => ((fibs n).2, (fibs n).1 + (fibs n).2)
theorem fibs_eq (n : Nat) : fibs n = (fib n, fib (n + 1)) := by
  induction n with
  | zero => rfl
  | succ n ih => rw [fibs, ih]; rfl
theorem fib_100 : P < fib 101 := by
  have h : (fibs 101).1 = fib 101 := by rw [fibs_eq]
  have h2 : ((fibs 101).1).blt (P + 1) = false := by kernel_rfl
  rw [← h]
  rcases Nat.lt_or_ge (fibs 101).1 (P + 1) with h3 | h3
  · have h4 : (fibs 101).1.blt (P + 1) = true := by rw [Nat.blt_eq]; exact h3
    rw [h4] at h2; exact absurd h2 (by decide)
  · omega
/-- What holds of r, s, x, y at the head of round i. -/
structure Eu (a i r s x y : Nat) : Prop where
  gr : s < r
  rP : r ≤ P
  xP : x < P
  yP : y < P
  fb : r * fib (i + 1) + s * fib i ≤ P
  ex : fMul x a = r % P
  ey : fMul y a = s % P
  gc : Nat.gcd r s = Nat.gcd P (a % P)
theorem Eu.start (a : Nat) : Eu a 0 P (a % P) 0 1 :=
  ⟨Nat.mod_lt _ P_pos, Nat.le_refl _, P_pos, P_gt1, by show P * 1 + (a % P) * 0 ≤ P; omega, by rw [fMul_comm, fMul_zero, Nat.mod_self], by rw [fMul_comm, fMul_one, Nat.mod_mod], rfl⟩
theorem quo_sub (r s : Nat) : r - r / s * s = r % s := by
  have := Nat.div_add_mod r s; rw [Nat.mul_comm] at this; omega
theorem fSub_mul (x q y a : Nat) : fMul (fSub x (fMul q y)) a = fSub (fMul x a) (fMul q (fMul y a)) := by
  have h1 : fAdd (fMul (fSub x (fMul q y)) a) (fMul q (fMul y a)) = fMul x a := by
    rw [← fMul_assoc, fMul_comm _ a, fMul_comm _ a, ← fMul_add, fSub_add, fMul_mod_r, fMul_comm]
  rw [← h1, fAdd_sub, Nat.mod_eq_of_lt (fMul_lt _ _)]
theorem fSub_nat (r m : Nat) (h : m ≤ r) : fSub (r % P) (m % P) = (r - m) % P := by
  have e : r = (r - m) + m := by omega
  have h1 : fAdd (r - m) m = r % P := by rw [fAdd_eq, ← e]
  have h2 : fSub (fAdd (r - m) m) m = (r - m) % P := fAdd_sub _ _
  rw [h1] at h2
  rw [← h2]
  unfold fSub
  rw [Nat.mod_mod]
  rw [Nat.mod_mod]
theorem Eu.step {a i r s x y : Nat} (h : Eu a i r s x y) (hs : 0 < s) : Eu a (i + 1) s (r % s) y (fSub x (fMul (r / s) y)) := by
  have hq : 1 ≤ r / s := (Nat.one_le_div_iff hs).2 (Nat.le_of_lt h.gr)
  have he := Nat.div_add_mod r s
  have hle : s + r % s ≤ r := by
    have : s * 1 ≤ s * (r / s) := Nat.mul_le_mul_left _ hq
    omega
  refine ⟨Nat.mod_lt _ hs, by have := h.gr; have := h.rP; omega, h.yP, fSub_lt _ _, ?_, h.ey, ?_, ?_⟩
  · have hb := h.fb
    have e2 : fib (i + 1 + 1) = fib i + fib (i + 1) := rfl
    rw [e2]
    have h3 : (s + r % s) * fib (i + 1) ≤ r * fib (i + 1) := Nat.mul_le_mul_right _ hle
    rw [Nat.mul_add]
    rw [Nat.add_mul] at h3
    omega
  · rw [fSub_mul, h.ex, h.ey, fMul_mod_r]
    have : fMul (r / s) s = (r / s * s) % P := rfl
    rw [this, fSub_nat _ _ (by rw [Nat.mul_comm]; omega), quo_sub]
  · rw [← h.gc, Nat.gcd_comm r s, Nat.gcd_rec s r, Nat.gcd_comm]
theorem Eu.short {a i r s x y : Nat} (h : Eu a i r s x y) : i < 100 := by
  rcases Nat.lt_or_ge i 100 with hl | hl
  · exact hl
  · exfalso
    have hm : ∀ m n, m ≤ n → fib m ≤ fib n := by
      intro m n hmn
      induction n with
      | zero => obtain rfl : m = 0 := by omega
                exact Nat.le_refl _
      | succ n ih =>
        rcases Nat.lt_or_ge m (n + 1) with h1 | h1
        · refine Nat.le_trans (ih (by omega)) ?_
          cases n with
          | zero => exact Nat.zero_le _
          | succ n => show fib (n + 1) ≤ fib n + fib (n + 1); omega
        · obtain rfl : m = n + 1 := by omega
          exact Nat.le_refl _
    have h1 := hm 101 (i + 1) (by omega)
    have h2 := fib_100
    have h3 := h.fb
    have h4 : 1 * fib (i + 1) ≤ r * fib (i + 1) := Nat.mul_le_mul_right _ (by have := h.gr; omega)
    omega
theorem Eu.done {a i r x y : Nat} (h : Eu a i r 0 x y) : (a % P = 0 → r ≠ 1) ∧ (a % P ≠ 0 → r = 1 ∧ x = fInv a) := by
  have hg := h.gc
  rw [Nat.gcd_zero_right] at hg
  constructor
  · intro h0; rw [h0, Nat.gcd_zero_right] at hg; have := P_gt1; omega
  · intro h0
    have h1 : Nat.gcd P (a % P) = 1 := by
      have hd1 := Nat.gcd_dvd_left P (a % P)
      have hd2 := Nat.gcd_dvd_right P (a % P)
      have hm : fInv a * (a % P) % P = 1 := by have := fInv_mul a h0; rw [← fMul_mod_r] at this; exact this
      have he := Nat.div_add_mod (fInv a * (a % P)) P
      rw [hm] at he
      have hd3 : Nat.gcd P (a % P) ∣ P * (fInv a * (a % P) / P) + 1 := by rw [he]; exact Nat.dvd_mul_left_of_dvd hd2 _
      exact Nat.dvd_one.1 ((Nat.dvd_add_right (Nat.dvd_mul_right_of_dvd hd1 _)).1 hd3)
    have hr : r = 1 := by rw [hg, h1]
    refine ⟨hr, inv_unique x a h.xP ?_⟩
    rw [h.ex, hr, Nat.mod_eq_of_lt P_gt1]
end FpM
end Go.Proofs.YtphelljbaodhpaaDoor
