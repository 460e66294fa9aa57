/- Plain mathematics of the tree of sums (a Fenwick tree): the lowest one of a number, which sums a block reaches, how sums are laid, asked, found. No program. -/
namespace Go.Proofs.Ytmbcinbkijnblaa.V1.Fen

/-! The lowest one of a number. -/
def lbF : Nat → Nat → Nat
  | 0, _ => 0
  | f + 1, n => if n % 2 = 1 then 1 else 2 * lbF f (n / 2)
def lb (n : Nat) : Nat := lbF n n

theorem lbF_zero (f : Nat) : lbF f 0 = 0 := by
  induction f with
  | zero => rfl
  | succ f ih => simp [lbF, ih]

theorem lbF_enough (f : Nat) : ∀ g n, n ≤ f → n ≤ g → lbF f n = lbF g n := by
  induction f with
  | zero => intro g n h _; have : n = 0 := by omega
            subst this; rw [lbF_zero, lbF_zero]
  | succ f ih =>
    intro g n h h'
    cases g with
    | zero => have : n = 0 := by omega
              subst this; rw [lbF_zero, lbF_zero]
    | succ g =>
      by_cases h0 : n = 0
      · subst h0; rw [lbF_zero, lbF_zero]
      · simp only [lbF]
        by_cases h1 : n % 2 = 1
        · simp [h1]
        · simp only [h1, if_false]
          rw [ih g (n / 2) (by omega) (by omega)]

theorem lb_zero : lb 0 = 0 := rfl
theorem lb_odd (n : Nat) : lb (2 * n + 1) = 1 := by
  unfold lb
  simp [lbF]
theorem lb_even (n : Nat) : lb (2 * n) = 2 * lb n := by
  rcases Nat.eq_zero_or_pos n with rfl | h
  · rfl
  · obtain ⟨m, hm⟩ : ∃ m, 2 * n = m + 1 := ⟨2 * n - 1, by omega⟩
    have e : lb (2 * n) = 2 * lbF m n := by
      unfold lb
      rw [hm]
      simp only [lbF]
      rw [if_neg (by omega), show (m + 1) / 2 = n by omega]
    rw [e]
    unfold lb
    rw [lbF_enough m n n (by omega) (by omega)]

theorem halves {P : Nat → Prop} (h0 : P 0) (he : ∀ n, 0 < n → P n → P (2 * n)) (ho : ∀ n, P n → P (2 * n + 1)) : ∀ n, P n := by
  intro n
  induction n using Nat.strongRecOn with
  | ind n ih =>
    rcases Nat.eq_zero_or_pos n with rfl | hp
    · exact h0
    · rcases Nat.mod_two_eq_zero_or_one n with h | h
      · have e : n = 2 * (n / 2) := by omega
        rw [e]; exact he _ (by omega) (ih _ (by omega))
      · have e : n = 2 * (n / 2) + 1 := by omega
        rw [e]; exact ho _ (ih _ (by omega))

theorem lb_pos (n : Nat) : 0 < n → 0 < lb n := by
  induction n using halves with
  | h0 => intro h; omega
  | he n hn ih => intro _; rw [lb_even]; have := ih hn; omega
  | ho n _ => intro _; rw [lb_odd]; omega

theorem lb_le (n : Nat) : lb n ≤ n := by
  induction n using halves with
  | h0 => simp [lb_zero]
  | he n _ ih => rw [lb_even]; omega
  | ho n _ => rw [lb_odd]; omega

/-- (B): one step up keeps what is covered. -/
theorem lb_up (n : Nat) : 0 < n → n + lb n - lb (n + lb n) ≤ n - lb n := by
  induction n using halves with
  | h0 => intro h; omega
  | he n hn ih =>
    intro _
    have h1 := ih hn
    rw [lb_even, show 2 * n + 2 * lb n = 2 * (n + lb n) by omega, lb_even]; omega
  | ho n ih =>
    intro _
    rw [lb_odd, show 2 * n + 1 + 1 = 2 * (n + 1) by omega, lb_even]
    have := lb_pos (n + 1) (by omega)
    omega

/-- (A): what stands between a place and the next one up begins no earlier than that place. -/
theorem lb_between (n : Nat) : ∀ j, n < j → j < n + lb n → n ≤ j - lb j := by
  induction n using halves with
  | h0 => intro j _ h; simp [lb_zero] at h
  | he n hn ih =>
    intro j h1 h2
    rw [lb_even] at h2
    rcases Nat.mod_two_eq_zero_or_one j with h | h
    · have e : j = 2 * (j / 2) := by omega
      have := ih (j / 2) (by omega) (by omega)
      rw [e, lb_even]; omega
    · have e : j = 2 * (j / 2) + 1 := by omega
      rw [e, lb_odd]; omega
  | ho n _ => intro j h1 h2; rw [lb_odd] at h2; omega

theorem lb_step (b : Nat) : ∀ k, lb (2 ^ k * (2 * b + 1)) = 2 ^ k := by
  intro k
  induction k with
  | zero => simp [lb_odd]
  | succ k ih => rw [show 2 ^ (k + 1) * (2 * b + 1) = 2 * (2 ^ k * (2 * b + 1)) by rw [Nat.pow_succ]; simp [Nat.mul_comm, Nat.mul_left_comm], lb_even, ih, Nat.pow_succ]; omega

/-! What the sums of a row of numbers are. C n: the sum of the first n. -/
def C (c : Nat → Nat) : Nat → Nat
  | 0 => 0
  | n + 1 => C c n + c n
def fen (c : Nat → Nat) (j : Nat) : Nat := C c j - C c (j - lb j)

theorem C_mono (c : Nat → Nat) {a b : Nat} (h : a ≤ b) : C c a ≤ C c b := by
  induction h with
  | refl => exact Nat.le_refl _
  | step _ ih => exact Nat.le_trans ih (by simp [C])

theorem C_ext {c d : Nat → Nat} {n : Nat} (h : ∀ i, i < n → c i = d i) : C c n = C d n := by
  induction n with
  | zero => rfl
  | succ n ih => simp only [C]; rw [ih (fun i hi => h i (by omega)), h n (by omega)]

/-- One number more by d: all sums behind it are more by d. -/
theorem C_add {c c' : Nat → Nat} {p : Nat} {d : Nat} (hp : c' p = c p + d) (h : ∀ i, i ≠ p → c' i = c i) (n : Nat) :
    C c' n = C c n + if p < n then d else 0 := by
  induction n with
  | zero => simp [C]
  | succ n ih =>
    simp only [C]
    rw [ih]
    by_cases hn : n = p
    · subst hn; rw [hp]; simp; omega
    · rw [h n hn]
      by_cases h1 : p < n
      · rw [if_pos h1, if_pos (by omega)]; omega
      · rw [if_neg h1, if_neg (by omega)]; omega

theorem fen_add {c c' : Nat → Nat} {p : Nat} {d : Nat} (hp : c' p = c p + d) (h : ∀ i, i ≠ p → c' i = c i) (j : Nat) :
    fen c' j = fen c j + if j - lb j ≤ p ∧ p < j then d else 0 := by
  unfold fen
  rw [C_add hp h, C_add hp h]
  have h1 := C_mono c (show j - lb j ≤ j by omega)
  by_cases a : p < j
  · by_cases b : p < j - lb j
    · rw [if_pos a, if_pos b, if_neg (by omega)]; omega
    · rw [if_pos a, if_neg b, if_pos ⟨by omega, a⟩]; omega
  · rw [if_neg a, if_neg (by omega), if_neg (by omega)]; omega

/-! How sums are laid: up to i each sum was given on; up f i j tells how far the sum at j reaches then. -/
def upto : Nat → Nat → Nat
  | 0, j => j - lb j
  | i + 1, j => if i + lb i = j then i else upto i j

theorem upto_odd (i n : Nat) : upto i (2 * n + 1) = 2 * n := by
  induction i with
  | zero => simp [upto, lb_odd]
  | succ i ih =>
    simp only [upto]
    rw [if_neg, ih]
    rcases Nat.mod_two_eq_zero_or_one i with h | h
    · have e : i = 2 * (i / 2) := by omega
      rw [e, lb_even]; omega
    · have e : i = 2 * (i / 2) + 1 := by omega
      rw [e, lb_odd]; omega

theorem upto_even (a : Nat) : ∀ b, a < b → upto (2 * a) (2 * b) = 2 * upto a b := by
  induction a with
  | zero => intro b _; simp only [upto]; rw [lb_even]; omega
  | succ a ih =>
    intro b hb
    rw [show 2 * (a + 1) = 2 * a + 1 + 1 by omega]
    simp only [upto]
    rw [lb_odd, lb_even, if_neg (by omega), ih b (by omega)]
    by_cases h : a + lb a = b
    · rw [if_pos (by omega), if_pos h]
    · rw [if_neg (by omega), if_neg h]

theorem upto_self (i : Nat) (h : 0 < i) : upto i i = i - 1 := by
  rcases Nat.mod_two_eq_zero_or_one i with hm | hm
  · obtain ⟨a, rfl⟩ : ∃ a, i = 2 * a + 1 + 1 := ⟨i / 2 - 1, by omega⟩
    simp only [upto]
    rw [lb_odd, if_pos (by omega)]; omega
  · have e : i = 2 * (i / 2) + 1 := by omega
    rw [e, upto_odd]; omega

theorem upto_next (i : Nat) : 0 < i → upto i (i + lb i) = i - lb i := by
  induction i using halves with
  | h0 => intro h; omega
  | he a ha ih =>
    intro _
    have hp := lb_pos a ha
    rw [lb_even, show 2 * a + 2 * lb a = 2 * (a + lb a) by omega, upto_even _ _ (by omega), ih ha]; omega
  | ho q _ =>
    intro _
    rw [lb_odd, show 2 * q + 1 + 1 = 2 * (q + 1) by omega]
    show (if 2 * q + lb (2 * q) = 2 * (q + 1) then 2 * q else upto (2 * q) (2 * (q + 1))) = _
    rw [upto_even _ _ (by omega), lb_even]
    have h1 := upto_self (q + 1) (by omega)
    simp only [upto] at h1
    by_cases h : q + lb q = q + 1
    · rw [if_pos (by omega)]; omega
    · rw [if_neg h] at h1
      rw [if_neg (by omega)]; omega

theorem upto_le (i j : Nat) : upto i j ≤ j := by
  induction i with
  | zero => simp [upto]
  | succ i ih =>
    simp only [upto]
    by_cases h : i + lb i = j
    · rw [if_pos h]; omega
    · rw [if_neg h]; exact ih

theorem upto_ge (i j : Nat) : j - lb j ≤ upto i j := by
  induction i with
  | zero => simp [upto]
  | succ i ih =>
    simp only [upto]
    by_cases h : i + lb i = j
    · rw [if_pos h]
      subst h
      rcases Nat.eq_zero_or_pos i with rfl | h0
      · simp [lb_zero]
      · have := lb_up i h0; omega
    · rw [if_neg h]; exact ih

/-- What stands at j when all ahead of i were given on. -/
def part (c : Nat → Nat) (i j : Nat) : Nat := if j = 0 then 0 else c (j - 1) + (C c (upto i j) - C c (j - lb j))

theorem part_one (c : Nat → Nat) (j : Nat) (h : 0 < j) : part c 1 j = c (j - 1) := by
  unfold part
  rw [if_neg (by omega)]
  simp only [upto]
  rw [lb_zero, if_neg (by omega)]; omega

theorem part_self (c : Nat → Nat) (i : Nat) (h : 0 < i) : part c i i = fen c i := by
  unfold part fen
  rw [if_neg (by omega), upto_self i h]
  have h1 := lb_pos i h
  have h2 := C_mono c (show i - lb i ≤ i - 1 by omega)
  have e : C c i = C c (i - 1) + c (i - 1) := by
    obtain ⟨k, rfl⟩ : ∃ k, i = k + 1 := ⟨i - 1, by omega⟩
    rfl
  omega

theorem part_next (c : Nat → Nat) (i : Nat) (h : 0 < i) : part c (i + 1) (i + lb i) = part c i (i + lb i) + fen c i := by
  unfold part fen
  rw [if_neg (by omega), if_neg (by omega), upto_next i h]
  simp only [upto, if_true]
  have h1 := lb_up i h
  have h2 := C_mono c h1
  have h3 := C_mono c (show i - lb i ≤ i by omega)
  omega

theorem part_other (c : Nat → Nat) (i j : Nat) (h : j ≠ i + lb i) : part c (i + 1) j = part c i j := by
  have e : upto (i + 1) j = upto i j := by
    simp only [upto]
    rw [if_neg (fun e => h e.symm)]
  unfold part
  rw [e]

/-- Behind its own place a sum turns no more. -/
theorem part_done (c : Nat → Nat) (j : Nat) (h : 0 < j) : ∀ i, j ≤ i → part c i j = fen c j := by
  intro i hi
  induction hi with
  | refl => exact part_self c j h
  | step hi ih =>
    rename_i m
    rw [part_other, ih]
    have hm : j ≤ m := hi
    have := lb_pos m (by omega)
    omega

theorem upto_lt (i j : Nat) (h : 0 < j) : upto i j ≤ j - 1 := by
  induction i with
  | zero => have := lb_pos j h; simp only [upto]; omega
  | succ i ih =>
    simp only [upto]
    by_cases e : i + lb i = j
    · rw [if_pos e]
      rcases Nat.eq_zero_or_pos i with h0 | h0
      · omega
      · have := lb_pos i h0; omega
    · rw [if_neg e]; exact ih
theorem part_le (c : Nat → Nat) (i j : Nat) : part c i j ≤ C c j := by
  unfold part
  by_cases h : j = 0
  · rw [if_pos h]; omega
  · rw [if_neg h]
    have h1 := C_mono c (upto_lt i j (by omega))
    have e : C c j = C c (j - 1) + c (j - 1) := by
      obtain ⟨k, rfl⟩ : ∃ k, j = k + 1 := ⟨j - 1, by omega⟩
      rfl
    omega

theorem part_zero (c : Nat → Nat) (i : Nat) : part c i 0 = 0 := rfl

end Go.Proofs.Ytmbcinbkijnblaa.V1.Fen
