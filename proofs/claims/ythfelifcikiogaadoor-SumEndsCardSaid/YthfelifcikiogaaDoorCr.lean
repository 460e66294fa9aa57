/- Plain mathematics of the sum: the register, bit by bit; four bits at once; bytes as one number; what bits turned within 32 in a row do to it. No program. -/
import Derived.Test.YthfelifcikiogaaDoorBit
namespace Go.Proofs.YthfelifcikiogaaDoor.Cr

def P : Nat := 3988292384
def F : Nat := 4294967295
/-- One bit goes through: the register (with the bit met) goes down. -/
def T (x : Nat) : Nat := x / 2 ^^^ (if x % 2 = 1 then P else 0)
def Tn : Nat → Nat → Nat
  | 0, x => x
  | n + 1, x => Tn n (T x)
theorem xor_div2 (x y : Nat) : (x ^^^ y) / 2 = x / 2 ^^^ y / 2 := by
  apply Nat.eq_of_testBit_eq
  intro i
  rw [Nat.testBit_xor, Nat.testBit_div_two, Nat.testBit_div_two, Nat.testBit_div_two, Nat.testBit_xor]
theorem xor_mod2 (x y : Nat) : (x ^^^ y) % 2 = 1 ↔ ¬ (x % 2 = 1 ↔ y % 2 = 1) := by
  have h := Nat.testBit_xor (x := x) (y := y) (i := 0)
  simp only [Nat.testBit_zero] at h
  by_cases hx : x % 2 = 1 <;> by_cases hy : y % 2 = 1 <;> simp_all
theorem xor_mid (a b c d : Nat) : (a ^^^ b) ^^^ (c ^^^ d) = (a ^^^ c) ^^^ (b ^^^ d) := by
  apply Nat.eq_of_testBit_eq
  intro i
  simp only [Nat.testBit_xor]
  generalize a.testBit i = u
  generalize b.testBit i = v
  generalize c.testBit i = x
  generalize d.testBit i = y
  cases u <;> cases v <;> cases x <;> cases y <;> rfl
theorem T_xor (x y : Nat) : T (x ^^^ y) = T x ^^^ T y := by
  unfold T
  rw [xor_div2]
  have h := xor_mod2 x y
  rw [xor_mid]
  congr 1
  by_cases hx : x % 2 = 1 <;> by_cases hy : y % 2 = 1 <;> simp [hx, hy, h]
theorem T_zero : T 0 = 0 := by decide
theorem T_two (x : Nat) : T (2 * x) = x := by
  unfold T
  rw [if_neg (by omega), Nat.xor_zero]; omega
theorem T_lt {x : Nat} (h : x < 2 ^ 32) : T x < 2 ^ 32 := by
  unfold T
  apply Nat.xor_lt_two_pow
  · omega
  · unfold P; split <;> omega
theorem T_ne {x : Nat} (h : x < 2 ^ 32) (h0 : x ≠ 0) : T x ≠ 0 := by
  intro e
  unfold T at e
  by_cases hx : x % 2 = 1
  · rw [if_pos hx] at e
    have e2 : x / 2 = P := by
      have := congrArg (· ^^^ P) e
      simpa [Nat.xor_assoc] using this
    unfold P at e2
    omega
  · rw [if_neg hx, Nat.xor_zero] at e
    omega
theorem Tn_xor (n x y : Nat) : Tn n (x ^^^ y) = Tn n x ^^^ Tn n y := by
  induction n generalizing x y with
  | zero => rfl
  | succ n ih => simp only [Tn]; rw [T_xor, ih]
theorem Tn_zero (n : Nat) : Tn n 0 = 0 := by
  induction n with
  | zero => rfl
  | succ n ih => simp only [Tn, T_zero, ih]
theorem Tn_add (m n x : Nat) : Tn (m + n) x = Tn n (Tn m x) := by
  induction m generalizing x with
  | zero => simp [Tn]
  | succ m ih => rw [Nat.succ_add]; simp only [Tn]; exact ih _
theorem Tn_two (n x : Nat) : Tn n (2 ^ n * x) = x := by
  induction n generalizing x with
  | zero => simp [Tn]
  | succ n ih =>
    simp only [Tn]
    rw [Nat.pow_succ, Nat.mul_comm (2 ^ n) 2, Nat.mul_assoc, T_two, ih]
theorem Tn_lt {n x : Nat} (h : x < 2 ^ 32) : Tn n x < 2 ^ 32 := by
  induction n generalizing x with
  | zero => exact h
  | succ n ih => exact ih (T_lt h)
theorem Tn_ne {n x : Nat} (h : x < 2 ^ 32) (h0 : x ≠ 0) : Tn n x ≠ 0 := by
  induction n generalizing x with
  | zero => exact h0
  | succ n ih => exact ih (T_lt h) (T_ne h h0)
theorem split_low (k x : Nat) : x = 2 ^ k * (x / 2 ^ k) ^^^ x % 2 ^ k := by
  apply Nat.eq_of_testBit_eq
  intro i
  rw [Nat.testBit_xor, Nat.testBit_two_pow_mul, Nat.testBit_div_two_pow, Nat.testBit_mod_two_pow]
  by_cases h : i < k
  · have : ¬ k ≤ i := by omega
    simp [h, this]
  · have h2 : k ≤ i := by omega
    rw [Nat.sub_add_cancel h2]; simp [h, h2]

/-- What four bits turn. -/
def tab (k : Nat) : Nat := Tn 4 k
theorem down4 (c : Nat) : Tn 4 c = c / 16 ^^^ tab (c % 16) := by
  have h := split_low 4 c
  have h2 := congrArg (Tn 4) h
  rw [Tn_xor, Tn_two] at h2
  exact h2
def step8 (r b : Nat) : Nat := Tn 8 (r ^^^ b)
theorem step8_two (r b : Nat) : step8 r b = Tn 4 (Tn 4 (r ^^^ b)) := Tn_add 4 4 _
def reg (r : Nat) (bs : List Nat) : Nat := bs.foldl step8 r
/-- The sum. -/
def crc (bs : List Nat) : Nat := reg F bs ^^^ F
theorem reg_append (r : Nat) (a b : List Nat) : reg r (a ++ b) = reg (reg r a) b := by unfold reg; rw [List.foldl_append]
theorem reg_snoc (r : Nat) (a : List Nat) (x : Nat) : reg r (a ++ [x]) = step8 (reg r a) x := by rw [reg_append]; rfl
theorem step8_lt {r b : Nat} (hr : r < 2 ^ 32) (hb : b < 256) : step8 r b < 2 ^ 32 := Tn_lt (Nat.xor_lt_two_pow hr (by omega))
theorem reg_lt {r : Nat} {bs : List Nat} (hr : r < 2 ^ 32) (hb : ∀ b ∈ bs, b < 256) : reg r bs < 2 ^ 32 := by
  induction bs generalizing r with
  | nil => exact hr
  | cons b bs ih => exact ih (step8_lt hr (hb b (by simp))) fun x hx => hb x (by simp [hx])
theorem crc_lt {bs : List Nat} (hb : ∀ b ∈ bs, b < 256) : crc bs < 2 ^ 32 := Nat.xor_lt_two_pow (reg_lt (by unfold F; omega) hb) (by unfold F; omega)
/-- Bytes as one number, the first the lowest. -/
def num : List Nat → Nat
  | [] => 0
  | b :: bs => b + 256 * num bs
theorem num_lt {bs : List Nat} (hb : ∀ b ∈ bs, b < 256) : num bs < 2 ^ (8 * bs.length) := by
  induction bs with
  | nil => simp [num]
  | cons b bs ih =>
    have h1 := ih fun x hx => hb x (by simp [hx])
    have h2 := hb b (by simp)
    simp only [num, List.length_cons]
    rw [show 8 * (bs.length + 1) = 8 * bs.length + 8 by omega, Nat.pow_add]
    omega
theorem num_append (a b : List Nat) : num (a ++ b) = num a + 2 ^ (8 * a.length) * num b := by
  induction a with
  | nil => simp [num]
  | cons x a ih =>
    simp only [List.cons_append, num, ih, List.length_cons]
    rw [show 8 * (a.length + 1) = 8 + 8 * a.length by omega, Nat.pow_add, Nat.mul_add, Nat.mul_assoc]
    omega
theorem add_xor (k x y : Nat) (hx : x < 2 ^ k) : x + 2 ^ k * y = 2 ^ k * y ^^^ x := by
  have h := split_low k (x + 2 ^ k * y)
  rw [Nat.add_mul_div_left _ _ (Nat.two_pow_pos k), Nat.div_eq_of_lt hx, Nat.zero_add, Nat.add_mul_mod_self_left, Nat.mod_eq_of_lt hx] at h
  exact h
theorem reg_num (r : Nat) {bs : List Nat} (hb : ∀ b ∈ bs, b < 256) : reg r bs = Tn (8 * bs.length) (r ^^^ num bs) := by
  induction bs generalizing r with
  | nil => simp [reg, num, Tn]
  | cons b bs ih =>
    have h2 := hb b (by simp)
    show reg (step8 r b) bs = _
    rw [ih _ fun x hx => hb x (by simp [hx])]
    rw [List.length_cons, show 8 * (bs.length + 1) = 8 + 8 * bs.length by omega, Tn_add]
    congr 1
    simp only [num]
    rw [show b + 256 * num bs = 2 ^ 8 * num bs ^^^ b from add_xor 8 b (num bs) h2, Nat.xor_comm (2 ^ 8 * num bs), ← Nat.xor_assoc, Tn_xor, Tn_two]
    rfl
/-- A sum as it stands behind what is sealed. -/
def foot (n : Nat) : List Nat := [n % 256, n / 256 % 256, n / 65536 % 256, n / 16777216 % 256]
theorem foot_len (n : Nat) : (foot n).length = 4 := rfl
theorem foot_lt (n : Nat) : ∀ b ∈ foot n, b < 256 := by
  intro b hb
  simp only [foot, List.mem_cons, List.not_mem_nil, or_false] at hb
  omega
theorem num_foot {n : Nat} (h : n < 2 ^ 32) : num (foot n) = n := by
  simp only [foot, num]; omega
theorem foot_inj {m n : Nat} (hm : m < 2 ^ 32) (hn : n < 2 ^ 32) (h : foot m = foot n) : m = n := by
  rw [← num_foot hm, ← num_foot hn, h]
theorem foot_num {b0 b1 b2 b3 : Nat} (h0 : b0 < 256) (h1 : b1 < 256) (h2 : b2 < 256) (h3 : b3 < 256) : foot (num [b0, b1, b2, b3]) = [b0, b1, b2, b3] := by
  simp only [foot, num]
  congr 1
  · omega
  congr 1
  · omega
  congr 1
  · omega
  congr 1
  omega
def sealed (bs : List Nat) : List Nat := bs ++ foot (crc bs)
theorem sealed_len (bs : List Nat) : (sealed bs).length = bs.length + 4 := by simp [sealed, foot_len]
theorem sealed_lt {bs : List Nat} (hb : ∀ b ∈ bs, b < 256) : ∀ b ∈ sealed bs, b < 256 := by
  intro b h
  rcases List.mem_append.1 h with h | h
  · exact hb b h
  · exact foot_lt _ b h
/-- Are bytes sealed? Just if the register has, behind all of them, one number. -/
theorem reg_sealed {bs : List Nat} (hb : ∀ b ∈ bs, b < 256) : reg F (sealed bs) = Tn 32 F := by
  have h1 : reg F bs < 2 ^ 32 := reg_lt (by unfold F; omega) hb
  unfold sealed
  rw [reg_append, reg_num _ (foot_lt _), foot_len, num_foot (crc_lt hb)]
  unfold crc
  rw [← Nat.xor_assoc, Nat.xor_self, Nat.zero_xor]
theorem Tn_inj {n x y : Nat} (hx : x < 2 ^ 32) (hy : y < 2 ^ 32) (h : Tn n x = Tn n y) : x = y := by
  have h1 : Tn n (x ^^^ y) = 0 := by rw [Tn_xor, h, Nat.xor_self]
  have h2 : x ^^^ y = 0 := by
    rcases Nat.eq_zero_or_pos (x ^^^ y) with h2 | h2
    · exact h2
    · exact absurd h1 (Tn_ne (Nat.xor_lt_two_pow hx hy) (by omega))
  have h3 := congrArg (· ^^^ y) h2
  simpa [Nat.xor_assoc] using h3
/-- What bits turned within 32 in a row do. D: the bits turned, as a number. -/
theorem burst {s t : List Nat} (hs : ∀ b ∈ s, b < 256) (ht : ∀ b ∈ t, b < 256) (hl : t.length = s.length) {W k : Nat} (hD : num s ^^^ num t = 2 ^ k * W) (hW : W < 2 ^ 32) (h0 : W ≠ 0) (hk : k ≤ 8 * s.length) : reg F s ≠ reg F t := by
  intro e
  rw [reg_num F hs, reg_num F ht, hl] at e
  have h1 : Tn (8 * s.length) (2 ^ k * W) = 0 := by
    rw [← hD]
    have h2 : num s ^^^ num t = (F ^^^ num s) ^^^ (F ^^^ num t) := by
      rw [Nat.xor_comm F (num t), Nat.xor_assoc, ← Nat.xor_assoc (num s), Nat.xor_comm (num s ^^^ num t), ← Nat.xor_assoc, Nat.xor_self, Nat.zero_xor]
    rw [h2, Tn_xor, e, Nat.xor_self]
  rw [show 8 * s.length = k + (8 * s.length - k) by omega, Tn_add, Tn_two] at h1
  exact Tn_ne hW h0 h1

end Go.Proofs.YthfelifcikiogaaDoor.Cr
