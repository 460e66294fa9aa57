/- Plain mathematics of the sum: a bit turned. No program. -/
import Derived.Test.YthfelifcikiogaaDoorCr
import Derived.Test.YthfelifcikiogaaDoorSu4
namespace Go.Proofs.YthfelifcikiogaaDoor
open Cr

theorem num_testBit {bs : List Nat} (hb : ∀ b ∈ bs, b < 256) (i : Nat) : (num bs).testBit i = (bs.getD (i / 8) 0).testBit (i % 8) := by
  induction bs generalizing i with
  | nil => simp [num, List.getD]
  | cons b bs ih =>
    have hb0 : b < 2 ^ 8 := hb b (by simp)
    simp only [num]
    rw [show b + 256 * num bs = 2 ^ 8 * num bs + b by omega, Nat.testBit_two_pow_mul_add _ hb0]
    by_cases h : i < 8
    · rw [if_pos h, Nat.div_eq_of_lt h, Nat.mod_eq_of_lt h]; rfl
    · rw [if_neg h, ih fun x hx => hb x (by simp [hx])]
      have e1 : i / 8 = (i - 8) / 8 + 1 := by omega
      have e2 : i % 8 = (i - 8) % 8 := by omega
      rw [e1, e2]; rfl
theorem getD_set (bs : List Nat) (j k x : Nat) (hj : j < bs.length) : (bs.set j x).getD k 0 = if k = j then x else bs.getD k 0 := by
  by_cases h : k = j
  · subst h; simp [List.getD, hj]
  · rw [if_neg h]; simp [List.getD, List.getElem?_set_ne (fun e => h e.symm)]
theorem set_lt {bs : List Nat} (hb : ∀ b ∈ bs, b < 256) {j x : Nat} (hx : x < 256) : ∀ b ∈ bs.set j x, b < 256 := fun b h => by
  rcases List.mem_or_eq_of_mem_set h with h | rfl
  · exact hb b h
  · exact hx
theorem flip_lt {b c : Nat} (hb : b < 256) (hc : c < 8) : b ^^^ 2 ^ c < 256 := Nat.xor_lt_two_pow (n := 8) hb (Nat.pow_lt_pow_right (by decide) hc)
/-- One bit of them is turned. -/
theorem num_flip {bs : List Nat} (hb : ∀ b ∈ bs, b < 256) {k : Nat} (hk : k < 8 * bs.length) : num (bs.set (k / 8) (bs.getD (k / 8) 0 ^^^ 2 ^ (k % 8))) = num bs ^^^ 2 ^ k := by
  have hj : k / 8 < bs.length := by omega
  have hby : bs.getD (k / 8) 0 < 256 := byts_of hb _
  apply Nat.eq_of_testBit_eq
  intro i
  rw [num_testBit (set_lt hb (flip_lt hby (by omega))), Nat.testBit_xor, num_testBit hb, Nat.testBit_two_pow, getD_set _ _ _ _ hj]
  by_cases h : i / 8 = k / 8
  · rw [if_pos h, Nat.testBit_xor, Nat.testBit_two_pow, h]
    congr 1
    rw [decide_eq_decide]
    omega
  · rw [if_neg h]
    have : decide (k = i) = false := by rw [decide_eq_false_iff_not]; omega
    rw [this, Bool.xor_false]
/-- The bits turned so far: within i in a row, from first on. -/
def Turned (s t : List Nat) (first i : Nat) (d : Bool) : Prop :=
  t.length = s.length ∧ (∀ b ∈ t, b < 256) ∧ ∃ W, num s ^^^ num t = 2 ^ first * W ∧ W < 2 ^ i ∧ d = decide (W ≠ 0)
theorem Turned.begin (s : List Nat) (hs : ∀ b ∈ s, b < 256) (first : Nat) : Turned s s first 0 false :=
  ⟨rfl, hs, 0, by simp, by simp, by simp⟩
theorem Turned.stay {s t : List Nat} {first i : Nat} {d : Bool} (h : Turned s t first i d) : Turned s t first (i + 1) d := by
  obtain ⟨h1, h2, W, h3, h4, h5⟩ := h
  exact ⟨h1, h2, W, h3, Nat.lt_of_lt_of_le h4 (Nat.pow_le_pow_right (by decide) (by omega)), h5⟩
theorem mul_xor (n a b : Nat) : 2 ^ n * (a ^^^ b) = 2 ^ n * a ^^^ 2 ^ n * b := by
  apply Nat.eq_of_testBit_eq
  intro i
  rw [Nat.testBit_xor, Nat.testBit_two_pow_mul, Nat.testBit_two_pow_mul, Nat.testBit_two_pow_mul, Nat.testBit_xor]
  cases decide (i ≥ n) <;> simp
theorem Turned.turn {s t : List Nat} {first i : Nat} {d : Bool} (h : Turned s t first i d) (hk : first + i < 8 * t.length) :
    Turned s (t.set ((first + i) / 8) (t.getD ((first + i) / 8) 0 ^^^ 2 ^ ((first + i) % 8))) first (i + 1) true := by
  obtain ⟨h1, h2, W, h3, h4, _⟩ := h
  refine ⟨by rw [List.length_set, h1], set_lt h2 (flip_lt (byts_of h2 _) (by omega)), W + 2 ^ i, ?_, ?_, ?_⟩
  · have e := add_xor i W 1 h4
    rw [Nat.mul_one] at e
    rw [num_flip h2 hk, ← Nat.xor_assoc, h3, e, mul_xor, Nat.xor_comm (2 ^ first * 2 ^ i), ← Nat.pow_add]
  · rw [Nat.pow_succ]; omega
  · have := Nat.two_pow_pos i
    rw [eq_comm, decide_eq_true_eq]; omega
/-- What was sealed and turned is not opened. -/
theorem turned_opened {bs t : List Nat} (hb : ∀ b ∈ bs, b < 256) {first : Nat} (h : Turned (sealed bs) t first 32 true) (hf : first ≤ 8 * (sealed bs).length) : opened t = (7, []) := by
  obtain ⟨h1, h2, W, h3, h4, h5⟩ := h
  have h0 : W ≠ 0 := by simpa using h5.symm
  have hn := burst (sealed_lt hb) h2 h1 h3 h4 h0 hf
  have hl := sealed_len bs
  unfold opened
  rw [if_neg (by omega)]
  split
  · rename_i e
    exfalso
    apply hn
    have ht : t = sealed (t.take (t.length - 4)) := by
      unfold sealed
      rw [← e]
      exact (List.take_append_drop _ _).symm
    rw [reg_sealed hb, ht, reg_sealed fun b hb => h2 b (List.mem_of_mem_take hb)]
  · rfl
theorem sealed_opened {bs : List Nat} : opened (sealed bs) = (0, bs) := by
  have hl := sealed_len bs
  have e1 : (sealed bs).take ((sealed bs).length - 4) = bs := by rw [hl]; simp [sealed]
  have e2 : (sealed bs).drop ((sealed bs).length - 4) = foot (crc bs) := by rw [hl]; simp [sealed]
  unfold opened
  rw [if_neg (by omega), e1, e2, if_pos rfl]
/-- What is opened is that whose seal it is. -/
theorem opened_ok {bs : List Nat} (h : (opened bs).1 = 0) : sealed (opened bs).2 = bs := by
  unfold opened at h ⊢
  split at h
  · cases h
  · rename_i h4
    split at h
    · rename_i e
      rw [if_neg h4, if_pos e]
      unfold sealed
      rw [← e]
      exact List.take_append_drop _ _
    · cases h
end Go.Proofs.YthfelifcikiogaaDoor
