/- Plain mathematics of bytes: their bits; are they the bytes of so many bits? No program. -/
import Derived.Test.YtimkclmaglofaaaRd
namespace Go.Proofs.Ytimkclmaglofaaa
open Bit

/-- The bits of bytes. -/
def fB (bs : List Nat) (i : Nat) : Bool := (bs.getD (i / 8) 0).testBit (i % 8)
def fBk (bs : List Nat) (k i : Nat) : Bool := decide (i < 8 * k) && fB bs i
/-- Are they the bytes of n bits? -/
def shapeOk (n : Nat) (bs : List Nat) : Prop := bs.length = (n + 7) / 8 ∧ (n % 8 = 0 ∨ bs.getD (bs.length - 1) 0 / 2 ^ (n % 8) = 0)
instance (n : Nat) (bs : List Nat) : Decidable (shapeOk n bs) := by unfold shapeOk; infer_instance
theorem fB_far {n : Nat} {bs : List Nat} (h : shapeOk n bs) (i : Nat) (hi : n ≤ i) : fB bs i = false := by
  obtain ⟨h1, h2⟩ := h
  unfold fB
  by_cases hl : bs.length ≤ i / 8
  · rw [getDn_far bs _ hl]; simp
  · have hm : n % 8 ≠ 0 := by omega
    have h3 := h2.resolve_left hm
    rw [show bs.length - 1 = i / 8 by omega] at h3
    have hlt : bs.getD (i / 8) 0 < 2 ^ (i % 8) := by
      have h4 := Nat.div_eq_zero_iff.1 h3
      have h5 : 2 ^ (n % 8) ≤ 2 ^ (i % 8) := Nat.pow_le_pow_right (by decide) (by omega)
      have := Nat.two_pow_pos (n % 8)
      omega
    exact Nat.testBit_lt_two_pow hlt
theorem fBk_zero (bs : List Nat) : fBk bs 0 = fun _ => false := by funext i; simp [fBk]
theorem fBk_all (bs : List Nat) : fBk bs bs.length = fB bs := by
  funext i
  unfold fBk
  by_cases h : i < 8 * bs.length
  · simp [h]
  · unfold fB
    rw [getDn_far bs _ (by omega)]; simp
theorem fBk_step {bs : List Nat} (hb : Byts bs) (k : Nat) : fBk bs (k + 1) = orAt (fBk bs k) (8 * k) (bs.getD k 0) := by
  funext i
  unfold fBk orAt
  by_cases h1 : i < 8 * k
  · have h2 : i < 8 * (k + 1) := by omega
    have h3 : ¬ 8 * k ≤ i := by omega
    simp [h1, h2, h3]
  · have h3 : 8 * k ≤ i := by omega
    by_cases h2 : i < 8 * (k + 1)
    · unfold fB
      rw [show i / 8 = k by omega, show i % 8 = i - 8 * k by omega]
      simp [h1, h2, h3]
    · have h4 : bs.getD k 0 < 2 ^ (i - 8 * k) := Nat.lt_of_lt_of_le (hb k) (Nat.pow_le_pow_right (n := 2) (i := 8) (by decide) (by omega))
      rw [Nat.testBit_lt_two_pow h4]
      simp [h1, h2]
theorem byt_fB {bs : List Nat} (hb : Byts bs) (k : Nat) : byt (fB bs) k = bs.getD k 0 :=
  ofB_of (hb k) fun i hi => by
    unfold fB
    rw [show (8 * k + i) / 8 = k by omega, show (8 * k + i) % 8 = i by omega]
/-- What are the bytes of n bits are. -/
theorem shape_of_far {n : Nat} {bs : List Nat} (h1 : bs.length = (n + 7) / 8) (h8 : Byts bs) (h : ∀ j, j < 8 * bs.length → n ≤ j → fB bs j = false) : shapeOk n bs := by
  refine ⟨h1, ?_⟩
  by_cases hm : n % 8 = 0
  · exact .inl hm
  · refine .inr ?_
    apply Nat.eq_of_testBit_eq
    intro i
    rw [Nat.zero_testBit, Nat.testBit_div_two_pow]
    by_cases hi : n % 8 + i < 8
    · have h2 := h (8 * (bs.length - 1) + (n % 8 + i)) (by omega) (by omega)
      unfold fB at h2
      rw [show (8 * (bs.length - 1) + (n % 8 + i)) / 8 = bs.length - 1 by omega, show (8 * (bs.length - 1) + (n % 8 + i)) % 8 = n % 8 + i by omega] at h2
      rw [← h2]
      congr 1
      omega
    · apply Nat.testBit_lt_two_pow
      have := h8 (bs.length - 1)
      have h3 : 2 ^ 8 ≤ 2 ^ (i + n % 8) := Nat.pow_le_pow_right (by decide) (by omega)
      omega
/-- The bytes of bits. -/
def bytL (f : Nat → Bool) (m : Nat) : List Nat := (List.range m).map (byt f)
theorem bytL_len (f : Nat → Bool) (m : Nat) : (bytL f m).length = m := by simp [bytL]
theorem bytL_at (f : Nat → Bool) (m : Nat) {k : Nat} (h : k < m) : (bytL f m).getD k 0 = byt f k := by
  simp [bytL, List.getD, h]
theorem bytL_byts (f : Nat → Bool) (m : Nat) : Byts (bytL f m) := fun j => by
  by_cases h : j < m
  · rw [bytL_at f m h]; exact byt_lt f j
  · rw [getDn_far _ _ (by rw [bytL_len]; omega)]; omega
theorem fB_bytL {f : Nat → Bool} {n m : Nat} (hf : ∀ i, n ≤ i → f i = false) (hm : m = (n + 7) / 8) : fB (bytL f m) = f := by
  funext i
  unfold fB
  by_cases h : i / 8 < m
  · rw [bytL_at f m h, testBit_byt]
    have : i % 8 < 8 := Nat.mod_lt _ (by decide)
    rw [Nat.div_add_mod]; simp [this]
  · rw [getDn_far _ _ (by rw [bytL_len]; omega), hf i (by omega)]; simp
theorem shape_bytL {f : Nat → Bool} {n m : Nat} (hf : ∀ i, n ≤ i → f i = false) (hm : m = (n + 7) / 8) : shapeOk n (bytL f m) :=
  shape_of_far (by rw [bytL_len, hm]) (bytL_byts f m) fun j _ h => by rw [fB_bytL hf hm]; exact hf j h

end Go.Proofs.Ytimkclmaglofaaa
