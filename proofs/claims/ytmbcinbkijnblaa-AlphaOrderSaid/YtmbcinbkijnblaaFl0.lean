/- Plain mathematics of digits, gammas, rows of bits; what a writer and a reader are to answer. No program. -/
import Derived.Test.YtmbcinbkijnblaaRd
import Derived.Test.YtmbcinbkijnblaaVecB
import Derived.Lib.ItoaNum
namespace Go.Proofs.Ytmbcinbkijnblaa
open Go.RowKit

def bf (xs : List Bool) (i : Nat) : Bool := xs.getD i false
theorem bf_far (xs : List Bool) {i : Nat} (h : xs.length ≤ i) : bf xs i = false := by simp [bf, List.getD, List.getElem?_eq_none h]
theorem bf_append (xs ys : List Bool) (i : Nat) : bf (xs ++ ys) i = if i < xs.length then bf xs i else bf ys (i - xs.length) := by
  unfold bf
  by_cases h : i < xs.length
  · rw [if_pos h]; simp [List.getD, List.getElem?_append_left h]
  · rw [if_neg h]; simp [List.getD, List.getElem?_append_right (Nat.le_of_not_lt h)]
theorem bf_snoc (xs : List Bool) (b : Bool) (i : Nat) : bf (xs ++ [b]) i = if i = xs.length then b else bf xs i := by
  rw [bf_append]
  by_cases h : i < xs.length
  · rw [if_pos h, if_neg (by omega)]
  · rw [if_neg h]
    by_cases h2 : i = xs.length
    · subst h2; simp [bf]
    · rw [if_neg h2, bf_far xs (by omega), bf_far [b] (by simp; omega)]
theorem bf_ext {xs ys : List Bool} (hl : xs.length = ys.length) (h : ∀ i, i < xs.length → bf xs i = bf ys i) : xs = ys := by
  apply List.ext_getElem hl
  intro i h1 h2
  have := h i h1
  simpa [bf, List.getD, h1, h2] using this

/-! Bytes of a row of bits. -/
theorem byte_next {xs : List Bool} (h : xs.length % 8 = 0) : V1.byteOf (bf xs) (xs.length / 8) = 0 := by
  apply Nat.eq_of_testBit_eq
  intro i
  rw [V1.testBit_byteOf, bf_far xs (by omega)]; simp
theorem byte_snoc (xs : List Bool) (b : Bool) (j : Nat) : V1.byteOf (bf (xs ++ [b])) j = if j = xs.length / 8 ∧ b = true then V1.byteOf (bf xs) j ||| 2 ^ (xs.length % 8) else V1.byteOf (bf xs) j := by
  apply Nat.eq_of_testBit_eq
  intro i
  rw [V1.testBit_byteOf, bf_snoc]
  by_cases h : j = xs.length / 8 ∧ b = true
  · rw [if_pos h, Nat.testBit_or, V1.testBit_byteOf, Nat.testBit_two_pow]
    obtain ⟨rfl, rfl⟩ := h
    by_cases h2 : 8 * (xs.length / 8) + i = xs.length
    · rw [if_pos h2]
      have h3 : xs.length % 8 = i := by omega
      have h4 : i < 8 := by omega
      simp [h3, h4]
    · rw [if_neg h2]
      by_cases h3 : i < 8
      · have h4 : ¬ xs.length % 8 = i := by omega
        simp [h4]
      · have h4 : ¬ xs.length % 8 = i := by omega
        simp [h3, h4]
  · rw [if_neg h, V1.testBit_byteOf]
    by_cases h2 : 8 * j + i = xs.length
    · rw [if_pos h2, bf_far xs (by omega)]
      by_cases h3 : i < 8
      · have h4 : j = xs.length / 8 := by omega
        have : b = false := by
          cases b
          · rfl
          · exact absurd ⟨h4, rfl⟩ h
        simp [this]
      · simp [h3]
    · rw [if_neg h2]

/-! Digits. -/
def dgs (wd n : Nat) : List Bool := (List.range wd).map fun i => n.testBit (wd - 1 - i)
theorem dgs_len (wd n : Nat) : (dgs wd n).length = wd := by simp [dgs]
theorem dgs_bf {wd i : Nat} (n : Nat) (h : i < wd) : bf (dgs wd n) i = n.testBit (wd - 1 - i) := by simp [bf, dgs, List.getD, h]
theorem dgs_take {wd k : Nat} (n : Nat) (h : k < wd) : (dgs wd n).take (k + 1) = (dgs wd n).take k ++ [n.testBit (wd - 1 - k)] := by
  rw [List.take_succ_eq_append_getElem (by rw [dgs_len]; exact h)]; simp [dgs]
/-- The number that some bits are, the highest first. -/
def num (l : List Bool) : Nat := l.foldl (fun a b => 2 * a + b.toNat) 0
theorem num_snoc (l : List Bool) (b : Bool) : num (l ++ [b]) = 2 * num l + b.toNat := by simp [num]
theorem num_lt0 : ∀ (l : List Bool) (a : Nat), l.foldl (fun a b => 2 * a + b.toNat) a + 1 ≤ (a + 1) * 2 ^ l.length
  | [], a => by simp
  | b :: l, a => by
    have := num_lt0 l (2 * a + b.toNat)
    have h2 : 2 * a + b.toNat + 1 ≤ (a + 1) * 2 := by cases b <;> simp <;> omega
    have h3 := Nat.mul_le_mul_right (2 ^ l.length) h2
    simp only [List.foldl_cons, List.length_cons, Nat.pow_succ]
    rw [Nat.mul_comm (2 ^ l.length) 2, ← Nat.mul_assoc]
    exact Nat.le_trans this h3
theorem num_lt (l : List Bool) : num l < 2 ^ l.length := by
  have := num_lt0 l 0
  unfold num; omega
theorem num_dgs (n : Nat) : ∀ wd k, k ≤ wd → num ((dgs wd n).take k) = n / 2 ^ (wd - k) % 2 ^ k
  | wd, 0, _ => by simp [num, Nat.mod_one]
  | wd, k + 1, h => by
    rw [dgs_take n (by omega), num_snoc, num_dgs n wd k (by omega), Nat.testBit_eq_decide_div_mod_eq]
    obtain ⟨q, hq⟩ : ∃ q, q = n / 2 ^ (wd - 1 - k) := ⟨_, rfl⟩
    rw [show wd - (k + 1) = wd - 1 - k by omega, show wd - k = (wd - 1 - k) + 1 by omega, Nat.pow_succ, ← Nat.div_div_eq_div_mul, ← hq, Nat.pow_succ, Nat.mul_comm (2 ^ k) 2, Nat.mod_mul]
    by_cases h2 : q % 2 = 1
    · simp [h2]; omega
    · simp [h2]; omega
theorem num_all {wd n : Nat} (h : n < 2 ^ wd) : num (dgs wd n) = n := by
  have := num_dgs n wd wd (Nat.le_refl _)
  rwa [List.take_of_length_le (by rw [dgs_len]; exact Nat.le_refl _), Nat.sub_self, Nat.pow_zero, Nat.div_one, Nat.mod_eq_of_lt h] at this

/-- How many digits a number has. -/
def nd (n : Nat) : Nat := Lib.bitLen n
def gln (n : Nat) : Nat := 2 * nd n - 1
/-- The bits of a gamma: the number by that many digits, too. -/
def gma (n : Nat) : List Bool := dgs (gln n) n

/-! What calls of a writer tell: its error, its bits, behind the call. -/
def fitZ (n wd : Int) : Bool := decide (0 ≤ n) && decide (n / 2 ^ wd.toNat = 0)
def okW (wd : Int) : Bool := decide (0 ≤ wd) && decide (wd ≤ 60)
abbrev WSt := Int × List Bool
def putAll (s : WSt) (ok : Bool) (ys : List Bool) : WSt :=
  if s.1 ≠ 0 then s else if ok = false then (2, s.2) else if 16777216 < s.2.length + ys.length then (3, s.2) else (0, s.2 ++ ys)
def numB (wd : Nat) (zs : List Int) : List Bool := zs.flatMap fun z => dgs wd z.toNat
def gamB (zs : List Int) : List Bool := zs.flatMap fun z => gma z.toNat
def okN (wd : Int) (zs : List Int) : Bool := okW wd && zs.all fun z => fitZ z wd
def okG (zs : List Int) : Bool := zs.all fun z => decide (1 ≤ z) && fitZ z 60
def putB (s : WSt) (ys : List Bool) : WSt := putAll s true ys
def putN (s : WSt) (wd : Int) (zs : List Int) : WSt := putAll s (okN wd zs) (numB wd.toNat zs)
def putG (s : WSt) (zs : List Int) : WSt := putAll s (okG zs) (gamB zs)
theorem numB_len (wd : Nat) (zs : List Int) : (numB wd zs).length = wd * zs.length := by
  induction zs with
  | nil => simp [numB]
  | cons z zs ih =>
    have e : numB wd (z :: zs) = dgs wd z.toNat ++ numB wd zs := rfl
    rw [e, List.length_append, dgs_len, ih, List.length_cons, Nat.mul_succ, Nat.add_comm]
end Go.Proofs.Ytmbcinbkijnblaa
