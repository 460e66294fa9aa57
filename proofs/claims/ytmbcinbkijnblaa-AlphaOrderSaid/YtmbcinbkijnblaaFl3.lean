/- Digits put; how many bits gammas have. -/
import Derived.Test.YtmbcinbkijnblaaFl2
namespace Go.Proofs.Ytmbcinbkijnblaa
open Go.RowKit

theorem bit_i64 (n m : Nat) (hn : n < 9223372036854775808) : (bits .and .i64 ((n : Int) / 2 ^ m) 1 == 1) = n.testBit m := by
  have e : (n : Int) / 2 ^ m = ((n / 2 ^ m : Nat) : Int) := by simp
  have h := Nat.div_le_self n (2 ^ m)
  have h1 := V1.Fen.and_i64 (n / 2 ^ m) 1 (by omega) (by omega)
  rw [e, show ((1 : Int)) = ((1 : Nat) : Int) by rfl, h1, Nat.and_one_is_mod, Nat.testBit_eq_decide_div_mod_eq, Bool.eq_iff_iff]
  simp
  omega
theorem bit_i64' (n m : Nat) (hn : n < 9223372036854775808) : (bits .and .i64 ((n : Int) / 2 ^ (min m 64)) 1 == 1) = n.testBit m := by
  by_cases h : m ≤ 64
  · rw [Nat.min_eq_left h]; exact bit_i64 n m hn
  · have h1 : n < 2 ^ 64 := by omega
    have h2 : 2 ^ 64 ≤ 2 ^ m := Nat.pow_le_pow_right (by decide) (by omega)
    rw [Nat.min_eq_right (by omega), bit_i64 n 64 hn, Nat.testBit_lt_two_pow h1, Nat.testBit_lt_two_pow (Nat.lt_of_lt_of_le h1 h2)]
theorem nd_le (n : Nat) (h : n < 18446744073709551616) : nd n ≤ 64 := Lib.bitLen_le _ 64 (by omega) (by omega)
end Go.Proofs.Ytmbcinbkijnblaa
