/- Select of a vector. -/
import Derived.Test.YtmbcinbkijnblaaVecR
import Derived.Lib.BitFns
namespace Go.Proofs.Ytmbcinbkijnblaa.V1
open Go.RowKit
open Fen

theorem bitLenAux_lt : ∀ f x, x < 2 ^ f → x < 2 ^ Lib.bitLenAux f x
  | 0, x, h => by simpa [Lib.bitLenAux] using h
  | f + 1, x, h => by
    simp only [Lib.bitLenAux]
    by_cases h0 : x = 0
    · simp [h0]
    · rw [if_neg h0]
      have := bitLenAux_lt f (x / 2) (by rw [Nat.pow_succ] at h; omega)
      rw [Nat.add_comm, Nat.pow_succ]; omega
theorem fen_max (f : Nat → Bool) (j : Nat) (hj : ∀ m, C (cf f) m ≤ 16777216) : fen (blk f) j ≤ 16777216 := by
  unfold fen
  have := hj (512 * j)
  rw [← C_blk] at this
  omega
theorem IsVec.ones_le {w : World} {g gs gw n : Nat} {f : Nat → Bool} (h : IsVec w g gs gw n f) (m : Nat) : C (cf f) m ≤ n := by
  rcases Nat.le_total n m with a | a
  · rw [h.total a]; exact C_le (cf_le f) n
  · exact Nat.le_trans (C_le (cf_le f) m) a

end Go.Proofs.Ytmbcinbkijnblaa.V1
