/- Rank and Select of a vector. -/
import Derived.Test.YtmbcinbkijnblaaVec
import Derived.Test.YtmbcinbkijnblaaShelf
namespace Go.Proofs.Ytmbcinbkijnblaa.V1
open Go.RowKit
open Fen

theorem mask_int (x m : Nat) (hx : x < 18446744073709551616) (hm : m < 64) : bits .and .u64 (x : Int) (IntKind.u64.wrap (IntKind.u64.wrap ((2 : Int) ^ m) - 1)) = ((x &&& (2 ^ m - 1) : Nat) : Int) := by
  have hp : 0 < 2 ^ m := Nat.two_pow_pos m
  have h64 : 2 ^ m ≤ 2 ^ 63 := Nat.pow_le_pow_right (by decide) (by omega)
  have e : (2 : Int) ^ m = ((2 ^ m : Nat) : Int) := by simp
  rw [e, wrap_fit _ (by omega), show ((2 ^ m : Nat) : Int) - 1 = ((2 ^ m - 1 : Nat) : Int) by omega, wrap_fit _ (by omega)]
  exact and_lit x (2 ^ m - 1) _ rfl hx (by omega)

theorem IsVec.total {w : World} {g gs gw n : Nat} {f : Nat → Bool} (h : IsVec w g gs gw n f) {m : Nat} (hm : n ≤ m) : C (cf f) m = C (cf f) n :=
  C_stop hm fun i hi => by unfold cf; rw [h.out i hi]; rfl

/-! Which one of a word. -/
end Go.Proofs.Ytmbcinbkijnblaa.V1
