/- What the laws' kit answers: SameBytes, SameInts of two that are the same; Pick. -/
import Derived.Test.YtefcnaccemefnaaGreatDoorRows
import Derived.Test.YtefcnaccemefnaaGreatDoorRd
namespace Go.Proofs.YtefcnaccemefnaaGreatDoor
open Go.RowKit

def Quiet1 (v : Value) (w : World) (e : Ending) (w' : World) : Prop := e = .returned v ∧ ∃ k, w' = w.drewN k
theorem tmod_bounds (x n : Int) (hn : 1 ≤ n) (hx : x < 0) : -n < x.tmod n ∧ x.tmod n ≤ 0 := by
  have e : x.tmod n = -((-x) % n) := by
    rw [← Int.tmod_eq_emod_of_nonneg (by omega : 0 ≤ -x), Int.neg_tmod]; omega
  have h1 := Int.emod_nonneg (-x) (by omega : n ≠ 0)
  have h2 := Int.emod_lt_of_pos (-x) (by omega : 0 < n)
  omega
def PickI (w : World) (n : Int) (e : Ending) (w' : World) : Prop := ∃ k : Nat, e = .returned (.int .i64 (k : Int)) ∧ (k : Int) < n ∧ w = w'
end Go.Proofs.YtefcnaccemefnaaGreatDoor
