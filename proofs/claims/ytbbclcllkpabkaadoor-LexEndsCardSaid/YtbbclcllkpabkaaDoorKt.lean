/- What the laws' kit answers: SameBytes, SameInts of two that are the same; Pick. -/
import Derived.Test.YtbbclcllkpabkaaDoorRows
import Derived.Test.YtbbclcllkpabkaaDoorRd
namespace Go.Proofs.YtbbclcllkpabkaaDoor
open Go.RowKit

def Quiet1 (v : Value) (w : World) (e : Ending) (w' : World) : Prop := e = .returned v ∧ ∃ k, w' = w.drewN k
theorem tmod_bounds (x n : Int) (hn : 1 ≤ n) (hx : x < 0) : -n < x.tmod n ∧ x.tmod n ≤ 0 := by
  have e : x.tmod n = -((-x) % n) := by
    rw [← Int.tmod_eq_emod_of_nonneg (by omega : 0 ≤ -x), Int.neg_tmod]; omega
  have h1 := Int.emod_nonneg (-x) (by omega : n ≠ 0)
  have h2 := Int.emod_lt_of_pos (-x) (by omega : 0 < n)
  omega
def PickI (w : World) (n : Int) (e : Ending) (w' : World) : Prop := ∃ k : Nat, e = .returned (.int .i64 (k : Int)) ∧ (k : Int) < n ∧ w = w'
set_option maxHeartbeats 400000 in
theorem pick_any (x n : Int) (w : World) (hn : 1 ≤ n) (hn2 : n ≤ 9223372036854775807) (hx1 : -9223372036854775808 ≤ x) (hx2 : x ≤ 9223372036854775807) :
    Calls Tryd.prog 12 #[.int .i64 x, .int .i64 n] w (PickI w n) := by
  by_cases hx : 0 ≤ x
  · have h1 := Int.emod_nonneg x (by omega : n ≠ 0)
    have h2 := Int.emod_lt_of_pos x (by omega : 0 < n)
    go_enter Tryd.func12, Tryd.ntmps12
    go_wp2
    go_ret
    exact ⟨(x % n).toNat, ret_int (by show x % n = _; omega), by omega, rfl⟩
  · have hb := tmod_bounds x n hn (by omega)
    have h1 := hb.1
    have h2 := hb.2
    clear hb
    have hx' : x < 0 := by omega
    by_cases hz : x.tmod n = 0
    · have hz' : ¬ x.tmod n < 0 := by omega
      have Hz := hid hz
      clear hz hx
      go_enter Tryd.func12, Tryd.ntmps12
      go_wp2
      go_ret
      exact ⟨0, ret_int (by show x.tmod n = _; rw [Hz.out]; rfl), by omega, rfl⟩
    · have hz' : x.tmod n < 0 := by omega
      clear hz hx
      go_enter Tryd.func12, Tryd.ntmps12
      go_wp2
      go_ret
      exact ⟨(x.tmod n + n).toNat, ret_int (by show x.tmod n + n = _; omega), by omega, rfl⟩
end Go.Proofs.YtbbclcllkpabkaaDoor
