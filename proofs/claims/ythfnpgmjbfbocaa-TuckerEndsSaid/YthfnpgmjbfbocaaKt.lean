/- What the laws' kit answers: SameBytes, SameInts of two that are the same; Pick. -/
import Derived.Test.YthfnpgmjbfbocaaRows
import Derived.Test.YthfnpgmjbfbocaaRd
namespace Go.Proofs.Ythfnpgmjbfbocaa
open Go.RowKit

def Quiet1 (v : Value) (w : World) (e : Ending) (w' : World) : Prop := e = .returned v ∧ ∃ k, w' = w.drewN k
set_option maxHeartbeats 400000 in
theorem sameInts_eq {A B : Option Addr} {L c1 c2 : Nat} {y : Nat → Int} {w : World} (ha : RdV w A L fun j => .int .i64 (y j)) (hb : RdV w B L fun j => .int .i64 (y j)) (hl : L ≤ 9223372036854775807) :
    Calls Try.prog 39 #[.slice A L c1, .slice B L c2] w (Quiet1 (.bool true) w) := by
  have HA := hid ha
  have HB := hid hb
  clear ha hb
  go_enter Try.func39, Try.ntmps39
  go_wp2
  go_loopw [5] (fun s wr => ∃ k : Nat, k ≤ L ∧ s = .int .i64 k ∧ Hid (∃ d, wr = w.drewN d)) (fun s _ => L - (intOf s).toNat)
  case atStart => exact ⟨0, by omega, rfl, hid ⟨0, rfl⟩⟩
  case round =>
    obtain ⟨k, hk, rfl, HW⟩ := hrel
    obtain ⟨d, rfl⟩ := HW.out
    clear HW
    by_cases hp : k < L
    · obtain ⟨b, off, h1, d1, _⟩ := HA.out.at hp
      obtain ⟨b2, off2, h2, d2, _⟩ := HB.out.at hp
      subst h1
      subst h2
      generalize y k = x at d1 d2
      go_wp2
      go_quiet (fail)
      go_wp2
      go_roundw
      case rel => exact ⟨k + 1, by omega, by go_num, hid ⟨_, rfl⟩⟩
      case measure => simp [intOf]; omega
    · obtain rfl : k = L := by omega
      go_wp2
      go_ret
      exact ⟨rfl, d, rfl⟩

theorem tmod_bounds (x n : Int) (hn : 1 ≤ n) (hx : x < 0) : -n < x.tmod n ∧ x.tmod n ≤ 0 := by
  have e : x.tmod n = -((-x) % n) := by
    rw [← Int.tmod_eq_emod_of_nonneg (by omega : 0 ≤ -x), Int.neg_tmod]; omega
  have h1 := Int.emod_nonneg (-x) (by omega : n ≠ 0)
  have h2 := Int.emod_lt_of_pos (-x) (by omega : 0 < n)
  omega
def PickI (w : World) (n : Int) (e : Ending) (w' : World) : Prop := ∃ k : Nat, e = .returned (.int .i64 (k : Int)) ∧ (k : Int) < n ∧ w = w'
end Go.Proofs.Ythfnpgmjbfbocaa
