/- pack: a number of a row; all; its bytes. -/
import Derived.Test.YtimkclmaglofaaaPk2
namespace Go.Proofs.Ytimkclmaglofaaa
open Go.RowKit
open Bit

theorem mul_fit {wd n k : Nat} (hk : k < n) : k * wd + wd ≤ wd * n := by
  have h1 : wd * (k + 1) ≤ wd * n := Nat.mul_le_mul_left wd hk
  rw [Nat.mul_succ, Nat.mul_comm wd k] at h1
  exact h1
theorem nw_fit {m : Nat} {a : Nat} (h : a ≤ m) : a ≤ 64 * nw m := by unfold nw; omega

set_option maxHeartbeats 400000 in
theorem number_core (g gw W wd k x : Nat) (w : World) (h0 : w.cell? ⟨g, 0, none⟩ = some (.slice (some ⟨gw, 0, none⟩) W W)) (h2 : w.cell? ⟨g, 2, none⟩ = some (.int .i64 (wd : Int))) (hm : k * wd ≤ 16777216)
    (hT : Hid (∀ n, Calls Try.prog 61 #[.slice (some ⟨gw, 0, none⟩) W W, .int .i64 ((k * wd : Nat) : Int), .int .i64 (wd : Int)] (w.drewN n) fun e w' => e = .returned (.int .i64 (x : Int)) ∧ w.drewN n = w')) :
    Calls Try.prog 54 #[.pointer (some ⟨g, 0, none⟩), .int .i64 (k : Int)] w fun e w' => e = .returned (.int .i64 (x : Int)) ∧ ∃ n, w' = w.drewN n := by
  have e : (k : Int) * (wd : Int) = ((k * wd : Nat) : Int) := by simp
  have hw : IntKind.i64.wrap ((k : Int) * (wd : Int)) = ((k * wd : Nat) : Int) := by rw [e, IntKind.wrap_i64]; omega
  clear e hm
  go_enter Try.func54, Try.ntmps54
  go_wp2
  go_quiet ((go_at_call 61; exact quiet_left (hT.out _)))
  go_wp2
  go_ret
  exact ⟨rfl, _, rfl⟩
theorem number_any {g gw wd n : Nat} {f : Nat → Bool} {w : World} (h : IsRow w g gw wd n f) {k : Nat} (hk : k < n) :
    Calls Try.prog 54 #[.pointer (some ⟨g, 0, none⟩), .int .i64 (k : Int)] w fun e w' => e = .returned (.int .i64 ((dig f wd k : Nat) : Int)) ∧ ∃ n, w' = w.drewN n := by
  have h1 := mul_fit (wd := wd) hk
  have hs := h.small
  refine number_core g gw _ wd k _ w (h.self.cell (i := 0) (by omega)) (h.self.cell (i := 2) (by omega)) (by omega) (hid fun d => ?_)
  have := take_any (f := f) (w := w.drewN d) (a := k * wd) (rowIs_drewN h.words d) h.one h.most (nw_fit h1) (by omega)
  rwa [show ofB f (k * wd) wd = dig f wd k by unfold dig; rw [Nat.mul_comm]] at this

/-- The number at a place, of any number. -/
def nAt (f : Nat → Bool) (wd n : Nat) (i : Int) : Int := if 0 ≤ i ∧ i < (n : Int) then ((dig f wd i.toNat : Nat) : Int) else 0
def isAt (n : Nat) (i : Int) : Bool := decide (0 ≤ i ∧ i < (n : Int))
set_option maxHeartbeats 400000 in
theorem at_in (g : Nat) (n k x : Nat) (w : World) (h : Hid (w.cell? ⟨g, 1, none⟩ = some (.pointer (some ⟨g, 0, none⟩)))) (h4 : w.cell? ⟨g, 3, none⟩ = some (.int .i64 (n : Int))) (hk : k < n)
    (hN : Hid (Calls Try.prog 54 #[.pointer (some ⟨g, 0, none⟩), .int .i64 (k : Int)] w fun e w' => e = .returned (.int .i64 (x : Int)) ∧ ∃ n, w' = w.drewN n)) :
    Calls Try.prog 34 #[.pointer (some ⟨g, 0, none⟩), .int .i64 (k : Int)] w fun e w' => e = .returned (.tuple #[.int .i64 (x : Int), .bool true]) ∧ ∃ n, w' = w.drewN n := by
  have hk' : (k : Int) < (n : Int) := by omega
  go_enter Try.func34, Try.ntmps34
  go_wp2_with (first | (go_at_call 51; refine (answered_core _ _ h.out).mono ?_; rintro e w' ⟨rfl, rfl⟩) | (go_at_call 54; refine hN.out.mono ?_; rintro e w' ⟨rfl, d, rfl⟩))
  go_ret2
  exact ⟨rfl, _, rfl⟩
set_option maxHeartbeats 400000 in
theorem at_out (g n : Nat) (i : Int) (w : World) (h : Hid (w.cell? ⟨g, 1, none⟩ = some (.pointer (some ⟨g, 0, none⟩)))) (h4 : w.cell? ⟨g, 3, none⟩ = some (.int .i64 (n : Int))) (hi : i < 0 ∨ (n : Int) ≤ i) :
    Calls Try.prog 34 #[.pointer (some ⟨g, 0, none⟩), .int .i64 i] w fun e w' => e = .returned (.tuple #[.int .i64 0, .bool false]) ∧ w = w' := by
  by_cases h0 : i < 0
  · clear hi
    go_enter Try.func34, Try.ntmps34
    go_wp2_with (go_at_call 51; refine (answered_core _ _ h.out).mono ?_; rintro e w' ⟨rfl, rfl⟩)
    go_ret2
    exact ⟨rfl, rfl⟩
  · have h1 : (n : Int) ≤ i := by omega
    have h2 : 0 ≤ i := by omega
    clear hi h0
    go_enter Try.func34, Try.ntmps34
    go_wp2_with (go_at_call 51; refine (answered_core _ _ h.out).mono ?_; rintro e w' ⟨rfl, rfl⟩)
    go_ret2
    exact ⟨rfl, rfl⟩
theorem at_any {g gw wd n : Nat} {f : Nat → Bool} {w : World} (h : IsRow w g gw wd n f) (i : Int) :
    Calls Try.prog 34 #[.pointer (some ⟨g, 0, none⟩), .int .i64 i] w fun e w' => e = .returned (.tuple #[.int .i64 (nAt f wd n i), .bool (isAt n i)]) ∧ ∃ n, w' = w.drewN n := by
  have c1 := hid (h.self.cell (i := 1) (by omega))
  have c3 := h.self.cell (i := 3) (by omega)
  by_cases hi : 0 ≤ i ∧ i < (n : Int)
  · have e1 : isAt n i = true := by unfold isAt; simp [hi]
    have e2 : nAt f wd n i = ((dig f wd i.toNat : Nat) : Int) := by unfold nAt; rw [if_pos hi]
    rw [e1, e2]
    obtain ⟨k, rfl⟩ := Int.eq_ofNat_of_zero_le hi.1
    have hk : k < n := by omega
    rw [Int.toNat_natCast]
    exact at_in g n k _ w c1 c3 hk (hid (number_any h hk))
  · have e1 : isAt n i = false := by unfold isAt; simp; omega
    have e2 : nAt f wd n i = 0 := by unfold nAt; rw [if_neg hi]
    rw [e1, e2]
    exact (at_out g n i w c1 c3 (by omega)).mono fun e w' ⟨h1, h2⟩ => ⟨h1, 0, by rw [← h2]; rfl⟩
end Go.Proofs.Ytimkclmaglofaaa
