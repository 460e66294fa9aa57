/- A reader's calls: take, Number, Next, Gamma. -/
import Derived.Test.YtgdfiopdkidhfaaFr0
namespace Go.Proofs.Ytgdfiopdkidhfaa
open Go.RowKit

set_option maxHeartbeats 400000 in
theorem take_ok {B g gb : Nat} {f : Nat → Bool} {n at_ k m : Nat} {w : World} (h : IsRd B w g gb 0 f n at_) (hk : k ≤ 60) (hm : m ≤ 60) (hb : at_ + k + m ≤ n) :
    Calls Try.prog 55 #[.pointer (some ⟨g, 0, none⟩), .int .i64 (k : Int), .int .i64 (m : Int)] w (RdE B w g gb f n (((num (seg f (at_ + k) m) : Nat) : Int), 0, at_ + k + m)) := by
  obtain ⟨k0, k1, k2, k3, k4⟩ := h.cells
  have hs := h.small
  have hr4 := h.self.frozen 4
  have H := hid h
  have HW : Hid (∀ W : World, Calls Try.prog 38 #[.int .i64 (m : Int)] W fun e' w' => e' = .returned (.bool true) ∧ W = w') := hid fun W => by
    have := isWidth_any (m : Int) W
    have e : okW (m : Int) = true := by simp [okW]; omega
    rwa [e] at this
  have hgt : ¬ (n : Int) - (at_ : Int) < (k : Int) + (m : Int) := by omega
  have HS4 : Hid (∀ d, IsRd B ((w.drewN d).setCell ⟨g, 4, none⟩ (.int .i64 ((at_ : Int) + (k : Int)))) g gb 0 f n (at_ + k) ∧ FrT TR B w ((w.drewN d).setCell ⟨g, 4, none⟩ (.int .i64 ((at_ : Int) + (k : Int))))) := hid fun d => by
    have h1 := (h.same (quiet_only (w := w.drewN d) ⟨_, rfl⟩)).set4 (z := (at_ : Int) + (k : Int)) (at_ + k) (by omega) (by omega)
    exact ⟨h1.1, (FrT.of_only (quiet_only ⟨_, rfl⟩)).trans h1.2⟩
  clear h k0 k1 k2
  go_enter Try.func55, Try.ntmps55
  go_wp2_with fail
  go_quiet ((go_at_call 38; exact quiet_left (HW.out _)))
  go_wp2_with fail
  obtain ⟨a, ha⟩ : ∃ a, a = at_ + k := ⟨_, rfl⟩
  rw [← ha] at HS4 hb ⊢
  go_loopw [7, 39] (fun s i wr => ∃ j : Nat, ∃ x : Nat, j ≤ m ∧ s = .int .i64 (x : Int) ∧ i = .int .i64 (j : Int) ∧ x < 2 ^ j ∧ Hid (x = num (seg f a j)) ∧ Hid (IsRd B wr g gb 0 f n (a + j) ∧ FrT TR B w wr)) (fun _ i _ => m - (intOf i).toNat)
  case atStart => exact ⟨0, 0, by omega, rfl, rfl, by simp, hid rfl, hid (HS4.out _)⟩
  case round =>
    obtain ⟨j, x, hj, rfl, rfl, hx, HX, HI⟩ := hrel
    clear HS4 k3 k4 hr4
    by_cases hp : j < m
    · obtain ⟨q0, q1, q2, q3, q4⟩ := HI.out.1.cells
      have fz := HI.out.1.self.frozen 4
      have h60 : 2 ^ j ≤ 2 ^ 59 := Nat.pow_le_pow_right (by decide) (by omega)
      have HO := hid (one_any (i := a + j) HI.out.1 (by omega))
      have HX2 : Hid (∀ y : Nat, y = 2 * x + (f (a + j)).toNat → y = num (seg f a (j + 1))) := hid fun y hy => by rw [seg_snoc, num_snoc, ← HX.out, hy]
      have HN2 : Hid (∀ z : Int, z = ((a + (j + 1) : Nat) : Int) → IsRd B (wr.setCell ⟨g, 4, none⟩ (.int .i64 z)) g gb 0 f n (a + (j + 1)) ∧ FrT TR B w (wr.setCell ⟨g, 4, none⟩ (.int .i64 z))) := hid fun z hz => by
        have h1 := HI.out.1.set4 (a + (j + 1)) hz (by omega)
        exact ⟨h1.1, HI.out.2.trans h1.2⟩
      obtain ⟨p, hpe⟩ : ∃ p, p = a + j := ⟨_, rfl⟩
      have hpn : p < n := by omega
      rw [← hpe] at q4 HO HX2
      have HN3 : Hid (∀ z : Int, z = (p : Int) + 1 → IsRd B (wr.setCell ⟨g, 4, none⟩ (.int .i64 z)) g gb 0 f n (a + (j + 1)) ∧ FrT TR B w (wr.setCell ⟨g, 4, none⟩ (.int .i64 z))) := hid fun z hz => HN2.out z (by omega)
      clear hpe HN2
      have h61 : 2 ^ (j + 1) = 2 * 2 ^ j := by rw [Nat.pow_succ]; omega
      have H61 := hid h61
      clear HI HX q0 q1 q2 q3 h61
      generalize f p = b at HO HX2
      cases b
      all_goals
        go_wp2_with fail
        refine HO.out.mono ?_
        rintro e' w2 ⟨rfl, rfl⟩
        go_wp2_with fail
        go_roundw
        case rel => exact ⟨j + 1, _, by omega, by first | (show Value.int .i64 _ = Value.int .i64 _; exact congrArg _ (by first | go_num | omega)) | go_num, by go_num, by have := H61.out; simp; omega, hid (HX2.out _ rfl), hid (HN3.out _ rfl)⟩
        case measure => simp [intOf]; omega
    · obtain rfl : j = m := by omega
      have HI2 : Hid (IsRd B wr g gb 0 f n (at_ + k + j) ∧ FrT TR B w wr) := hid (by rw [← ha]; exact HI.out)
      have HX2 : Hid ((x : Int) = ((num (seg f (at_ + k) j) : Nat) : Int)) := hid (by rw [← ha, ← HX.out])
      clear HX HI
      go_wp2_with fail
      go_ret
      exact ⟨ret_int HX2.out, HI2⟩
end Go.Proofs.Ytgdfiopdkidhfaa
