/- Digits put; how many bits gammas have. -/
import Derived.Test.YtgdfiopdkidhfaaFl2
namespace Go.Proofs.Ytgdfiopdkidhfaa
open Go.RowKit

theorem bit_i64 (n m : Nat) (hn : n < 9223372036854775808) : (bits .and .i64 ((n : Int) / 2 ^ m) 1 == 1) = n.testBit m := by
  have e : (n : Int) / 2 ^ m = ((n / 2 ^ m : Nat) : Int) := by simp
  have h := Nat.div_le_self n (2 ^ m)
  have h1 := V1.Fen.and_i64 (n / 2 ^ m) 1 (by omega) (by omega)
  rw [e, show ((1 : Int)) = ((1 : Nat) : Int) by rfl, h1, Nat.and_one_is_mod, Nat.testBit_eq_decide_div_mod_eq, Bool.eq_iff_iff]
  simp
  omega
theorem bit_i64' (n m : Nat) (hn : n < 9223372036854775808) : (bits .and .i64 ((n : Int) / 2 ^ (min m 64)) 1 == 1) = n.testBit m := by
  by_cases h : m ≤ 64
  · rw [Nat.min_eq_left h]; exact bit_i64 n m hn
  · have h1 : n < 2 ^ 64 := by omega
    have h2 : 2 ^ 64 ≤ 2 ^ m := Nat.pow_le_pow_right (by decide) (by omega)
    rw [Nat.min_eq_right (by omega), bit_i64 n 64 hn, Nat.testBit_lt_two_pow h1, Nat.testBit_lt_two_pow (Nat.lt_of_lt_of_le h1 h2)]
set_option maxHeartbeats 1000000 in
theorem digits_any {B g : Nat} {e : Int} {xs : List Bool} {w : World} (wd n : Nat) (h : IsWr B w g e xs) (hB : B ≤ w.heap.size) (hwd : wd ≤ 200) (hn : n < 9223372036854775808) (hl : xs.length + wd ≤ 16777216) :
    Calls Try.prog 41 #[.pointer (some ⟨g, 0, none⟩), .int .i64 (wd : Int), .int .i64 (n : Int)] w fun e' w' => e' = .returned (.tuple #[]) ∧ Hid (BitE B w g e (xs ++ dgs wd n) w') := by
  have H0 : Hid (BitE B w g e (xs ++ (dgs wd n).take 0) w) := hid ⟨by simpa using h, FrT.refl _ _ _⟩
  have HL : Hid (xs.length + wd ≤ 16777216) := hid hl
  have HB := hid hB
  clear h hl hB
  go_enter Try.func41, Try.ntmps41
  go_wp2_with fail
  go_loopw [6] (fun s wr => ∃ k : Nat, k ≤ wd ∧ s = .int .i64 ((wd : Int) - 1 - k) ∧ Hid (BitE B w g e (xs ++ (dgs wd n).take k) wr)) (fun s _ => (intOf s + 1).toNat)
  case atStart => exact ⟨0, by omega, by go_num, H0⟩
  case round =>
    obtain ⟨k, hk, rfl, HI⟩ := hrel
    clear H0
    by_cases hp : k < wd
    · obtain ⟨m, hm⟩ : ∃ m : Nat, (wd : Int) - 1 - k = (m : Int) := ⟨wd - 1 - k, by omega⟩
      have hm2 : m = wd - 1 - k := by omega
      have hm3 : m ≤ 200 := by omega
      rw [hm]
      have Hm := hid hm
      have HT := hid (dgs_take n hp)
      rw [← hm2] at HT
      have HLe : Hid ((xs ++ (dgs wd n).take k).length < 16777216) := hid (by
        have := HL.out
        rw [List.length_append, List.length_take, dgs_len]; omega)
      have Hbit := hid (bit_i64' n m hn)
      clear hm hm2
      go_wp2_with fail
      refine (bit_any HI.out.1 (Nat.le_trans HB.out HI.out.2.size) HLe.out _).mono ?_
      rintro e' w2 ⟨rfl, hw2⟩
      have HN : Hid (BitE B w g e (xs ++ (dgs wd n).take (k + 1)) w2) := hid (by
        rw [HT.out, ← List.append_assoc, ← Hbit.out]
        exact ⟨hw2.out.1, HI.out.2.trans hw2.out.2⟩)
      clear hw2 HI HLe HT Hbit
      go_wp2_with fail
      go_roundw
      case rel => exact ⟨k + 1, by omega, by have := Hm.out; go_num, HN⟩
      case measure => simp [intOf]
    · obtain rfl : k = wd := by omega
      have HD : Hid (BitE B w g e (xs ++ dgs k n) wr) := hid (by have h := HI.out; rwa [List.take_of_length_le (by rw [dgs_len]; exact Nat.le_refl _)] at h)
      clear HI
      have hneg : ¬ (0 : Int) ≤ (k : Int) - 1 - k := by omega
      go_wp2_with fail
      go_end0
      exact ⟨rfl, HD⟩

theorem nd_le (n : Nat) (h : n < 18446744073709551616) : nd n ≤ 64 := Lib.bitLen_le _ 64 (by omega) (by omega)
set_option maxHeartbeats 400000 in
theorem gammaLen_any (n : Nat) (w : World) (hn : n < 9223372036854775808) :
    Calls Try.prog 47 #[.int .i64 (n : Int)] w fun e' w' => e' = .returned (.int .i64 (2 * ((nd n : Nat) : Int) - 1)) ∧ w = w' := by
  have HL : Hid (∀ W : World, Calls Try.prog 59 #[.int .u64 (n : Int)] W fun e w' => e = .returned (.int .i64 ((nd n : Nat) : Int)) ∧ W = w') := hid fun W => by
    refine (Try.bits_Len (n : Int) W (by omega) (by omega)).mono ?_
    rintro e w' ⟨rfl, hw⟩
    exact ⟨rfl, hw.symm⟩
  have hle := nd_le n (by omega)
  generalize nd n = L at HL hle ⊢
  go_enter Try.func47, Try.ntmps47
  go_wp2_with fail
  refine (HL.out _).mono ?_
  rintro e w' ⟨rfl, rfl⟩
  go_wp2_with fail
  go_ret
  exact ⟨ret_int (by go_num), rfl⟩
end Go.Proofs.Ytgdfiopdkidhfaa
