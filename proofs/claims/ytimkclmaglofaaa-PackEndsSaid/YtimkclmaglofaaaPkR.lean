/- The document's rows: digits, Width, New, Of. -/
import Derived.Test.YtimkclmaglofaaaPk6
import Derived.Test.YtimkclmaglofaaaOwn
namespace Go.Proofs.Ytimkclmaglofaaa
open Go.RowKit
open Bit

set_option maxHeartbeats 1000000 in
theorem digits_any (x : Nat) (w : World) (hx : x < 9223372036854775808) :
    Calls Try.prog 40 #[.int .i64 (x : Int)] w fun e w' => e = .returned (.int .i64 ((len1 x : Nat) : Int)) ∧ w = w' := by
  obtain ⟨T, hT⟩ : ∃ T, T = len1 x := ⟨_, rfl⟩
  rw [← hT]
  have HT := hid hT
  have hT64 : T ≤ 64 := by rw [hT]; exact len1_le (by omega) (by omega) (by omega)
  clear hT
  go_enter Try.func40, Try.ntmps40
  go_wp2
  go_loop [0, 3] (fun n d => ∃ m k : Nat, n = .int .i64 m ∧ d = .int .i64 ((k + 1 : Nat) : Int) ∧ m < 9223372036854775808 ∧ k ≤ 64 ∧ Hid (len1 m + k = T)) (fun n _ => (intOf n).toNat)
  case atStart => exact ⟨x, 0, rfl, rfl, hx, by omega, hid (by rw [HT.out]; omega)⟩
  case round =>
    obtain ⟨m, k, rfl, rfl, hm, hk, HI⟩ := hrel
    by_cases hp : 1 < m
    · have hh := len1_half hp (by omega)
      have hl := len1_pos (m / 2)
      have HN : Hid (len1 (m / 2) + (k + 1) = T) := hid (by have := HI.out; omega)
      have hk2 : k + 1 ≤ 64 := by have := HN.out; omega
      clear hh hl HI
      have hp' : 1 < (m : Int) := by omega
      have ek : ((k + 1 : Nat) : Int) = (k : Int) + 1 := by omega
      rw [ek]
      clear ek
      go_wp2
      go_round
      case rel => exact ⟨m / 2, k + 1, by congr 1, by go_num, by omega, hk2, HN⟩
      case measure => simp [intOf]; omega
    · have HE : Hid (k + 1 = T) := hid (by have h1 := HI.out; rw [len1_small (by omega)] at h1; omega)
      clear HI
      have hp' : ¬ 1 < (m : Int) := by omega
      rw [HE.out]
      go_wp2
      go_ret
      exact ⟨rfl, rfl⟩

theorem good60_iff {z : Int} (h0 : 0 ≤ z) (h1 : z ≤ 9223372036854775807) : good 60 z = decide (¬ (60 : Int) < ((len1 z.toNat : Nat) : Int)) := by
  have h := len1_iff (x := z.toNat) (k := 60) (by omega) (by omega) (by omega)
  rw [Bool.eq_iff_iff, good_nat, decide_eq_true_eq, ← h]
  omega

set_option maxHeartbeats 1000000 in
theorem refWidth_any (cap : Nat) (A : Option Addr) (zs : List Int) (w : World) (hz : RdI w A zs) (hl : zs.length ≤ 9223372036854775807) (hi : Ints zs) :
    Calls Try.prog 12 #[.slice A zs.length cap] w (WidthE zs w) := by
  have HZ := hid hz
  have HI := hid hi
  clear hz hi
  obtain ⟨N, hN⟩ : ∃ N, N = zs.length := ⟨_, rfl⟩
  rw [← hN] at hl ⊢
  have HN := hid hN
  clear hN
  go_enter Try.func12, Try.ntmps12
  go_wp2
  go_loop [4, 5] (fun v s => ∃ k : Nat, k ≤ N ∧ s = .int .i64 k ∧ Hid (∀ z ∈ zs.take k, good 60 z = true) ∧ v = .int .i64 ((wid (zs.take k) : Nat) : Int)) (fun _ s => N - (intOf s).toNat)
  case atStart => exact ⟨0, by omega, rfl, hid (by simp), rfl⟩
  case round =>
    obtain ⟨k, hk, rfl, HA, rfl⟩ := hrel
    have hwl : wid (zs.take k) ≤ 60 := wid_le (by omega) (by omega) HA.out
    have hwp := wid_pos (zs.take k)
    by_cases hp : k < N
    · have hlt : k < zs.length := by rw [← HN.out]; exact hp
      obtain ⟨b, off, hA, hc, _⟩ := HZ.out.at hlt
      unfold vI at hc
      subst hA
      have hzb := HI.out _ (getD_mem hlt)
      have HBad : Hid (good 60 (zs.getD k 0) = false → allGood 60 zs = false) := hid fun hg => by
        have : ¬ allGood 60 zs = true := fun h => by have := allGood_iff.1 h _ (getD_mem hlt); rw [hg] at this; cases this
        simpa using this
      have HGood : Hid (good 60 (zs.getD k 0) = true → (∀ z ∈ zs.take (k + 1), good 60 z = true)) := hid fun hg => good_snoc hlt HA.out hg
      have HW : Hid (wid (zs.take (k + 1)) = max (wid (zs.take k)) (len1 (zs.getD k 0).toNat)) := hid (by rw [take_getD hlt, wid_snoc])
      clear HA hlt
      generalize wid (zs.take k) = v at HW hwl hwp ⊢
      generalize zs.getD k 0 = z at hc hzb HBad HGood HW
      by_cases h0 : z < 0
      · have HB := hid (HBad.out (by unfold good; simp; omega))
        go_wp2
        go_ret2
        unfold WidthE
        rw [HB.out]
        exact ⟨rfl, rfl⟩
      · obtain ⟨n, rfl⟩ := Int.eq_ofNat_of_zero_le (a := z) (by omega)
        have hgi := good60_iff (z := (n : Int)) (by omega) hzb.2
        have hn : n < 9223372036854775808 := by omega
        have HD := hid (fun W => digits_any n W hn)
        have hl1 : len1 n ≤ 64 := len1_le (by omega) (by omega) (by omega)
        rw [Int.toNat_natCast] at hgi HW
        generalize len1 n = q at hgi HD HW hl1
        by_cases hq : 60 < (q : Int)
        · have HB := hid (HBad.out (by rw [hgi]; simp; omega))
          clear HBad HGood HW hgi hzb
          have hnn : ¬ (n : Int) < 0 := by omega
          go_wp2_with (go_at_call 40; refine (HD.out _).mono ?_; rintro e w' ⟨rfl, rfl⟩)
          go_ret2
          unfold WidthE
          rw [HB.out]
          exact ⟨rfl, rfl⟩
        · have HA2 := hid (HGood.out (by rw [hgi]; simp; omega))
          have HL : Hid (max ((v : Nat) : Int) ((q : Nat) : Int) = ((wid (zs.take (k + 1)) : Nat) : Int)) := hid (by rw [HW.out]; omega)
          clear HBad HGood HW hgi hzb
          have hnn : ¬ (n : Int) < 0 := by omega
          go_wp2_with (go_at_call 40; refine (HD.out _).mono ?_; rintro e w' ⟨rfl, rfl⟩)
          go_round
          case rel => exact ⟨k + 1, by omega, by go_num, HA2, congrArg (Value.int .i64) HL.out⟩
          case measure => simp [intOf]; omega
    · obtain rfl : k = N := by omega
      have HB : Hid (allGood 60 zs = true) := hid (allGood_iff.2 (by have := HA.out; rw [HN.out, List.take_length] at this; exact this))
      have HT : Hid (wid (zs.take k) = wid zs) := hid (by rw [HN.out, List.take_length])
      clear HA
      generalize wid (zs.take k) = v at hwl hwp HT ⊢
      go_wp2
      go_ret2
      unfold WidthE
      rw [HB.out, ← HT.out]
      exact ⟨rfl, rfl⟩
end Go.Proofs.Ytimkclmaglofaaa
