/- slices.ContainsFunc of ints, with the closures that only look. -/
import Derived.Test.YtgdfiopdkidhfaaRows
import Derived.Test.YtgdfiopdkidhfaaRd
import Derived.WalkSpells
namespace Go.Proofs.Ytgdfiopdkidhfaa
open Go.RowKit

set_option maxHeartbeats 1000000 in
theorem indexFnN (P : Int → Bool) (bx : Nat) (cap : Nat) (A : Option Addr) (zs : List Int) (w : World) (HC : Hid (∀ z, z ∈ zs → Calls Try.prog 35 #[.int .i64 z, .pointer (some ⟨bx, 0, none⟩)] w fun e w' => e = .returned (.bool (P z)) ∧ w = w'))
    (hz : RdI w A zs) (hl : zs.length ≤ 9223372036854775807) :
    Calls Try.prog 58 #[.slice A zs.length cap, .func (.func 35) #[] #[.pointer (some ⟨bx, 0, none⟩)]] w fun e w' => ∃ r : Int, e = .returned (.int .i64 r) ∧ w = w' ∧ decide (0 ≤ r) = zs.any P := by
  have HZ := hid hz
  clear hz
  obtain ⟨N, hN⟩ : ∃ N, N = zs.length := ⟨_, rfl⟩
  rw [← hN] at hl ⊢
  have HN := hid hN
  clear hN
  go_enter Try.func58, Try.ntmps58
  go_wp2
  go_loop [8] (fun s => ∃ k : Nat, k ≤ N ∧ s = .int .i64 k ∧ Hid ((zs.take k).any P = false)) (fun s => N - (intOf s).toNat)
  case atStart => exact ⟨0, by omega, rfl, hid (by simp)⟩
  case round =>
    obtain ⟨k, hk, rfl, HA⟩ := hrel
    by_cases hp : k < N
    · obtain ⟨b, off, hA, hc, _⟩ := HZ.out.at (k := k) (by rw [← HN.out]; exact hp)
      subst hA
      unfold vI at hc
      have HM := hid (take_getD (zs := zs) (k := k) (by rw [← HN.out]; exact hp))
      have HI := hid (getD_mem (zs := zs) (k := k) (by rw [← HN.out]; exact hp))
      generalize zs.getD k 0 = z at hc HM HI
      have HCz := hid (HC.out z HI.out)
      cases hbz : P z with
      | true =>
        have HB := hid hbz
        clear hbz
        go_wp2_with fail
        refine HCz.out.mono ?_
        rintro e w' ⟨rfl, rfl⟩
        rw [HB.out]
        go_wp2_with fail
        go_ret
        refine ⟨(k : Int), rfl, rfl, ?_⟩
        have : zs.any P = true := List.any_eq_true.2 ⟨z, HI.out, HB.out⟩
        rw [this]; simp
      | false =>
        have HB := hid hbz
        clear hbz
        go_wp2_with fail
        refine HCz.out.mono ?_
        rintro e w' ⟨rfl, rfl⟩
        rw [HB.out]
        go_wp2_with fail
        go_round
        case rel => exact ⟨k + 1, by omega, by go_num, hid (by rw [HM.out, List.any_append, HA.out]; simp [HB.out])⟩
        case measure => simp [intOf]; omega
    · obtain rfl : k = N := by omega
      go_wp2
      go_ret
      refine ⟨-1, rfl, rfl, ?_⟩
      have := HA.out
      rw [HN.out, List.take_length] at this
      rw [this]; rfl

set_option maxHeartbeats 400000 in
theorem containsFnN (P : Int → Bool) (bx : Nat) (cap : Nat) (A : Option Addr) (zs : List Int) (w : World) (HC : Hid (∀ z, z ∈ zs → Calls Try.prog 35 #[.int .i64 z, .pointer (some ⟨bx, 0, none⟩)] w fun e w' => e = .returned (.bool (P z)) ∧ w = w'))
    (hz : RdI w A zs) (hl : zs.length ≤ 9223372036854775807) :
    Calls Try.prog 39 #[.slice A zs.length cap, .func (.func 35) #[] #[.pointer (some ⟨bx, 0, none⟩)]] w fun e w' => e = .returned (.bool (zs.any P)) ∧ w = w' := by
  have HD := hid (indexFnN P bx cap A zs w HC hz hl)
  clear HC hz hl
  generalize zs.length = N at HD ⊢
  go_enter Try.func39, Try.ntmps39
  go_wp2_with fail
  refine HD.out.mono ?_
  rintro e w' ⟨r, rfl, rfl, hr⟩
  have HR := hid hr
  clear hr
  go_wp2_with fail
  go_ret
  exact ⟨ret_bool HR.out, rfl⟩
set_option maxHeartbeats 1000000 in
theorem indexFnG (P : Int → Bool)  (cap : Nat) (A : Option Addr) (zs : List Int) (w : World) (HC : Hid (∀ z, z ∈ zs → Calls Try.prog 43 #[.int .i64 z] w fun e w' => e = .returned (.bool (P z)) ∧ w = w'))
    (hz : RdI w A zs) (hl : zs.length ≤ 9223372036854775807) :
    Calls Try.prog 58 #[.slice A zs.length cap, .func (.func 43) #[] #[]] w fun e w' => ∃ r : Int, e = .returned (.int .i64 r) ∧ w = w' ∧ decide (0 ≤ r) = zs.any P := by
  have HZ := hid hz
  clear hz
  obtain ⟨N, hN⟩ : ∃ N, N = zs.length := ⟨_, rfl⟩
  rw [← hN] at hl ⊢
  have HN := hid hN
  clear hN
  go_enter Try.func58, Try.ntmps58
  go_wp2
  go_loop [8] (fun s => ∃ k : Nat, k ≤ N ∧ s = .int .i64 k ∧ Hid ((zs.take k).any P = false)) (fun s => N - (intOf s).toNat)
  case atStart => exact ⟨0, by omega, rfl, hid (by simp)⟩
  case round =>
    obtain ⟨k, hk, rfl, HA⟩ := hrel
    by_cases hp : k < N
    · obtain ⟨b, off, hA, hc, _⟩ := HZ.out.at (k := k) (by rw [← HN.out]; exact hp)
      subst hA
      unfold vI at hc
      have HM := hid (take_getD (zs := zs) (k := k) (by rw [← HN.out]; exact hp))
      have HI := hid (getD_mem (zs := zs) (k := k) (by rw [← HN.out]; exact hp))
      generalize zs.getD k 0 = z at hc HM HI
      have HCz := hid (HC.out z HI.out)
      cases hbz : P z with
      | true =>
        have HB := hid hbz
        clear hbz
        go_wp2_with fail
        refine HCz.out.mono ?_
        rintro e w' ⟨rfl, rfl⟩
        rw [HB.out]
        go_wp2_with fail
        go_ret
        refine ⟨(k : Int), rfl, rfl, ?_⟩
        have : zs.any P = true := List.any_eq_true.2 ⟨z, HI.out, HB.out⟩
        rw [this]; simp
      | false =>
        have HB := hid hbz
        clear hbz
        go_wp2_with fail
        refine HCz.out.mono ?_
        rintro e w' ⟨rfl, rfl⟩
        rw [HB.out]
        go_wp2_with fail
        go_round
        case rel => exact ⟨k + 1, by omega, by go_num, hid (by rw [HM.out, List.any_append, HA.out]; simp [HB.out])⟩
        case measure => simp [intOf]; omega
    · obtain rfl : k = N := by omega
      go_wp2
      go_ret
      refine ⟨-1, rfl, rfl, ?_⟩
      have := HA.out
      rw [HN.out, List.take_length] at this
      rw [this]; rfl

set_option maxHeartbeats 400000 in
theorem containsFnG (P : Int → Bool)  (cap : Nat) (A : Option Addr) (zs : List Int) (w : World) (HC : Hid (∀ z, z ∈ zs → Calls Try.prog 43 #[.int .i64 z] w fun e w' => e = .returned (.bool (P z)) ∧ w = w'))
    (hz : RdI w A zs) (hl : zs.length ≤ 9223372036854775807) :
    Calls Try.prog 39 #[.slice A zs.length cap, .func (.func 43) #[] #[]] w fun e w' => e = .returned (.bool (zs.any P)) ∧ w = w' := by
  have HD := hid (indexFnG P  cap A zs w HC hz hl)
  clear HC hz hl
  generalize zs.length = N at HD ⊢
  go_enter Try.func39, Try.ntmps39
  go_wp2_with fail
  refine HD.out.mono ?_
  rintro e w' ⟨r, rfl, rfl, hr⟩
  have HR := hid hr
  clear hr
  go_wp2_with fail
  go_ret
  exact ⟨ret_bool HR.out, rfl⟩
end Go.Proofs.Ytgdfiopdkidhfaa
