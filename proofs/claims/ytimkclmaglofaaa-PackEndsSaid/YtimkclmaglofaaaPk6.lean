/- pack: Width, Of. -/
import Derived.Test.YtimkclmaglofaaaPk5
import Derived.Test.YtimkclmaglofaaaShelf
import Derived.WalkLawsBesides
namespace Go.Proofs.Ytimkclmaglofaaa
open Go.RowKit
open Bit

theorem good_snoc {wd : Nat} {zs : List Int} {k : Nat} (hk : k < zs.length) (h : ∀ z ∈ zs.take k, good wd z = true) (hg : good wd (zs.getD k 0) = true) : ∀ z ∈ zs.take (k + 1), good wd z = true := by
  rw [take_getD hk]
  intro z hz
  rcases List.mem_append.1 hz with hz | hz
  · exact h z hz
  · rw [List.mem_singleton.1 hz]; exact hg
def allGood (wd : Nat) (zs : List Int) : Bool := zs.all (good wd)
theorem allGood_iff {wd : Nat} {zs : List Int} : allGood wd zs = true ↔ ∀ z ∈ zs, good wd z = true := List.all_eq_true
theorem allGood_bad {wd : Nat} {zs : List Int} : zs.any (badN wd) = !allGood wd zs := by
  unfold allGood badN
  induction zs with
  | nil => rfl
  | cons z zs ih => simp only [List.any_cons, List.all_cons, ih]; cases good wd z <;> simp

set_option maxHeartbeats 400000 in
theorem bitsLen_any (n : Nat) (w : World) (h : (n : Int) ≤ 18446744073709551615) :
    Calls Try.prog 39 #[.int .u64 (n : Int)] w fun e w' => e = .returned (.int .i64 ((Lib.bitLen n : Nat) : Int)) ∧ w = w' :=
  (Try.bits_Len (n : Int) w (by omega) h).mono fun _ _ ⟨h1, h2⟩ => ⟨by rw [h1, Int.toNat_natCast], h2.symm⟩

def WidthE (zs : List Int) (w : World) (e : Ending) (w' : World) : Prop :=
  e = .returned (.tuple #[.int .i64 (if allGood 60 zs = true then ((wid zs : Nat) : Int) else 0), .int .i64 (if allGood 60 zs = true then 0 else 2)]) ∧ w = w'
set_option maxHeartbeats 1000000 in
theorem widthOf_any (cap : Nat) (A : Option Addr) (zs : List Int) (w : World) (hz : RdI w A zs) (hl : zs.length ≤ 9223372036854775807) (hi : Ints zs) :
    Calls Try.prog 11 #[.slice A zs.length cap] w (WidthE zs w) := by
  have HZ := hid hz
  have HI := hid hi
  clear hz hi
  obtain ⟨N, hN⟩ : ∃ N, N = zs.length := ⟨_, rfl⟩
  rw [← hN] at hl ⊢
  have HN := hid hN
  clear hN
  go_enter Try.func11, Try.ntmps11
  go_wp2
  go_loop [4, 9] (fun v s => ∃ k : Nat, k ≤ N ∧ s = .int .i64 k ∧ Hid (∀ z ∈ zs.take k, good 60 z = true) ∧ v = .int .i64 ((wid (zs.take k) : Nat) : Int)) (fun _ s => N - (intOf s).toNat)
  case atStart => exact ⟨0, by omega, rfl, hid (by simp), rfl⟩
  case round =>
    obtain ⟨k, hk, rfl, HA, rfl⟩ := hrel
    have hwl : wid (zs.take k) ≤ 60 := wid_le (by omega) (by omega) HA.out
    have hwp := wid_pos (zs.take k)
    by_cases hp : k < N
    · have hlt : k < zs.length := by rw [← HN.out]; exact hp
      obtain ⟨b, off, hA, hc, _⟩ := HZ.out.at hlt
      unfold vI at hc
      subst hA
      have hzb := HI.out _ (getD_mem hlt)
      cases hg : good 60 (zs.getD k 0) with
      | true =>
        have HA2 := hid (good_snoc hlt HA.out hg)
        have hg2 := good_nat.1 hg
        have HW : Hid (wid (zs.take (k + 1)) = max (wid (zs.take k)) (len1 (zs.getD k 0).toNat)) := hid (by rw [take_getD hlt, wid_snoc])
        have Hg := hid hg
        clear HA hg hlt
        generalize wid (zs.take k) = v at HW hwl hwp ⊢
        generalize zs.getD k 0 = z at hc hzb hg2 Hg HW
        obtain ⟨n, rfl⟩ := Int.eq_ofNat_of_zero_le hg2.1
        have hn := hg2.2
        rw [Int.toNat_natCast] at hn HW
        have hb60 := Lib.bitLen_le n 60 (by omega) hn
        have HL : Hid (max ((v : Nat) : Int) ((Lib.bitLen n : Nat) : Int) = ((wid (zs.take (k + 1)) : Nat) : Int)) := hid (by rw [HW.out]; unfold len1; omega)
        clear hg2 hzb HW
        have hn64 : (n : Int) ≤ 1152921504606846975 := by omega
        clear hn
        go_wp2_with (first | (go_at_call 38; refine (fits_any _ 60 w (by omega) (by omega)).mono ?_; rintro e w' ⟨rfl, rfl⟩; rw [Hg.out]) | (go_at_call 39; refine (bitsLen_any n w (by omega)).mono ?_; rintro e w' ⟨rfl, rfl⟩))
        go_round
        case rel => exact ⟨k + 1, by omega, by go_num, HA2, congrArg (Value.int .i64) HL.out⟩
        case measure => simp [intOf]; omega
      | false =>
        have HB : Hid (allGood 60 zs = false) := hid (by
          have : ¬ allGood 60 zs = true := fun h => by have := allGood_iff.1 h _ (getD_mem hlt); rw [hg] at this; cases this
          simpa using this)
        have Hg := hid hg
        clear HA hg hlt
        generalize wid (zs.take k) = v at hwl hwp ⊢
        generalize zs.getD k 0 = z at hc hzb Hg
        go_wp2_with (first | (go_at_call 38; refine (fits_any _ 60 w (by omega) (by omega)).mono ?_; rintro e w' ⟨rfl, rfl⟩; rw [Hg.out]))
        go_ret2
        unfold WidthE
        rw [HB.out]
        exact ⟨rfl, rfl⟩
    · obtain rfl : k = N := by omega
      have HB : Hid (allGood 60 zs = true) := hid (allGood_iff.2 (by have := HA.out; rw [HN.out, List.take_length] at this; exact this))
      have HT : Hid (wid (zs.take k) = wid zs) := hid (by rw [HN.out, List.take_length])
      clear HA
      generalize wid (zs.take k) = v at hwl hwp HT ⊢
      go_wp2
      go_ret2
      unfold WidthE
      rw [HB.out, ← HT.out]
      exact ⟨rfl, rfl⟩

/-! The three ends of New. -/
def NewE (w : World) (wd : Int) (zs : List Int) (e : Ending) (w' : World) : Prop :=
  (isWd wd = true ∧ allGood wd.toNat zs = true ∧ wd.toNat * zs.length ≤ 16777216 ∧ Made w wd.toNat zs.length (fS wd.toNat (zl zs) zs.length) e w') ∨
  (¬ (isWd wd = true ∧ allGood wd.toNat zs = true) ∧ Refused w 2 e w') ∨
  ((isWd wd = true ∧ allGood wd.toNat zs = true) ∧ 16777216 < wd.toNat * zs.length ∧ Refused w 3 e w')
theorem new_any (wd : Int) (cap : Nat) (A : Option Addr) (zs : List Int) (w : World) (hz : RdI w A zs) (hl : zs.length ≤ 9223372036854775807) (hi : Ints zs) :
    Calls Try.prog 13 #[.int .i64 wd, .slice A zs.length cap] w (NewE w wd zs) := by
  cases h : isWd wd with
  | false => exact (new_badW wd _ w h).mono fun e w' hr => .inr (.inl ⟨by simp [h], hr⟩)
  | true =>
    obtain ⟨h1, h2⟩ := isWd_iff.1 h
    obtain ⟨n, rfl⟩ := Int.eq_ofNat_of_zero_le (a := wd) (by omega)
    have hn1 : 1 ≤ n := by omega
    have hn2 : n ≤ 60 := by omega
    cases hb : allGood n zs with
    | false => exact (new_badN n cap A zs w hn1 hn2 hz hl hi (by rw [allGood_bad, hb]; rfl)).mono fun e w' hr => .inr (.inl ⟨by simp [hb], hr⟩)
    | true =>
      have hb' : zs.any (badN n) = false := by rw [allGood_bad, hb]; rfl
      by_cases hm : n * zs.length ≤ 16777216
      · exact (new_ok n cap A zs w hn1 hn2 hz hi hb' hm).mono fun e w' hr => .inl ⟨h, hb, hm, hr⟩
      · exact (new_long n cap A zs w hn1 hn2 hz hl hi hb' (by omega)).mono fun e w' hr => .inr (.inr ⟨⟨h, hb⟩, by simpa using hm, hr⟩)

end Go.Proofs.Ytimkclmaglofaaa
