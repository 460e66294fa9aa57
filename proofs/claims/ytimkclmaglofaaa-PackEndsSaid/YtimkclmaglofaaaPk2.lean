/- pack: a row's words: taken, laid. -/
import Derived.Test.YtimkclmaglofaaaPk1
import Derived.RegionTactic
import Derived.ChangeAlike
namespace Go.Proofs.Ytimkclmaglofaaa
open Go.RowKit
open Bit

theorem mask_int (wd : Nat) (h : wd ≤ 60) : IntKind.u64.wrap (IntKind.u64.wrap ((2 : Int) ^ wd) - 1) = ((2 ^ wd - 1 : Nat) : Int) := by
  have e : (2 : Int) ^ wd = ((2 ^ wd : Nat) : Int) := by simp
  have h1 : 2 ^ wd ≤ 2 ^ 60 := Nat.pow_le_pow_right (by decide) h
  have h2 := Nat.two_pow_pos wd
  rw [e, wrapU_fit _ (by omega), show ((2 ^ wd : Nat) : Int) - 1 = ((2 ^ wd - 1 : Nat) : Int) by omega, wrapU_fit _ (by omega)]
theorem mask_and (x wd : Nat) (h : wd ≤ 60) (hx : x < 18446744073709551616) : wrap64 (bits .and .u64 (x : Int) (IntKind.u64.wrap (IntKind.u64.wrap ((2 : Int) ^ wd) - 1))) = ((x &&& (2 ^ wd - 1) : Nat) : Int) := by
  have h1 : 2 ^ wd ≤ 2 ^ 60 := Nat.pow_le_pow_right (by decide) h
  have h2 := Nat.two_pow_pos wd
  rw [mask_int wd h, u64_and_nat x _ hx (by omega)]
  have h3 : x &&& (2 ^ wd - 1) ≤ 2 ^ wd - 1 := Nat.and_le_right
  exact IntWalk.wrap64_in _ ⟨by omega, by omega⟩

set_option maxHeartbeats 400000 in
theorem take_lo (gw N a wd x : Nat) (w : World) (hx : w.cell? ⟨gw, a / 64, none⟩ = some (.int .u64 (x : Int))) (hw1 : 1 ≤ wd) (hw : wd ≤ 60) (hat : a / 64 < N) (ha : a ≤ 16777216) (hlo : a % 64 + wd ≤ 64) (hx2 : x < 18446744073709551616) :
    Calls Try.prog 61 #[.slice (some ⟨gw, 0, none⟩) N N, .int .i64 (a : Int), .int .i64 (wd : Int)] w fun e w' => e = .returned (.int .i64 (((x / 2 ^ (a % 64)) &&& (2 ^ wd - 1) : Nat) : Int)) ∧ w = w' := by
  go_enter Try.func61, Try.ntmps61
  go_wp2
  go_ret
  refine ⟨ret_int ?_, rfl⟩
  rw [divU]
  exact mask_and _ wd hw (div_lt64 _ hx2)
set_option maxHeartbeats 400000 in
theorem take_hi (gw N a wd x y : Nat) (w : World) (hx : w.cell? ⟨gw, a / 64, none⟩ = some (.int .u64 (x : Int))) (hy : w.cell? ⟨gw, a / 64 + 1, none⟩ = some (.int .u64 (y : Int))) (hw1 : 1 ≤ wd) (hw : wd ≤ 60) (hat : a / 64 + 1 < N) (ha : a ≤ 16777216)
    (hlo : 64 < a % 64 + wd) (hx2 : x < 18446744073709551616) :
    Calls Try.prog 61 #[.slice (some ⟨gw, 0, none⟩) N N, .int .i64 (a : Int), .int .i64 (wd : Int)] w fun e w' => e = .returned (.int .i64 (((x / 2 ^ (a % 64)) ||| (y * 2 ^ (64 - a % 64)) % 2 ^ 64) &&& (2 ^ wd - 1) : Nat)) ∧ w = w' := by
  go_enter Try.func61, Try.ntmps61
  go_wp2
  go_ret
  refine ⟨ret_int ?_, rfl⟩
  rw [divU, orU_shl _ _ _ (div_lt64 _ hx2)]
  exact mask_and _ wd hw (Nat.or_lt_two_pow (n := 64) (div_lt64 _ hx2) (mod_lt64 _))
theorem take_any {gw N a wd : Nat} {f : Nat → Bool} {w : World} (h : w.rowIs gw 79 N fun j => .int .u64 ((word f j : Nat) : Int)) (hw1 : 1 ≤ wd) (hw : wd ≤ 60) (hat : a + wd ≤ 64 * N) (ha : a ≤ 16777216) :
    Calls Try.prog 61 #[.slice (some ⟨gw, 0, none⟩) N N, .int .i64 (a : Int), .int .i64 (wd : Int)] w fun e w' => e = .returned (.int .i64 ((ofB f a wd : Nat) : Int)) ∧ w = w' := by
  by_cases hlo : a % 64 + wd ≤ 64
  · have := take_lo gw N a wd _ w (h.cell (i := a / 64) (by omega)) hw1 hw (by omega) ha hlo (word_lt _ _)
    rwa [take_one f a wd hlo] at this
  · have := take_hi gw N a wd _ _ w (h.cell (i := a / 64) (by omega)) (h.cell (i := a / 64 + 1) (by omega)) hw1 hw (by omega) ha (by omega) (word_lt _ _)
    rwa [take_two f a wd (by omega)] at this

def PutR (w wr : World) (gw N : Nat) (f : Nat → Bool) : Prop := wr.rowIs gw 79 N (fun j => .int .u64 ((word f j : Nat) : Int)) ∧ Only (· = gw) w wr
set_option maxHeartbeats 400000 in
theorem put_lo (gw N a wd x y : Nat) (w : World) (hc : w.cell? ⟨gw, a / 64, none⟩ = some (.int .u64 (x : Int))) (hf : w.frozen? ⟨gw, a / 64, none⟩ = false) (hw1 : 1 ≤ wd) (hw : wd ≤ 60) (hat : a / 64 < N) (ha : a ≤ 16777216) (hlo : a % 64 + wd ≤ 64) (hx2 : x < 18446744073709551616) (hy : y < 18446744073709551616) :
    Calls Try.prog 46 #[.slice (some ⟨gw, 0, none⟩) N N, .int .i64 (a : Int), .int .i64 (wd : Int), .int .i64 (y : Int)] w
      fun e w' => e = .returned (.tuple #[]) ∧ Hid (w' = (w.setCell ⟨gw, a / 64, none⟩ (.int .u64 ((x ||| y * 2 ^ (a % 64) % 2 ^ 64 : Nat) : Int))).drew) := by
  have hwk : IntKind.i64.wrap ((a : Int) / 64) = (a : Int) / 64 := by rw [IntKind.wrap_i64]; omega
  have hk0 : 0 ≤ (a : Int) / 64 := by omega
  have hkm' : (a : Int) / 64 < (N : Int) := by omega
  have hkn : ((a : Int) / 64).toNat = a / 64 := by omega
  have hyw : IntKind.u64.wrap (y : Int) = (y : Int) := wrapU_fit y hy
  have HO := hid (orU_shl x y (a % 64) hx2)
  go_enter Try.func46, Try.ntmps46
  go_wp2
  go_region
  all_goals go_wp2
  go_end0
  exact ⟨rfl, hid (by rw [HO.out])⟩

set_option maxHeartbeats 1000000 in
theorem put_hi (gw N a wd x y z : Nat) (w : World) (hc : w.cell? ⟨gw, a / 64, none⟩ = some (.int .u64 (x : Int))) (hf : w.frozen? ⟨gw, a / 64, none⟩ = false) (hc2 : w.cell? ⟨gw, a / 64 + 1, none⟩ = some (.int .u64 (z : Int)))
    (hf2 : w.frozen? ⟨gw, a / 64 + 1, none⟩ = false) (hw1 : 1 ≤ wd) (hw : wd ≤ 60) (hat : a / 64 + 1 < N) (ha : a ≤ 16777216) (hhi : 64 < a % 64 + wd) (hx2 : x < 18446744073709551616) (hy : y < 18446744073709551616) (hz2 : z < 18446744073709551616) :
    Calls Try.prog 46 #[.slice (some ⟨gw, 0, none⟩) N N, .int .i64 (a : Int), .int .i64 (wd : Int), .int .i64 (y : Int)] w
      fun e w' => e = .returned (.tuple #[]) ∧ Hid (w' = (((w.setCell ⟨gw, a / 64, none⟩ (.int .u64 ((x ||| y * 2 ^ (a % 64) % 2 ^ 64 : Nat) : Int))).drew).setCell ⟨gw, a / 64 + 1, none⟩ (.int .u64 ((z ||| y / 2 ^ (64 - a % 64) : Nat) : Int))).drew) := by
  have hwk : IntKind.i64.wrap ((a : Int) / 64) = (a : Int) / 64 := by rw [IntKind.wrap_i64]; omega
  have hk0 : 0 ≤ (a : Int) / 64 := by omega
  have hkm' : (a : Int) / 64 < (N : Int) := by omega
  have hkn : ((a : Int) / 64).toNat = a / 64 := by omega
  have hwk1 : IntKind.i64.wrap ((a : Int) / 64 + 1) = (a : Int) / 64 + 1 := by rw [IntKind.wrap_i64]; omega
  have hk01 : 0 ≤ (a : Int) / 64 + 1 := by omega
  have hkm1 : (a : Int) / 64 + 1 < (N : Int) := by omega
  have hkn1 : ((a : Int) / 64 + 1).toNat = a / 64 + 1 := by omega
  have hs1 : IntKind.i64.wrap (64 - (a : Int) % 64) = 64 - (a : Int) % 64 := by rw [IntKind.wrap_i64]; omega
  have hs0 : 0 ≤ 64 - (a : Int) % 64 := by omega
  have hsn : (64 - (a : Int) % 64).toNat = 64 - a % 64 := by omega
  have hyw : IntKind.u64.wrap (y : Int) = (y : Int) := wrapU_fit y hy
  have HO := hid (orU_shl x y (a % 64) hx2)
  have HP := hid (orU_shr z y (64 - a % 64) hz2 hy)
  go_enter Try.func46, Try.ntmps46
  go_wp2
  go_region
  all_goals go_wp2
  go_region
  all_goals go_wp2
  go_end0
  refine ⟨rfl, hid ?_⟩
  rw [← HO.out, ← HP.out]
  rfl

theorem put_any {gw N a wd y : Nat} {f : Nat → Bool} {w : World} (h : w.rowIs gw 79 N fun j => .int .u64 ((word f j : Nat) : Int)) (hw1 : 1 ≤ wd) (hw : wd ≤ 60) (hat : a + wd ≤ 64 * N) (ha : a ≤ 16777216) (hy : y < 2 ^ wd) :
    Calls Try.prog 46 #[.slice (some ⟨gw, 0, none⟩) N N, .int .i64 (a : Int), .int .i64 (wd : Int), .int .i64 (y : Int)] w fun e w' => e = .returned (.tuple #[]) ∧ Hid (PutR w w' gw N (orAt f a y)) := by
  have h60 : 2 ^ wd ≤ 2 ^ 60 := Nat.pow_le_pow_right (by decide) hw
  have hy64 : y < 2 ^ 64 := by omega
  by_cases hlo : a % 64 + wd ≤ 64
  · refine (put_lo gw N a wd _ y w (h.cell (i := a / 64) (by omega)) (h.frozen _) hw1 hw (by omega) ha hlo (word_lt _ _) hy64).mono ?_
    rintro e w' ⟨rfl, HE⟩
    refine ⟨rfl, hid ?_⟩
    rw [HE.out]
    refine ⟨((h.set (a / 64) _).congr fun j _ => ?_).drew, ((Only.refl (· = gw) w).setCell (p := ⟨gw, a / 64, none⟩) (.inl rfl) _).drew⟩
    by_cases e1 : j = a / 64
    · subst e1; rw [if_pos rfl, word_or_lo]
    · rw [if_neg e1]
      by_cases e2 : j = a / 64 + 1
      · subst e2
        have hz : y / 2 ^ (64 - a % 64) = 0 := Nat.div_eq_of_lt (Nat.lt_of_lt_of_le hy (Nat.pow_le_pow_right (by decide) (by omega)))
        rw [word_or_hi, hz]; simp
      · rw [word_or_far f hy64 e1 e2]
  · refine (put_hi gw N a wd _ y _ w (h.cell (i := a / 64) (by omega)) (h.frozen _) (h.cell (i := a / 64 + 1) (by omega)) (h.frozen _) hw1 hw (by omega) ha (by omega) (word_lt _ _) hy64 (word_lt _ _)).mono ?_
    rintro e w' ⟨rfl, HE⟩
    refine ⟨rfl, hid ?_⟩
    rw [HE.out]
    refine ⟨((((h.set (a / 64) _).drew).set (a / 64 + 1) _).congr fun j _ => ?_).drew, ((((Only.refl (· = gw) w).setCell (p := ⟨gw, a / 64, none⟩) (.inl rfl) _).drew).setCell (p := ⟨gw, a / 64 + 1, none⟩) (.inl rfl) _).drew⟩
    by_cases e2 : j = a / 64 + 1
    · subst e2
      have : y / 2 ^ (64 - a % 64) % 2 ^ 64 = y / 2 ^ (64 - a % 64) := Nat.mod_eq_of_lt (Nat.lt_of_le_of_lt (Nat.div_le_self _ _) hy64)
      rw [if_pos rfl, word_or_hi, this]
    · rw [if_neg e2]
      by_cases e1 : j = a / 64
      · subst e1; rw [if_pos rfl, word_or_lo]
      · rw [if_neg e1, word_or_far f hy64 e1 e2]
end Go.Proofs.Ytimkclmaglofaaa
