/- Rank and Select of a vector. -/
import Derived.Test.YtneipjocimcmnaaDoorVec
import Derived.Test.YtneipjocimcmnaaDoorShelf
namespace Go.Proofs.YtneipjocimcmnaaDoor
open Go.RowKit
open Fen

theorem mask_int (x m : Nat) (hx : x < 18446744073709551616) (hm : m < 64) : bits .and .u64 (x : Int) (IntKind.u64.wrap (IntKind.u64.wrap ((2 : Int) ^ m) - 1)) = ((x &&& (2 ^ m - 1) : Nat) : Int) := by
  have hp : 0 < 2 ^ m := Nat.two_pow_pos m
  have h64 : 2 ^ m ≤ 2 ^ 63 := Nat.pow_le_pow_right (by decide) (by omega)
  have e : (2 : Int) ^ m = ((2 ^ m : Nat) : Int) := by simp
  rw [e, wrap_fit _ (by omega), show ((2 ^ m : Nat) : Int) - 1 = ((2 ^ m - 1 : Nat) : Int) by omega, wrap_fit _ (by omega)]
  exact and_lit x (2 ^ m - 1) _ rfl hx (by omega)

set_option maxHeartbeats 400000 in
theorem rank_core (g gs gw n S W i x z T y : Nat) (c pwf wf : Nat → Nat) (w : World) (hself : Hid (w.cell? ⟨g, 2, none⟩ = some (.pointer (some ⟨g, 0, none⟩)))) (h4 : w.cell? ⟨g, 4, none⟩ = some (.int .i64 n))
    (h0 : w.cell? ⟨g, 0, none⟩ = some (.slice (some ⟨gs, 0, none⟩) S S)) (h3 : w.cell? ⟨g, 3, none⟩ = some (.slice (some ⟨gw, 0, none⟩) W W)) (hs : Hid (∀ j, j < S → w.cell? ⟨gs, j, none⟩ = some (.int .i32 ((fen c j : Nat) : Int))))
    (hw : Hid (∀ j, j < W → w.cell? ⟨gw, j, none⟩ = some (.int .u64 (wf j : Nat)) ∧ wf j < 18446744073709551616 ∧ pc (wf j) = pwf j)) (hi0 : 0 < i) (hi : i < n) (_hn : n ≤ 16777216) (hW : W ≤ 262144) (hiW : i / 64 < W) (hiS : i / 512 < S) (hS : S ≤ 40000)
    (hcell : w.cell? ⟨gw, i / 64, none⟩ = some (.int .u64 x)) (_hx : x < 18446744073709551616) (hm : bits .and .u64 (x : Int) (IntKind.u64.wrap (IntKind.u64.wrap ((2 : Int) ^ (i % 64)) - 1)) = (z : Int)) (hz : z < 18446744073709551616) (hy : Hid (pc z = y)) (hy64 : y ≤ 64)
    (hc : C c (i / 512) ≤ T) (hcw : Hid (C c (i / 512) = C pwf (i / 512 * 8))) (hT : Hid (C pwf (i / 64) = T)) (hT' : T + y ≤ 16777216) :
    Calls Tryd.prog 26 #[.pointer (some ⟨g, 0, none⟩), .int .i64 i] w fun e w' => e = .returned (.int .i64 ((T + y : Nat) : Int)) ∧ ∃ k, w' = w.drewN k := by
  have hi' : ¬ (i : Int) ≤ 0 := by omega
  have hi'' : ¬ (n : Int) ≤ (i : Int) := by omega
  have hle : i / 512 * 8 ≤ i / 64 := by omega
  go_enter Tryd.func26, Tryd.ntmps26
  go_wp2_with (first | (go_at_call 41; refine (answered_core _ _ hself.out).mono ?_; rintro e w' ⟨rfl, rfl⟩) | (go_at_call 47; refine (ahead_core g gs S (i / 512) c w h0 hs hiS hS (by omega)).mono ?_; rintro e w' ⟨rfl, rfl⟩))
  go_loop [7, 48] (fun s j => ∃ k x' : Nat, k ≤ i / 64 - i / 512 * 8 ∧ j = .int .i64 k ∧ s = .int .i64 x' ∧ x' ≤ T ∧ Hid (x' = C pwf (i / 512 * 8 + k))) (fun _ j => i / 64 - i / 512 * 8 - (intOf j).toNat)
  case atStart => exact ⟨0, C c (i / 512), by omega, rfl, rfl, hc, hid (by rw [hcw.out]; rfl)⟩
  case round =>
    obtain ⟨k, x', hk, rfl, rfl, hx', Hx⟩ := hrel
    by_cases hp : k < i / 64 - i / 512 * 8
    · have hj := hw.out (i / 512 * 8 + k) (by omega)
      have Hn : Hid (x' + pwf (i / 512 * 8 + k) = C pwf (i / 512 * 8 + (k + 1))) := hid (by rw [Hx.out, ← Nat.add_assoc]; rfl)
      have hle2 : x' + pwf (i / 512 * 8 + k) ≤ T := by
        rw [Hn.out, ← hT.out]; exact C_mono _ (by omega)
      obtain ⟨hjc, hjl, hjp⟩ := hj
      have Hjp := hid hjp
      clear hjp Hx
      generalize wf (i / 512 * 8 + k) = v at hjc hjl Hjp
      generalize pwf (i / 512 * 8 + k) = u at Hjp Hn hle2
      go_wp2_with (go_at_call 48; refine (onesCount_any v _ hjl).mono ?_; rintro e w' ⟨rfl, rfl⟩; rw [Hjp.out])
      go_round
      case rel => exact ⟨k + 1, x' + u, by omega, by go_num, by go_num, by omega, Hn⟩
      case measure => simp [intOf]; omega
    · obtain rfl : k = i / 64 - i / 512 * 8 := by omega
      have hxT : x' = T := by rw [Hx.out, ← hT.out]; congr 1; omega
      have HxT := hid hxT
      clear hxT Hx
      go_wp2
      go_quiet ((go_at_call 48; exact quiet_left (onesCount_any z _ hz)))
      go_wp2
      go_ret
      refine ⟨?_, _, rfl⟩
      rw [hy.out, HxT.out]
      exact ret_int ((IntWalk.wrap64_in _ ⟨by omega, by omega⟩).trans (Int.natCast_add T y).symm)

set_option maxHeartbeats 400000 in
theorem rank_low (g : Nat) (i : Int) (w : World) (hself : Hid (w.cell? ⟨g, 2, none⟩ = some (.pointer (some ⟨g, 0, none⟩)))) (hi : i ≤ 0) :
    Calls Tryd.prog 26 #[.pointer (some ⟨g, 0, none⟩), .int .i64 i] w fun e w' => e = .returned (.int .i64 0) ∧ w = w' := by
  go_enter Tryd.func26, Tryd.ntmps26
  go_wp2_with (go_at_call 41; refine (answered_core _ _ hself.out).mono ?_; rintro e w' ⟨rfl, rfl⟩)
  go_ret
  exact ⟨rfl, rfl⟩
set_option maxHeartbeats 400000 in
theorem rank_high (g n : Nat) (i t : Int) (w : World) (hself : Hid (w.cell? ⟨g, 2, none⟩ = some (.pointer (some ⟨g, 0, none⟩)))) (h4 : w.cell? ⟨g, 4, none⟩ = some (.int .i64 n)) (h1 : w.cell? ⟨g, 1, none⟩ = some (.int .i64 t)) (h0 : ¬ i ≤ 0) (hi : (n : Int) ≤ i) :
    Calls Tryd.prog 26 #[.pointer (some ⟨g, 0, none⟩), .int .i64 i] w fun e w' => e = .returned (.int .i64 t) ∧ w = w' := by
  go_enter Tryd.func26, Tryd.ntmps26
  go_wp2_with (go_at_call 41; refine (answered_core _ _ hself.out).mono ?_; rintro e w' ⟨rfl, rfl⟩)
  go_ret
  exact ⟨rfl, rfl⟩

theorem IsVec.total {w : World} {g gs gw n : Nat} {f : Nat → Bool} (h : IsVec w g gs gw n f) {m : Nat} (hm : n ≤ m) : C (cf f) m = C (cf f) n :=
  C_stop hm fun i hi => by unfold cf; rw [h.out i hi]; rfl

theorem rank_any {g gs gw n : Nat} {f : Nat → Bool} {w : World} (h : IsVec w g gs gw n f) (i : Int) :
    Calls Tryd.prog 26 #[.pointer (some ⟨g, 0, none⟩), .int .i64 i] w fun e w' => e = .returned (.int .i64 ((C (cf f) i.toNat : Nat) : Int)) ∧ ∃ k, w' = w.drewN k := by
  have c0 := h.self.cell (i := 0) (by omega)
  have c1 := h.self.cell (i := 1) (by omega)
  have c2 := h.self.cell (i := 2) (by omega)
  have c3 := h.self.cell (i := 3) (by omega)
  have c4 := h.self.cell (i := 4) (by omega)
  have hs := h.small
  by_cases h0 : i ≤ 0
  · refine (rank_low g i w (hid c2) h0).mono ?_
    rintro e w' ⟨rfl, rfl⟩
    exact ⟨by rw [show i.toNat = 0 by omega]; rfl, 0, rfl⟩
  · by_cases h1 : (n : Int) ≤ i
    · refine (rank_high g n i _ w (hid c2) c4 c1 h0 h1).mono ?_
      rintro e w' ⟨rfl, rfl⟩
      exact ⟨by rw [h.total (show n ≤ i.toNat by omega)], 0, rfl⟩
    · obtain ⟨k, rfl⟩ := Int.eq_ofNat_of_zero_le (a := i) (by omega)
      have hk : k < n := by omega
      have hW : k / 64 < nw n := by unfold nw; omega
      have e := rank_split f k
      have hle : C (cf f) k ≤ k := C_le (cf_le f) k
      have hmod : k % 64 ≤ 64 := by omega
      have hpm := pc_mask (wordOf f (k / 64)) (k % 64) hmod
      have hb : C (bitN (wordOf f (k / 64))) (k % 64) ≤ k % 64 := C_le (bitN_le _) _
      have hblk : C (blk f) (k / 512) = C (pw f) (k / 512 * 8) := by rw [C_blocks, Nat.mul_comm]
      refine (rank_core g gs gw n (nb n + 1) (nw n) k (wordOf f (k / 64)) (wordOf f (k / 64) &&& (2 ^ (k % 64) - 1)) (C (pw f) (k / 64)) (C (bitN (wordOf f (k / 64))) (k % 64)) (blk f) (pw f) (wordOf f) w (hid c2) c4 c0 c3
        (hid fun j hj => h.sums.cell hj) (hid fun j hj => ⟨h.words.cell hj, wordOf_lt f j, rfl⟩) (by omega) hk hs (by unfold nw; omega) hW (by unfold nb nw; omega) (by unfold nb nw; omega)
        (h.words.cell hW) (wordOf_lt f _) (mask_int _ _ (wordOf_lt f _) (by omega)) (Nat.lt_of_le_of_lt Nat.and_le_left (wordOf_lt f _)) (hid hpm) (by omega)
        (by rw [hblk]; exact C_mono _ (by omega)) (hid hblk) (hid rfl) (by omega)).mono ?_
      rintro e' w' ⟨rfl, k', rfl⟩
      exact ⟨by rw [Int.toNat_natCast, e], k', rfl⟩

/-! Which one of a word. -/
set_option maxHeartbeats 400000 in
theorem placeIn_any (x k : Nat) (w : World) (hx : x < 18446744073709551616) (hk : k < pc x) (hk64 : k < 64) (hT : Tab w) :
    Calls Tryd.prog 50 #[.int .u64 x, .int .i64 k] w fun e w' => ∃ p : Nat, e = .returned (.int .i64 p) ∧ w = w' ∧ p < 64 ∧ x.testBit p = true ∧ C (bitN x) p = k := by
  have HT := hid hT
  clear hT
  obtain ⟨N, hN⟩ : ∃ N, N = pc x := ⟨_, rfl⟩
  rw [← hN] at hk
  have HN := hid hN
  clear hN
  go_enter Tryd.func50, Tryd.ntmps50
  go_wp2
  go_loop [0, 6] (fun v j => ∃ i y : Nat, i ≤ k ∧ j = .int .i64 i ∧ v = .int .u64 y ∧ Hid (Fen.Left x i y)) (fun _ j => k - (intOf j).toNat)
  case atStart => exact ⟨0, x, by omega, rfl, rfl, hid (Fen.Left.zero x hx)⟩
  case round =>
    obtain ⟨i, y, hi, rfl, rfl, HL⟩ := hrel
    have hy := HL.out.1
    by_cases hp : i < k
    · obtain ⟨l1, l2, l3, l4, l5⟩ := HL.out.low (by rw [← HN.out]; omega)
      have HL' := hid l5
      have hy0 : 1 ≤ y := by omega
      have hand : bits .and .u64 (y : Int) ((y : Int) - 1) = ((y &&& (y - 1) : Nat) : Int) := by
        rw [show (y : Int) - 1 = ((y - 1 : Nat) : Int) by omega]; exact u64_and_nat y (y - 1) hy (by omega)
      clear l1 l2 l3 l4 l5 HL
      generalize y &&& (y - 1) = z at hand HL'
      go_wp2
      go_round
      case rel => exact ⟨i + 1, z, by omega, by go_num, rfl, HL'⟩
      case measure => simp [intOf]; omega
    · obtain rfl : i = k := by omega
      obtain ⟨l1, l2, l3, l4, l5⟩ := HL.out.low (by rw [← HN.out]; omega)
      have H1 := hid (And.intro l1 (And.intro l2 l3))
      have H4 := hid l4
      clear l1 l2 l3 l4 l5
      go_wp2_with (go_at_call 55; refine (trailing_any y _ H1.out.1 hy HT.out).mono ?_; rintro e w' ⟨rfl, rfl⟩)
      go_ret
      exact ⟨_, rfl, rfl, H4.out, H1.out.2.2, H1.out.2.1⟩

end Go.Proofs.YtneipjocimcmnaaDoor
