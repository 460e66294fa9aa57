/- Select of a vector. -/
import Derived.Test.YtneipjocimcmnaaDoorVecR
namespace Go.Proofs.YtneipjocimcmnaaDoor
open Go.RowKit
open Fen

theorem bitLenAux_lt : ∀ f x, x < 2 ^ f → x < 2 ^ Lib.bitLenAux f x
  | 0, x, h => by simpa [Lib.bitLenAux] using h
  | f + 1, x, h => by
    simp only [Lib.bitLenAux]
    by_cases h0 : x = 0
    · simp [h0]
    · rw [if_neg h0]
      have := bitLenAux_lt f (x / 2) (by rw [Nat.pow_succ] at h; omega)
      rw [Nat.add_comm, Nat.pow_succ]; omega
theorem bitsLen_any (x : Int) (w : World) (h0 : 0 ≤ x) (h1 : x ≤ 65535) :
    Calls Tryd.prog 54 #[.int .u64 x] w fun e w' => ∃ L : Nat, e = .returned (.int .i64 L) ∧ w = w' ∧ x.toNat < 2 ^ L ∧ L ≤ 16 := by
  refine (Tryd.bits_Len x w h0 (by omega)).mono ?_
  rintro e w' ⟨rfl, hw⟩
  exact ⟨_, rfl, hw.symm, bitLenAux_lt 64 _ (by omega), Lib.bitLen_le _ 16 (by omega) (by omega)⟩

set_option maxHeartbeats 400000 in
theorem holding_core (g gs S k : Nat) (c : Nat → Nat) (w : World) (h0 : w.cell? ⟨g, 0, none⟩ = some (.slice (some ⟨gs, 0, none⟩) (S + 1) (S + 1))) (hs : Hid (∀ j, j < S + 1 → w.cell? ⟨gs, j, none⟩ = some (.int .i32 ((fen c j : Nat) : Int)))) (hS : S ≤ 32768)
    (hk : k < 16777216) (hk' : Hid (k < C c S)) (hmax : Hid (∀ j, fen c j ≤ 16777216)) :
    Calls Tryd.prog 49 #[.pointer (some ⟨g, 0, none⟩), .int .i64 k] w fun e w' => ∃ B x : Nat, e = .returned (.tuple #[.int .i64 B, .int .i64 x]) ∧ w = w' ∧ B < S ∧ x + C c B = k ∧ k < C c (B + 1) := by
  go_enter Tryd.func49, Tryd.ntmps49
  go_wp2_with fail
  refine (bitsLen_any _ _ (by omega) (by omega)).mono ?_
  rintro e w' ⟨L, rfl, rfl, hL, hL16⟩
  have hL' : S + 1 < 2 ^ L := by omega
  have h16 : 2 ^ L ≤ 2 ^ 16 := Nat.pow_le_pow_right (by decide) hL16
  clear hL
  have HB : Hid (Inv c k (S + 1) 0 k (2 ^ L)) := hid (Inv.begin (by rw [Nat.pow_succ]; omega) (by omega))
  have hsh : IntKind.i64.wrap ((2 : Int) ^ L) = ((2 ^ L : Nat) : Int) := by
    have e : (2 : Int) ^ L = ((2 ^ L : Nat) : Int) := by simp
    rw [e, IntKind.wrap_i64]; omega
  go_wp2_with fail
  clear hsh
  go_loop [4, 5, 6] (fun b r s => ∃ B x st : Nat, b = .int .i64 B ∧ r = .int .i64 x ∧ s = .int .i64 st ∧ B < S + 1 ∧ x ≤ k ∧ st ≤ 65536 ∧ Hid (Inv c k (S + 1) B x st)) (fun _ _ s => (intOf s).toNat)
  case atStart => exact ⟨0, k, 2 ^ L, rfl, rfl, by simp, by omega, by omega, by omega, HB⟩
  case round =>
    obtain ⟨B, x, st, rfl, rfl, rfl, hB, hx, hst, HI⟩ := hrel
    clear HB hL' h16
    by_cases hp : 0 < st
    · obtain ⟨i1, i2, i3⟩ := HI.out.up hp
      by_cases hlt : B + st < S + 1
      · have hcell := hs.out (B + st) hlt
        have hf := hmax.out (B + st)
        by_cases hle : fen c (B + st) ≤ x
        · have HN := hid (i2 hlt hle)
          clear i1 i2 i3 HI
          generalize fen c (B + st) = y at hcell hle HN hf
          go_wp2
          go_round
          case rel => exact ⟨B + st, x - y, st / 2, by go_num, by go_num, by go_num, by omega, by omega, by omega, HN⟩
          case measure => simp [intOf]; omega
        · have HN := hid (i3 (.inr (by omega)))
          clear i1 i2 i3 HI
          generalize fen c (B + st) = y at hcell hle hf
          have hle' : ¬ (y : Int) ≤ (x : Int) := by omega
          go_wp2
          go_round
          case rel => exact ⟨B, x, st / 2, by go_num, by go_num, by go_num, by omega, by omega, by omega, HN⟩
          case measure => simp [intOf]; omega
      · have HN := hid (i3 (.inl (by omega)))
        clear i1 i2 i3 HI
        have hlt' : ¬ (B : Int) + (st : Int) < (S : Int) + 1 := by omega
        go_wp2
        go_round
        case rel => exact ⟨B, x, st / 2, by go_num, by go_num, by go_num, by omega, by omega, by omega, HN⟩
        case measure => simp [intOf]; omega
    · obtain rfl : st = 0 := by omega
      have HD := hid (HI.out.done hk'.out)
      clear HI
      go_wp2
      go_ret2
      exact ⟨B, x, rfl, rfl, HD.out⟩

set_option maxHeartbeats 400000 in
theorem select_out (g : Nat) (k t : Int) (w : World) (hself : Hid (w.cell? ⟨g, 2, none⟩ = some (.pointer (some ⟨g, 0, none⟩)))) (h1 : w.cell? ⟨g, 1, none⟩ = some (.int .i64 t)) (hk : k < 0 ∨ t ≤ k) :
    Calls Tryd.prog 30 #[.pointer (some ⟨g, 0, none⟩), .int .i64 k] w fun e w' => e = .returned (.tuple #[.int .i64 0, .bool false]) ∧ w = w' := by
  by_cases h0 : k < 0
  · clear hk
    go_enter Tryd.func30, Tryd.ntmps30
    go_wp2_with (go_at_call 41; refine (answered_core _ _ hself.out).mono ?_; rintro e w' ⟨rfl, rfl⟩)
    go_ret2
    exact ⟨rfl, rfl⟩
  · have h2 : t ≤ k := by omega
    clear hk
    go_enter Tryd.func30, Tryd.ntmps30
    go_wp2_with (go_at_call 41; refine (answered_core _ _ hself.out).mono ?_; rintro e w' ⟨rfl, rfl⟩)
    go_ret2
    exact ⟨rfl, rfl⟩

set_option maxHeartbeats 400000 in
theorem select_core (g gs gw S W k t : Nat) (c pwf wf : Nat → Nat) (w : World) (hself : Hid (w.cell? ⟨g, 2, none⟩ = some (.pointer (some ⟨g, 0, none⟩)))) (h1 : w.cell? ⟨g, 1, none⟩ = some (.int .i64 t))
    (h0 : w.cell? ⟨g, 0, none⟩ = some (.slice (some ⟨gs, 0, none⟩) (S + 1) (S + 1))) (h3 : w.cell? ⟨g, 3, none⟩ = some (.slice (some ⟨gw, 0, none⟩) W W)) (hs : Hid (∀ j, j < S + 1 → w.cell? ⟨gs, j, none⟩ = some (.int .i32 ((fen c j : Nat) : Int))))
    (hw : Hid (∀ j, j < W → w.cell? ⟨gw, j, none⟩ = some (.int .u64 (wf j : Nat)) ∧ wf j < 18446744073709551616 ∧ pc (wf j) = pwf j)) (hS : S ≤ 32768) (hW : W ≤ 262144) (hSW : 8 * S ≤ W + 7) (hk : k < t) (ht : t ≤ 16777216)
    (hcS : Hid (C c S = t)) (hcw : Hid (∀ m, C c m = C pwf (8 * m))) (hpW : Hid (C pwf W = t)) (hmax : Hid (∀ j, fen c j ≤ 16777216)) (hT : Hid (Tab w)) :
    Calls Tryd.prog 30 #[.pointer (some ⟨g, 0, none⟩), .int .i64 k] w fun e w' => ∃ m p : Nat, e = .returned (.tuple #[.int .i64 ((64 * m + p : Nat) : Int), .bool true]) ∧ w = w' ∧ m < W ∧ p < 64 ∧ (wf m).testBit p = true ∧ C pwf m + C (bitN (wf m)) p = k := by
  have hk' : ¬ (t : Int) ≤ (k : Int) := by omega
  have hk0 : decide ((k : Int) < 0) = false := by simp
  go_enter Tryd.func30, Tryd.ntmps30
  go_wp2_with (first | (go_at_call 41; refine (answered_core _ _ hself.out).mono ?_; rintro e w' ⟨rfl, rfl⟩) | (go_at_call 49; refine (holding_core g gs S k c w h0 hs hS (by omega) (hid (by rw [hcS.out]; exact hk)) hmax).mono ?_; rintro e w' ⟨B, x, rfl, rfl, hB, hx, hxk⟩))
  clear hk0 hk'
  have HB : Hid (x + C pwf (B * 8) = k) := hid (by rw [Nat.mul_comm, ← hcw.out]; exact hx)
  clear hx hxk
  have hx' : x ≤ k := by have := HB.out; omega
  go_loop [7, 8] (fun r j => ∃ m x : Nat, j = .int .i64 m ∧ r = .int .i64 x ∧ m ≤ W ∧ x ≤ k ∧ Hid (x + C pwf m = k)) (fun _ j => W + 1 - (intOf j).toNat)
  case atStart => exact ⟨B * 8, x, by go_num, rfl, by omega, hx', HB⟩
  case round =>
    obtain ⟨m, x, rfl, rfl, hm, hx, HI⟩ := hrel
    clear HB hx'
    have hmW : m < W := by
      rcases Nat.lt_or_ge m W with a | a
      · exact a
      · have h1 := HI.out
        have h2 := hpW.out
        obtain rfl : m = W := by omega
        omega
    obtain ⟨hjc, hjl, hjp⟩ := hw.out m hmW
    have hu : pwf m ≤ 64 := by rw [← hjp]; exact pc_le _
    have Hjp := hid hjp
    clear hjp
    by_cases hlt : x < pwf m
    · have HF : Hid (∀ p, C (bitN (wf m)) p = x → C pwf m + C (bitN (wf m)) p = k) := hid fun p hp => by have := HI.out; omega
      have hpx : x < pc (wf m) := by rw [Hjp.out]; exact hlt
      have Hpx := hid hpx
      clear hpx
      obtain ⟨v, hv⟩ : ∃ v, v = wf m := ⟨_, rfl⟩
      rw [← hv] at hjc hjl Hjp HF Hpx
      have Hv := hid hv
      clear hv
      have hlt' : (x : Int) < ((pwf m : Nat) : Int) := by omega
      generalize pwf m = u at hlt hlt' hu Hjp
      go_wp2_with (first | (go_at_call 48; refine (onesCount_any v _ hjl).mono ?_; rintro e w' ⟨rfl, rfl⟩; rw [Hjp.out]) | (go_at_call 50; refine (placeIn_any v x w hjl Hpx.out (by omega) hT.out).mono ?_; rintro e w' ⟨p, rfl, rfl, hp, hpb, hpc⟩))
      go_ret2
      refine ⟨m, p, ?_, rfl, hmW, hp, ?_, ?_⟩
      · exact congrArg (fun z => Ending.returned (.tuple #[.int .i64 z, .bool true])) (by omega)
      · rw [← Hv.out]; exact hpb
      · rw [← Hv.out]; exact HF.out p hpc
    · have HN : Hid (x - pwf m + C pwf (m + 1) = k) := hid (by have := HI.out; simp only [C]; omega)
      have hlt' : ¬ (x : Int) < ((pwf m : Nat) : Int) := by omega
      generalize wf m = v at hjc hjl Hjp
      generalize pwf m = u at hlt hlt' hu Hjp HN
      go_wp2_with (go_at_call 48; refine (onesCount_any v _ hjl).mono ?_; rintro e w' ⟨rfl, rfl⟩; rw [Hjp.out])
      go_round
      case rel => exact ⟨m + 1, x - u, by go_num, by go_num, by omega, by omega, HN⟩
      case measure => simp [intOf]; omega

theorem fen_max (f : Nat → Bool) (j : Nat) (hj : ∀ m, C (cf f) m ≤ 16777216) : fen (blk f) j ≤ 16777216 := by
  unfold fen
  have := hj (512 * j)
  rw [← C_blk] at this
  omega
theorem IsVec.ones_le {w : World} {g gs gw n : Nat} {f : Nat → Bool} (h : IsVec w g gs gw n f) (m : Nat) : C (cf f) m ≤ n := by
  rcases Nat.le_total n m with a | a
  · rw [h.total a]; exact C_le (cf_le f) n
  · exact Nat.le_trans (C_le (cf_le f) m) a

/-- What Select answers: the place of the one below which k stand. -/
theorem select_any {g gs gw n : Nat} {f : Nat → Bool} {w : World} (h : IsVec w g gs gw n f) (hT : Tab w) (k : Int) :
    Calls Tryd.prog 30 #[.pointer (some ⟨g, 0, none⟩), .int .i64 k] w fun e w' => w = w' ∧
      ((k < 0 ∨ ((C (cf f) n : Nat) : Int) ≤ k) → e = .returned (.tuple #[.int .i64 0, .bool false])) ∧
      (0 ≤ k ∧ k < ((C (cf f) n : Nat) : Int) → ∃ i : Nat, e = .returned (.tuple #[.int .i64 (i : Int), .bool true]) ∧ f i = true ∧ C (cf f) i = k.toNat) := by
  have c0 := h.self.cell (i := 0) (by omega)
  have c1 := h.self.cell (i := 1) (by omega)
  have c2 := h.self.cell (i := 2) (by omega)
  have c3 := h.self.cell (i := 3) (by omega)
  have hs := h.small
  by_cases h0 : k < 0 ∨ ((C (cf f) n : Nat) : Int) ≤ k
  · refine (select_out g k _ w (hid c2) c1 h0).mono ?_
    rintro e w' ⟨rfl, rfl⟩
    exact ⟨rfl, fun _ => rfl, fun h => by omega⟩
  · obtain ⟨j, rfl⟩ := Int.eq_ofNat_of_zero_le (a := k) (by omega)
    have hn := h.ones_le n
    have e1 : C (blk f) (nb n) = C (cf f) n := by rw [C_blk]; exact h.total (by unfold nb nw; omega)
    have e2 : C (pw f) (nw n) = C (cf f) n := by rw [← C_words]; exact h.total (by unfold nw; omega)
    refine (select_core g gs gw (nb n) (nw n) j (C (cf f) n) (blk f) (pw f) (wordOf f) w (hid c2) c1 c0 c3 (hid fun j hj => h.sums.cell hj) (hid fun j hj => ⟨h.words.cell hj, wordOf_lt f j, rfl⟩)
      (by unfold nb nw; omega) (by unfold nw; omega) (by unfold nb; omega) (by omega) (by omega) (hid e1) (hid (C_blocks f)) (hid e2) (hid fun j => fen_max f j fun m => Nat.le_trans (h.ones_le m) hs) (hid hT)).mono ?_
    rintro e w' ⟨m, p, rfl, rfl, hm, hp, hb, hc⟩
    have := place_of f m p j hp hb hc
    exact ⟨rfl, fun h => absurd h h0, fun _ => ⟨_, rfl, this.1, by rw [this.2]; rfl⟩⟩

end Go.Proofs.YtneipjocimcmnaaDoor
