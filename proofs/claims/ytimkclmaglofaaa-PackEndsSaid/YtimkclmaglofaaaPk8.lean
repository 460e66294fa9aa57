/- pack: Read. -/
import Derived.Test.YtimkclmaglofaaaPk6
import Derived.Test.YtimkclmaglofaaaPk7
import Derived.Test.YtimkclmaglofaaaByt
namespace Go.Proofs.Ytimkclmaglofaaa
open Go.RowKit
open Bit

def shB (n : Nat) (bs : List Nat) : Bool := decide (shapeOk n bs)
set_option maxHeartbeats 400000 in
theorem shaped_len (n L cap : Nat) (A : Option Addr) (w : World) (hn : n ≤ 16777216) (h : L ≠ (n + 7) / 8) :
    Calls Try.prog 49 #[.slice A L cap, .int .i64 (n : Int)] w fun e w' => e = .returned (.bool false) ∧ w = w' := by
  have hb : (((L : Nat) : Int) == ((n : Int) + 8 - 1) / 8) = false := by rw [beq_eq_false_iff_ne]; omega
  clear h
  go_enter Try.func49, Try.ntmps49
  go_wp2_with (go_at_call 56; refine (pieces_any _ _ _ (by omega) (by omega) (by omega) (by omega)).mono ?_; rintro e w' ⟨rfl, rfl⟩)
  go_ret
  exact ⟨rfl, rfl⟩
set_option maxHeartbeats 400000 in
theorem shaped_full (n L cap : Nat) (A : Option Addr) (w : World) (hn : n ≤ 16777216) (h : L = (n + 7) / 8) (h8 : n % 8 = 0) :
    Calls Try.prog 49 #[.slice A L cap, .int .i64 (n : Int)] w fun e w' => e = .returned (.bool true) ∧ w = w' := by
  have hb : (((L : Nat) : Int) == ((n : Int) + 8 - 1) / 8) = true := by rw [beq_iff_eq]; omega
  have hm : ((n : Int) % 8 == 0) = true := by rw [beq_iff_eq]; omega
  clear h h8
  go_enter Try.func49, Try.ntmps49
  go_wp2_with (go_at_call 56; refine (pieces_any _ _ _ (by omega) (by omega) (by omega) (by omega)).mono ?_; rintro e w' ⟨rfl, rfl⟩)
  go_ret
  exact ⟨rfl, rfl⟩
set_option maxHeartbeats 400000 in
theorem shaped_last (n L cap b off x : Nat) (w : World) (hn : n ≤ 16777216) (h : L = (n + 7) / 8) (h8 : n % 8 ≠ 0) (hc : w.cell? ⟨b, off + (L - 1), none⟩ = some (.int .u8 (x : Int))) (hx8 : x < 256) :
    Calls Try.prog 49 #[.slice (some ⟨b, off, none⟩) L cap, .int .i64 (n : Int)] w fun e w' => e = .returned (.bool (decide (x / 2 ^ (n % 8) = 0))) ∧ w = w' := by
  have hb : (((L : Nat) : Int) == ((n : Int) + 8 - 1) / 8) = true := by rw [beq_iff_eq]; omega
  have hm : ((n : Int) % 8 == 0) = false := by rw [beq_eq_false_iff_ne]; omega
  have hL1 : 1 ≤ L := by omega
  have hL2 : L ≤ 2097152 := by omega
  have hd : decide (x / 2 ^ (n % 8) = 0) = ((x : Int) / 2 ^ (n % 8) == 0) := by
    rw [divU, Bool.eq_iff_iff, decide_eq_true_eq, beq_iff_eq]; omega
  have hw : (x : Int) < 256 := by omega
  rw [hd]
  clear h h8 hd hx8
  go_enter Try.func49, Try.ntmps49
  go_wp2_with (go_at_call 56; refine (pieces_any _ _ _ (by omega) (by omega) (by omega) (by omega)).mono ?_; rintro e w' ⟨rfl, rfl⟩)
  go_ret
  exact ⟨rfl, rfl⟩
theorem shaped_any (n cap : Nat) (A : Option Addr) (bs : List Nat) (w : World) (hr : RdY w A bs) (hb : Byts bs) (hn : n ≤ 16777216) :
    Calls Try.prog 49 #[.slice A bs.length cap, .int .i64 (n : Int)] w fun e w' => e = .returned (.bool (shB n bs)) ∧ w = w' := by
  by_cases h1 : bs.length = (n + 7) / 8
  · by_cases h8 : n % 8 = 0
    · have e : shB n bs = true := decide_eq_true ⟨h1, .inl h8⟩
      rw [e]
      exact shaped_full n _ cap A w hn h1 h8
    · obtain ⟨b, off, rfl, hc, _⟩ := hr.at (k := bs.length - 1) (by omega)
      have e : shB n bs = decide (bs.getD (bs.length - 1) 0 / 2 ^ (n % 8) = 0) := by
        unfold shB
        rw [Bool.eq_iff_iff, decide_eq_true_eq, decide_eq_true_eq]
        exact ⟨fun h => h.2.resolve_left h8, fun h => ⟨h1, .inr h⟩⟩
      rw [e]
      exact shaped_last n _ cap b off _ w hn h1 h8 hc (hb _)
  · have e : shB n bs = false := decide_eq_false fun h => h1 h.1
    rw [e]
    exact shaped_len n _ cap A w hn h1

set_option maxHeartbeats 1000000 in
theorem fill_any {gw N cap : Nat} {A : Option Addr} {bs : List Nat} {w : World} (h : w.rowIs gw 79 N fun j => .int .u64 ((word (fun _ => false) j : Nat) : Int)) (hr : RdY w A bs) (hb : Byts bs) (hN : bs.length ≤ 8 * N) (hN2 : N ≤ 262144)
    (hA : 0 < bs.length → ∀ b off, A = some ⟨b, off, none⟩ → b ≠ gw) :
    Calls Try.prog 50 #[.slice (some ⟨gw, 0, none⟩) N N, .slice A bs.length cap] w fun e w' => e = .returned (.tuple #[]) ∧ Hid (PutR w w' gw N (fB bs)) := by
  have HB := hid hb
  have HY := hid hr
  have HR0 := hid h
  have HA := hid hA
  obtain ⟨L, hL⟩ : ∃ L, L = bs.length := ⟨_, rfl⟩
  rw [← hL] at hN ⊢
  have HL := hid hL
  clear h hr hb hL hA
  go_enter Try.func50, Try.ntmps50
  go_wp2_with fail
  go_loopw [8] (fun s wr => ∃ k : Nat, k ≤ L ∧ s = .int .i64 k ∧ Hid (PutR w wr gw N (fBk bs k))) (fun s _ => L - (intOf s).toNat)
  case atStart => exact ⟨0, by omega, rfl, by rw [fBk_zero]; exact hid ⟨HR0.out, Only.refl _ _⟩⟩
  case round =>
    obtain ⟨k, hk, rfl, HR⟩ := hrel
    by_cases hp : k < L
    · have hlt : k < bs.length := by rw [← HL.out]; exact hp
      obtain ⟨b, off, hAe, hc, _⟩ := (HY.out.only HR.out.2 fun b off e => HA.out (by omega) b off e).at hlt
      unfold vY at hc
      subst hAe
      have hy := HB.out k
      have hkN : k / 8 < N := by omega
      have dk := HR.out.1.cell hkN
      have fz := HR.out.1.frozen (k / 8)
      have hx := word_lt (fBk bs k) (k / 8)
      have HN : Hid (∀ z : Int, z = ((word (fBk bs k) (k / 8) ||| bs.getD k 0 * 2 ^ (k % 8 * 8) % 2 ^ 64 : Nat) : Int) → PutR w (wr.setCell ⟨gw, k / 8, none⟩ (.int .u64 z)) gw N (fBk bs (k + 1))) := hid fun z hz => by
        refine ⟨(HR.out.1.set (k / 8) _).congr fun j _ => ?_, HR.out.2.setCell (p := ⟨gw, k / 8, none⟩) (.inl rfl) _⟩
        have e1 : 8 * k / 64 = k / 8 := by omega
        have e2 : 8 * k % 64 = k % 8 * 8 := by omega
        have hlo := word_or_lo (fBk bs k) (8 * k) (bs.getD k 0)
        have hhi := word_or_hi (fBk bs k) (8 * k) (bs.getD k 0)
        have hfar := fun j => word_or_far (j := j) (fBk bs k) (a := 8 * k) (x := bs.getD k 0) (by have := HB.out k; omega)
        rw [e1] at hfar
        rw [e1, e2] at hlo hhi
        rw [hz, fBk_step HB.out]
        by_cases e : j = k / 8
        · subst e; rw [if_pos rfl, hlo]
        · rw [if_neg e]
          by_cases e3 : j = k / 8 + 1
          · subst e3
            have hz : bs.getD k 0 / 2 ^ (64 - k % 8 * 8) = 0 := Nat.div_eq_of_lt (Nat.lt_of_lt_of_le (HB.out k) (Nat.pow_le_pow_right (n := 2) (i := 8) (by decide) (by omega)))
            rw [hhi, hz]; simp
          · rw [hfar j e e3]
      clear HR hlt
      generalize word (fBk bs k) (k / 8) = x at dk hx HN
      generalize bs.getD k 0 = y at hc hy HN
      have HO := hid (orU_shl x y (k % 8 * 8) hx)
      have hwk : IntKind.i64.wrap ((k : Int) / 8) = (k : Int) / 8 := by rw [IntKind.wrap_i64]; omega
      have hk0 : 0 ≤ (k : Int) / 8 := by omega
      have hkN' : (k : Int) / 8 < (N : Int) := by omega
      have hkn : ((k : Int) / 8).toNat = k / 8 := by omega
      have hyw : IntKind.u64.wrap (y : Int) = (y : Int) := by rw [IntKind.wrap_u64]; omega
      go_wp2
      go_region
      all_goals go_wp2
      go_roundw
      case rel => exact ⟨k + 1, by omega, by go_num, hid (by have h := HN.out _ HO.out; exact ⟨h.1, h.2.drew⟩)⟩
      case measure => simp [intOf]; omega
    · obtain rfl : k = L := by omega
      have HD : Hid (PutR w wr gw N (fB bs)) := hid (by have h := HR.out; rw [HL.out, fBk_all] at h; exact h)
      clear HR
      go_wp2
      go_end0
      exact ⟨rfl, HD⟩

set_option maxHeartbeats 400000 in
theorem read_badW (z n : Int) (v : Value) (w : World) (h : isWd z = false) :
    Calls Try.prog 21 #[.int .i64 z, .int .i64 n, v] w (Refused w 2) := by
  have H := hid h
  clear h
  go_enter Try.func21, Try.ntmps21
  go_wp2_with (go_at_call 41; refine (isWidth_any z _).mono ?_; rintro e w' ⟨rfl, rfl⟩; rw [H.out])
  go_ret2
  exact ⟨rfl, Below.refl _ _⟩
set_option maxHeartbeats 400000 in
theorem read_badN (z n : Int) (v : Value) (w : World) (h : isWd z = true) (hn : n < 0) :
    Calls Try.prog 21 #[.int .i64 z, .int .i64 n, v] w (Refused w 2) := by
  have H := hid h
  clear h
  go_enter Try.func21, Try.ntmps21
  go_wp2_with (go_at_call 41; refine (isWidth_any z _).mono ?_; rintro e w' ⟨rfl, rfl⟩; rw [H.out])
  go_ret2
  exact ⟨rfl, Below.refl _ _⟩
set_option maxHeartbeats 400000 in
theorem read_long (wd n : Nat) (v : Value) (w : World) (h1 : 1 ≤ wd) (h2 : wd ≤ 60) (hm : 16777216 < wd * n) :
    Calls Try.prog 21 #[.int .i64 (wd : Int), .int .i64 (n : Int), v] w (Refused w 3) := by
  have H : Hid (isWd (wd : Int) = true) := hid (isWd_iff.2 ⟨by omega, by omega⟩)
  have HT : Hid (decide ((16777216 : Int) / (wd : Int) < (n : Int)) = true) := hid (decide_eq_true (Classical.byContradiction fun hh => by have := (many_iff h1).1 hh; omega))
  clear hm
  have hn0 : ¬ (n : Int) < 0 := by omega
  go_enter Try.func21, Try.ntmps21
  go_wp2_with (first | (go_at_call 41; refine (isWidth_any _ _).mono ?_; rintro e w' ⟨rfl, rfl⟩; rw [H.out]) | (go_at_call 44; refine (tooMany_any _ _ _ (by omega) (by omega)).mono ?_; rintro e w' ⟨rfl, rfl⟩; rw [HT.out]))
  go_ret2
  exact ⟨rfl, Below.refl _ _⟩
theorem mul_wrap {wd n : Nat} (hm : wd * n ≤ 16777216) : wrap64 ((wd : Int) * (n : Int)) = ((wd * n : Nat) : Int) := by
  rw [show (wd : Int) * (n : Int) = ((wd * n : Nat) : Int) by simp]; exact IntWalk.wrap64_in _ ⟨by omega, by omega⟩
set_option maxHeartbeats 400000 in
theorem read_shape (wd n cap : Nat) (A : Option Addr) (bs : List Nat) (w : World) (h1 : 1 ≤ wd) (h2 : wd ≤ 60) (hm : wd * n ≤ 16777216) (hr : RdY w A bs) (hb : Byts bs) (hs : shB (wd * n) bs = false) :
    Calls Try.prog 21 #[.int .i64 (wd : Int), .int .i64 (n : Int), .slice A bs.length cap] w (Refused w 4) := by
  have H : Hid (isWd (wd : Int) = true) := hid (isWd_iff.2 ⟨by omega, by omega⟩)
  have HT : Hid (decide ((16777216 : Int) / (wd : Int) < (n : Int)) = false) := hid (decide_eq_false ((many_iff h1).2 hm))
  have HM := hid (mul_wrap hm)
  have hsh := shaped_any (wd * n) cap A bs w hr hb hm
  rw [hs] at hsh
  have HS := hid hsh
  clear hm hr hb hs hsh
  have hn0 : ¬ (n : Int) < 0 := by omega
  generalize bs.length = L at HS ⊢
  go_enter Try.func21, Try.ntmps21
  go_wp2_with (first | (go_at_call 41; refine (isWidth_any _ _).mono ?_; rintro e w' ⟨rfl, rfl⟩; rw [H.out]) | (go_at_call 44; refine (tooMany_any _ _ _ (by omega) (by omega)).mono ?_; rintro e w' ⟨rfl, rfl⟩; rw [HT.out]) | (go_at_call 49; rw [HM.out]; refine HS.out.mono ?_; rintro e w' ⟨rfl, rfl⟩))
  go_ret2
  exact ⟨rfl, Below.refl _ _⟩
set_option maxHeartbeats 1000000 in
theorem read_ok (wd n cap : Nat) (A : Option Addr) (bs : List Nat) (w : World) (h1 : 1 ≤ wd) (h2 : wd ≤ 60) (hm : wd * n ≤ 16777216) (hr : RdY w A bs) (hb : Byts bs) (hs : shB (wd * n) bs = true) :
    Calls Try.prog 21 #[.int .i64 (wd : Int), .int .i64 (n : Int), .slice A bs.length cap] w (Made w wd n (fB bs)) := by
  have H : Hid (isWd (wd : Int) = true) := hid (isWd_iff.2 ⟨by omega, by omega⟩)
  have HT : Hid (decide ((16777216 : Int) / (wd : Int) < (n : Int)) = false) := hid (decide_eq_false ((many_iff h1).2 hm))
  have HM := hid (mul_wrap hm)
  have HN := hid hm
  have hsh := shaped_any (wd * n) cap A bs w hr hb hm
  have HF := hid (fun i hi => fB_far (of_decide_eq_true hs) i hi)
  have hlen := (of_decide_eq_true hs).1
  have HFill : Hid (∀ (w1 : World) (g gw : Nat), IsBl w w1 g gw wd n (fun _ => false) → Calls Try.prog 50 #[.slice (some ⟨gw, 0, none⟩) (nw (wd * n)) (nw (wd * n)), .slice A bs.length cap] w1 fun e w' => e = .returned (.tuple #[]) ∧ Hid (IsBl w w' g gw wd n (fB bs))) := hid fun w1 g gw hbl => by
    refine (fill_any (A := A) (cap := cap) hbl.words (hr.only hbl.only fun _ _ _ => no_) hb (by unfold nw; omega) (by unfold nw; omega) (fun hl b off e => by
      obtain ⟨b2, off2, e2, _, hlt⟩ := hr.at hl
      rw [e] at e2
      cases e2
      have := hbl.neww
      omega)).mono ?_
    rintro e w' ⟨rfl, hp⟩
    exact ⟨rfl, hid (hbl.put hp.out)⟩
  rw [hs] at hsh
  have HS := hid hsh
  clear hm hr hb hs hsh hlen
  have hn0 : ¬ (n : Int) < 0 := by omega
  generalize bs.length = L at HS HFill ⊢
  go_enter Try.func21, Try.ntmps21
  go_wp2_with (first | (go_at_call 41; refine (isWidth_any _ _).mono ?_; rintro e w' ⟨rfl, rfl⟩; rw [H.out]) | (go_at_call 44; refine (tooMany_any _ _ _ (by omega) (by omega)).mono ?_; rintro e w' ⟨rfl, rfl⟩; rw [HT.out]) | (go_at_call 49; rw [HM.out]; refine HS.out.mono ?_; rintro e w' ⟨rfl, rfl⟩) | (go_at_call 45; refine (blank_any wd n _ HN.out).mono ?_; rintro e w1 ⟨g, gw, rfl, HB⟩; have c0 := HB.out.self.cell (i := 0) (by omega); simp only [rcell] at c0) | (go_at_call 50; refine (HFill.out _ _ _ HB.out).mono ?_; rintro e w2 ⟨rfl, HB2⟩))
  go_ret2
  exact ⟨g, gw, rfl, HB2.out.row h1 h2 HN.out HF.out, HB2.out.newg, HB2.out.neww, HB2.out.only.to_below (fun _ h => h.elim) (Nat.le_refl _)⟩
end Go.Proofs.Ytimkclmaglofaaa
