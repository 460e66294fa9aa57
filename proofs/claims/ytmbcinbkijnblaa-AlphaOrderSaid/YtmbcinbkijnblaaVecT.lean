/- A bit turned: add, turn. -/
import Derived.Test.YtmbcinbkijnblaaVecN
import Derived.Test.YtmbcinbkijnblaaVecS
namespace Go.Proofs.Ytmbcinbkijnblaa.V1
open Go.RowKit
open Fen

def AddR (w wr : World) (g gs S : Nat) (tot : Nat) (cs : Nat → Value) (sf : Nat → Nat) : Prop :=
  wr.rowIs g 120 5 (fun j => if j = 1 then .int .i64 (tot : Int) else cs j) ∧ wr.rowIs gs 21 S (fun j => .int .i32 ((sf j : Nat) : Int)) ∧ Only (fun k => k = g ∨ k = gs) w wr
def mix (s s' : Nat → Nat) (i j : Nat) : Nat := if j < i then s' j else s j

theorem AddR.begin {w : World} {g gs S tot : Nat} {cs : Nat → Value} {sf : Nat → Nat} (hg : w.rowIs g 120 5 cs) (hs : w.rowIs gs 21 S (fun j => .int .i32 ((sf j : Nat) : Int))) (z : Int) (hz : z = (tot : Int)) :
    AddR w (w.setCell ⟨g, 1, none⟩ (.int .i64 z)) g gs S tot cs sf := by
  subst hz
  exact ⟨hg.set 1 _, hs.setOther (rowIs_ne hs hg (by decide)) _, (Only.refl _ w).setCell (.inl (.inl rfl)) _⟩
theorem AddR.store {w wr : World} {g gs S tot : Nat} {cs : Nat → Value} {sf sg : Nat → Nat} (h : AddR w wr g gs S tot cs sf) (i : Nat) (z : Int) (hz : z = ((sg i : Nat) : Int)) (ho : ∀ j, j < S → j ≠ i → sf j = sg j) :
    AddR w (wr.setCell ⟨gs, i, none⟩ (.int .i32 z)) g gs S tot cs sg := by
  subst hz
  refine ⟨h.1.setOther (rowIs_ne h.1 h.2.1 (by decide)) _, (h.2.1.set i _).congr fun j hj => ?_, h.2.2.setCell (.inl (.inr rfl)) _⟩
  by_cases e : j = i
  · subst e; simp
  · rw [if_neg e, ho j hj e]
theorem AddR.congr {w wr : World} {g gs S tot : Nat} {cs : Nat → Value} {sf sg : Nat → Nat} (h : AddR w wr g gs S tot cs sf) (e : ∀ j, j < S → sf j = sg j) : AddR w wr g gs S tot cs sg :=
  ⟨h.1, h.2.1.congr fun i hi => by rw [e i hi], h.2.2⟩
theorem AddR.drew {w wr : World} {g gs S tot : Nat} {cs : Nat → Value} {sf : Nat → Nat} (h : AddR w wr g gs S tot cs sf) : AddR w wr.drew g gs S tot cs sf := ⟨h.1, h.2.1, h.2.2.drew⟩

set_option maxHeartbeats 1000000 in
theorem add_any (g gs S b tot tot' : Nat) (z : Int) (s s' : Nat → Nat) (cs : Nat → Value) (w : World) (hg : w.rowIs g 120 5 cs) (h0 : cs 0 = .slice (some ⟨gs, 0, none⟩) S S) (h1 : cs 1 = .int .i64 (tot : Int))
    (hs : w.rowIs gs 21 S (fun j => .int .i32 ((s j : Nat) : Int))) (ht : (tot : Int) + z = (tot' : Int)) (hz1 : -1 ≤ z) (hz2 : z ≤ 1) (htot : tot ≤ 16777216) (hS : S ≤ 40000) (hbS : b < S)
    (hs' : ∀ j, 0 < j → j < S → (s j : Int) + (if j - lb j ≤ b ∧ b < j then z else 0) = (s' j : Int)) (hs0 : s 0 = s' 0) (hmax : ∀ j, j < S → s j ≤ 16777216) :
    Calls Try.prog 115 #[.pointer (some ⟨g, 0, none⟩), .int .i64 (b : Int), .int .i64 z] w fun e w' => e = .returned (.tuple #[]) ∧ Hid (AddR w w' g gs S tot' cs s') := by
  have c1 := hg.cell (i := 1) (by omega)
  rw [h1] at c1
  have f1 := hg.frozen 1
  have HB := hid (AddR.begin hg hs _ ht)
  have Hs' := hid hs'
  have Hs0 := hid hs0
  have Hmax := hid hmax
  have H0 := hid h0
  clear hg hs hs' hs0 hmax h1 h0 ht
  go_enter Try.func115, Try.ntmps115
  go_wp2
  clear c1 f1
  go_loopw [6] (fun v wr => ∃ i : Nat, b < i ∧ i ≤ 2 * S ∧ v = .int .i64 i ∧ i - lb i ≤ b ∧ Hid (AddR w wr g gs S tot' cs (mix s s' i))) (fun v _ => 2 * S + 1 - (intOf v).toNat)
  case atStart =>
    refine ⟨b + 1, by omega, by omega, by go_num, by have := lb_pos (b + 1) (by omega); omega, hid (HB.out.congr fun j hj => ?_)⟩
    unfold mix
    by_cases e : j < b + 1
    · rw [if_pos e]
      rcases Nat.eq_zero_or_pos j with h | h
      · subst h; exact Hs0.out
      · have := Hs'.out j h hj
        rw [if_neg (by omega)] at this
        omega
    · rw [if_neg e]
  case round =>
    obtain ⟨i, hbi, hi, rfl, hlow, HR⟩ := hrel
    clear HB
    have d0 : wr.cell? ⟨g, 0, none⟩ = some (.slice (some ⟨gs, 0, none⟩) S S) := by
      have := HR.out.1.cell (i := 0) (by omega)
      rw [this, if_neg (by omega), H0.out]
    by_cases hp : i < S
    · have ds := HR.out.2.1.cell hp
      have fs := HR.out.2.1.frozen i
      have hand := and_minus i (by omega) (by omega)
      have hl1 := lb_le i
      have hl2 := lb_pos i (by omega)
      have hup := lb_up i (by omega)
      have hm : mix s s' i i = s i := by unfold mix; rw [if_neg (by omega)]
      simp only [hm] at ds
      have hle := Hmax.out i hp
      have hval := Hs'.out i (by omega) hp
      rw [if_pos ⟨hlow, hbi⟩] at hval
      have Hval := hid hval
      have HN : Hid (∀ z' : Int, z' = ((s' i : Nat) : Int) → AddR w (wr.setCell ⟨gs, i, none⟩ (.int .i32 z')) g gs S tot' cs (mix s s' (i + lb i))) := hid fun z' hz' => by
        refine HR.out.store i z' (by rw [hz']; unfold mix; rw [if_pos (by omega)]) fun j hj hne => ?_
        unfold mix
        by_cases a : j < i
        · rw [if_pos a, if_pos (by omega)]
        · rw [if_neg a]
          by_cases a2 : j < i + lb i
          · rw [if_pos a2]
            have h2 := lb_between i j (by omega) a2
            have h3 := Hs'.out j (by omega) hj
            rw [if_neg (by omega)] at h3
            omega
          · rw [if_neg a2]
      have Hup : Hid (i + lb i - lb (i + lb i) ≤ b) := hid (by omega)
      clear HR hm hval hup
      generalize s i = x at ds hle Hval
      generalize s' i = y at Hval HN
      generalize lb i = l at hand hl1 hl2 HN Hup
      have hsum : IntKind.i32.wrap ((x : Int) + z) = (x : Int) + z := by rw [IntKind.wrap_i32]; omega
      have hcv : IntKind.i32.wrap z = z := by rw [IntKind.wrap_i32]; omega
      go_wp2
      go_roundw
      case rel => exact ⟨i + l, by omega, by omega, by go_num, Hup.out, hid (HN.out _ Hval.out)⟩
      case measure => simp [intOf]; omega
    · have HN : Hid (AddR w wr g gs S tot' cs s') := hid (HR.out.congr fun j hj => by unfold mix; rw [if_pos (by omega)])
      clear HR
      go_wp2
      go_end0
      exact ⟨rfl, HN⟩

/-! One bit turned. -/
def flip (f : Nat → Bool) (i j : Nat) : Bool := if j = i then !f j else f j
theorem flip_flip (f : Nat → Bool) (i : Nat) : flip (flip f i) i = f := by
  funext j
  unfold flip
  by_cases h : j = i <;> simp [h]
theorem wordOf_flip (f : Nat → Bool) (i j : Nat) : wordOf (flip f i) j = if j = i / 64 then wordOf f j ^^^ 2 ^ (i % 64) else wordOf f j := by
  apply Nat.eq_of_testBit_eq
  intro k
  rw [testBit_wordOf]
  by_cases e : j = i / 64
  · rw [if_pos e, Nat.testBit_xor, testBit_wordOf, Nat.testBit_two_pow]
    by_cases hk : k < 64
    · unfold flip
      by_cases h : i % 64 = k
      · have : 64 * j + k = i := by omega
        simp [hk, h, this]
      · have : ¬ 64 * j + k = i := by omega
        simp [hk, h, this]
    · have : ¬ i % 64 = k := by omega
      simp [hk, this]
  · rw [if_neg e, testBit_wordOf]
    by_cases hk : k < 64
    · unfold flip
      have : ¬ 64 * j + k = i := by omega
      simp [this]
    · simp [hk]
theorem cf_flip_up {f : Nat → Bool} {i : Nat} (h : f i = false) : cf (flip f i) i = cf f i + 1 ∧ ∀ j, j ≠ i → cf (flip f i) j = cf f j := by
  refine ⟨by simp [cf, flip, h], fun j hj => by simp [cf, flip, hj]⟩
theorem blk_eq (f : Nat → Bool) (b : Nat) : C (cf f) (512 * b + 512) = C (cf f) (512 * b) + blk f b := by
  have h1 := C_blk f (b + 1)
  have h2 := C_blk f b
  simp only [C] at h1
  rw [show 512 * (b + 1) = 512 * b + 512 by omega] at h1
  omega
theorem blk_flip_up {f : Nat → Bool} {i : Nat} (h : f i = false) : blk (flip f i) (i / 512) = blk f (i / 512) + 1 ∧ ∀ b, b ≠ i / 512 → blk (flip f i) b = blk f b := by
  have hc := cf_flip_up h
  have hC := fun m => C_add hc.1 hc.2 m
  refine ⟨?_, fun b hb => ?_⟩
  · have h1 := blk_eq f (i / 512)
    have h2 := blk_eq (flip f i) (i / 512)
    rw [hC, hC, if_pos (by omega), if_neg (by omega)] at h2
    omega
  · have h1 := blk_eq f b
    have h2 := blk_eq (flip f i) b
    rw [hC, hC] at h2
    rcases Nat.lt_or_ge i (512 * b) with a | a
    · rw [if_pos (by omega), if_pos a] at h2; omega
    · rw [if_neg (by omega), if_neg (by omega)] at h2; omega
/-- What the sums and the count do when a bit is turned: z more. -/
theorem flip_sums (f : Nat → Bool) (i n : Nat) (hi : i < n) : ∃ z : Int, (z = if f i then -1 else 1) ∧ ((C (cf f) n : Nat) : Int) + z = ((C (cf (flip f i)) n : Nat) : Int) ∧
    ∀ j, ((fen (blk f) j : Nat) : Int) + (if j - lb j ≤ i / 512 ∧ i / 512 < j then z else 0) = ((fen (blk (flip f i)) j : Nat) : Int) := by
  cases h : f i with
  | false =>
    have hc := cf_flip_up h
    have hb := blk_flip_up h
    refine ⟨1, by simp, ?_, fun j => ?_⟩
    · rw [C_add hc.1 hc.2, if_pos hi]; omega
    · rw [fen_add hb.1 hb.2]
      by_cases a : j - lb j ≤ i / 512 ∧ i / 512 < j
      · rw [if_pos a, if_pos a]; omega
      · rw [if_neg a, if_neg a]; omega
  | true =>
    have h' : flip f i i = false := by simp [flip, h]
    have hc := cf_flip_up h'
    have hb := blk_flip_up h'
    rw [flip_flip] at hc hb
    refine ⟨-1, by simp, ?_, fun j => ?_⟩
    · rw [C_add hc.1 hc.2 n, if_pos hi]; omega
    · rw [fen_add hb.1 hb.2 j]
      by_cases a : j - lb j ≤ i / 512 ∧ i / 512 < j
      · rw [if_pos a, if_pos a]; omega
      · rw [if_neg a, if_neg a]; omega

theorem xor_int (x m : Nat) (hx : x < 18446744073709551616) (hm : m < 64) : bits .xor .u64 (x : Int) (IntKind.u64.wrap ((2 : Int) ^ m)) = ((x ^^^ 2 ^ m : Nat) : Int) := by
  have h64 : 2 ^ m ≤ 2 ^ 63 := Nat.pow_le_pow_right (by decide) (by omega)
  have e : (2 : Int) ^ m = ((2 ^ m : Nat) : Int) := by simp
  rw [e, wrap_fit _ (by omega)]
  exact u64_xor_nat x (2 ^ m) hx (by omega)

def TurnR (w w1 : World) (g gs gw n : Nat) (f f' : Nat → Bool) : Prop :=
  w1.rowIs g 120 5 (vcell g gs gw n f) ∧ w1.rowIs gw 134 (nw n) (fun j => .int .u64 ((wordOf f' j : Nat) : Int)) ∧ w1.rowIs gs 21 (nb n + 1) (fun j => .int .i32 ((fen (blk f) j : Nat) : Int)) ∧ Only (· = gw) w w1

theorem IsVec.turnR {w : World} {g gs gw n : Nat} {f : Nat → Bool} (h : IsVec w g gs gw n f) (i : Nat) (z : Int) (hz : z = ((wordOf f (i / 64) ^^^ 2 ^ (i % 64) : Nat) : Int)) :
    TurnR w (w.setCell ⟨gw, i / 64, none⟩ (.int .u64 z)).drew g gs gw n f (flip f i) := by
  subst hz
  refine ⟨h.self.setOther (rowIs_ne h.self h.words (by decide)) _, (h.words.set (i / 64) _).congr fun j _ => ?_, h.sums.setOther (rowIs_ne h.sums h.words (by decide)) _, ((Only.refl (· = gw) w).setCell (p := ⟨gw, i / 64, none⟩) (.inl rfl) _).drew⟩
  rw [wordOf_flip]
  by_cases e : j = i / 64
  · subst e; rw [if_pos rfl, if_pos rfl]
  · rw [if_neg e, if_neg e]

theorem TurnR.done {w w1 w2 : World} {g gs gw n : Nat} {f : Nat → Bool} {i : Nat} (hv : IsVec w g gs gw n f) (hi : i < n) (h : TurnR w w1 g gs gw n f (flip f i)) (h2 : AddR w1 w2 g gs (nb n + 1) (C (cf (flip f i)) n) (vcell g gs gw n f) (fen (blk (flip f i)))) :
    IsVec w2 g gs gw n (flip f i) ∧ Only (fun k => k = g ∨ k = gs ∨ k = gw) w w2 := by
  have hne1 : gw ≠ g := rowIs_ne hv.words hv.self (by decide)
  have hne2 : gw ≠ gs := rowIs_ne hv.words hv.sums (by decide)
  refine ⟨⟨hv.small, fun j hj => ?_, h2.1.congr fun j _ => ?_, h2.2.2.row h.2.1 (by omega), h2.2.1⟩, (h.2.2.2.mono (fun k _ e => .inr (.inr e))).trans (h2.2.2.mono (fun k _ e => by omega))⟩
  · unfold flip; rw [if_neg (by omega)]; exact hv.out j hj
  · match j with
    | 0 => rfl
    | 1 => rfl
    | 2 => rfl
    | 3 => rfl
    | j + 4 => rfl

set_option maxHeartbeats 1000000 in
theorem turn_any {g gs gw n : Nat} {f : Nat → Bool} {w : World} (h : IsVec w g gs gw n f) (i : Nat) (hi : i < n) :
    Calls Try.prog 100 #[.pointer (some ⟨g, 0, none⟩), .int .i64 (i : Int)] w fun e w' => e = .returned (.tuple #[]) ∧ Hid (IsVec w' g gs gw n (flip f i) ∧ Only (fun k => k = g ∨ k = gs ∨ k = gw) w w') := by
  have hn := h.small
  have hkW : i / 64 < nw n := by unfold nw; omega
  have c3 : w.cell? ⟨g, 3, none⟩ = some (.slice (some ⟨gw, 0, none⟩) (nw n) (nw n)) := h.self.cell (i := 3) (by omega)
  have dk := h.words.cell hkW
  have fz := h.words.frozen (i / 64)
  have hlt := wordOf_lt f (i / 64)
  have HV := hid h
  have HN : Hid (∀ z : Int, z = ((wordOf f (i / 64) ^^^ 2 ^ (i % 64) : Nat) : Int) → TurnR w (w.setCell ⟨gw, i / 64, none⟩ (.int .u64 z)).drew g gs gw n f (flip f i)) := hid fun z hz => h.turnR i z hz
  clear h
  generalize wordOf f (i / 64) = x at dk hlt HN
  have hwk : IntKind.i64.wrap ((i : Int) / 64) = (i : Int) / 64 := by rw [IntKind.wrap_i64]; omega
  have hk0 : 0 ≤ (i : Int) / 64 := by omega
  have hkW' : (i : Int) / 64 < ((nw n : Nat) : Int) := by omega
  have hkn : ((i : Int) / 64).toNat = i / 64 := by omega
  go_enter Try.func100, Try.ntmps100
  go_wp2
  go_region
  all_goals (try go_wp2_with fail)
  have HT := hid (HN.out _ (xor_int x (i % 64) hlt (by omega)))
  clear HN dk c3 fz hwk hk0 hkW' hkn
  generalize (w.setCell ⟨gw, i / 64, none⟩ (.int .u64 (bits .xor .u64 (x : Int) (IntKind.u64.wrap ((2 : Int) ^ (i % 64)))))).drew = w1 at HT ⊢
  refine (get_in_core g gw n (nw n) i (wordOf (flip f i) (i / 64)) w1 (hid (HT.out.1.cell (i := 2) (by omega))) (HT.out.1.cell (i := 4) (by omega)) (HT.out.1.cell (i := 3) (by omega)) hi hn hkW (HT.out.2.1.cell hkW) (wordOf_lt _ _)).mono ?_
  rintro e w2 ⟨rfl, rfl⟩
  have hb : (wordOf (flip f i) (i / 64)).testBit (i % 64) = !f i := by
    rw [testBit_wordOf, show 64 * (i / 64) + i % 64 = i by omega]
    have : i % 64 < 64 := by omega
    simp [this, flip]
  rw [hb]
  clear hb
  obtain ⟨z, hz, hC, hF⟩ := flip_sums f i n hi
  have HA : Hid (∀ zz : Int, zz = z → Calls Try.prog 115 #[.pointer (some ⟨g, 0, none⟩), .int .i64 ((i / 512 : Nat) : Int), .int .i64 zz] w1 fun e w' => e = .returned (.tuple #[]) ∧ Hid (AddR w1 w' g gs (nb n + 1) (C (cf (flip f i)) n) (vcell g gs gw n f) (fen (blk (flip f i))))) := hid fun zz hzz => by
    subst hzz
    refine add_any g gs (nb n + 1) (i / 512) (C (cf f) n) _ zz (fen (blk f)) _ _ w1 HT.out.1 rfl rfl HT.out.2.2.1 hC (by rw [hz]; split <;> omega) (by rw [hz]; split <;> omega) (Nat.le_trans (HV.out.ones_le n) hn) (by unfold nb nw; omega) (by unfold nb nw; omega) (fun j _ _ => hF j) (by simp [fen, C]) (fun j _ => fen_max f j fun m => Nat.le_trans (HV.out.ones_le m) hn)
  have Hz := hid hz
  clear hC hF hz
  have e512 : (i : Int) / 512 = ((i / 512 : Nat) : Int) := by omega
  cases hfi : f i with
  | false =>
    have HA1 := hid (HA.out 1 (by rw [Hz.out, hfi]; rfl))
    have He := hid e512
    clear HA Hz hfi e512
    go_wp2_with fail
    rw [He.out]
    refine HA1.out.mono ?_
    rintro e w2 ⟨rfl, ha⟩
    go_wp2_with fail
    go_end0
    exact ⟨rfl, hid (HT.out.done HV.out hi ha.out)⟩
  | true =>
    have HA1 := hid (HA.out (-1) (by rw [Hz.out, hfi]; rfl))
    have He := hid e512
    clear HA Hz hfi e512
    go_wp2_with fail
    rw [He.out]
    refine HA1.out.mono ?_
    rintro e w2 ⟨rfl, ha⟩
    go_wp2_with fail
    go_end0
    exact ⟨rfl, hid (HT.out.done HV.out hi ha.out)⟩
end Go.Proofs.Ytmbcinbkijnblaa.V1
