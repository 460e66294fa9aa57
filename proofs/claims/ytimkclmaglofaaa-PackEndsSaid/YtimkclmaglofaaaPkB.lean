/- The document's rows: At, Bytes. -/
import Derived.Test.YtimkclmaglofaaaPkR2
import Derived.Test.YtimkclmaglofaaaPk7
import Derived.RegionTactic
namespace Go.Proofs.Ytimkclmaglofaaa
open Go.RowKit
open Bit

def nz (zs : List Int) (i : Int) : Int := if 0 ≤ i ∧ i < (zs.length : Int) then zs.getD i.toNat 0 else 0
set_option maxHeartbeats 1000000 in
theorem refAt_any {r wd cap : Nat} {A : Option Addr} {zs : List Int} {w : World} (h : IsRef w r wd A cap zs) (i : Int) :
    Calls Try.prog 47 #[.pointer (some ⟨r, 0, none⟩), .int .i64 i] w fun e w' => e = .returned (.tuple #[.int .i64 (nz zs i), .bool (isAt zs.length i)]) ∧ w = w' := by
  have c1 : w.cell? ⟨r, 1, none⟩ = some (.slice A zs.length cap) := h.self.cell (i := 1) (by omega)
  by_cases hi : 0 ≤ i ∧ i < (zs.length : Int)
  · have e1 : isAt zs.length i = true := by unfold isAt; simp [hi]
    have e2 : nz zs i = zs.getD i.toNat 0 := by unfold nz; rw [if_pos hi]
    rw [e1, e2]
    obtain ⟨k, rfl⟩ := Int.eq_ofNat_of_zero_le hi.1
    have hk : k < zs.length := by omega
    obtain ⟨b, off, hA, hc, _⟩ := RdV.at h.rd hk
    unfold vI at hc
    subst hA
    rw [Int.toNat_natCast]
    have hk' := hi.2
    clear hi e1 e2 h
    generalize zs.getD k 0 = z at hc ⊢
    generalize zs.length = N at c1 hk hk'
    go_enter Try.func47, Try.ntmps47
    go_wp2
    go_ret2
    exact ⟨rfl, rfl⟩
  · have e1 : isAt zs.length i = false := by unfold isAt; simp; omega
    have e2 : nz zs i = 0 := by unfold nz; rw [if_neg hi]
    rw [e1, e2]
    clear e1 e2 h
    generalize zs.length = N at c1 hi
    by_cases h0 : i < 0
    · clear hi
      go_enter Try.func47, Try.ntmps47
      go_wp2
      go_ret2
      exact ⟨rfl, rfl⟩
    · have h1 : (N : Int) ≤ i := by omega
      have h2 : 0 ≤ i := by omega
      clear hi h0
      go_enter Try.func47, Try.ntmps47
      go_wp2
      go_ret2
      exact ⟨rfl, rfl⟩

/-! The bytes, bit by bit. -/
def fH (f : Nat → Bool) (i j : Nat) : Bool := decide (j < i) && f j
theorem fH_far (f : Nat → Bool) {i j : Nat} (h : i ≤ j) : fH f i j = false := by
  have : decide (j < i) = false := by rw [decide_eq_false_iff_not]; omega
  simp [fH, this]
theorem fH_same (f : Nat → Bool) {i j : Nat} (h : j ≠ i) : fH f (i + 1) j = fH f i j := by
  unfold fH
  rw [show decide (j < i + 1) = decide (j < i) by rw [decide_eq_decide]; omega]
theorem fH_at (f : Nat → Bool) (i : Nat) : fH f (i + 1) i = f i := by simp [fH]
theorem fH_all {f : Nat → Bool} {n : Nat} (h : ∀ i, n ≤ i → f i = false) : fH f n = f := by
  funext j
  by_cases hj : n ≤ j
  · rw [fH_far f hj, h j hj]
  · have : j < n := by omega
    simp [fH, this]
theorem byt_H_ne (f : Nat → Bool) {i k : Nat} (hk : k ≠ i / 8) : byt (fH f (i + 1)) k = byt (fH f i) k :=
  ofB_ext fun j hj => fH_same f (by omega)
theorem byt_H_lt (f : Nat → Bool) (i : Nat) : byt (fH f i) (i / 8) < 2 ^ (i % 8) := by
  apply Nat.lt_pow_two_of_testBit
  intro j hj
  rw [testBit_byt, fH_far f (by omega)]
  simp
theorem byt_H_at (f : Nat → Bool) (i : Nat) : byt (fH f (i + 1)) (i / 8) = byt (fH f i) (i / 8) + (if f i then 1 else 0) * 2 ^ (i % 8) := by
  have h8 : i % 8 < 8 := by omega
  cases hf : f i with
  | false =>
    simp only [Bool.false_eq_true, if_false, Nat.zero_mul, Nat.add_zero]
    exact ofB_ext fun j _ => by
      by_cases e : 8 * (i / 8) + j = i
      · rw [e, fH_at, hf, fH_far f (Nat.le_refl _)]
      · exact fH_same f e
  | true =>
    simp only [if_true, Nat.one_mul]
    have h1 := Nat.two_pow_add_eq_or_of_lt (byt_H_lt f i) 1
    rw [Nat.mul_one] at h1
    rw [Nat.add_comm (byt _ _), h1]
    clear h1
    apply Nat.eq_of_testBit_eq
    intro j
    rw [Nat.testBit_or, Nat.testBit_two_pow, testBit_byt, testBit_byt]
    by_cases e : i % 8 = j
    · subst e
      rw [show 8 * (i / 8) + i % 8 = i by omega, fH_at, hf]
      simp [h8]
    · rw [fH_same f (by omega)]
      simp [e]
theorem add_byte (x b m : Nat) (hx : x < 2 ^ m) (hm : m < 8) (hb : b ≤ 1) : ((x : Int) + (b : Int) * 2 ^ m) % 256 = ((x + b * 2 ^ m : Nat) : Int) := by
  have h7 : 2 ^ m ≤ 2 ^ 7 := Nat.pow_le_pow_right (by decide) (by omega)
  have e : (2 : Int) ^ m = ((2 ^ m : Nat) : Int) := by simp
  rw [e]
  generalize 2 ^ m = q at h7 hx
  rcases Nat.lt_or_ge b 1 with h | h
  · obtain rfl : b = 0 := by omega
    simp; omega
  · obtain rfl : b = 1 := by omega
    simp; omega

def BytP (w wr : World) (g m : Nat) (f : Nat → Bool) (p : Nat) : Prop :=
  w.heap.size ≤ g ∧ wr.rowIs g 5 m (fun k => .int .u8 ((byt (fH f p) k : Nat) : Int)) ∧ Only (fun _ => False) w wr
theorem BytP.begin (w : World) (m : Nat) (f : Nat → Bool) : BytP w (w.alloc (Obj.cells (madeCells #[Value.int IntKind.u8 0] m) 5)) w.heap.size m f 0 :=
  ⟨Nat.le_refl _, (World.rowIs_made w _ _ _).congr fun i _ => by
    have : byt (fH f 0) i = 0 := by
      apply Nat.eq_of_testBit_eq
      intro j
      rw [testBit_byt, fH_far f (Nat.zero_le _)]; simp
    rw [this]; rfl, (Only.refl _ w).alloc _⟩
theorem BytP.store {w wr : World} {g m p : Nat} {f : Nat → Bool} (h : BytP w wr g m f p) (z : Int) (hz : z = ((byt (fH f (p + 1)) (p / 8) : Nat) : Int)) : BytP w (wr.setCell ⟨g, p / 8, none⟩ (.int .u8 z)) g m f (p + 1) := by
  subst hz
  refine ⟨h.1, (h.2.1.set (p / 8) _).congr fun k _ => ?_, h.2.2.setCell (.inr h.1) _⟩
  by_cases e : k = p / 8
  · subst e; rw [if_pos rfl]
  · rw [if_neg e, byt_H_ne f e]
theorem BytP.drew {w wr : World} {g m p : Nat} {f : Nat → Bool} (h : BytP w wr g m f p) : BytP w wr.drew g m f p := ⟨h.1, h.2.1, h.2.2.drew⟩
theorem BytP.done {w wr : World} {g m n : Nat} {f : Nat → Bool} (h : BytP w wr g m f n) (hf : ∀ i, n ≤ i → f i = false) : Hid (w.heap.size ≤ g ∧ wr.rowIs g 5 m (vYf f) ∧ Below w.heap.size w wr) := by
  have h2 := h.2.1
  rw [fH_all hf] at h2
  exact hid ⟨h.1, h2, h.2.2.to_below (fun _ h => h.elim) (Nat.le_refl _)⟩

set_option maxHeartbeats 4000000 in
theorem refBytes_any {r wd cap : Nat} {A : Option Addr} {zs : List Int} {w : World} (h : IsRef w r wd A cap zs) (h1 : 1 ≤ wd) (h2 : wd ≤ 60) (hs : wd * zs.length ≤ 16777216) (hg : ∀ k, k < zs.length → zs.getD k 0 = ((zl zs k : Nat) : Int) ∧ zl zs k < 2 ^ wd) :
    Calls Try.prog 27 #[.pointer (some ⟨r, 0, none⟩)] w (NewRow w 5 ((wd * zs.length + 7) / 8) (vYf (fS wd (zl zs) zs.length))) := by
  have hl : zs.length ≤ 16777216 := Nat.le_trans (Nat.le_mul_of_pos_left _ h1) hs
  have c0 : w.cell? ⟨r, 0, none⟩ = some (.int .i64 (wd : Int)) := h.self.cell (i := 0) (by omega)
  have c1 : w.cell? ⟨r, 1, none⟩ = some (.slice A zs.length cap) := h.self.cell (i := 1) (by omega)
  have hltr := h.self.lt
  have HSelf := hid h.self
  have HZ : Hid (RdV w A zs.length (vI zs)) := hid h.rd
  have HG := hid hg
  have HFar := hid (fun i hi => fS_far (w := wd) (l := zl zs) (k := zs.length) (i := i) hi)
  have HF : Hid (∀ i k, i < zs.length → k < wd → fS wd (zl zs) zs.length (wd * i + k) = (zl zs i).testBit k) := hid fun i k hi hk => by
    obtain ⟨e1, e2⟩ := mul_div_mod wd i k hk
    have h3 : wd * (i + 1) ≤ wd * zs.length := Nat.mul_le_mul_left wd hi
    have h4 : wd * i + k < wd * zs.length := by rw [Nat.mul_succ] at h3; omega
    unfold fS
    rw [e1, e2]; simp [h4]
  clear h hg
  generalize fS wd (zl zs) zs.length = f at HFar HF ⊢
  generalize zs.length = N at c1 hl HZ HG HFar HF hs HSelf ⊢
  obtain ⟨P, hP⟩ : ∃ P, P = wd * N := ⟨_, rfl⟩
  rw [← hP] at hs HFar ⊢
  have hw1 : IntKind.i64.wrap ((wd : Int) * (N : Int)) = (P : Int) := by rw [show (wd : Int) * (N : Int) = ((wd * N : Nat) : Int) by simp, ← hP, IntKind.wrap_i64]; omega
  have hw2 : IntKind.i64.wrap ((P : Int) + 7) = (P : Int) + 7 := by rw [IntKind.wrap_i64]; omega
  obtain ⟨m, hm⟩ : ∃ m, m = (P + 7) / 8 := ⟨_, rfl⟩
  rw [← hm]
  have hKe : IntKind.i64.wrap (((P : Int) + 7).tdiv 8) = (m : Int) := by rw [Int.tdiv_eq_ediv_of_nonneg (by omega), IntKind.wrap_i64]; omega
  have hmk := fun W => run_make_row' (P := Try.prog) 41 5 (.int .u8 0) 1 Try.underlying41 uint8Info rfl .i64 .i64 m (by omega) (by omega) W
  have HPm : Hid (∀ p, p < P → p / 8 < m) := hid (fun p hp => by omega)
  have HP := hid hP
  clear hP hm
  go_enter Try.func27, Try.ntmps27
  go_wp2
  go_region_held3 (fun w' => w'.cell? ⟨r, 0, none⟩ = some (.int .i64 (wd : Int)) ∧ w'.cell? ⟨r, 1, none⟩ = some (.slice A N cap)) (go_keep) (fail)
  clear hmk hw1 hw2 hKe
  have hNz : (0 : Int) ≤ (N : Int) := by omega
  go_wp2
  clear c0 c1
  go_loopw [4] (fun s wr => ∃ i : Nat, i ≤ N ∧ s = .int .i64 i ∧ Hid (BytP w wr w.heap.size m f (wd * i))) (fun s _ => N - (intOf s).toNat)
  case atStart => exact ⟨0, by omega, rfl, hid (BytP.begin w m f).drew⟩
  case round =>
    obtain ⟨i, hi, rfl, HI⟩ := hrel
    have c1 : wr.cell? ⟨r, 1, none⟩ = some (.slice A N cap) := (HI.out.2.2.row HSelf.out no_).cell (i := 1) (by omega)
    by_cases hp : i < N
    · obtain ⟨b, off, hAe, hc, _⟩ := (HZ.out.only HI.out.2.2 fun _ _ _ => no_).at hp
      unfold vI at hc
      subst hAe
      obtain ⟨hz1, hz2⟩ := HG.out i hp
      rw [hz1] at hc
      have hz60 : zl zs i < 2 ^ 60 := Nat.lt_of_lt_of_le hz2 (Nat.pow_le_pow_right (by decide) h2)
      have HFi : Hid (∀ k, k < wd → f (wd * i + k) = (zl zs i).testBit k) := hid fun k hk => HF.out i k hp hk
      have hq3 : wd * i + wd ≤ P := by rw [HP.out, ← Nat.mul_succ]; exact Nat.mul_le_mul_left wd hp
      have Hnext : Hid (wd * (i + 1) = wd * i + wd) := hid (Nat.mul_succ wd i)
      clear hz1 hz2
      have hiq : (wd : Int) * (i : Int) = ((wd * i : Nat) : Int) := by simp
      generalize zl zs i = x at hc hz60 HFi
      generalize wd * i = q at HI HFi hq3 Hnext hiq
      have hx64 : (x : Int) < 1152921504606846976 := by omega
      go_wp2
      obtain ⟨v0, rfl⟩ : ∃ v0 : World, v0 = wr := ⟨_, rfl⟩
      go_loopw [5, 6] (fun n s wr => ∃ k : Nat, k ≤ wd ∧ s = .int .i64 k ∧ n = .int .i64 ((x / 2 ^ k : Nat) : Int) ∧ Hid (BytP w wr w.heap.size m f (q + k))) (fun _ s _ => wd - (intOf s).toNat)
      case atStart => exact ⟨0, by omega, rfl, by simp, HI⟩
      case round =>
        obtain ⟨k, hk, rfl, rfl, HK⟩ := hrel
        have c0 : wr.cell? ⟨r, 0, none⟩ = some (.int .i64 (wd : Int)) := (HK.out.2.2.row HSelf.out no_).cell (i := 0) (by omega)
        clear HI c1 hc
        by_cases hpk : k < wd
        · obtain ⟨p, hpp⟩ : ∃ p, p = q + k := ⟨_, rfl⟩
          have hpe : (q : Int) + (k : Int) = (p : Int) := by omega
          have Hb0 := hid (HFi.out k hpk)
          have Hdiv : Hid (x / 2 ^ (k + 1) = x / 2 ^ k / 2) := hid (by rw [Nat.pow_succ, Nat.div_div_eq_div_mul])
          have Hpn : Hid (q + (k + 1) = p + 1) := hid (by omega)
          have hyx := Nat.div_le_self x (2 ^ k)
          rw [← hpp] at HK Hb0
          have hpP : p < P := by omega
          have hpm := HPm.out p hpP
          have db := HK.out.2.1.cell hpm
          have fb := HK.out.2.1.frozen (p / 8)
          have hlt := byt_H_lt f p
          have Hat := hid (byt_H_at f p)
          have HN : Hid (∀ z : Int, z = ((byt (fH f (p + 1)) (p / 8) : Nat) : Int) → BytP w (wr.setCell ⟨w.heap.size, p / 8, none⟩ (.int .u8 z)) w.heap.size m f (p + 1)) := hid fun z hz => HK.out.store z hz
          have Hbit : Hid (f p = decide (x / 2 ^ k % 2 = 1)) := hid (by rw [Hb0.out, Nat.testBit_eq_decide_div_mod_eq])
          clear HK hpp Hb0
          generalize x / 2 ^ k = y at Hdiv hyx Hbit
          obtain ⟨b1, hb1⟩ : ∃ b1, b1 = y % 2 := ⟨_, rfl⟩
          have hb2 : b1 ≤ 1 := by omega
          have Hat2 : Hid (byt (fH f (p + 1)) (p / 8) = byt (fH f p) (p / 8) + b1 * 2 ^ (p % 8)) := hid (by
            rw [Hat.out, Hbit.out, hb1]
            by_cases e : y % 2 = 1
            · rw [e]; rfl
            · have e0 : y % 2 = 0 := by omega
              rw [e0]; rfl)
          clear Hat Hbit
          generalize byt (fH f p) (p / 8) = X at db hlt Hat2
          have HA := hid (add_byte X b1 (p % 8) hlt (by omega) hb2)
          have hX : X < 256 := Nat.lt_of_lt_of_le hlt (Nat.pow_le_pow_right (n := 2) (j := 8) (by decide) (by omega))
          clear hlt
          have hr1 : IntKind.i64.wrap ((y : Int).tmod 2) = (b1 : Int) := by rw [Int.tmod_eq_emod_of_nonneg (by omega), IntKind.wrap_i64]; omega
          have hr2 : IntKind.u8.wrap (b1 : Int) = (b1 : Int) := by rw [IntKind.wrap_u8]; omega
          have hr3 : IntKind.u8.wrap ((y : Int) % 2) = (b1 : Int) := by rw [IntKind.wrap_u8]; omega
          clear hb1
          have hpd : IntKind.i64.wrap ((p : Int) / 8) = (p : Int) / 8 := by rw [IntKind.wrap_i64]; omega
          have hpd0 : 0 ≤ (p : Int) / 8 := by omega
          have hpd1 : (p : Int) / 8 < (m : Int) := by omega
          have hpdn : ((p : Int) / 8).toNat = p / 8 := by omega
          have hpk' : (k : Int) < (wd : Int) := by omega
          go_wp2
          go_region
          all_goals go_wp2
          go_roundw
          case rel => exact ⟨k + 1, by omega, by go_num, by rw [Hdiv.out]; exact congrArg (Value.int .i64) (by omega), by rw [Hpn.out]; exact hid (HN.out _ (by rw [HA.out, Hat2.out])).drew⟩
          case measure => simp [intOf]; omega
        · obtain rfl : k = wd := by omega
          have hpk' : ¬ (k : Int) < (k : Int) := by omega
          go_wp2
          go_roundw
          case rel => exact ⟨i + 1, by omega, by go_num, by rw [Hnext.out]; exact HK⟩
          case measure => simp [intOf]; omega
    · obtain rfl : i = N := by omega
      have HD := (show BytP w wr w.heap.size m f P by rw [HP.out]; exact HI.out).done HFar.out
      clear HI
      go_wp2
      go_ret
      exact ⟨w.heap.size, rfl, HD⟩
end Go.Proofs.Ytimkclmaglofaaa
