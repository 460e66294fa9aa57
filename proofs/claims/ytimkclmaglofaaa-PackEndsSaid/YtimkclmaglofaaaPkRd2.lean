/- The document's rows: Read, walked. -/
import Derived.Test.YtimkclmaglofaaaPkRd
import Derived.Maps.AppendAt
import Derived.WalkSpells
namespace Go.Proofs.Ytimkclmaglofaaa
open Go.RowKit
open Bit

theorem wrap_div_u8 (y m : Nat) (hy : y < 256) : IntKind.u8.wrap ((y : Int) / 2 ^ m) = (y : Int) / 2 ^ m := by
  have e : (y : Int) / 2 ^ m = ((y / 2 ^ m : Nat) : Int) := by simp
  have := Nat.div_le_self y (2 ^ m)
  rw [e]
  generalize y / 2 ^ m = q at this ⊢
  rw [IntKind.wrap_u8]; omega
def digL (f : Nat → Bool) (wd n : Nat) : List Int := (List.range n).map fun j => ((dig f wd j : Nat) : Int)
theorem digL_len (f : Nat → Bool) (wd n : Nat) : (digL f wd n).length = n := by simp [digL]
theorem digL_at (f : Nat → Bool) (wd n : Nat) {j : Nat} (h : j < n) : (digL f wd n).getD j 0 = ((dig f wd j : Nat) : Int) := by simp [digL, List.getD, h]
/-- What Read answers where lengths fit. -/
def RReadE (w : World) (wd n : Nat) (bs : List Nat) (e : Ending) (w' : World) : Prop :=
  (shapeOk (wd * n) bs ∧ RMade w wd (digL (fB bs) wd n) e w') ∨ (¬ shapeOk (wd * n) bs ∧ Refused w 4 e w')
theorem RdS.made {w wr : World} {v : Value} {wd n : Nat} {f : Nat → Bool} (h : RdS w wr v wd n (dig f wd)) : RMade w wd (digL f wd n) (.returned (.tuple #[.pointer (some ⟨w.heap.size, 0, none⟩), .int .i64 0])) wr := by
  have hb := h.only.to_below (B := w.heap.size) (fun _ h => h.elim) (Nat.le_refl _)
  have hs := h.self
  rcases h.own.2 with ⟨rfl, rfl⟩ | ⟨g, cap, cur, rfl, hge, hh, hle, hcm, hsz, ht⟩
  · refine ⟨w.heap.size, 0, none, rfl, ⟨hs.congr fun i hi => ?_, fun h => absurd h (by simp [digL])⟩, ⟨Nat.le_refl _, fun _ h => by cases h⟩, hb⟩
    match i, hi with
    | 0, _ => rfl
    | 1, _ => rfl
    | i + 2, hi => exact absurd (show i + 2 < 2 from hi) (by omega)
  · obtain ⟨F, hF, hF2⟩ := own_rowV hh hsz ht
    refine ⟨w.heap.size, cap, some ⟨g, 0, none⟩, rfl, ⟨hs.congr fun i hi => ?_, ?_⟩, ⟨Nat.le_refl _, fun ad had => by injection had with had; subst had; show w.heap.size ≤ g; omega⟩, hb⟩
    · match i, hi with
      | 0, _ => rfl
      | 1, _ => show Value.slice _ _ _ = Value.slice _ _ _; rw [digL_len]
      | i + 2, hi => exact absurd (show i + 2 < 2 from hi) (by omega)
    · unfold RdI
      rw [digL_len]
      exact ((RdV.of_row hF).take hle).congr fun j hj => by rw [hF2 j hj]; unfold vI vN; rw [digL_at _ _ _ hj]

set_option maxRecDepth 100000 in
set_option maxHeartbeats 4000000 in
theorem refRead_fit (wd n cap : Nat) (A : Option Addr) (bs : List Nat) (w : World) (h1 : 1 ≤ wd) (h2 : wd ≤ 60) (hm : wd * n ≤ 16777216) (hr : RdY w A bs) (hb : Byts bs) (hs : bs.length = (wd * n + 7) / 8) :
    Calls Try.prog 22 #[.int .i64 (wd : Int), .int .i64 (n : Int), .slice A bs.length cap] w (RReadE w wd n bs) := by
  obtain ⟨i0, hi0, hz0, hz1, hz2⟩ := info_parts intInfo
  have HI0 := hid (And.intro hi0 (And.intro hz0 (And.intro hz1 hz2)))
  have HY := hid hr
  have HB := hid hb
  obtain ⟨L, hL⟩ : ∃ L, L = bs.length := ⟨_, rfl⟩
  obtain ⟨P, hP⟩ : ∃ P, P = wd * n := ⟨_, rfl⟩
  have hT : ¬ (16777216 : Int) / (wd : Int) < (n : Int) := (many_iff h1).2 hm
  have hPe : (wd : Int) * (n : Int) = (P : Int) := by rw [hP]; simp
  rw [← hL, ← hP] at hs
  rw [← hL]
  rw [← hP] at hm
  have HL := hid hL
  have HP := hid hP
  have hL2 : L ≤ 2097152 := by omega
  have hb2 : (((L : Nat) : Int) != ((P : Int) + 7) / 8) = false := by rw [bne_eq_false_iff_eq]; omega
  have hPL : P ≤ 8 * L := by omega
  have HS := hid hs
  clear hr hb hL hP hs hi0 hz0 hz1 hz2
  go_enter Try.func22, Try.ntmps22
  go_wp2_with fail
  clear hb2 hT
  go_loopw [9] (fun s wr => ∃ i : Nat, i ≤ 8 * L ∧ s = .int .i64 i ∧ Hid (∃ v, RdS w wr v wd (cnt wd (min i P)) (dig (fH (fR P (fB bs)) i) wd)) ∧ Hid (∀ j, j < i → P ≤ j → fB bs j = false)) (fun s _ => 8 * L - (intOf s).toNat)
  case atStart => exact ⟨0, by omega, rfl, hid ⟨_, by rw [show min 0 P = wd * 0 by omega, cnt_at h1]; exact RdS.begin w wd _⟩, hid fun j hj => absurd hj (by omega)⟩
  case round =>
    obtain ⟨i, hi, rfl, HR, HN⟩ := hrel
    obtain ⟨v, hR⟩ := HR.out
    have HRv := hid hR
    clear HR hR
    by_cases hp : i < 8 * L
    · obtain ⟨b, off, hAe, hcw, hlt⟩ := HY.out.at (k := i / 8) (by rw [← HL.out]; omega)
      have hc := (HRv.out.only.cell (p := ⟨b, off + i / 8, none⟩) hlt no_).trans hcw
      unfold vY at hc
      subst hAe
      have hy := HB.out (i / 8)
      have HBit : Hid (fB bs i = (bs.getD (i / 8) 0).testBit (i % 8)) := hid rfl
      clear hcw hlt
      generalize bs.getD (i / 8) 0 = y at hc hy HBit
      have hbit := bit_int y (i % 8)
      rw [← HBit.out] at hbit
      have hwk : IntKind.i64.wrap ((i : Int) / 8) = (i : Int) / 8 := by rw [IntKind.wrap_i64]; omega
      have hk0 : 0 ≤ (i : Int) / 8 := by omega
      have hkL : (i : Int) / 8 < (L : Int) := by omega
      have hkn : ((i : Int) / 8).toNat = i / 8 := by omega
      have hy2 : IntKind.u8.wrap ((y : Int) / 2 ^ (i % 8)) = (y : Int) / 2 ^ (i % 8) := wrap_div_u8 y _ hy
      have c1 : wr.cell? ⟨w.heap.size, 1, none⟩ = some v := HRv.out.self.cell (i := 1) (by omega)
      clear HBit
      by_cases hin : i < P
      · have HN2 : Hid (∀ j, j < i + 1 → P ≤ j → fB bs j = false) := hid fun j hj hn => HN.out j (by omega) hn
        have HBi : Hid (fR P (fB bs) i = fB bs i) := hid (fR_in _ hin)
        have hx1 := bitN_le (fB bs i)
        have hin' : (i : Int) < (P : Int) := by omega
        have hge' : ¬ (P : Int) ≤ (i : Int) := by omega
        obtain ⟨q, hq⟩ : ∃ q, q = i / wd := ⟨_, rfl⟩
        obtain ⟨m, hme⟩ : ∃ m, m = i % wd := ⟨_, rfl⟩
        have hqm : i = wd * q + m := by rw [hq, hme]; exact (Nat.div_add_mod i wd).symm
        have hmw : m < wd := by rw [hme]; exact Nat.mod_lt _ (by omega)
        have hqi : (i : Int) / (wd : Int) = (q : Int) := by rw [hq]; simp
        have hmi : (i : Int) % (wd : Int) = (m : Int) := by rw [hme]; simp
        have hq3 : q ≤ 16777216 := by have := Nat.div_le_self i wd; omega
        have Hqm := hid hqm
        have Hc1 : Hid (cnt wd (min (i + 1) P) = q + 1) := hid (by rw [show min (i + 1) P = wd * q + m + 1 by omega, cnt_next q hmw])
        have Hb : Hid (∀ j, j < q → dig (fH (fR P (fB bs)) i) wd j = dig (fH (fR P (fB bs)) (i + 1)) wd j) := hid fun j hj => (dig_before _ (by have := Nat.mul_le_mul_left wd (show j + 1 ≤ q by omega); omega)).symm
        have Hnx : Hid (dig (fH (fR P (fB bs)) (i + 1)) wd q = dig (fH (fR P (fB bs)) i) wd q + bitN (fB bs i) * 2 ^ m) := hid (by
          have := dig_next (fR P (fB bs)) q hmw
          rw [← hqm, HBi.out] at this
          exact this)
        have hX : dig (fH (fR P (fB bs)) i) wd q < 2 ^ m := by have := dig_room (fR P (fB bs)) (wd := wd) q (Nat.le_of_lt hmw); rwa [← hqm] at this
        clear hq hme hqm HN HBi
        generalize bitN (fB bs i) = x at hbit hx1 Hnx
        by_cases hm0 : m = 0
        · subst hm0
          have hown := HRv.out.own
          have HR2 : Hid (RdS w wr v wd q (dig (fH (fR P (fB bs)) i) wd)) := hid (by have h := HRv.out; rwa [show min i P = wd * q by have := Hqm.out; omega, cnt_at h1] at h)
          have Hown := hid HR2.out.own
          have h0 : dig (fH (fR P (fB bs)) i) wd q = 0 := by have h := hX; simp at h; exact h
          have HX : Hid (x = dig (fH (fR P (fB bs)) (i + 1)) wd q) := hid (by rw [Hnx.out, h0]; simp)
          clear h0
          have HOB := hid HR2.out.ownB
          clear hown HRv Hnx hX
          have hmi' : ((i : Int) % (wd : Int) == 0) = true := by rw [hmi]; rfl
          go_wp2_with (at_builtin; (refine wpList_append_own_at _ rfl (.tmp 79) (.tmp 81) _ rfl (w.heap.size + 1) 3 i0 (.int .i64 0) 1 8 Try.underlying22 HI0.out.1 HI0.out.2.1 HI0.out.2.2.1 HI0.out.2.2.2 rfl (by omega) v q _ rfl (Hown.out.alloc _) ⟨wr.heap.size, 0, none⟩ 1 1 [.int .i64 (x : Int)] rfl rfl (cell_one_new _ _ _) (by intro u hu; simp at hu; subst hu; rfl) (by unfold maxLen; omega) (by omega) (by have := HR2.out.self.lt; simp; omega) ?_; intro v' w2 hown2 hg2 _ _); obtain ⟨g2, cp2, rfl⟩ : ∃ g2 cp2, v' = .slice (some ⟨g2, 0, none⟩) (q + 1) cp2 := (by rcases hown2.2 with ⟨_, h0⟩ | ⟨g2, cp2, _, hv2, _⟩; exact absurd h0 (by omega); exact ⟨g2, cp2, hv2⟩); have hw2 : w2.rowIs w.heap.size 70 2 (rcl wd v) := (HR2.out.self.alloc _).of_block (hg2.block _ (HR2.out.self.alloc _).lt fun he => by have := HOB.out _ he.symm; omega); have c2 := hw2.cell (i := 1) (by omega); have f2 := hw2.frozen 1; clear hw2)
          have HD := hid (HR2.out.push hown2 hg2 HOB.out Hb.out HX.out)
          clear hown2 hg2 HR2 Hown HX HOB Hb c2 f2 c1
          go_roundw
          case rel => exact ⟨i + 1, by omega, by go_num, by rw [Hc1.out]; exact hid ⟨_, HD.out⟩, HN2⟩
          case measure => simp [intOf]; omega
        · have HR2 : Hid (RdS w wr v wd (q + 1) (dig (fH (fR P (fB bs)) i) wd)) := hid (by
            have h := HRv.out
            have e : cnt wd (min i P) = q + 1 := by
              rw [show min i P = wd * q + (m - 1) + 1 by have := Hqm.out; omega]
              exact cnt_next q (by omega)
            rwa [e] at h)
          obtain ⟨g, cp, F, hv, hge, hF, hFV, hle, hcm⟩ := own_at HR2.out.own (by omega)
          have h60 : 2 ^ m ≤ 2 ^ 59 := Nat.pow_le_pow_right (by decide) (by omega)
          have hbx : x * 2 ^ m ≤ 2 ^ m := by have := Nat.mul_le_mul_right (2 ^ m) hx1; omega
          have ckq := hF.cell (i := q) (by omega)
          have fzq := hF.frozen q
          rw [hFV q (by omega)] at ckq
          unfold vN at ckq
          have Hb2 : Hid (∀ z : Nat, z = dig (fH (fR P (fB bs)) (i + 1)) wd q → RdS w (wr.setCell ⟨g, q, none⟩ (.int .i64 (z : Int))) v wd (q + 1) (dig (fH (fR P (fB bs)) (i + 1)) wd)) := hid fun z hz => by
            have h := HR2.out
            rw [hv] at h ⊢
            exact h.store hge hF hFV hle hcm (fun j hj hne => Hb.out j (by omega)) hz
          subst hv
          have hqc : q < cp := by omega
          have hgl := hF.lt
          clear HRv HR2 Hb hF hFV hge hle hcm
          generalize dig (fH (fR P (fB bs)) i) wd q = X at ckq hX Hnx
          have Hwv : Hid (wrap64 ((X : Int) + wrap64 (wrap64 (x : Int) * 2 ^ m)) = ((X + x * 2 ^ m : Nat) : Int)) := hid (by
            rw [IntWalk.wrap64_in (x : Int) ⟨by omega, by omega⟩, show (x : Int) * 2 ^ m = ((x * 2 ^ m : Nat) : Int) by simp, IntWalk.wrap64_in ((x * 2 ^ m : Nat) : Int) ⟨by omega, by omega⟩, IntWalk.wrap64_in ((X : Int) + ((x * 2 ^ m : Nat) : Int)) ⟨by omega, by omega⟩]; omega)
          have hmi' : ((i : Int) % (wd : Int) == 0) = false := by rw [hmi, beq_eq_false_iff_ne]; omega
          have hmpos : ((m : Int) == 0) = false := by rw [beq_eq_false_iff_ne]; omega
          have hqw : IntKind.i64.wrap (q : Int) = (q : Int) := by rw [IntKind.wrap_i64]; omega
          have hmw2 : IntKind.i64.wrap (m : Int) = (m : Int) := by rw [IntKind.wrap_i64]; omega
          have hqt : (i : Int).tdiv (wd : Int) = (q : Int) := by rw [Int.tdiv_eq_ediv_of_nonneg (by omega), hqi]
          have hmt : (i : Int).tmod (wd : Int) = (m : Int) := by rw [Int.tmod_eq_emod_of_nonneg (by omega), hmi]
          have hq0 : (0 : Int) ≤ (q : Int) := by omega
          have hq1 : (q : Int) < (q : Int) + 1 := by omega
          clear hX hbx h60 hx1
          go_wp2
          go_region
          all_goals go_wp2
          all_goals go_roundw
          case rel => exact ⟨i + 1, by omega, by go_num, by rw [Hc1.out, Hwv.out]; exact hid ⟨_, (Hb2.out _ Hnx.out.symm).drew⟩, HN2⟩
          case measure => simp [intOf]; omega
      · cases hf : fB bs i with
        | true =>
          have HX : Hid (¬ shapeOk (wd * n) bs) := hid fun h => by have := fB_far h i (by rw [← HP.out]; omega); rw [hf] at this; cases this
          have HO := hid HRv.out.only
          rw [hf] at hbit
          have hbit2 : ((y : Int) / 2 ^ (i % 8)).tmod 2 = 1 := hbit
          have hge : (P : Int) ≤ (i : Int) := by omega
          clear HRv HN hf hbit
          go_wp2
          go_ret2
          exact .inr ⟨HX.out, rfl, HO.out.to_below (fun _ h => h.elim) (Nat.le_refl _)⟩
        | false =>
          have HN2 : Hid (∀ j, j < i + 1 → P ≤ j → fB bs j = false) := hid fun j hj hn => by
            by_cases e : j = i
            · subst e; exact hf
            · exact HN.out j (by omega) hn
          have HR2 : Hid (∃ v, RdS w wr v wd (cnt wd (min (i + 1) P)) (dig (fH (fR P (fB bs)) (i + 1)) wd)) := hid ⟨v, by
            have h := HRv.out
            rw [show min (i + 1) P = min i P by omega]
            have e : fH (fR P (fB bs)) (i + 1) = fH (fR P (fB bs)) i := by
              funext j
              by_cases hj : j = i
              · subst hj; rw [fH_at, fR_out _ (by omega), fH_far _ (Nat.le_refl _)]
              · exact fH_same _ hj
            rw [e]; exact h⟩
          rw [hf] at hbit
          have hbit2 : ((y : Int) / 2 ^ (i % 8)).tmod 2 = 0 := hbit
          have hge : (P : Int) ≤ (i : Int) := by omega
          have hnl : ¬ (i : Int) < (P : Int) := by omega
          clear HRv HN hf hbit
          go_wp2
          go_roundw
          case rel => exact ⟨i + 1, by omega, by go_num, HR2, HN2⟩
          case measure => simp [intOf]; omega
    · obtain rfl : i = 8 * L := by omega
      have HX : Hid (shapeOk (wd * n) bs) := hid (shape_of_far (by rw [← HL.out, ← HP.out]; exact HS.out) HB.out (by rw [← HL.out, ← HP.out]; exact HN.out))
      have HD : Hid (RdS w wr v wd n (dig (fB bs) wd)) := hid (by
        have h := HRv.out
        have e1 : cnt wd (min (8 * L) P) = n := by rw [show min (8 * L) P = P by omega, HP.out, cnt_at h1]
        rw [e1] at h
        have e2 : fH (fR P (fB bs)) (8 * L) = fB bs := by
          have hf := fB_far HX.out
          rw [← HP.out] at hf
          rw [fH_all (fun i hi => fR_out _ (by omega))]
          funext j
          by_cases hj : j < P
          · exact fR_in _ hj
          · rw [fR_out _ (by omega), hf j (by omega)]
        rw [e2] at h
        exact h)
      clear HRv HN
      go_wp2_with fail
      go_ret2
      exact .inl ⟨HX.out, HD.out.made⟩
end Go.Proofs.Ytimkclmaglofaaa
