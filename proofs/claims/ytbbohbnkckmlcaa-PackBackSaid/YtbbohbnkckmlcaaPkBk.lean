/- PackBack. -/
import Derived.Test.YtbbohbnkckmlcaaPkLe
import Derived.Test.YtbbohbnkckmlcaaPk8
namespace Go.Proofs.Ytbbohbnkckmlcaa
open Go.RowKit
open Bit

set_option maxRecDepth 100000 in
set_option maxHeartbeats 1000000 in
theorem packBack_cut1 (A B : Option Addr) (L0 L4 cap0 cap4 : Nat) (more width n : Int) (W : World) (h0 : L0 ≤ 140737488355328) (h4 : L4 ≤ 140737488355328) (h : 2000 < L0 + L4) :
    Calls Try.prog 7 #[.slice A L0 cap0, .int .i64 more, .int .i64 width, .int .i64 n, .slice B L4 cap4] W (Yes W) := by
  have h' : 2000 < (L0 : Int) + (L4 : Int) := by omega
  go_enter Try.func7, Try.ntmps7
  go_wp2_with (go_at_call 9; refine (awake_any _).mono ?_; rintro e w1 ⟨rfl, HB⟩)
  go_ret
  exact ⟨rfl, HB⟩
set_option maxRecDepth 100000 in
set_option maxHeartbeats 1000000 in
theorem packBack_cut2 (A B : Option Addr) (L0 L4 cap0 cap4 : Nat) (more width n : Int) (W : World) (h : L0 + L4 ≤ 2000) (h1 : 1 ≤ width) (h2 : width ≤ 60) (hn : 16000 / width < n) :
    Calls Try.prog 7 #[.slice A L0 cap0, .int .i64 more, .int .i64 width, .int .i64 n, .slice B L4 cap4] W (Yes W) := by
  have h' : ¬ 2000 < (L0 : Int) + (L4 : Int) := by omega
  go_enter Try.func7, Try.ntmps7
  go_wp2_with (go_at_call 9; refine (awake_any _).mono ?_; rintro e w1 ⟨rfl, HB⟩)
  go_ret
  exact ⟨rfl, HB⟩

/-- What Read may answer behind the guard. -/
def BackR (width n : Int) (bs : List Nat) (w : World) (e : Ending) (w' : World) : Prop :=
  (∃ x : Int, x ≠ 0 ∧ Refused w x e w') ∨ (∃ wd k : Nat, width = (wd : Int) ∧ n = (k : Int) ∧ shapeOk (wd * k) bs ∧ Made w wd k (fB bs) e w')
theorem backR_any (width n : Int) (cap : Nat) (B : Option Addr) (bs : List Nat) (w : World) (hr : RdY w B bs) (hb : Byts bs) (hg : isWd width = true → ¬ 16000 / width < n) :
    Calls Try.prog 21 #[.int .i64 width, .int .i64 n, .slice B bs.length cap] w (BackR width n bs w) := by
  cases h : isWd width with
  | false => exact (read_badW _ _ _ w h).mono fun e w' hh => .inl ⟨2, by omega, hh⟩
  | true =>
    have hw := isWd_iff.1 h
    by_cases hn : n < 0
    · exact (read_badN _ _ _ w h hn).mono fun e w' hh => .inl ⟨2, by omega, hh⟩
    · obtain ⟨wd, rfl⟩ := Int.eq_ofNat_of_zero_le (a := width) (by omega)
      obtain ⟨k, rfl⟩ := Int.eq_ofNat_of_zero_le (a := n) (by omega)
      have h1 : 1 ≤ wd := by omega
      have h2 : wd ≤ 60 := by omega
      have hm : wd * k ≤ 16000 := by
        have := hg h
        have e : (16000 : Int) / (wd : Int) = ((16000 / wd : Nat) : Int) := by simp
        rw [e] at this
        rw [Nat.mul_comm wd k, ← Nat.le_div_iff_mul_le (by omega)]
        omega
      cases hs : shB (wd * k) bs with
      | false => exact (read_shape wd k cap B bs w h1 h2 (by omega) hr hb hs).mono fun e w' hh => .inl ⟨4, by omega, hh⟩
      | true => exact (read_ok wd k cap B bs w h1 h2 (by omega) hr hb hs).mono fun e w' hh => .inr ⟨wd, k, rfl, rfl, of_decide_eq_true hs, hh⟩

/-- The law behind its first half. -/
def Guard (width n : Int) : Prop := width < 1 ∨ 60 < width ∨ (1 ≤ width ∧ width ≤ 60 ∧ ¬ 16000 / width < n)

set_option maxRecDepth 100000 in
set_option maxHeartbeats 4000000 in
theorem packBack_bad (A B : Option Addr) (cap0 cap4 : Nat) (zs : List Int) (bs : List Nat) (more width n : Int) (W : World) (h : zs.length + bs.length ≤ 2000) (hg : Guard width n) (hz : RdI W A zs) (hi : Ints zs) (hy : RdY W B bs) (hb : Byts bs) (hbad : allGood 60 zs = false) :
    Calls Try.prog 7 #[.slice A zs.length cap0, .int .i64 more, .int .i64 width, .int .i64 n, .slice B bs.length cap4] W (Yes W) := by
  have HC : Hid (∀ w1, Below W.heap.size W w1 → Calls Try.prog 11 #[.slice A zs.length cap0] w1 fun e w' => e = .returned (.tuple #[.int .i64 0, .int .i64 2]) ∧ w1 = w') := hid fun w1 hb1 =>
    (widthOf_any cap0 A zs w1 (hz.below hb1) (by omega) hi).mono fun e w' hw => by unfold WidthE at hw; rw [hbad] at hw; exact hw
  have HR : Hid (∀ w1, Below W.heap.size W w1 → Calls Try.prog 21 #[.int .i64 width, .int .i64 n, .slice B bs.length cap4] w1 (BackR width n bs w1)) := hid fun w1 hb1 =>
    backR_any width n cap4 B bs w1 (hy.below hb1) hb (fun hw => by have := isWd_iff.1 hw; rcases hg with hh | hh | hh <;> omega)
  have HY := hid hy
  have HB := hid hb
  clear hz hi hy hb hbad
  obtain ⟨L0, hL0⟩ : ∃ L, L = zs.length := ⟨_, rfl⟩
  obtain ⟨L4, hL4⟩ : ∃ L, L = bs.length := ⟨_, rfl⟩
  rw [← hL0] at h HC ⊢
  rw [← hL4] at h HR ⊢
  have HL4 := hid hL4
  have h' : ¬ 2000 < (L0 : Int) + (L4 : Int) := by omega
  clear hL0 hL4
  rcases hg with hg | hg | ⟨hg1, hg2, hg3⟩
  case' inr.inl => have hg1 : 1 ≤ width := by omega
  all_goals
    go_enter Try.func7, Try.ntmps7
    go_wp2_with (go_at_call 9; refine (awake_any _).mono ?_; rintro e w1 ⟨rfl, HB1⟩)
    refine (HR.out _ HB1.out).mono ?_
    rintro e w2 (⟨x, hx, rfl, hb2⟩ | ⟨wd, k, rfl, rfl, hsh, g, gw, rfl, hr, _, _, hb2⟩)
    · have HB2 := hid (HB1.out.trans (hb2.mono HB1.out.size))
      have hx' : (x == 0) = false := by rw [beq_eq_false_iff_ne]; exact hx
      clear hb2 HB1
      go_wp2_with (first | (go_at_call 11; refine (HC.out _ HB2.out).mono ?_; rintro e w' ⟨rfl, rfl⟩))
      go_ret
      exact ⟨rfl, HB2⟩
    · have HB2 := hid (HB1.out.trans (hb2.mono HB1.out.size))
      have HRow := hid hr
      have HSh := hid hsh.1
      have HSm := hid hr.small
      clear hb2 HB1 hsh hr
      go_wp2_with fail
      refine (bytes_any HRow.out).mono ?_
      rintro e w3 ⟨gb, rfl, hn⟩
      have HB3 := hid (HB2.out.trans (hn.out.2.2.mono HB2.out.size))
      have HRow3 := hid (HRow.out.below hn.out.2.2)
      have HX : Hid (RdV w3 (some ⟨gb, 0, none⟩) L4 fun j => .int .u8 ((bs.getD j 0 : Nat) : Int)) := hid (by
        have h1 := RdV.of_row hn.out.2.1
        rw [← HSh.out, ← HL4.out] at h1
        exact h1.congr fun j _ => by unfold vYf; rw [byt_fB HB.out])
      rw [← HSh.out, ← HL4.out]
      clear hn HB2 HRow
      go_wp2_with (first | (go_at_call 29; refine (sameBytes_eq HB.out HX.out (by have := HY.out.below HB3.out; rw [← HL4.out] at this; exact this) (by omega)).mono ?_; rintro e w4 ⟨rfl, d, rfl⟩) | (go_at_call 31; refine (len_any (HRow3.out.drewN d)).mono ?_; rintro e w' ⟨rfl, rfl⟩) | (go_at_call 32; refine (width_any (HRow3.out.drewN d)).mono ?_; rintro e w' ⟨rfl, rfl⟩) | (go_at_call 11; refine (HC.out _ (below_drewN HB3.out d)).mono ?_; rintro e w' ⟨rfl, rfl⟩))
      go_ret
      exact ⟨rfl, hid (below_drewN HB3.out d)⟩

theorem rdI_row {w : World} {g n wd : Nat} {f : Nat → Bool} {zs : List Int} (h : w.rowIs g 3 n (vDf f wd)) (hf : ∀ k, k < n → ((dig f wd k : Nat) : Int) = zs.getD k 0) : RdV w (some ⟨g, 0, none⟩) n fun j => .int .i64 (zs.getD j 0) :=
  (RdV.of_row h).congr fun j hj => by unfold vDf; rw [hf j hj]

theorem at_yes {g gw wd n : Nat} {f : Nat → Bool} {w : World} (h : IsRow w g gw wd n f) {k : Nat} (hk : k < n) :
    Calls Try.prog 34 #[.pointer (some ⟨g, 0, none⟩), .int .i64 (k : Int)] w fun e w' => e = .returned (.tuple #[.int .i64 ((dig f wd k : Nat) : Int), .bool true]) ∧ ∃ n, w' = w.drewN n := by
  have := at_any h (k : Int)
  have e1 : isAt n (k : Int) = true := by unfold isAt; simp; omega
  have e2 : nAt f wd n (k : Int) = ((dig f wd k : Nat) : Int) := by unfold nAt; rw [if_pos (by omega), Int.toNat_natCast]
  rwa [e1, e2] at this
theorem read_bytL {g v n : Nat} {f : Nat → Bool} {w : World} (h : w.rowIs g 5 ((v * n + 7) / 8) (vYf f)) (h1 : 1 ≤ v) (h2 : v ≤ 60) (hm : v * n ≤ 16777216) (hf : ∀ i, v * n ≤ i → f i = false) :
    Calls Try.prog 21 #[.int .i64 (v : Int), .int .i64 (n : Int), .slice (some ⟨g, 0, none⟩) ((v * n + 7) / 8) ((v * n + 7) / 8)] w (Made w v n f) := by
  have hr : RdY w (some ⟨g, 0, none⟩) (bytL f ((v * n + 7) / 8)) := by
    unfold RdY
    rw [bytL_len]
    exact (RdV.of_row h).congr fun j hj => by unfold vYf vY; rw [bytL_at f _ hj]
  have := read_ok v n ((v * n + 7) / 8) _ _ w h1 h2 hm hr (bytL_byts f _) (decide_eq_true (shape_bytL hf rfl))
  rwa [bytL_len, fB_bytL hf rfl] at this

set_option maxRecDepth 100000 in
set_option maxHeartbeats 8000000 in
theorem packBack_ok (A B : Option Addr) (cap0 cap4 : Nat) (zs : List Int) (bs : List Nat) (more width n : Int) (W : World) (hm1 : -9223372036854775808 ≤ more) (hm2 : more ≤ 9223372036854775807) (h : zs.length + bs.length ≤ 2000) (hg : Guard width n) (hz : RdI W A zs) (hi : Ints zs) (hy : RdY W B bs) (hb : Byts bs) (hbad : allGood 60 zs = true) :
    Calls Try.prog 7 #[.slice A zs.length cap0, .int .i64 more, .int .i64 width, .int .i64 n, .slice B bs.length cap4] W (Yes W) := by
  have hv1 := wid_pos zs
  have hv2 : wid zs ≤ 60 := wid_le (by omega) (by omega) (allGood_iff.1 hbad)
  have HC : Hid (∀ w1, Below W.heap.size W w1 → Calls Try.prog 11 #[.slice A zs.length cap0] w1 fun e w' => e = .returned (.tuple #[.int .i64 ((wid zs : Nat) : Int), .int .i64 0]) ∧ w1 = w') := hid fun w1 hb1 =>
    (widthOf_any cap0 A zs w1 (hz.below hb1) (by omega) hi).mono fun e w' hw => by unfold WidthE at hw; rw [hbad] at hw; exact hw
  have HR : Hid (∀ w1, Below W.heap.size W w1 → Calls Try.prog 21 #[.int .i64 width, .int .i64 n, .slice B bs.length cap4] w1 (BackR width n bs w1)) := hid fun w1 hb1 =>
    backR_any width n cap4 B bs w1 (hy.below hb1) hb (fun hw => by have := isWd_iff.1 hw; rcases hg with hh | hh | hh <;> omega)
  have HBad : Hid (∀ v, wid zs ≤ v → v ≤ 60 → zs.any (badN v) = false) := hid fun v h1 h2 => by rw [allGood_bad, allGood_iff.2 ((wid_iff (by omega) h2 (allGood_iff.1 hbad)).2 h1)]; rfl
  have HSm : Hid (∀ v, v ≤ 60 → v * zs.length ≤ 120000) := hid fun v h2 => by have := Nat.mul_le_mul h2 (show zs.length ≤ 2000 by omega); omega
  have HD : Hid (∀ w1 v, Below W.heap.size W w1 → wid zs ≤ v → v ≤ 60 → Calls Try.prog 13 #[.int .i64 (v : Int), .slice A zs.length cap0] w1 (Made w1 v zs.length (fS v (zl zs) zs.length))) := hid fun w1 v hb1 h1 h2 =>
    new_ok v cap0 A zs w1 (by omega) h2 (hz.below hb1) hi (HBad.out v h1 h2) (by have := HSm.out v h2; omega)
  have HDig : Hid (∀ v, wid zs ≤ v → v ≤ 60 → ∀ k, k < zs.length → ((dig (fS v (zl zs) zs.length) v k : Nat) : Int) = zs.getD k 0) := hid fun v h1 h2 k hk => by
    have hgz := good_zl (HBad.out v h1 h2) hk
    rw [dig_fS hk hgz.2, hgz.1]
  have HZ := hid hz
  have HY := hid hy
  have HB := hid hb
  clear hz hi hy hb hbad HBad
  obtain ⟨L0, hL0⟩ : ∃ L, L = zs.length := ⟨_, rfl⟩
  obtain ⟨L4, hL4⟩ : ∃ L, L = bs.length := ⟨_, rfl⟩
  rw [← hL0] at h HC HD HSm HDig ⊢
  rw [← hL4] at h HR ⊢
  have HL0 := hid hL0
  have HL4 := hid hL4
  have h' : ¬ 2000 < (L0 : Int) + (L4 : Int) := by omega
  clear hL0 hL4
  generalize wid zs = v0 at hv1 hv2 HC HD HDig
  rcases hg with hg | hg | ⟨hg1, hg2, hg3⟩
  case' inr.inl => have hg1 : 1 ≤ width := by omega
  all_goals
    go_enter Try.func7, Try.ntmps7
    go_wp2_with (go_at_call 9; refine (awake_any _).mono ?_; rintro e w1 ⟨rfl, HB1⟩)
    refine (HR.out _ HB1.out).mono ?_
    rintro e w5 (⟨x, hx, rfl, hb2⟩ | ⟨wd, k, rfl, rfl, hsh, g, gw, rfl, hr, _, _, hb2⟩)
    · have HB5 := hid (HB1.out.trans (hb2.mono HB1.out.size))
      have hx' : (x == 0) = false := by rw [beq_eq_false_iff_ne]; exact hx
      clear hb2 HB1
      go_wp2_with fail
      obtain ⟨w6, hw6⟩ : ∃ w6, w6 = w5 := ⟨_, rfl⟩
      rw [← hw6] at HB5 ⊢
      clear hw6
      refine (HC.out _ HB5.out).mono ?_
      rintro e w' ⟨rfl, rfl⟩
      go_wp2_with (go_at_call 33; refine (pick_any more 5 _ (by omega) (by omega) hm1 hm2).mono ?_; rintro e w' ⟨p, rfl, hp, rfl⟩)
      obtain ⟨v, hv, hva, hvb⟩ : ∃ v : Nat, min ((v0 : Int) + (p : Int)) 60 = (v : Int) ∧ v0 ≤ v ∧ v ≤ 60 := ⟨min (v0 + p) 60, by omega, by omega, by omega⟩
      rw [hv]
      clear hv hp
      refine (HD.out _ v HB5.out hva hvb).mono ?_
      rintro e w7 ⟨g2, gw2, rfl, hr2, _, _, hb7⟩
      have HR2 := hid hr2
      have HB7 := hid (HB5.out.trans (hb7.mono HB5.out.size))
      have HDg := hid (HDig.out v hva hvb)
      have hsm := HSm.out v hvb
      clear hb7 hr2 HB5 HDig
      have hs1 : (0 : Int) ≤ (v : Int) * (L0 : Int) := by rw [show (v : Int) * (L0 : Int) = ((v * L0 : Nat) : Int) by simp]; omega
      have hs2 : (v : Int) * (L0 : Int) ≤ 120000 := by rw [show (v : Int) * (L0 : Int) = ((v * L0 : Nat) : Int) by simp]; omega
      have hs3 : ((((v * L0 + 7) / 8 : Nat) : Int) != ((v : Int) * (L0 : Int) + 7) / 8) = false := by rw [bne_eq_false_iff_eq, show (v : Int) * (L0 : Int) = ((v * L0 : Nat) : Int) by simp]; omega
      have HOut := hid (fun i (hi : v * L0 ≤ i) => fS_far (l := zl zs) (k := L0) hi)
      generalize fS v (zl zs) L0 = f at HR2 HDg HOut
      go_wp2_with fail
      refine (len_any HR2.out).mono ?_
      rintro e w' ⟨rfl, rfl⟩
      go_wp2_with fail
      refine (bytes_any HR2.out).mono ?_
      rintro e w8 ⟨gb8, rfl, hn8⟩
      have HB8 := hid (HB7.out.trans (hn8.out.2.2.mono HB7.out.size))
      have HR8 := hid (HR2.out.below hn8.out.2.2)
      clear hn8 HB7 HR2
      go_wp2_with fail
      clear hs1 hs2 hs3
      go_loopw [18] (fun s wr => ∃ k : Nat, k ≤ L0 ∧ s = .int .i64 k ∧ Hid (Below W.heap.size W wr ∧ IsRow wr g2 gw2 v L0 f)) (fun s _ => L0 - (intOf s).toNat)
      case atStart => exact ⟨0, by omega, rfl, hid ⟨HB8.out, HR8.out⟩⟩
      case round =>
        obtain ⟨k2, hk, rfl, HI⟩ := hrel
        clear HB8 HR8
        by_cases hp2 : k2 < L0
        · obtain ⟨b, off, hAe, hc, _⟩ := (HZ.out.below HI.out.1).at (k := k2) (by rw [← HL0.out]; exact hp2)
          unfold vI at hc
          have HA := hid (at_yes HI.out.2 hp2)
          rw [HDg.out k2 hp2] at HA
          generalize zs.getD k2 0 = z at hc HA
          subst hAe
          go_wp2_with (go_at_call 34; refine HA.out.mono ?_; rintro e w' ⟨rfl, d9, rfl⟩)
          go_roundw
          case rel => exact ⟨k2 + 1, by omega, by go_num, hid ⟨below_drewN HI.out.1 d9, HI.out.2.drewN d9⟩⟩
          case measure => simp [intOf]; omega
        · obtain rfl : k2 = L0 := by omega
          have HIB := hid HI.out.1
          have HIR := hid HI.out.2
          clear HI
          go_wp2_with fail
          refine (bytes_any HIR.out).mono ?_
          rintro e w10 ⟨gb10, rfl, hn10⟩
          have HB10 := hid (HIB.out.trans (hn10.out.2.2.mono HIB.out.size))
          have HRd := hid (read_bytL hn10.out.2.1 (by omega) hvb (show v * k2 ≤ 16777216 by omega) HOut.out)
          clear hn10 HIB HIR
          go_wp2_with fail
          refine HRd.out.mono ?_
          rintro e w11 ⟨g11, gw11, rfl, hr11, _, _, hb11⟩
          have HB11 := hid (HB10.out.trans (hb11.mono HB10.out.size))
          have HR11 := hid hr11
          clear hr11 hb11 HB10 HRd
          go_wp2_with fail
          refine (all_any HR11.out).mono ?_
          rintro e w12 ⟨g12, rfl, hn12⟩
          have HB12 := hid (HB11.out.trans (hn12.out.2.2.mono HB11.out.size))
          have HS := hid (sameInts_eq (c1 := k2) (c2 := cap0) (rdI_row hn12.out.2.1 HDg.out) (by have := HZ.out.below HB12.out; rw [← HL0.out] at this; exact this) (by omega))
          clear hn12 HR11 HB11
          go_wp2_with fail
          refine HS.out.mono ?_
          rintro e w13 ⟨rfl, d13, rfl⟩
          go_wp2_with fail
          go_ret
          exact ⟨rfl, hid (below_drewN HB12.out d13)⟩
    · have HB2 := hid (HB1.out.trans (hb2.mono HB1.out.size))
      have HRow := hid hr
      have HSh := hid hsh.1
      clear hb2 HB1 hsh hr
      go_wp2_with fail
      refine (bytes_any HRow.out).mono ?_
      rintro e w3 ⟨gb, rfl, hn⟩
      have HB3 := hid (HB2.out.trans (hn.out.2.2.mono HB2.out.size))
      have HRow3 := hid (HRow.out.below hn.out.2.2)
      have HX : Hid (RdV w3 (some ⟨gb, 0, none⟩) L4 fun j => .int .u8 ((bs.getD j 0 : Nat) : Int)) := hid (by
        have h1 := RdV.of_row hn.out.2.1
        rw [← HSh.out, ← HL4.out] at h1
        exact h1.congr fun j _ => by unfold vYf; rw [byt_fB HB.out])
      rw [← HSh.out, ← HL4.out]
      clear hn HB2 HRow
      go_wp2_with (first | (go_at_call 29; refine (sameBytes_eq HB.out HX.out (by have := HY.out.below HB3.out; rw [← HL4.out] at this; exact this) (by omega)).mono ?_; rintro e w4 ⟨rfl, d, rfl⟩) | (go_at_call 31; refine (len_any (HRow3.out.drewN d)).mono ?_; rintro e w' ⟨rfl, rfl⟩) | (go_at_call 32; refine (width_any (HRow3.out.drewN d)).mono ?_; rintro e w' ⟨rfl, rfl⟩))
      have HB5 := hid (below_drewN HB3.out d)
      clear HB3 HX HRow3
      generalize w3.drewN d = w6 at HB5 ⊢
      refine (HC.out _ HB5.out).mono ?_
      rintro e w' ⟨rfl, rfl⟩
      go_wp2_with (go_at_call 33; refine (pick_any more 5 _ (by omega) (by omega) hm1 hm2).mono ?_; rintro e w' ⟨p, rfl, hp, rfl⟩)
      obtain ⟨v, hv, hva, hvb⟩ : ∃ v : Nat, min ((v0 : Int) + (p : Int)) 60 = (v : Int) ∧ v0 ≤ v ∧ v ≤ 60 := ⟨min (v0 + p) 60, by omega, by omega, by omega⟩
      rw [hv]
      clear hv hp
      refine (HD.out _ v HB5.out hva hvb).mono ?_
      rintro e w7 ⟨g2, gw2, rfl, hr2, _, _, hb7⟩
      have HR2 := hid hr2
      have HB7 := hid (HB5.out.trans (hb7.mono HB5.out.size))
      have HDg := hid (HDig.out v hva hvb)
      have hsm := HSm.out v hvb
      clear hb7 hr2 HB5 HDig
      have hs1 : (0 : Int) ≤ (v : Int) * (L0 : Int) := by rw [show (v : Int) * (L0 : Int) = ((v * L0 : Nat) : Int) by simp]; omega
      have hs2 : (v : Int) * (L0 : Int) ≤ 120000 := by rw [show (v : Int) * (L0 : Int) = ((v * L0 : Nat) : Int) by simp]; omega
      have hs3 : ((((v * L0 + 7) / 8 : Nat) : Int) != ((v : Int) * (L0 : Int) + 7) / 8) = false := by rw [bne_eq_false_iff_eq, show (v : Int) * (L0 : Int) = ((v * L0 : Nat) : Int) by simp]; omega
      have HOut := hid (fun i (hi : v * L0 ≤ i) => fS_far (l := zl zs) (k := L0) hi)
      generalize fS v (zl zs) L0 = f at HR2 HDg HOut
      go_wp2_with fail
      refine (len_any HR2.out).mono ?_
      rintro e w' ⟨rfl, rfl⟩
      go_wp2_with fail
      refine (bytes_any HR2.out).mono ?_
      rintro e w8 ⟨gb8, rfl, hn8⟩
      have HB8 := hid (HB7.out.trans (hn8.out.2.2.mono HB7.out.size))
      have HR8 := hid (HR2.out.below hn8.out.2.2)
      clear hn8 HB7 HR2
      go_wp2_with fail
      clear hs1 hs2 hs3
      go_loopw [18] (fun s wr => ∃ k : Nat, k ≤ L0 ∧ s = .int .i64 k ∧ Hid (Below W.heap.size W wr ∧ IsRow wr g2 gw2 v L0 f)) (fun s _ => L0 - (intOf s).toNat)
      case atStart => exact ⟨0, by omega, rfl, hid ⟨HB8.out, HR8.out⟩⟩
      case round =>
        obtain ⟨k2, hk, rfl, HI⟩ := hrel
        clear HB8 HR8
        by_cases hp2 : k2 < L0
        · obtain ⟨b, off, hAe, hc, _⟩ := (HZ.out.below HI.out.1).at (k := k2) (by rw [← HL0.out]; exact hp2)
          unfold vI at hc
          have HA := hid (at_yes HI.out.2 hp2)
          rw [HDg.out k2 hp2] at HA
          generalize zs.getD k2 0 = z at hc HA
          subst hAe
          go_wp2_with (go_at_call 34; refine HA.out.mono ?_; rintro e w' ⟨rfl, d9, rfl⟩)
          go_roundw
          case rel => exact ⟨k2 + 1, by omega, by go_num, hid ⟨below_drewN HI.out.1 d9, HI.out.2.drewN d9⟩⟩
          case measure => simp [intOf]; omega
        · obtain rfl : k2 = L0 := by omega
          have HIB := hid HI.out.1
          have HIR := hid HI.out.2
          clear HI
          go_wp2_with fail
          refine (bytes_any HIR.out).mono ?_
          rintro e w10 ⟨gb10, rfl, hn10⟩
          have HB10 := hid (HIB.out.trans (hn10.out.2.2.mono HIB.out.size))
          have HRd := hid (read_bytL hn10.out.2.1 (by omega) hvb (show v * k2 ≤ 16777216 by omega) HOut.out)
          clear hn10 HIB HIR
          go_wp2_with fail
          refine HRd.out.mono ?_
          rintro e w11 ⟨g11, gw11, rfl, hr11, _, _, hb11⟩
          have HB11 := hid (HB10.out.trans (hb11.mono HB10.out.size))
          have HR11 := hid hr11
          clear hr11 hb11 HB10 HRd
          go_wp2_with fail
          refine (all_any HR11.out).mono ?_
          rintro e w12 ⟨g12, rfl, hn12⟩
          have HB12 := hid (HB11.out.trans (hn12.out.2.2.mono HB11.out.size))
          have HS := hid (sameInts_eq (c1 := k2) (c2 := cap0) (rdI_row hn12.out.2.1 HDg.out) (by have := HZ.out.below HB12.out; rw [← HL0.out] at this; exact this) (by omega))
          clear hn12 HR11 HB11
          go_wp2_with fail
          refine HS.out.mono ?_
          rintro e w13 ⟨rfl, d13, rfl⟩
          go_wp2_with fail
          go_ret
          exact ⟨rfl, hid (below_drewN HB12.out d13)⟩
end Go.Proofs.Ytbbohbnkckmlcaa
