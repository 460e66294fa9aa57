/- SumSeals, walked. -/
import Derived.Test.YthfelifcikiogaaDoorSu8
import Derived.Test.YthfelifcikiogaaDoorCr2
namespace Go.Proofs.YthfelifcikiogaaDoor
open Go.RowKit
open Cr

theorem yv_vals (bs : List Nat) : valsL (vY bs) bs.length = bs.map yv := vals_map bs
theorem OwY.set {w0 w : World} {g n cap j x : Nat} {bs : List Nat} (h : OwY w0 w (.slice (some ⟨g, 0, none⟩) n cap) bs) (hj : j < bs.length) : OwY w0 (w.setCell ⟨g, j, none⟩ (.int .u8 (x : Int))) (.slice (some ⟨g, 0, none⟩) n cap) (bs.set j x) := by
  obtain ⟨A', c', e, _, _, h3, hle, hcm⟩ := h.shape
  injection e with e1 e2 e3
  subst e2
  subst e3
  obtain ⟨g', F, hA, hge, hF, hFV, _⟩ := h3 (by omega)
  rw [hA] at e1
  injection e1 with e1
  injection e1 with e1
  subst e1
  refine ⟨?_, h.only.setCell (.inr hge) _⟩
  rw [← vals_map, List.length_set]
  refine own_mk hge (hF.set j _) (fun i hi => ?_) hle hcm
  unfold vY
  rw [getD_set _ _ _ _ hj]
  by_cases hq : i = j
  · subst hq; rw [if_pos rfl, if_pos rfl]
  · rw [if_neg hq, if_neg hq]; exact hFV i hi
theorem OwY.cellAt {w0 w : World} {g n cap j : Nat} {bs : List Nat} (h : OwY w0 w (.slice (some ⟨g, 0, none⟩) n cap) bs) (hj : j < bs.length) : w.cell? ⟨g, j, none⟩ = some (vY bs j) ∧ w.frozen? ⟨g, j, none⟩ = false ∧ g < w.heap.size ∧ j < cap ∧ n = bs.length := by
  obtain ⟨A', c', e, _, _, h3, hle, hcm⟩ := h.shape
  injection e with e1 e2 e3
  subst e2
  subst e3
  obtain ⟨g', F, hA, hge, hF, hFV, _⟩ := h3 (by omega)
  rw [hA] at e1
  injection e1 with e1
  injection e1 with e1
  subst e1
  exact ⟨by rw [hF.cell (by omega), hFV j hj], hF.frozen j, hF.lt, by omega, rfl⟩
/-- One row, sealed. -/
theorem sealOne {w : World} {A : Option Addr} {cap : Nat} {bs : List Nat} (hr : RdY w A bs) (hA : A = none → bs.length = 0 ∧ cap = 0) (hB : ∀ b ∈ bs, b < 256) (hl : bs.length ≤ 1000000) (hT : TabS w) :
    Calls Tryd.prog 11 #[.slice (some ⟨w.heap.size, 0, none⟩) 1 1] (w.alloc (.cells #[.slice A bs.length cap] 23)) fun e w' => ∃ v, e = .returned v ∧ Hid (OwY w w' v (sealed bs)) := by
  have h := seal_any (cap := 1) (rdR_one (cap := cap) hr hA) (btsR_one hB) (by simp) (by rw [flat_one]; omega) (hT.only ((Only.refl _ w).alloc _))
  rw [flat_one] at h
  exact h.mono fun e w' ⟨v, h1, h2⟩ => ⟨v, h1, hid (h2.out.lift ((Only.refl _ w).alloc _))⟩
theorem same_rd {w : World} {A B : Option Addr} {c1 c2 : Nat} {bs : List Nat} (r1 : RdY w A bs) (r2 : RdY w B bs) (hb : ∀ b ∈ bs, b < 256) (hl : bs.length ≤ 10000000) :
    Calls Tryd.prog 16 #[.slice A bs.length c1, .slice B bs.length c2] w (Quiet1 (.bool true) w) :=
  sameBytes_eq (y := fun j => bs.getD j 0) (byts_of hb) r1 r2 (by omega)
set_option maxHeartbeats 2000000 in
theorem sumSeals_long {A : Option Addr} {cap n : Nat} {x y : Int} {w : World} (hn : ¬ n ≤ 3000) (hT : TabS w) :
    Calls Tryd.prog 5 #[.slice A n cap, .int .i64 x, .int .u32 y] w (YesB w) := by
  have HA := hid (awake_any w hT)
  clear hT
  have hq : (3000 : Int) < (n : Int) := by omega
  go_enter Tryd.func5, Tryd.ntmps5
  go_wp2_with fail
  refine HA.out.mono ?_
  rintro e w1 ⟨rfl, HO⟩
  go_wp2_with fail
  go_ret
  exact ⟨rfl, hid (only_below HO.out)⟩
set_option maxRecDepth 100000 in
set_option maxHeartbeats 4000000 in
theorem sumSeals_short {A : Option Addr} {cap : Nat} {x y : Int} {bs : List Nat} {w : World} (hl : bs.length ≤ 3000) (hr : RdY w A bs) (hB : ∀ b ∈ bs, b < 256) (hA : A = none → bs.length = 0 ∧ cap = 0) (hx : -9223372036854775808 ≤ x ∧ x ≤ 9223372036854775807) (hy : 0 ≤ y ∧ y ≤ 4294967295) (hT : TabS w) :
    Calls Tryd.prog 5 #[.slice A bs.length cap, .int .i64 x, .int .u32 y] w (YesB w) := by
  have HA := hid (awake_any w hT)
  have HR := hid hr
  have HB := hid hB
  have HT := hid hT
  have HN := hid hA
  clear hr hB hT hA
  have HSl := hid fun W (h : Only (fun _ => False) w W) => sealOne (cap := cap) (HR.out.only h fun _ _ _ => no_) HN.out HB.out (by omega) (HT.out.only h)
  have HOpG : Hid (∀ W A2 c, RdY W A2 (sealed bs) → Only (fun _ => False) w W → (sealed bs).length ≤ c → Calls Tryd.prog 12 #[.slice A2 (sealed bs).length c] W fun e w' => ∃ v, e = .returned (.tuple #[v, .int .i64 0]) ∧ Hid (OwY W w' v bs)) := hid fun W A2 c h1 h2 h3 => by
    have h := open_any h1 (sealed_lt HB.out) (by rw [sealed_len]; omega) h3 (HT.out.only h2)
    unfold OpenE at h
    rw [sealed_opened] at h
    exact h
  have HOp2 : Hid (∀ W A2 n c t, RdY W A2 t → n = t.length → (∀ b ∈ t, b < 256) → Only (fun _ => False) w W → t.length ≤ 1000000 → t.length ≤ c → Calls Tryd.prog 12 #[.slice A2 n c] W fun e w' => ∃ v, e = .returned (.tuple #[v, .int .i64 (opened t).1]) ∧ Hid (OwY W w' v (opened t).2)) := hid fun W A2 n c t h1 h2 h3 h4 h5 h6 => by
    subst h2
    exact open_any h1 h3 (by omega) h6 (HT.out.only h4)
  have HSm := hid fun W A1 A2 c1 c2 (h1 : RdY W A1 bs) (h2 : RdY W A2 bs) => same_rd (c1 := c1) (c2 := c2) h1 h2 HB.out (by omega)
  have HTu := hid fun t first (h : Turned (sealed bs) t first 32 true) hf => turned_opened HB.out h hf
  have HTb := hid fun first => Turned.begin (sealed bs) (sealed_lt HB.out) first
  have HSL := hid (sealed_len bs)
  generalize sealed bs = sl at HSl HOpG HTu HTb HSL
  have HX := hid hx
  clear hx
  go_enter Tryd.func5, Tryd.ntmps5
  go_wp2_with fail
  refine HA.out.mono ?_
  rintro e w1 ⟨rfl, HO⟩
  clear HA
  go_wp2_with fail
  refine (HSl.out _ HO.out).mono ?_
  rintro e w2 ⟨v2, rfl, HO2⟩
  obtain ⟨A2, cap2, rfl, hc2⟩ := HO2.out.isSlice
  have HO2w := hid (HO.out.trans HO2.out.only)
  clear HSl
  go_wp2_with fail
  refine (HOpG.out _ _ _ (HO2.out.rd (Only.refl _ _)).2 HO2w.out hc2).mono ?_
  rintro e w3 ⟨v3, rfl, HO3⟩
  obtain ⟨A3, cap3, rfl, hc3⟩ := HO3.out.isSlice
  have HO3w := hid (HO2w.out.trans HO3.out.only)
  clear HOpG
  go_wp2_with fail
  refine (HSm.out _ _ _ _ _ (HO3.out.rd (Only.refl _ _)).2 (HR.out.only HO3w.out fun _ _ _ => no_)).mono ?_
  rintro e w4 ⟨rfl, k4, rfl⟩
  have HO4w := hid (HO3w.out.drewN k4)
  have HO24 := hid (HO3.out.only.drewN k4)
  clear HSm HO3w
  generalize w3.drewN k4 = w4 at HO4w HO24 ⊢
  have hbn : ((sl.length : Int) != (bs.length : Int) + 4) = false := by rw [bne_eq_false_iff_eq]; have := HSL.out; omega
  by_cases hy0 : y = 0
  · subst hy0
    go_wp2_with fail
    go_ret
    exact ⟨rfl, hid (only_below HO4w.out)⟩
  · have hy1 : (y == 0) = false := by rw [beq_eq_false_iff_ne]; exact hy0
    have HPk := hid (pick_any x (8 * (sl.length : Int)) w4 (by have := HSL.out; omega) (by have := HSL.out; omega) HX.out.1 HX.out.2)
    have hsl2 : sl.length ≤ 3004 := by have := HSL.out; omega
    go_wp2_with fail
    refine HPk.out.mono ?_
    rintro e w5 ⟨f, rfl, hf, rfl⟩
    clear HPk
    have HBg := hid (OwY.begin (Only.refl (fun _ => False) w4))
    have HR2 : Hid (RdY (w4.alloc (.cells #[] 5)) A2 sl) := hid ((HO2.out.rd (Only.refl _ _)).2.only (HO24.out.alloc _) fun _ _ _ => no_)
    have HN2 := hid HO2.out.nilA
    go_wp2_with (at_builtin; refine wpList_addY w4 _ rfl (.tmp 53) (.tmp 54) rfl _ [] rfl HBg A2 sl.length cap2 sl rfl rfl HN2 HR2 (by simp; omega) ?_; intro v6 w6 HO6)
    rw [List.nil_append] at HO6
    obtain ⟨A6, cap6, rfl, hc6⟩ := HO6.out.isSlice
    obtain ⟨g6, rfl⟩ : ∃ g6, A6 = some ⟨g6, 0, none⟩ := by
      obtain ⟨A', c', e, _, _, h3, _⟩ := HO6.out.shape
      injection e with e1
      subst e1
      obtain ⟨g, _, e2, _⟩ := h3 (by have := HSL.out; omega)
      exact ⟨g, e2⟩
    clear HBg HR2 HN2 hbn hy1
    go_wp2_with fail
    go_loopw [12, 13] (fun z s wr => ∃ i : Nat, i ≤ 32 ∧ s = .int .i64 i ∧ ∃ db, z = .bool db ∧ Hid (∃ tl, OwY w4 wr (.slice (some ⟨g6, 0, none⟩) sl.length cap6) tl ∧ Turned sl tl f i db)) (fun _ s _ => 32 - (intOf s).toNat)
    case atStart => exact ⟨0, by omega, rfl, false, rfl, hid ⟨sl, HO6.out, HTb.out f⟩⟩
    case round =>
      obtain ⟨i, hi, rfl, db, rfl, HV⟩ := hrel
      obtain ⟨tl, hV1, hV2⟩ := HV.out
      have HOt := hid hV1
      have HTt := hid hV2
      clear HO6 HV hV1 hV2 HTb
      by_cases hp : i < 32
      · have HSt : Hid (Turned sl tl f (i + 1) db) := hid HTt.out.stay
        cases hcb : (bits .and .u32 (y / 2 ^ i) 1 == 1)
        · go_wp2_with fail
          go_roundw
          case rel => exact ⟨i + 1, by omega, by go_num, db, rfl, hid ⟨tl, HOt.out, HSt.out⟩⟩
          case measure => simp [intOf]; omega
        · by_cases hk : f + i < 8 * sl.length
          · have HTL : Hid (tl.length = sl.length) := hid HTt.out.1
            obtain ⟨q, hq⟩ : ∃ q, q = (f + i) / 8 := ⟨_, rfl⟩
            obtain ⟨m, hm⟩ : ∃ m, m = (f + i) % 8 := ⟨_, rfl⟩
            have hqt : ((f : Int) + (i : Int)).tdiv 8 = (q : Int) := by rw [Int.tdiv_eq_ediv_of_nonneg (by omega)]; omega
            have hmt : ((f : Int) + (i : Int)).tmod 8 = (m : Int) := by rw [Int.tmod_eq_emod_of_nonneg (by omega)]; omega
            have hql : q < tl.length := by have := HTL.out; omega
            obtain ⟨dc, fz, hgl, hqc, _⟩ := HOt.out.cellAt hql
            have hm8 : m < 8 := by omega
            have HTn := hid (HTt.out.turn (by have := HTL.out; omega))
            rw [← hq, ← hm] at HTn
            have hqs : q < sl.length := by have := HTL.out; omega
            have HSet := hid fun x => HOt.out.set (x := x) hql
            have hx8 : tl.getD q 0 < 256 := byts_of HTt.out.2.1 q
            have hk2 : (f : Int) + (i : Int) < 8 * (sl.length : Int) := by omega
            clear HSt HOt HTt hql
            unfold vY at dc
            generalize tl.getD q 0 = b at dc HTn hx8
            have Hqe := hid hq
            have Hme := hid hm
            have hqi : ((f : Int) + (i : Int)) / 8 = (q : Int) := by omega
            have hmi : ((f : Int) + (i : Int)) % 8 = (m : Int) := by omega
            have hqw : IntKind.i64.wrap (q : Int) = (q : Int) := by rw [IntKind.wrap_i64]; omega
            have hmw : IntKind.i64.wrap (m : Int) = (m : Int) := by rw [IntKind.wrap_i64]; omega
            have hq1 : (q : Int) < (sl.length : Int) := by omega
            clear hq hm hqt hmt
            go_wp2
            go_region
            all_goals go_wp2
            all_goals go_roundw
            case rel =>
              have h2 : 2 ^ m < 256 := Nat.pow_lt_pow_right (n := 8) (by decide) hm8
              have e2 : (2 : Int) ^ m % 256 = ((2 ^ m : Nat) : Int) := by
                rw [show (2 : Int) ^ m = ((2 ^ m : Nat) : Int) by simp]
                generalize 2 ^ m = z at h2 ⊢
                omega
              refine ⟨i + 1, by omega, by go_num, true, rfl, hid ⟨_, ?_, HTn.out⟩⟩
              rw [e2, u8_xor_nat b (2 ^ m) hx8 h2]
              exact (HSet.out _).carry (Only.refl _ _).drew
            case measure => simp [intOf]; omega
          · have hk2 : ¬ (f : Int) + (i : Int) < 8 * (sl.length : Int) := by omega
            go_wp2_with fail
            go_roundw
            case rel => exact ⟨i + 1, by omega, by go_num, db, rfl, hid ⟨tl, HOt.out, HSt.out⟩⟩
            case measure => simp [intOf]; omega
      · obtain rfl : i = 32 := by omega
        have hr6 := HOt.out.rd (Only.refl _ _)
        have HOr := hid (HO4w.out.trans HOt.out.only)
        have HOp3 := hid (HOp2.out wr (some ⟨g6, 0, none⟩) sl.length cap6 tl hr6.2 hr6.1 HTt.out.2.1 HOr.out (by rw [← hr6.1]; omega) (by rw [← hr6.1]; exact hc6))
        have HE : Hid (db = true → opened tl = (7, [])) := hid fun h => by
          subst h
          exact HTu.out tl f HTt.out (by omega)
        clear hr6 HOp2 HTu HOt HTt hp
        cases db
        · generalize (opened tl).1 = eo at HOp3
          generalize (opened tl).2 = ol at HOp3
          go_wp2_with fail
          refine HOp3.out.mono ?_
          rintro e w9 ⟨v9, rfl, HO9⟩
          go_wp2_with fail
          go_ret
          exact ⟨rfl, hid (only_below (HOr.out.trans HO9.out.only))⟩
        · have e7 := HE.out rfl
          rw [e7] at HOp3
          go_wp2_with fail
          refine HOp3.out.mono ?_
          rintro e w9 ⟨v9, rfl, HO9⟩
          obtain ⟨A9, cap9, rfl, _⟩ := HO9.out.isSlice
          go_wp2_with fail
          go_ret
          exact ⟨rfl, hid (only_below (HOr.out.trans HO9.out.only))⟩
theorem sumSeals_any {A : Option Addr} {cap : Nat} {x y : Int} {bs : List Nat} {w : World} (hr : RdY w A bs) (hB : ∀ b ∈ bs, b < 256) (hA : A = none → bs.length = 0 ∧ cap = 0) (hx : -9223372036854775808 ≤ x ∧ x ≤ 9223372036854775807) (hy : 0 ≤ y ∧ y ≤ 4294967295) (hT : TabS w) :
    Calls Tryd.prog 5 #[.slice A bs.length cap, .int .i64 x, .int .u32 y] w (YesB w) := by
  by_cases h : bs.length ≤ 3000
  · exact sumSeals_short h hr hB hA hx hy hT
  · exact sumSeals_long h hT
end Go.Proofs.YthfelifcikiogaaDoor
