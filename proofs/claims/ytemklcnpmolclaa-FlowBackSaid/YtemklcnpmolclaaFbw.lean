/- FlowBack: its walk. -/
import Derived.Test.YtemklcnpmolclaaFbk
namespace Go.Proofs.Ytemklcnpmolclaa
open Go.RowKit

set_option maxRecDepth 100000 in
set_option maxHeartbeats 8000000 in
theorem flowBack_any {A : Option Addr} {N cap : Nat} {d : Nat → Dd} {w : World} (hd : DsIn w A N d) (hN : N ≤ 140737488355328) :
    Calls Try.prog 5 #[.slice A N cap] w fun e' w' => e' = .returned (.bool true) ∧ Hid (Below w.heap.size w w') := by
  have HD := hid hd
  clear hd
  go_enter Try.func5, Try.ntmps5
  go_wp2_with fail
  refine (awake_any w).mono ?_
  rintro e' w1 ⟨rfl, h1⟩
  have HD1 := hid (HD.out.below h1.out)
  go_wp2_with fail
  refine (size_any HD1.out hN).mono ?_
  rintro e' w2 ⟨sz, rfl, hq, hsz, hfew⟩
  have HB2 : Hid (Below w.heap.size w w2) := hid (h1.out.trans ((quiet_only hq).to_below (fun _ h => h.elim) h1.out.size))
  have HFw := hid hfew
  clear h1 HD1 hq hfew
  by_cases hs : 600 < sz
  · go_wp2_with fail
    go_ret
    exact ⟨rfl, HB2⟩
  · have HF := hid (HFw.out (by omega))
    have hs2 : ¬ (600 : Int) < (sz : Int) := by omega
    clear HFw
    go_wp2_with fail
    refine (newWriter_any w2).mono ?_
    rintro e' w3 ⟨g, rfl, h3⟩
    have HP : Hid (Pt w w3 g d 0) := hid ⟨h3.out.2.1 _ HB2.out.size, HB2.out.trans (h3.out.2.2.to_below (fun _ h => h.elim) HB2.out.size), fun j hj => absurd hj (by omega)⟩
    clear h3 HB2
    go_wp2_with fail
    go_loopw [4] (fun s wr => ∃ i : Nat, i ≤ N ∧ s = .int .i64 (i : Int) ∧ Hid (Pt w wr g d i)) (fun s _ => N - (intOf s).toNat)
    case atStart => exact ⟨0, by omega, rfl, HP⟩
    case round =>
      obtain ⟨i, hi, rfl, HI⟩ := hrel
      clear HP
      by_cases hp : i < N
      · have HDr := hid (HD.out.below HI.out.bel)
        obtain ⟨b, off, hA, hk0, hk1, hk2, hk3⟩ := HD.out.cells i hp
        have HC := hid (And.intro hk0 (And.intro hk1 (And.intro hk2 hk3)))
        have HCW : Hid (∀ W, Below w.heap.size w W → W.cell? ⟨b, off + i * 4, none⟩ = some (.int .i64 (d i).what) ∧ W.cell? ⟨b, off + i * 4 + 1, none⟩ = some (.int .i64 (d i).width) ∧
            W.cell? ⟨b, off + i * 4 + 2, none⟩ = some (.slice (d i).oa (d i).ys.length (d i).oc) ∧ W.cell? ⟨b, off + i * 4 + 3, none⟩ = some (.slice (d i).na (d i).zs.length (d i).nc)) := hid fun W o =>
          ⟨by rw [o.cell (cell_lt HC.out.1), HC.out.1], by rw [o.cell (cell_lt HC.out.2.1), HC.out.2.1], by rw [o.cell (cell_lt HC.out.2.2.1), HC.out.2.2.1], by rw [o.cell (cell_lt HC.out.2.2.2), HC.out.2.2.2]⟩
        obtain ⟨k0, k1, k2, k3⟩ := HCW.out wr HI.out.bel
        have HOk := hid (And.intro (HD.out.okO hp (w' := wr)) (HD.out.okN hp (w' := wr)))
        subst hA
        clear hk0 hk1 hk2 hk3 HC
        have HOne := hid (HDr.out.one HF.out hp)
        have HPut := hid (lput_any (d := d i) HI.out.wr HI.out.bel.size HOne.out HOk.out.1 HOk.out.2)
        unfold deedArr at HPut
        have hcs := putD_cases (XS d i) (d i)
        have HLenW := hid (wlen_any HI.out.wr (by decide))
        rcases hcs with ⟨e, he, hpe⟩ | ⟨hpe, hok⟩
        · rw [hpe] at HPut
          have he0 : e ≠ 0 := by omega
          have he1 : e ≠ 1 := by omega
          have hne : (e != 0) = true := bne_iff_ne.2 he0
          have HE0 := hid he0
          have HE1 := hid he1
          have Hput2 : Hid (putB (e, XS d i) [true] = (e, XS d i)) := hid (by simp [putB, putAll, he0])
          clear he hpe he0 he1
          go_wp2_with fail
          refine HLenW.out.mono ?_
          rintro e' w4 ⟨rfl, rfl⟩
          go_wp2_with fail
          refine HPut.out.mono ?_
          rintro e' w5 ⟨rfl, h5⟩
          have HE : Hid (IsWr w.heap.size w5 g e (XS d i) ∧ Below w.heap.size w w5) := hid ⟨h5.out.1, HI.out.bel.trans (h5.out.2.below HI.out.bel.size)⟩
          clear h5 HPut HI k0 k1 k2 k3
          go_wp2_with fail
          refine (wvec_bad HE.out.1 HE0.out).mono ?_
          rintro e' w6 ⟨rfl, rfl⟩
          go_wp2_with fail
          have ho : Only (fun _ => False) w5 (w5.alloc (Obj.cells #[.bool true] 4)) := (Only.refl _ w5).alloc _
          refine (put_any (ys := [true]) (cap := 1) (HE.out.1.same ho) (Nat.le_trans HE.out.2.size ho.size) (rdB_one w5 _ true) (fun _ => argOne w5 _ _ (by unfold TW; decide)) (by simp)).mono ?_
          rw [Hput2.out]
          rintro e' w6 ⟨rfl, h6⟩
          have HE6 : Hid (IsWr w.heap.size w6 g e (XS d i) ∧ Below w.heap.size w w6) := hid ⟨h6.out.1, (HE.out.2.trans (ho.to_below (fun _ h => h.elim) HE.out.2.size)).trans (h6.out.2.below (Nat.le_trans HE.out.2.size ho.size))⟩
          clear h6 ho HE
          go_wp2_with fail
          refine (wlen_any HE6.out.1 HE1.out).mono ?_
          rintro e' w7 ⟨rfl, rfl⟩
          go_wp2_with fail
          go_ret
          exact ⟨rfl, hid HE6.out.2⟩
        · rw [hpe] at HPut
          have HOkd := hid hok
          clear hpe hok
          go_wp2_with fail
          refine HLenW.out.mono ?_
          rintro e' w4 ⟨rfl, rfl⟩
          go_wp2_with fail
          refine HPut.out.mono ?_
          rintro e' w5 ⟨rfl, h5⟩
          have HP2 : Hid (Pt w w5 g d (i + 1)) := hid ⟨by rw [XS_step]; exact h5.out.1, HI.out.bel.trans (h5.out.2.below HI.out.bel.size), fun j hj => by
            by_cases e : j = i
            · subst e; exact HOkd.out
            · exact HI.out.ok j (by omega)⟩
          have HPk : Hid (∀ W : World, Calls Try.prog 11 #[.int .i64 (d i).what, .int .i64 3] W fun e w' => e = .returned (.int .i64 ((d i).what % 3)) ∧ W = w') := hid fun W => pickM (d i).what 3 W (by omega) (by omega) HOne.out.what.1 HOne.out.what.2
          have HLen0 := hid (wlen_any HP2.out.wr (by decide))
          have hXl : ((XS d (i + 1)).length : Int) = ((XS d i).length : Int) + ((bitsD (d i)).length : Int) := by rw [XS_step, List.length_append]; omega
          rw [hXl] at HLen0
          clear hXl h5 HPut HI k0 k1 k2 k3 HDr HLenW
          obtain ⟨k0, k1, k2, k3⟩ := HCW.out w5 HP2.out.bel
          have hm := Int.emod_nonneg (d i).what (show (3 : Int) ≠ 0 by omega)
          have hm2 := Int.emod_lt_of_pos (d i).what (show (0 : Int) < 3 by omega)
          have hbd : bitsD (d i) = if (d i).what % 3 = 0 then (d i).ys else if (d i).what % 3 = 1 then numB (d i).width.toNat (d i).zs else gamB (d i).zs := rfl
          have hkd : okDd (d i) = if (d i).what % 3 = 0 then true else if (d i).what % 3 = 1 then okN (d i).width (d i).zs else okG (d i).zs := rfl
          have hLz : (d i).zs.length ≤ 3000000 := HOne.out.nl
          have hLy : (d i).ys.length ≤ 3000000 := HOne.out.ol
          have hpx : (XS d i).length ≤ 16777216 := by
            obtain ⟨v, hv⟩ := HP2.out.wr
            have := hv.small
            rw [XS_step, List.length_append] at this; omega
          generalize (d i).what % 3 = m at HPk hm hm2 hbd hkd
          have hc : m = 0 ∨ m = 1 ∨ m = 2 := by omega
          rw [hkd] at HOkd
          rw [hbd] at HLen0
          have Hbd := hid hbd
          clear hm hm2 hbd hkd
          rcases hc with rfl | rfl | rfl
          · have HLen : Hid (Calls Try.prog 18 #[.pointer (some ⟨g, 0, none⟩)] w5 fun e' w' => e' = .returned (.int .i64 (((XS d i).length : Int) + ((d i).ys.length : Int))) ∧ w5 = w') := hid (by have h := HLen0.out; rwa [if_pos rfl] at h)
            clear HLen0 HOkd
            generalize (XS d i).length = p at HLen hpx ⊢
            generalize (d i).ys.length = my at HLen k2 hLy
            generalize (d i).zs.length = mz at k3 hLz
            go_wp2_with fail
            go_loop [9, 10] (fun s t => s = .int .i64 0 ∧ t = .int .i64 0) (fun _ _ => 0)
            case atStart => exact ⟨rfl, rfl⟩
            case round =>
              obtain ⟨rfl, rfl⟩ := hrel
              by_cases hz : mz = 0
              · subst hz
                go_wp2_with fail
                refine (HPk.out _).mono ?_
                rintro e' w6 ⟨rfl, rfl⟩
                go_wp2_with fail
                refine (HPk.out _).mono ?_
                rintro e' w6 ⟨rfl, rfl⟩
                go_wp2_with fail
                refine HLen.out.mono ?_
                rintro e' w6 ⟨rfl, rfl⟩
                go_wp2_with fail
                go_roundw
                case rel => exact ⟨i + 1, by omega, by go_num, HP2⟩
                case measure => simp [intOf]; omega
              · have hzp : 0 < mz := by omega
                go_wp2_with fail
                refine (HPk.out _).mono ?_
                rintro e' w6 ⟨rfl, rfl⟩
                go_wp2_with fail
                refine (HPk.out _).mono ?_
                rintro e' w6 ⟨rfl, rfl⟩
                go_wp2_with fail
                refine (HPk.out _).mono ?_
                rintro e' w6 ⟨rfl, rfl⟩
                go_wp2_with fail
                refine HLen.out.mono ?_
                rintro e' w6 ⟨rfl, rfl⟩
                go_wp2_with fail
                go_roundw
                case rel => exact ⟨i + 1, by omega, by go_num, HP2⟩
                case measure => simp [intOf]; omega
          · have HLen : Hid (∀ q, Calls Try.prog 18 #[.pointer (some ⟨g, 0, none⟩)] (w5.drewN q) fun e' w' => e' = .returned (.int .i64 (((XS d i).length : Int) + (d i).width * ((d i).zs.length : Int))) ∧ w5.drewN q = w') := hid (fun q => by
              have h := wlen_any (HP2.out.wr.same (quiet_only (w := w5.drewN q) ⟨_, rfl⟩)) (by decide)
              have hXl : ((XS d (i + 1)).length : Int) = ((XS d i).length : Int) + ((bitsD (d i)).length : Int) := by rw [XS_step, List.length_append]; omega
              rw [hXl, Hbd.out] at h
              have hw := (okN_all (by have h := HOkd.out; rwa [if_neg (by decide), if_pos rfl] at h)).1
              rw [if_neg (by decide), if_pos rfl, numB_len] at h
              have e : (((d i).width.toNat * (d i).zs.length : Nat) : Int) = (d i).width * ((d i).zs.length : Int) := by rw [Int.natCast_mul, Int.toNat_of_nonneg hw.1]
              rwa [e] at h)
            have hw := (okN_all (by have h := HOkd.out; rwa [if_neg (by decide), if_pos rfl] at h)).1
            have hprod : 0 ≤ (d i).width * ((d i).zs.length : Int) ∧ (d i).width * ((d i).zs.length : Int) ≤ 180000000 := ⟨Int.mul_nonneg hw.1 (by omega), Int.le_trans (Int.mul_le_mul hw.2 (show ((d i).zs.length : Int) ≤ 3000000 by omega) (by omega) (by omega)) (by omega)⟩
            clear HLen0 HOkd
            generalize (XS d i).length = p at HLen hpx ⊢
            generalize (d i).ys.length = my at k2 hLy
            generalize (d i).zs.length = mz at HLen k3 hLz hprod
            generalize (d i).width = wd at HLen k1 hw hprod
            obtain ⟨pr, hpr⟩ : ∃ pr, pr = wd * (mz : Int) := ⟨_, rfl⟩
            rw [← hpr] at HLen hprod
            have hpr1 : wd * (mz : Int) = pr := hpr.symm
            have hpw : IntKind.i64.wrap pr = pr := by rw [IntKind.wrap_i64]; omega
            clear hpr hw
            go_wp2_with fail
            go_loop [9, 10] (fun s t => s = .int .i64 0 ∧ t = .int .i64 0) (fun _ _ => 0)
            case atStart => exact ⟨rfl, rfl⟩
            case round =>
              obtain ⟨rfl, rfl⟩ := hrel
              by_cases hz : mz = 0
              · subst hz
                go_wp2_with fail
                refine (HPk.out _).mono ?_
                rintro e' w6 ⟨rfl, rfl⟩
                go_wp2_with fail
                go_quiet (fail)
                go_wp2_with fail
                refine (HPk.out _).mono ?_
                rintro e' w6 ⟨rfl, rfl⟩
                go_wp2_with fail
                refine (HLen.out _).mono ?_
                rintro e' w6 ⟨rfl, rfl⟩
                go_wp2_with fail
                go_roundw
                case rel => exact ⟨i + 1, by omega, by go_num, hid (HP2.out.below ((quiet_only ⟨_, rfl⟩).to_below (fun _ h => h.elim) (Nat.le_refl _)))⟩
                case measure => simp [intOf]; omega
              · have hzp : 0 < mz := by omega
                go_wp2_with fail
                refine (HPk.out _).mono ?_
                rintro e' w6 ⟨rfl, rfl⟩
                go_wp2_with fail
                refine (HPk.out _).mono ?_
                rintro e' w6 ⟨rfl, rfl⟩
                go_wp2_with fail
                go_quiet (fail)
                go_wp2_with fail
                refine (HPk.out _).mono ?_
                rintro e' w6 ⟨rfl, rfl⟩
                go_wp2_with fail
                refine (HLen.out _).mono ?_
                rintro e' w6 ⟨rfl, rfl⟩
                go_wp2_with fail
                go_roundw
                case rel => exact ⟨i + 1, by omega, by go_num, hid (HP2.out.below ((quiet_only ⟨_, rfl⟩).to_below (fun _ h => h.elim) (Nat.le_refl _)))⟩
                case measure => simp [intOf]; omega
          · have hall := okG_all (by have h := HOkd.out; rwa [if_neg (by decide), if_neg (by decide)] at h)
            have HLen : Hid (∀ x : Int, x = glnS (d i).zs (d i).zs.length → Calls Try.prog 18 #[.pointer (some ⟨g, 0, none⟩)] w5 fun e' w' => e' = .returned (.int .i64 (((XS d i).length : Int) + x)) ∧ w5 = w') := hid (fun x hx => by
              have h := HLen0.out
              rw [if_neg (by decide), if_neg (by decide)] at h
              have h2 := glnS_gam (zs := (d i).zs) (fun z hz => by have := hall z hz; omega) (d i).zs.length (Nat.le_refl _)
              rw [List.take_length] at h2
              rw [hx, h2]
              exact h)
            have HAll := hid hall
            have HNum := hid ((HD.out.below HP2.out.bel).nums i hp)
            have HBd2 := hid (glnS_le (zs := (d i).zs) (fun z hz => by have := hall z hz; omega))
            clear HLen0 HOkd hall
            generalize (XS d i).length = p at HLen hpx ⊢
            generalize (d i).ys.length = my at k2 hLy
            generalize (d i).zs = zs at HLen k3 hLz HAll HNum HBd2
            obtain ⟨mz, hmz⟩ : ∃ mz, mz = zs.length := ⟨_, rfl⟩
            rw [← hmz] at HLen k3 hLz
            have Hmz := hid hmz
            clear hmz
            go_wp2_with fail
            go_loop [9, 10] (fun s t => ∃ k : Nat, ∃ x : Int, k ≤ mz ∧ s = .int .i64 x ∧ t = .int .i64 (k : Int) ∧ Hid (x = glnS zs k)) (fun _ t => mz - (intOf t).toNat)
            case atStart => exact ⟨0, 0, by omega, rfl, rfl, hid rfl⟩
            case round =>
              obtain ⟨k, x, hk, rfl, rfl, HX⟩ := hrel
              have hxb := HBd2.out k (by rw [← Hmz.out]; exact hk)
              rw [← HX.out] at hxb
              by_cases hp2 : k < mz
              · obtain ⟨b2, off2, hA2, dk, _⟩ := HNum.out.at (k := k) (by rw [← Hmz.out]; exact hp2)
                rw [hA2] at k3
                clear hA2
                unfold vI at dk
                have hz := HAll.out _ (getD_mem (zs := zs) (k := k) (by rw [← Hmz.out]; exact hp2))
                have HSt := hid (glnS_step (zs := zs) (k := k) (by rw [← Hmz.out]; exact hp2))
                generalize zs.getD k 0 = z at dk hz HSt
                obtain ⟨zn, rfl⟩ := Int.eq_ofNat_of_zero_le (a := z) (by omega)
                rw [Int.toNat_natCast] at HSt
                have hnd := nd_le zn (by omega)
                have HX2 : Hid (∀ c : Nat, c = nd zn → x + 2 * (c : Int) - 1 = glnS zs (k + 1)) := hid fun c hc => by rw [HSt.out, ← HX.out, hc]; omega
                clear HX HSt
                go_wp2_with fail
                refine (HPk.out _).mono ?_
                rintro e' w6 ⟨rfl, rfl⟩
                go_wp2_with fail
                go_loop [11, 12] (fun s t => ∃ c y : Nat, s = .int .i64 (c : Int) ∧ t = .int .i64 (y : Int) ∧ y < 1152921504606846976 ∧ c ≤ 64 ∧ Hid (c + nd y = nd zn)) (fun _ t => (intOf t).toNat)
                case atStart => exact ⟨0, zn, rfl, rfl, by omega, by omega, hid (Nat.zero_add _)⟩
                case round =>
                  obtain ⟨c, y, rfl, rfl, hy, hc, HC2⟩ := hrel
                  by_cases hy0 : 0 < y
                  · have hh := nd_half hy0 (by omega)
                    have HC3 : Hid (c + 1 + nd (y / 2) = nd zn) := hid (by rw [← HC2.out, hh]; omega)
                    have hc1 : c + 1 ≤ 64 := by have := HC3.out; omega
                    clear HC2 hh
                    go_wp2_with fail
                    go_round
                    case rel => exact ⟨c + 1, y / 2, by go_num, by go_num, by omega, hc1, HC3⟩
                    case measure => simp [intOf]; omega
                  · obtain rfl : y = 0 := by omega
                    have HN2 := hid (HX2.out c (by have := HC2.out; rw [nd_zero] at this; omega))
                    clear HC2 HX2
                    go_wp2_with fail
                    go_round
                    case rel => exact ⟨k + 1, x + 2 * (c : Int) - 1, by omega, by go_num, by go_num, HN2⟩
                    case measure => simp [intOf]; omega
              · obtain rfl : k = mz := by omega
                have HL2 := hid (HLen.out x (by rw [HX.out, Hmz.out]))
                clear HX
                go_wp2_with fail
                refine (HPk.out _).mono ?_
                rintro e' w6 ⟨rfl, rfl⟩
                go_wp2_with fail
                refine (HPk.out _).mono ?_
                rintro e' w6 ⟨rfl, rfl⟩
                go_wp2_with fail
                refine HL2.out.mono ?_
                rintro e' w6 ⟨rfl, rfl⟩
                go_wp2_with fail
                go_roundw
                case rel => exact ⟨i + 1, by omega, by go_num, HP2⟩
                case measure => simp [intOf]; omega
      · obtain rfl : i = N := by omega
        have HOkAll := hid HI.out.ok
        have HXH := hid (XS_has d i)
        obtain ⟨X, hX⟩ : ∃ X, X = XS d i := ⟨_, rfl⟩
        have HWr : Hid (IsWr w.heap.size wr g 0 X ∧ Below w.heap.size w wr) := hid ⟨by rw [hX]; exact HI.out.wr, HI.out.bel⟩
        have HXe := hid hX
        rw [← hX] at HXH
        clear HI hX hp
        go_wp2_with fail
        refine (wvec_ok HWr.out.1).mono ?_
        rintro e' w4 ⟨g1, gs1, gw1, rfl, hv, hg, hgs, hgw, hb⟩
        have HV4 : Hid (VecB w.heap.size w4 g1 gs1 gw1 X.length (bf X) ∧ IsWr w.heap.size w4 g 0 X ∧ Below w.heap.size w w4) := hid ⟨⟨hv, by have := HWr.out.2.size; omega⟩, HWr.out.1.below hb, HWr.out.2.trans (hb.mono HWr.out.2.size)⟩
        clear hv hg hgs hgw hb HWr
        go_wp2_with fail
        refine (newReader_ok (a := 0) HV4.out.1 HV4.out.2.2.size (by omega)).mono ?_
        rintro e' w5 ⟨r, gb, rfl, h5⟩
        have HR0 : Hid (IsRd w.heap.size w5 r gb 0 (bf X) X.length (XS d 0).length ∧ IsWr w.heap.size w5 g 0 X ∧ Below w.heap.size w w5) := hid ⟨h5.out.1, HV4.out.2.1.ty h5.out.2.2.1 (by unfold TV; decide) (by unfold TV; decide), HV4.out.2.2.trans (h5.out.2.2.1.below HV4.out.2.2.size)⟩
        clear h5 HV4
        obtain ⟨n, hn⟩ : ∃ n, n = X.length := ⟨_, rfl⟩
        rw [← hn] at HR0 HXH
        have Hn := hid hn
        clear hn
        go_wp2_with fail
        go_loopw [17] (fun s wr => ∃ k : Nat, k ≤ i ∧ s = .int .i64 (k : Int) ∧ Hid (IsRd w.heap.size wr r gb 0 (bf X) n (XS d k).length ∧ IsWr w.heap.size wr g 0 X ∧ Below w.heap.size w wr)) (fun s _ => i - (intOf s).toNat)
        case atStart => exact ⟨0, by omega, rfl, HR0⟩
        case round =>
          obtain ⟨k, hk, rfl, HK⟩ := hrel
          clear HR0
          by_cases hp : k < i
          · obtain ⟨b, off, hA, hk0, hk1, hk2, hk3⟩ := (HD.out.below HK.out.2.2).cells k hp
            have HOne := hid ((HD.out.below HK.out.2.2).one HF.out hp)
            have HBk := hid (back_any HK.out.1 HOne.out (HD.out.oldO hp) (HD.out.oldN hp) (HOkAll.out k hp) (HXH.out k hp).1 (HXH.out k hp).2)
            subst hA
            unfold deedArr at HBk
            go_wp2_with fail
            refine HBk.out.mono ?_
            rintro e' w6 ⟨rfl, h6⟩
            have HK2 : Hid (IsRd w.heap.size w6 r gb 0 (bf X) n (XS d (k + 1)).length ∧ IsWr w.heap.size w6 g 0 X ∧ Below w.heap.size w w6) := hid ⟨by rw [XS_step, List.length_append]; exact h6.out.1, HK.out.2.1.ty h6.out.2 (by unfold TR; decide) (by unfold TR; decide), HK.out.2.2.trans (h6.out.2.below HK.out.2.2.size)⟩
            clear h6 HK HBk hk0 hk1 hk2 hk3
            go_wp2_with fail
            go_roundw
            case rel => exact ⟨k + 1, by omega, by go_num, HK2⟩
            case measure => simp [intOf]; omega
          · obtain rfl : k = i := by omega
            have HE : Hid (IsRd w.heap.size wr r gb 0 (bf X) n n ∧ IsWr w.heap.size wr g 0 X ∧ Below w.heap.size w wr) := hid (by
              have h := HK.out
              rwa [← HXe.out, ← Hn.out] at h)
            have HLn := hid (fun W (hw : IsWr w.heap.size W g 0 X) => by have h := wlen_any hw (by decide); rwa [← Hn.out] at h)
            clear HK
            go_wp2_with fail
            refine (rerr_any HE.out.1).mono ?_
            rintro e' w6 ⟨rfl, rfl⟩
            go_wp2_with fail
            refine (rat_any HE.out.1 (by decide)).mono ?_
            rintro e' w6 ⟨rfl, rfl⟩
            go_wp2_with fail
            refine (HLn.out _ HE.out.2.1).mono ?_
            rintro e' w6 ⟨rfl, rfl⟩
            go_wp2_with fail
            refine (rnext_any HE.out.1).mono ?_
            rw [numR_end]
            rintro e' w6 ⟨rfl, h6⟩
            have HE6 : Hid (IsRd w.heap.size w6 r gb 4 (bf X) n n ∧ IsWr w.heap.size w6 g 0 X ∧ Below w.heap.size w w6) := hid ⟨h6.out.1, HE.out.2.1.ty h6.out.2 (by unfold TR; decide) (by unfold TR; decide), HE.out.2.2.trans (h6.out.2.below HE.out.2.2.size)⟩
            clear h6 HE
            go_wp2_with fail
            refine (rerr_any HE6.out.1).mono ?_
            rintro e' w7 ⟨rfl, rfl⟩
            go_wp2_with fail
            refine (rat_any HE6.out.1 (by decide)).mono ?_
            rintro e' w7 ⟨rfl, rfl⟩
            go_wp2_with fail
            refine (HLn.out _ HE6.out.2.1).mono ?_
            rintro e' w7 ⟨rfl, rfl⟩
            go_wp2_with fail
            go_ret
            exact ⟨rfl, hid HE6.out.2.2⟩
end Go.Proofs.Ytemklcnpmolclaa
