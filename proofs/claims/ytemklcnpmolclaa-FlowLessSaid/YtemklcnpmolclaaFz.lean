/- FlowLess, walked. -/
import Derived.Test.YtemklcnpmolclaaFp
import Derived.Test.YtemklcnpmolclaaFm
namespace Go.Proofs.Ytemklcnpmolclaa
open Go.RowKit

theorem boolInfoF : (Try.prog.info? 4).map (fun i => (i.zero, i.size, i.bytes)) = some (some (.bool false), 1, 1) := by kernel_rfl
def TBo (t : TypeId) : Prop := t = 4
def oneD (what wd n : Int) (b : Nat) : Dd := ⟨what, wd, none, 0, [], some ⟨b, 0, none⟩, 1, [n]⟩
def oneS (what wd n : Int) : WSt := if what % 3 = 0 then putB (0, []) [] else if what % 3 = 1 then putN (0, []) wd [n] else putG (0, []) [n]
/-- What made answers: the bits, in memory of its own; or the error. -/
def MadeE (w : World) (s : WSt) (e' : Ending) (w' : World) : Prop :=
  (s.1 ≠ 0 ∧ e' = .returned (.tuple #[.slice none 0 0, .int .i64 s.1]) ∧ Hid (Below w.heap.size w w')) ∨
  (s.1 = 0 ∧ ∃ A cap, e' = .returned (.tuple #[.slice A s.2.length cap, .int .i64 0]) ∧ Hid (RdB w' A s.2 ∧ Below w.heap.size w w'))
theorem own_rd {w : World} {B : Nat} {v : Value} {k : Nat} {V : Nat → Value} {t : TypeId} (h : w.ownsRow B t 1 v k (valsL V k)) : ∃ A cap, v = .slice A k cap ∧ RdV w A k V := by
  by_cases h0 : k = 0
  · subst h0
    rcases h.2 with ⟨hv, _⟩ | ⟨gr, cap, cur, hv, _⟩
    · exact ⟨none, 0, hv, RdV.nil _⟩
    · exact ⟨_, cap, hv, RdV.nil _⟩
  · obtain ⟨gr, cap, F, hv, hge, hF, hFV, hle, hcm⟩ := own_at h (by omega)
    exact ⟨_, cap, hv, ((RdV.of_row hF).take hle).congr hFV⟩
set_option maxHeartbeats 2000000 in
theorem made_core (what wd n : Int) (w : World) (hw : I64 what) (hwd : I64 wd) (hn : I64 n) (se : Int) (sx : List Bool) (hse : Hid (oneS what wd n = (se, sx))) :
    Calls Try.prog 38 #[.int .i64 what, .int .i64 wd, .int .i64 n] w (MadeE w (se, sx)) := by
  obtain ⟨i0, hi0, hz0, hz1, hz2⟩ := info_parts boolInfoF
  have HI0 := hid (And.intro hi0 (And.intro hz0 (And.intro hz1 hz2)))
  clear hi0 hz0 hz1 hz2
  go_enter Try.func38, Try.ntmps38
  go_wp2_with fail
  refine (newWriter_any w).mono ?_
  rintro e' w1 ⟨g, rfl, h1⟩
  have HW1 : Hid (IsWr w.heap.size w1 g 0 [] ∧ Below w.heap.size w w1) := hid ⟨h1.out.2.1 _ (Nat.le_refl _), h1.out.2.2.to_below (fun _ h => h.elim) (Nat.le_refl _)⟩
  clear h1
  go_wp2_with fail
  have ho1 : Only (fun _ => False) w1 (w1.alloc (Obj.cells #[.int .i64 n] 3)) := (Only.refl _ w1).alloc _
  have HP := hid (lput_any (d := oneD what wd n w1.heap.size) (HW1.out.1.same ho1) (Nat.le_trans HW1.out.2.size ho1.size) ⟨hw, hwd, RdV.nil _, rdI_one w1 _ n, fun z hz => by simp [oneD] at hz; subst hz; exact hn, by simp [oneD], by simp [oneD]⟩ (fun b off e _ => by cases e) (argOne w1 _ _ (by unfold TW; decide)))
  have hput : putD (0, []) (oneD what wd n w1.heap.size) = oneS what wd n := rfl
  rw [hput, hse.out] at HP
  clear hput
  refine HP.out.mono ?_
  rintro e' w2 ⟨rfl, h2⟩
  have HW2 : Hid (IsWr w.heap.size w2 g se sx ∧ Below w.heap.size w w2) := hid ⟨h2.out.1, (HW1.out.2.trans (ho1.to_below (fun _ h => h.elim) HW1.out.2.size)).trans (h2.out.2.below (Nat.le_trans HW1.out.2.size ho1.size))⟩
  clear h2 HW1 ho1 HP
  by_cases he : se = 0
  · subst he
    go_wp2_with fail
    refine (wvec_ok HW2.out.1).mono ?_
    rintro e' w4 ⟨g1, gs1, gw1, rfl, hv, hg, hgs, hgw, hb⟩
    have HV4 : Hid (V1.IsVec w4 g1 gs1 gw1 sx.length (bf sx) ∧ Below w.heap.size w w4) := hid ⟨hv, HW2.out.2.trans (hb.mono HW2.out.2.size)⟩
    have hs := hv.small
    clear hv hg hgs hgw hb HW2
    go_wp2_with fail
    have HK : Hid (w4.ownsRow w.heap.size 4 1 (.slice none 0 0) 0 (valsL (vB sx) 0) ∧ FrT TBo w.heap.size w4 w4) := hid ⟨⟨rfl, .inl ⟨rfl, rfl⟩⟩, FrT.refl _ _ _⟩
    go_loopw [12, 13] (fun v i wr => ∃ k : Nat, k ≤ sx.length ∧ i = .int .i64 (k : Int) ∧ Hid (wr.ownsRow w.heap.size 4 1 v k (valsL (vB sx) k) ∧ FrT TBo w.heap.size w4 wr)) (fun _ i _ => sx.length - (intOf i).toNat)
    case atStart => exact ⟨0, by omega, rfl, HK⟩
    case round =>
      obtain ⟨k, hk, rfl, HI⟩ := hrel
      clear HK
      have HVr : Hid (V1.IsVec wr g1 gs1 gw1 sx.length (bf sx)) := hid (vecTy HV4.out.1 HI.out.2 (by unfold TBo; decide) (by unfold TBo; decide) (by unfold TBo; decide))
      obtain ⟨N, hN⟩ : ∃ N, N = sx.length := ⟨_, rfl⟩
      rw [← hN] at HVr hk hs ⊢
      have HN := hid hN
      clear hN
      by_cases hp : k < N
      · have HG := hid (V1.get_any HVr.out (k : Int))
        have hB2 : w.heap.size ≤ wr.heap.size := Nat.le_trans HV4.out.2.size HI.out.2.size
        have HB2 := hid hB2
        clear hB2
        have Hb : Hid (V1.at_ (bf sx) (k : Int) = sx.getD k false) := hid (by simp [V1.at_, bf])
        rw [Hb.out] at HG
        obtain ⟨b, hb⟩ : ∃ b, b = sx.getD k false := ⟨_, rfl⟩
        rw [← hb] at HG
        have Hbb := hid hb
        have Hown := hid HI.out.1
        clear hb Hb
        go_wp2_with (first | (go_at_call 25; refine (V1.len_any HVr.out).mono ?_; rintro e' w5 ⟨rfl, rfl⟩) | (go_at_call 72; refine HG.out.mono ?_; rintro e' w5 ⟨rfl, rfl⟩) | (at_builtin; go_loud (refine wpList_append_own_at _ rfl (.tmp 40) (.tmp 44) _ rfl w.heap.size 4 i0 (.bool false) 1 1 Try.underlying28 HI0.out.1 HI0.out.2.1 HI0.out.2.2.1 HI0.out.2.2.2 rfl (by omega) _ k _ rfl (Hown.out.alloc _) ⟨wr.heap.size, 0, none⟩ 1 1 [.bool b] rfl rfl (cell_one_new _ _ _) (by intro u hu; simp at hu; subst hu; rfl) (by unfold maxLen; omega) (by omega) (by simp; exact Nat.le_succ_of_le HB2.out) ?_; intro v' w6 hown2 hg2 _ _)))
        have HN2 : Hid (w6.ownsRow w.heap.size 4 1 v' (k + 1) (valsL (vB sx) (k + 1)) ∧ FrT TBo w.heap.size w4 w6) := hid (by
          have ev : valsL (vB sx) (k + 1) = valsL (vB sx) k ++ [.bool b] := by
            unfold valsL
            rw [List.range_succ, List.map_append]
            simp only [List.map_cons, List.map_nil, vB, Hbb.out]
          refine ⟨by rw [ev]; exact hown2, (HI.out.2.alloc _).grown hg2 fun j hj => ?_⟩
          have h3 := own_block (Hown.out.alloc (.cells #[.bool b] 4)) hj
          exact ⟨h3.1, h3.2.2 _ rfl⟩)
        clear hown2 hg2 HI Hown HG HVr
        go_roundw
        case rel => exact ⟨k + 1, by omega, by go_num, HN2⟩
        case measure => simp [intOf]; omega
      · obtain rfl : k = N := by omega
        obtain ⟨A, cap, rfl, hr⟩ := own_rd HI.out.1
        have HF : Hid (RdB wr A sx ∧ Below w.heap.size w wr) := hid ⟨by unfold RdB; rw [← HN.out]; exact hr, HV4.out.2.trans (HI.out.2.below HV4.out.2.size)⟩
        clear hr HI
        go_wp2_with (go_at_call 25; refine (V1.len_any HVr.out).mono ?_; rintro e' w5 ⟨rfl, rfl⟩)
        go_ret2
        exact .inr ⟨rfl, A, cap, by rw [← HN.out]; rfl, HF⟩
  · have he2 : (se != 0) = true := bne_iff_ne.2 he
    go_wp2_with fail
    refine (wvec_bad HW2.out.1 he).mono ?_
    rintro e' w4 ⟨rfl, rfl⟩
    go_wp2_with fail
    go_ret2
    exact .inl ⟨he, rfl, hid HW2.out.2⟩
theorem made_any (what wd n : Int) (w : World) (hw : I64 what) (hwd : I64 wd) (hn : I64 n) :
    Calls Try.prog 38 #[.int .i64 what, .int .i64 wd, .int .i64 n] w (MadeE w (oneS what wd n)) := made_core what wd n w hw hwd hn _ _ (hid rfl)
set_option maxHeartbeats 1000000 in
theorem less_any {A B : Option Addr} {c1 c2 : Nat} {xs ys : List Bool} {w : World} (hx : RdB w A xs) (hy : RdB w B ys) (hl : xs.length ≤ 16777216) (_hl2 : ys.length ≤ 16777216) :
    Calls Try.prog 39 #[.slice A xs.length c1, .slice B ys.length c2] w (Quiet1 (.bool (lessS xs ys)) w) := by
  have HX := hid hx
  have HY := hid hy
  clear hx hy
  obtain ⟨N, hN⟩ : ∃ N, N = xs.length := ⟨_, rfl⟩
  obtain ⟨M, hM⟩ : ∃ M, M = ys.length := ⟨_, rfl⟩
  rw [← hN] at hl ⊢
  rw [← hM]
  have HN := hid hN
  have HM := hid hM
  clear hN hM
  go_enter Try.func39, Try.ntmps39
  go_wp2_with fail
  go_loopw [5] (fun s wr => ∃ k : Nat, k ≤ N ∧ s = .int .i64 (k : Int) ∧ Hid (lessS xs ys = lessS (xs.drop k) (ys.drop k)) ∧ Hid (∃ d, wr = w.drewN d)) (fun s _ => N - (intOf s).toNat)
  case atStart => exact ⟨0, by omega, rfl, hid rfl, hid ⟨0, rfl⟩⟩
  case round =>
    obtain ⟨k, hk, rfl, HL, HD⟩ := hrel
    obtain ⟨d, rfl⟩ := HD.out
    clear HD
    by_cases hp : k < N ∧ k < M
    · obtain ⟨hp, hq⟩ := hp
      obtain ⟨b1, o1, h1, d1, _⟩ := HX.out.at (k := k) (by rw [← HN.out]; exact hp)
      obtain ⟨b2, o2, h2, d2, _⟩ := HY.out.at (k := k) (by rw [← HM.out]; exact hq)
      subst h1
      subst h2
      unfold vB at d1 d2
      have HS := hid (lessS_step (xs := xs) (ys := ys) (k := k) (by rw [← HN.out]; exact hp) (by rw [← HM.out]; exact hq))
      unfold bf at HS
      generalize xs.getD k false = x at d1 HS
      generalize ys.getD k false = y at d2 HS
      by_cases hxy : x = y
      · subst hxy
        have HL2 : Hid (lessS xs ys = lessS (xs.drop (k + 1)) (ys.drop (k + 1))) := hid (by rw [HL.out, HS.out, if_pos rfl])
        clear HL HS
        cases x
        all_goals
          go_wp2_with fail
          go_quiet (fail)
          go_wp2_with fail
          go_roundw
          case rel => exact ⟨k + 1, by omega, by go_num, HL2, hid ⟨_, rfl⟩⟩
          case measure => simp [intOf]; omega
      · have HL2 : Hid (y = lessS xs ys) := hid (by rw [HL.out, HS.out, if_neg hxy])
        have hcase : (x = true ∧ y = false) ∨ (x = false ∧ y = true) := by cases x <;> cases y <;> simp_all
        clear HL HS hxy
        rcases hcase with ⟨rfl, rfl⟩ | ⟨rfl, rfl⟩
        all_goals
          go_wp2_with fail
          go_quiet (fail)
          go_wp2_with fail
          go_ret
          exact ⟨ret_bool HL2.out, _, rfl⟩
    · have HL2 : Hid (false = lessS xs ys) := hid (by rw [HL.out]; exact (lessS_end (by have := HN.out; have := HM.out; omega)).symm)
      clear HL
      by_cases hp1 : k < N
      · have hq : M ≤ k := by omega
        go_wp2_with fail
        go_ret
        exact ⟨ret_bool HL2.out, d, rfl⟩
      · obtain rfl : k = N := by omega
        go_wp2_with fail
        go_ret
        exact ⟨ret_bool HL2.out, d, rfl⟩
end Go.Proofs.Ytemklcnpmolclaa
