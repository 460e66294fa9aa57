/- FlowLess, walked. -/
import Derived.Test.YtemklcnpmolclaaFz
namespace Go.Proofs.Ytemklcnpmolclaa
open Go.RowKit

theorem putAll_ok {ok : Bool} {ys : List Bool} (h : (putAll (0, []) ok ys).1 = 0) : ok = true ∧ putAll (0, []) ok ys = (0, ys) := by
  unfold putAll at h ⊢
  cases ok with
  | false => simp at h
  | true =>
    by_cases hl : 16777216 < ([] : List Bool).length + ys.length
    · simp at hl; simp [hl] at h
    · simp at hl
      have : ¬ 16777216 < ys.length := by omega
      simp [this]
def MadeX (w : World) (e' : Ending) (w' : World) : Prop := ∃ e : Int, e ≠ 0 ∧ e' = .returned (.tuple #[.slice none 0 0, .int .i64 e]) ∧ Hid (Below w.heap.size w w')
def MadeL (w : World) (xs : List Bool) (m : Nat) (e' : Ending) (w' : World) : Prop := ∃ A cap, e' = .returned (.tuple #[.slice A m cap, .int .i64 0]) ∧ Hid (RdV w' A m (vB xs) ∧ Below w.heap.size w w')
theorem madeN (wd a : Int) (w : World) (hwd : I64 wd) (ha : I64 a) :
    Calls Try.prog 38 #[.int .i64 1, .int .i64 wd, .int .i64 a] w fun e' w' => MadeX w e' w' ∨ ∃ m na : Nat, (na : Int) = a ∧ na < 2 ^ m ∧ m ≤ 60 ∧ (m : Int) = wd ∧ MadeL w (dgs m na) m e' w' := by
  refine (made_any 1 wd a w (by unfold I64; omega) hwd ha).mono ?_
  have e1 : oneS 1 wd a = putAll (0, []) (okN wd [a]) (numB wd.toNat [a]) := rfl
  rw [e1]
  rintro e' w' (⟨he, rfl, hb⟩ | ⟨he, A, cap, rfl, hb⟩)
  · exact .inl ⟨_, he, rfl, hb⟩
  · obtain ⟨h1, h2⟩ := putAll_ok he
    rw [h2] at hb ⊢
    have h3 := okN_all h1
    have h4 := h3.2 a (by simp)
    obtain ⟨m, rfl⟩ := Int.eq_ofNat_of_zero_le h3.1.1
    obtain ⟨na, rfl⟩ := Int.eq_ofNat_of_zero_le h4.1
    have e2 : numB (m : Int).toNat [(na : Int)] = dgs m na := by simp [numB]
    rw [e2] at hb ⊢
    have h5 := h4.2
    rw [Int.toNat_natCast, Int.toNat_natCast] at h5
    refine .inr ⟨m, na, rfl, h5, by omega, rfl, A, cap, ?_, hid ⟨?_, hb.out.2⟩⟩
    · show Ending.returned (.tuple #[.slice A (dgs m na).length cap, .int .i64 0]) = _
      rw [dgs_len]
    · have := hb.out.1
      unfold RdB at this
      rwa [dgs_len] at this
theorem madeG (a : Int) (w : World) (ha : I64 a) :
    Calls Try.prog 38 #[.int .i64 2, .int .i64 0, .int .i64 a] w fun e' w' => MadeX w e' w' ∨ ∃ na : Nat, (na : Int) = a ∧ 1 ≤ na ∧ na < 1152921504606846976 ∧ MadeL w (gma na) (gln na) e' w' := by
  refine (made_any 2 0 a w (by unfold I64; omega) (by unfold I64; omega) ha).mono ?_
  have e1 : oneS 2 0 a = putAll (0, []) (okG [a]) (gamB [a]) := rfl
  rw [e1]
  rintro e' w' (⟨he, rfl, hb⟩ | ⟨he, A, cap, rfl, hb⟩)
  · exact .inl ⟨_, he, rfl, hb⟩
  · obtain ⟨h1, h2⟩ := putAll_ok he
    rw [h2] at hb ⊢
    have h4 := okG_all h1 a (by simp)
    obtain ⟨na, rfl⟩ := Int.eq_ofNat_of_zero_le (a := a) (by omega)
    have e2 : gamB [(na : Int)] = gma na := by simp [gamB]
    rw [e2] at hb ⊢
    refine .inr ⟨na, rfl, by omega, by omega, A, cap, ?_, hid ⟨?_, hb.out.2⟩⟩
    · show Ending.returned (.tuple #[.slice A (gma na).length cap, .int .i64 0]) = _
      rw [gma_len]
    · have := hb.out.1
      unfold RdB at this
      rwa [gma_len] at this
theorem lessN {A B : Option Addr} {c1 c2 m a b : Nat} {w : World} (hx : RdV w A m (vB (dgs m a))) (hy : RdV w B m (vB (dgs m b))) (hm : m ≤ 60) (ha : a < 2 ^ m) (hb : b < 2 ^ m) :
    Calls Try.prog 39 #[.slice A m c1, .slice B m c2] w (Quiet1 (.bool (decide ((a : Int) < (b : Int)))) w) := by
  have h := less_any (c1 := c1) (c2 := c2) (xs := dgs m a) (ys := dgs m b) (A := A) (B := B) (w := w) (by unfold RdB; rw [dgs_len]; exact hx) (by unfold RdB; rw [dgs_len]; exact hy) (by rw [dgs_len]; omega) (by rw [dgs_len]; omega)
  rw [lessS_num _ _ (by rw [dgs_len, dgs_len]), num_all ha, num_all hb, dgs_len, dgs_len] at h
  have e : decide ((a : Int) < (b : Int)) = decide (a < b) := by simp
  rw [e]
  exact h
set_option maxRecDepth 100000 in
set_option maxHeartbeats 4000000 in
theorem flowLess_any (a b wd : Int) (w : World) (ha : I64 a) (hb : I64 b) (hwd : I64 wd) :
    Calls Try.prog 6 #[.int .i64 a, .int .i64 b, .int .i64 wd] w fun e' w' => e' = .returned (.bool true) ∧ Hid (Below w.heap.size w w') := by
  have HI := hid (And.intro ha (And.intro hb hwd))
  clear ha hb hwd
  go_enter Try.func6, Try.ntmps6
  go_wp2_with fail
  refine (awake_any w).mono ?_
  rintro e' w1 ⟨rfl, h1⟩
  go_wp2_with fail
  refine (madeN wd a w1 HI.out.2.2 HI.out.1).mono ?_
  rintro e' w2 hx
  have HX := hid hx
  clear hx
  have hcase : ∃ V E, e' = .returned (.tuple #[V, .int .i64 E]) ∧ Hid (Below w.heap.size w w2) := by
    rcases HX.out with ⟨e, he, rfl, hb⟩ | ⟨m, na, _, _, _, _, A, cap, rfl, hb⟩
    · exact ⟨_, _, rfl, hid (h1.out.trans (hb.out.mono h1.out.size))⟩
    · exact ⟨_, _, rfl, hid (h1.out.trans (hb.out.2.mono h1.out.size))⟩
  obtain ⟨V, E, rfl, HB2⟩ := hcase
  clear h1
  go_wp2_with fail
  refine (madeN wd b w2 HI.out.2.2 HI.out.2.1).mono ?_
  rintro e' w3 hy
  have HY := hid hy
  clear hy
  have hcase : ∃ V E, e' = .returned (.tuple #[V, .int .i64 E]) ∧ Hid (Below w.heap.size w w3 ∧ Below w2.heap.size w2 w3) := by
    rcases HY.out with ⟨e, he, rfl, hb⟩ | ⟨m, na, _, _, _, _, A, cap, rfl, hb⟩
    · exact ⟨_, _, rfl, hid ⟨HB2.out.trans (hb.out.mono HB2.out.size), hb.out⟩⟩
    · exact ⟨_, _, rfl, hid ⟨HB2.out.trans (hb.out.2.mono HB2.out.size), hb.out.2⟩⟩
  obtain ⟨V2, E2, rfl, HB3⟩ := hcase
  have hc : (E = 0 ∧ E2 = 0) ∨ (E = 0 ∧ E2 ≠ 0) ∨ E ≠ 0 := by omega
  rcases hc with ⟨rfl, rfl⟩ | ⟨rfl, hE2⟩ | hE
  · have hx : ∃ m na : Nat, ∃ A cap, (na : Int) = a ∧ na < 2 ^ m ∧ m ≤ 60 ∧ (m : Int) = wd ∧ V = .slice A m cap ∧ RdV w2 A m (vB (dgs m na)) := by
      rcases HX.out with ⟨e, he, h2, hb⟩ | ⟨m, na, h3, h4, h5, h6, A, cap, h2, hb⟩
      · simp at h2; exact absurd h2.2.symm he
      · simp at h2; exact ⟨m, na, A, cap, h3, h4, h5, h6, h2, hb.out.1⟩
    have hy : ∃ m na : Nat, ∃ A cap, (na : Int) = b ∧ na < 2 ^ m ∧ m ≤ 60 ∧ (m : Int) = wd ∧ V2 = .slice A m cap ∧ RdV w3 A m (vB (dgs m na)) := by
      rcases HY.out with ⟨e, he, h2, hb⟩ | ⟨m, na, h3, h4, h5, h6, A, cap, h2, hb⟩
      · simp at h2; exact absurd h2.2.symm he
      · simp at h2; exact ⟨m, na, A, cap, h3, h4, h5, h6, h2, hb.out.1⟩
    obtain ⟨m, na, A, cap, h1, h2, h3, h4, rfl, h6⟩ := hx
    obtain ⟨m2, nb, A2, cap2, g1, g2, g3, g4, rfl, g6⟩ := hy
    obtain rfl : m = m2 := by omega
    have HLs := hid (lessN (c1 := cap) (c2 := cap2) (h6.below HB3.out.2) g6 h3 h2 g2)
    rw [h1, g1] at HLs
    have HB3' := hid HB3.out.1
    clear h1 h2 h3 h4 h6 g1 g2 g3 g4 g6 HX HY HB3
    go_wp2_with fail
    refine HLs.out.mono ?_
    rintro e' w4 ⟨rfl, hq⟩
    have HB4 : Hid (Below w.heap.size w w4) := hid (HB3'.out.trans ((quiet_only hq).to_below (fun _ h => h.elim) HB3'.out.size))
    clear hq HB3' HLs HB2
    go_wp2_with fail
    refine (madeG a w4 HI.out.1).mono ?_
    rintro e' w5 hx
    have HX := hid hx
    clear hx
    have hcase : ∃ V E, e' = .returned (.tuple #[V, .int .i64 E]) ∧ Hid (Below w.heap.size w w5) := by
      rcases HX.out with ⟨e, he, rfl, hb⟩ | ⟨na, _, _, _, A, cap, rfl, hb⟩
      · exact ⟨_, _, rfl, hid (HB4.out.trans (hb.out.mono HB4.out.size))⟩
      · exact ⟨_, _, rfl, hid (HB4.out.trans (hb.out.2.mono HB4.out.size))⟩
    obtain ⟨V3, E3, rfl, HB5⟩ := hcase
    clear HB4
    go_wp2_with fail
    refine (madeG b w5 HI.out.2.1).mono ?_
    rintro e' w6 hy
    have HY := hid hy
    clear hy
    have hcase : ∃ V E, e' = .returned (.tuple #[V, .int .i64 E]) ∧ Hid (Below w.heap.size w w6 ∧ Below w5.heap.size w5 w6) := by
      rcases HY.out with ⟨e, he, rfl, hb⟩ | ⟨na, _, _, _, A, cap, rfl, hb⟩
      · exact ⟨_, _, rfl, hid ⟨HB5.out.trans (hb.out.mono HB5.out.size), hb.out⟩⟩
      · exact ⟨_, _, rfl, hid ⟨HB5.out.trans (hb.out.2.mono HB5.out.size), hb.out.2⟩⟩
    obtain ⟨V4, E4, rfl, HB6⟩ := hcase
    clear HB5
    have hc : E3 ≠ 0 ∨ (E3 = 0 ∧ E4 ≠ 0) ∨ (E3 = 0 ∧ E4 = 0) := by omega
    rcases hc with h3 | ⟨rfl, h4⟩ | ⟨rfl, rfl⟩
    · have hne3 : (E3 != 0) = true := bne_iff_ne.2 h3
      clear HX HY
      go_wp2_with fail
      go_ret
      exact ⟨rfl, hid HB6.out.1⟩
    · have hne4 : (E4 != 0) = true := bne_iff_ne.2 h4
      clear HX HY
      go_wp2_with fail
      go_ret
      exact ⟨rfl, hid HB6.out.1⟩
    · by_cases hab : a = b
      · have hab2 : (a == b) = true := beq_iff_eq.2 hab
        clear HX HY
        go_wp2_with fail
        go_ret
        exact ⟨rfl, hid HB6.out.1⟩
      · have hab2 : (a == b) = false := beq_eq_false_iff_ne.2 hab
        have hx : ∃ na : Nat, ∃ A cap, (na : Int) = a ∧ 1 ≤ na ∧ na < 1152921504606846976 ∧ V3 = .slice A (gln na) cap ∧ RdV w6 A (gln na) (vB (gma na)) := by
          rcases HX.out with ⟨e, he, h2, hb⟩ | ⟨na, h3, h4, h5, A, cap, h2, hb⟩
          · simp at h2; exact absurd h2.2.symm he
          · simp at h2; exact ⟨na, A, cap, h3, h4, h5, h2, hb.out.1.below HB6.out.2⟩
        have hy : ∃ na : Nat, ∃ A cap, (na : Int) = b ∧ 1 ≤ na ∧ na < 1152921504606846976 ∧ V4 = .slice A (gln na) cap ∧ RdV w6 A (gln na) (vB (gma na)) := by
          rcases HY.out with ⟨e, he, h2, hb⟩ | ⟨na, h3, h4, h5, A, cap, h2, hb⟩
          · simp at h2; exact absurd h2.2.symm he
          · simp at h2; exact ⟨na, A, cap, h3, h4, h5, h2, hb.out.1⟩
        obtain ⟨na, A, cap, h1, h2, h3, rfl, h6⟩ := hx
        obtain ⟨nb, A2, cap2, g1, g2, g3, rfl, g6⟩ := hy
        have HD : Hid (¬ ∀ i, i < gln na → i < gln nb → bf (gma na) i = bf (gma nb) i) := hid fun h => hab (by rw [← h1, ← g1]; exact congrArg _ (gma_differ (by omega) (by omega) (by omega) (by omega) h))
        have HRa := hid h6
        have HRb := hid g6
        have hL1 : gln na ≤ 200 := by have := nd_le na (by omega); unfold gln; omega
        have hL2 : gln nb ≤ 200 := by have := nd_le nb (by omega); unfold gln; omega
        clear h1 h2 h3 h6 g1 g2 g3 g6 HX HY hab
        generalize gln na = p at HD HRa hL1 ⊢
        generalize gln nb = q at HD HRb hL2 ⊢
        generalize gma na = xs at HD HRa
        generalize gma nb = ys at HD HRb
        obtain ⟨n, hn⟩ : ∃ n, n = min p q := ⟨_, rfl⟩
        have hmin : min (p : Int) (q : Int) = (n : Int) := by omega
        have hmin2 : ((min p q : Nat) : Int) = (n : Int) := by omega
        have hnp : n ≤ p := by omega
        have hnq : n ≤ q := by omega
        have Hn := hid hn
        clear hn
        go_wp2_with fail
        go_loopw [16] (fun s wr => ∃ k : Nat, k ≤ n ∧ s = .int .i64 (k : Int) ∧ Hid (∀ j, j < k → bf xs j = bf ys j) ∧ Hid (∃ d, wr = w6.drewN d)) (fun s _ => n - (intOf s).toNat)
        case atStart => exact ⟨0, by omega, rfl, hid fun j hj => absurd hj (by omega), hid ⟨0, rfl⟩⟩
        case round =>
          obtain ⟨k, hk, rfl, HJ, HDw⟩ := hrel
          obtain ⟨d, rfl⟩ := HDw.out
          clear HDw
          by_cases hp : k < n
          · obtain ⟨b1, o1, e1, d1, _⟩ := HRa.out.at (k := k) (by omega)
            obtain ⟨b2, o2, e2, d2, _⟩ := HRb.out.at (k := k) (by omega)
            subst e1
            subst e2
            unfold vB at d1 d2
            have HK : Hid (bf xs k = xs.getD k false ∧ bf ys k = ys.getD k false) := hid ⟨rfl, rfl⟩
            have hkp : k < p := by omega
            have hkq : k < q := by omega
            generalize xs.getD k false = x at d1 HK
            generalize ys.getD k false = y at d2 HK
            by_cases hxy : x = y
            · subst hxy
              have HJ2 : Hid (∀ j, j < k + 1 → bf xs j = bf ys j) := hid fun j hj => by
                by_cases e : j = k
                · subst e; rw [HK.out.1, HK.out.2]
                · exact HJ.out j (by omega)
              clear HJ HK
              cases x
              all_goals
                go_wp2_with fail
                go_quiet (fail)
                go_wp2_with fail
                go_roundw
                case rel => exact ⟨k + 1, by omega, by go_num, HJ2, hid ⟨_, rfl⟩⟩
                case measure => simp [intOf]; omega
            · have hcase : (x = true ∧ y = false) ∨ (x = false ∧ y = true) := by cases x <;> cases y <;> simp_all
              clear HJ HK hxy
              rcases hcase with ⟨rfl, rfl⟩ | ⟨rfl, rfl⟩
              all_goals
                go_wp2_with fail
                go_quiet (fail)
                go_wp2_with fail
                go_ret
                exact ⟨rfl, hid (below_drewN (below_drewN HB6.out.1 _) _)⟩
          · exact absurd (fun i hi1 hi2 => HJ.out i (by have := Hn.out; omega)) HD.out
  · have hne : (E2 == 0) = false := beq_eq_false_iff_ne.2 hE2
    obtain ⟨w4, hw4⟩ : ∃ w4, w4 = w3 := ⟨_, rfl⟩
    have HB4 : Hid (Below w.heap.size w w4) := hid (by rw [hw4]; exact HB3.out.1)
    rw [← hw4]
    clear hw4 HB3 HX HY HB2
    go_wp2_with fail
    refine (madeG a w4 HI.out.1).mono ?_
    rintro e' w5 hx
    have HX := hid hx
    clear hx
    have hcase : ∃ V E, e' = .returned (.tuple #[V, .int .i64 E]) ∧ Hid (Below w.heap.size w w5) := by
      rcases HX.out with ⟨e, he, rfl, hb⟩ | ⟨na, _, _, _, A, cap, rfl, hb⟩
      · exact ⟨_, _, rfl, hid (HB4.out.trans (hb.out.mono HB4.out.size))⟩
      · exact ⟨_, _, rfl, hid (HB4.out.trans (hb.out.2.mono HB4.out.size))⟩
    obtain ⟨V3, E3, rfl, HB5⟩ := hcase
    clear HB4
    go_wp2_with fail
    refine (madeG b w5 HI.out.2.1).mono ?_
    rintro e' w6 hy
    have HY := hid hy
    clear hy
    have hcase : ∃ V E, e' = .returned (.tuple #[V, .int .i64 E]) ∧ Hid (Below w.heap.size w w6 ∧ Below w5.heap.size w5 w6) := by
      rcases HY.out with ⟨e, he, rfl, hb⟩ | ⟨na, _, _, _, A, cap, rfl, hb⟩
      · exact ⟨_, _, rfl, hid ⟨HB5.out.trans (hb.out.mono HB5.out.size), hb.out⟩⟩
      · exact ⟨_, _, rfl, hid ⟨HB5.out.trans (hb.out.2.mono HB5.out.size), hb.out.2⟩⟩
    obtain ⟨V4, E4, rfl, HB6⟩ := hcase
    clear HB5
    have hc : E3 ≠ 0 ∨ (E3 = 0 ∧ E4 ≠ 0) ∨ (E3 = 0 ∧ E4 = 0) := by omega
    rcases hc with h3 | ⟨rfl, h4⟩ | ⟨rfl, rfl⟩
    · have hne3 : (E3 != 0) = true := bne_iff_ne.2 h3
      clear HX HY
      go_wp2_with fail
      go_ret
      exact ⟨rfl, hid HB6.out.1⟩
    · have hne4 : (E4 != 0) = true := bne_iff_ne.2 h4
      clear HX HY
      go_wp2_with fail
      go_ret
      exact ⟨rfl, hid HB6.out.1⟩
    · by_cases hab : a = b
      · have hab2 : (a == b) = true := beq_iff_eq.2 hab
        clear HX HY
        go_wp2_with fail
        go_ret
        exact ⟨rfl, hid HB6.out.1⟩
      · have hab2 : (a == b) = false := beq_eq_false_iff_ne.2 hab
        have hx : ∃ na : Nat, ∃ A cap, (na : Int) = a ∧ 1 ≤ na ∧ na < 1152921504606846976 ∧ V3 = .slice A (gln na) cap ∧ RdV w6 A (gln na) (vB (gma na)) := by
          rcases HX.out with ⟨e, he, h2, hb⟩ | ⟨na, h3, h4, h5, A, cap, h2, hb⟩
          · simp at h2; exact absurd h2.2.symm he
          · simp at h2; exact ⟨na, A, cap, h3, h4, h5, h2, hb.out.1.below HB6.out.2⟩
        have hy : ∃ na : Nat, ∃ A cap, (na : Int) = b ∧ 1 ≤ na ∧ na < 1152921504606846976 ∧ V4 = .slice A (gln na) cap ∧ RdV w6 A (gln na) (vB (gma na)) := by
          rcases HY.out with ⟨e, he, h2, hb⟩ | ⟨na, h3, h4, h5, A, cap, h2, hb⟩
          · simp at h2; exact absurd h2.2.symm he
          · simp at h2; exact ⟨na, A, cap, h3, h4, h5, h2, hb.out.1⟩
        obtain ⟨na, A, cap, h1, h2, h3, rfl, h6⟩ := hx
        obtain ⟨nb, A2, cap2, g1, g2, g3, rfl, g6⟩ := hy
        have HD : Hid (¬ ∀ i, i < gln na → i < gln nb → bf (gma na) i = bf (gma nb) i) := hid fun h => hab (by rw [← h1, ← g1]; exact congrArg _ (gma_differ (by omega) (by omega) (by omega) (by omega) h))
        have HRa := hid h6
        have HRb := hid g6
        have hL1 : gln na ≤ 200 := by have := nd_le na (by omega); unfold gln; omega
        have hL2 : gln nb ≤ 200 := by have := nd_le nb (by omega); unfold gln; omega
        clear h1 h2 h3 h6 g1 g2 g3 g6 HX HY hab
        generalize gln na = p at HD HRa hL1 ⊢
        generalize gln nb = q at HD HRb hL2 ⊢
        generalize gma na = xs at HD HRa
        generalize gma nb = ys at HD HRb
        obtain ⟨n, hn⟩ : ∃ n, n = min p q := ⟨_, rfl⟩
        have hmin : min (p : Int) (q : Int) = (n : Int) := by omega
        have hmin2 : ((min p q : Nat) : Int) = (n : Int) := by omega
        have hnp : n ≤ p := by omega
        have hnq : n ≤ q := by omega
        have Hn := hid hn
        clear hn
        go_wp2_with fail
        go_loopw [16] (fun s wr => ∃ k : Nat, k ≤ n ∧ s = .int .i64 (k : Int) ∧ Hid (∀ j, j < k → bf xs j = bf ys j) ∧ Hid (∃ d, wr = w6.drewN d)) (fun s _ => n - (intOf s).toNat)
        case atStart => exact ⟨0, by omega, rfl, hid fun j hj => absurd hj (by omega), hid ⟨0, rfl⟩⟩
        case round =>
          obtain ⟨k, hk, rfl, HJ, HDw⟩ := hrel
          obtain ⟨d, rfl⟩ := HDw.out
          clear HDw
          by_cases hp : k < n
          · obtain ⟨b1, o1, e1, d1, _⟩ := HRa.out.at (k := k) (by omega)
            obtain ⟨b2, o2, e2, d2, _⟩ := HRb.out.at (k := k) (by omega)
            subst e1
            subst e2
            unfold vB at d1 d2
            have HK : Hid (bf xs k = xs.getD k false ∧ bf ys k = ys.getD k false) := hid ⟨rfl, rfl⟩
            have hkp : k < p := by omega
            have hkq : k < q := by omega
            generalize xs.getD k false = x at d1 HK
            generalize ys.getD k false = y at d2 HK
            by_cases hxy : x = y
            · subst hxy
              have HJ2 : Hid (∀ j, j < k + 1 → bf xs j = bf ys j) := hid fun j hj => by
                by_cases e : j = k
                · subst e; rw [HK.out.1, HK.out.2]
                · exact HJ.out j (by omega)
              clear HJ HK
              cases x
              all_goals
                go_wp2_with fail
                go_quiet (fail)
                go_wp2_with fail
                go_roundw
                case rel => exact ⟨k + 1, by omega, by go_num, HJ2, hid ⟨_, rfl⟩⟩
                case measure => simp [intOf]; omega
            · have hcase : (x = true ∧ y = false) ∨ (x = false ∧ y = true) := by cases x <;> cases y <;> simp_all
              clear HJ HK hxy
              rcases hcase with ⟨rfl, rfl⟩ | ⟨rfl, rfl⟩
              all_goals
                go_wp2_with fail
                go_quiet (fail)
                go_wp2_with fail
                go_ret
                exact ⟨rfl, hid (below_drewN (below_drewN HB6.out.1 _) _)⟩
          · exact absurd (fun i hi1 hi2 => HJ.out i (by have := Hn.out; omega)) HD.out
  · have hne : (E == 0) = false := beq_eq_false_iff_ne.2 hE
    obtain ⟨w4, hw4⟩ : ∃ w4, w4 = w3 := ⟨_, rfl⟩
    have HB4 : Hid (Below w.heap.size w w4) := hid (by rw [hw4]; exact HB3.out.1)
    rw [← hw4]
    clear hw4 HB3 HX HY HB2
    go_wp2_with fail
    refine (madeG a w4 HI.out.1).mono ?_
    rintro e' w5 hx
    have HX := hid hx
    clear hx
    have hcase : ∃ V E, e' = .returned (.tuple #[V, .int .i64 E]) ∧ Hid (Below w.heap.size w w5) := by
      rcases HX.out with ⟨e, he, rfl, hb⟩ | ⟨na, _, _, _, A, cap, rfl, hb⟩
      · exact ⟨_, _, rfl, hid (HB4.out.trans (hb.out.mono HB4.out.size))⟩
      · exact ⟨_, _, rfl, hid (HB4.out.trans (hb.out.2.mono HB4.out.size))⟩
    obtain ⟨V3, E3, rfl, HB5⟩ := hcase
    clear HB4
    go_wp2_with fail
    refine (madeG b w5 HI.out.2.1).mono ?_
    rintro e' w6 hy
    have HY := hid hy
    clear hy
    have hcase : ∃ V E, e' = .returned (.tuple #[V, .int .i64 E]) ∧ Hid (Below w.heap.size w w6 ∧ Below w5.heap.size w5 w6) := by
      rcases HY.out with ⟨e, he, rfl, hb⟩ | ⟨na, _, _, _, A, cap, rfl, hb⟩
      · exact ⟨_, _, rfl, hid ⟨HB5.out.trans (hb.out.mono HB5.out.size), hb.out⟩⟩
      · exact ⟨_, _, rfl, hid ⟨HB5.out.trans (hb.out.2.mono HB5.out.size), hb.out.2⟩⟩
    obtain ⟨V4, E4, rfl, HB6⟩ := hcase
    clear HB5
    have hc : E3 ≠ 0 ∨ (E3 = 0 ∧ E4 ≠ 0) ∨ (E3 = 0 ∧ E4 = 0) := by omega
    rcases hc with h3 | ⟨rfl, h4⟩ | ⟨rfl, rfl⟩
    · have hne3 : (E3 != 0) = true := bne_iff_ne.2 h3
      clear HX HY
      go_wp2_with fail
      go_ret
      exact ⟨rfl, hid HB6.out.1⟩
    · have hne4 : (E4 != 0) = true := bne_iff_ne.2 h4
      clear HX HY
      go_wp2_with fail
      go_ret
      exact ⟨rfl, hid HB6.out.1⟩
    · by_cases hab : a = b
      · have hab2 : (a == b) = true := beq_iff_eq.2 hab
        clear HX HY
        go_wp2_with fail
        go_ret
        exact ⟨rfl, hid HB6.out.1⟩
      · have hab2 : (a == b) = false := beq_eq_false_iff_ne.2 hab
        have hx : ∃ na : Nat, ∃ A cap, (na : Int) = a ∧ 1 ≤ na ∧ na < 1152921504606846976 ∧ V3 = .slice A (gln na) cap ∧ RdV w6 A (gln na) (vB (gma na)) := by
          rcases HX.out with ⟨e, he, h2, hb⟩ | ⟨na, h3, h4, h5, A, cap, h2, hb⟩
          · simp at h2; exact absurd h2.2.symm he
          · simp at h2; exact ⟨na, A, cap, h3, h4, h5, h2, hb.out.1.below HB6.out.2⟩
        have hy : ∃ na : Nat, ∃ A cap, (na : Int) = b ∧ 1 ≤ na ∧ na < 1152921504606846976 ∧ V4 = .slice A (gln na) cap ∧ RdV w6 A (gln na) (vB (gma na)) := by
          rcases HY.out with ⟨e, he, h2, hb⟩ | ⟨na, h3, h4, h5, A, cap, h2, hb⟩
          · simp at h2; exact absurd h2.2.symm he
          · simp at h2; exact ⟨na, A, cap, h3, h4, h5, h2, hb.out.1⟩
        obtain ⟨na, A, cap, h1, h2, h3, rfl, h6⟩ := hx
        obtain ⟨nb, A2, cap2, g1, g2, g3, rfl, g6⟩ := hy
        have HD : Hid (¬ ∀ i, i < gln na → i < gln nb → bf (gma na) i = bf (gma nb) i) := hid fun h => hab (by rw [← h1, ← g1]; exact congrArg _ (gma_differ (by omega) (by omega) (by omega) (by omega) h))
        have HRa := hid h6
        have HRb := hid g6
        have hL1 : gln na ≤ 200 := by have := nd_le na (by omega); unfold gln; omega
        have hL2 : gln nb ≤ 200 := by have := nd_le nb (by omega); unfold gln; omega
        clear h1 h2 h3 h6 g1 g2 g3 g6 HX HY hab
        generalize gln na = p at HD HRa hL1 ⊢
        generalize gln nb = q at HD HRb hL2 ⊢
        generalize gma na = xs at HD HRa
        generalize gma nb = ys at HD HRb
        obtain ⟨n, hn⟩ : ∃ n, n = min p q := ⟨_, rfl⟩
        have hmin : min (p : Int) (q : Int) = (n : Int) := by omega
        have hmin2 : ((min p q : Nat) : Int) = (n : Int) := by omega
        have hnp : n ≤ p := by omega
        have hnq : n ≤ q := by omega
        have Hn := hid hn
        clear hn
        go_wp2_with fail
        go_loopw [16] (fun s wr => ∃ k : Nat, k ≤ n ∧ s = .int .i64 (k : Int) ∧ Hid (∀ j, j < k → bf xs j = bf ys j) ∧ Hid (∃ d, wr = w6.drewN d)) (fun s _ => n - (intOf s).toNat)
        case atStart => exact ⟨0, by omega, rfl, hid fun j hj => absurd hj (by omega), hid ⟨0, rfl⟩⟩
        case round =>
          obtain ⟨k, hk, rfl, HJ, HDw⟩ := hrel
          obtain ⟨d, rfl⟩ := HDw.out
          clear HDw
          by_cases hp : k < n
          · obtain ⟨b1, o1, e1, d1, _⟩ := HRa.out.at (k := k) (by omega)
            obtain ⟨b2, o2, e2, d2, _⟩ := HRb.out.at (k := k) (by omega)
            subst e1
            subst e2
            unfold vB at d1 d2
            have HK : Hid (bf xs k = xs.getD k false ∧ bf ys k = ys.getD k false) := hid ⟨rfl, rfl⟩
            have hkp : k < p := by omega
            have hkq : k < q := by omega
            generalize xs.getD k false = x at d1 HK
            generalize ys.getD k false = y at d2 HK
            by_cases hxy : x = y
            · subst hxy
              have HJ2 : Hid (∀ j, j < k + 1 → bf xs j = bf ys j) := hid fun j hj => by
                by_cases e : j = k
                · subst e; rw [HK.out.1, HK.out.2]
                · exact HJ.out j (by omega)
              clear HJ HK
              cases x
              all_goals
                go_wp2_with fail
                go_quiet (fail)
                go_wp2_with fail
                go_roundw
                case rel => exact ⟨k + 1, by omega, by go_num, HJ2, hid ⟨_, rfl⟩⟩
                case measure => simp [intOf]; omega
            · have hcase : (x = true ∧ y = false) ∨ (x = false ∧ y = true) := by cases x <;> cases y <;> simp_all
              clear HJ HK hxy
              rcases hcase with ⟨rfl, rfl⟩ | ⟨rfl, rfl⟩
              all_goals
                go_wp2_with fail
                go_quiet (fail)
                go_wp2_with fail
                go_ret
                exact ⟨rfl, hid (below_drewN (below_drewN HB6.out.1 _) _)⟩
          · exact absurd (fun i hi1 hi2 => HJ.out i (by have := Hn.out; omega)) HD.out
end Go.Proofs.Ytemklcnpmolclaa
