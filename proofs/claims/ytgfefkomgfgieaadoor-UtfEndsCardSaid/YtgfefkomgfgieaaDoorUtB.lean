/- UtfBack. -/
import Derived.Test.YtgfefkomgfgieaaDoorUtA
namespace Go.Proofs.YtgfefkomgfgieaaDoor
open Go.RowKit U G

theorem encL_ge : ∀ ns : List Nat, ns.length ≤ (encL ns).length
  | [] => by simp
  | n :: ns => by
    have := (encN_len n).1
    have ih := encL_ge ns
    have e : encL (n :: ns) = encN n ++ encL ns := by simp [encL]
    rw [e, List.length_append, List.length_cons]
    omega
theorem utfBack_far {A1 A2 : Option Addr} {n1 n2 c1 c2 : Nat} {s : ByteArray} {w : World} (hT : Tb w) (h1 : n1 ≤ 140737488355328) (h2 : n2 ≤ 140737488355328) (h3 : s.size ≤ 140737488355328) (h : 2000 < n1 + n2 + s.size) :
    Calls Tryd.prog 6 #[.slice A1 n1 c1, .slice A2 n2 c2, .string s] w fun e w' => e = .returned (.bool true) ∧ StU w w' := by
  have HA := hid (awake_any hT)
  have hs : (2000 : Int) < (n1 : Int) + (n2 : Int) + (s.size : Int) := by omega
  have hw1 : IntKind.i64.wrap ((n1 : Int) + (n2 : Int)) = (n1 : Int) + (n2 : Int) := by rw [IntKind.wrap_i64]; omega
  have hw : IntKind.i64.wrap ((n1 : Int) + (n2 : Int) + (s.size : Int)) = (n1 : Int) + (n2 : Int) + (s.size : Int) := by rw [IntKind.wrap_i64]; omega
  clear hT h
  go_enter Tryd.func6, Tryd.ntmps6
  go_wp2_with (go_at_call 8; refine HA.out.mono ?_; rintro e w1 ⟨rfl, HO⟩)
  go_ret
  exact ⟨rfl, HO⟩
theorem signs_ok {s : ByteArray} {w : World} {ns : List Nat} {k : Nat} (hT : Tb w) (hs : s.size ≤ 900000) (h : sgsL (bl s) = (ns, k)) (hk : k = s.size) :
    Calls Tryd.prog 9 #[.string s] w fun e w' => ∃ A cap, e = .returned (.tuple #[.slice A ns.length cap, .int .i64 0, .int .i64 0]) ∧ Hid (StU w w' ∧ RdI w' A (iNs ns)) := by
  refine (signs_any hT hs).mono ?_
  rintro e w' ⟨h1, ⟨h2, A, cap, rfl, h3⟩ | ⟨h2, rfl⟩⟩
  · rw [h] at h3
    exact ⟨A, cap, by rw [h], hid ⟨h1, h3.out.1⟩⟩
  · rw [h] at h2
    simp only at h2
    omega
theorem signs_no {s : ByteArray} {w : World} {k : Nat} (hT : Tb w) (hs : s.size ≤ 900000) (h : (sgsL (bl s)).2 = k) (hk : k < s.size) :
    Calls Tryd.prog 9 #[.string s] w fun e w' => e = .returned (.tuple #[.slice none 0 0, .int .i64 (k : Int), .int .i64 11]) ∧ StU w w' := by
  refine (signs_any hT hs).mono ?_
  rintro e w' ⟨h1, ⟨h2, A, cap, rfl, h3⟩ | ⟨h2, rfl⟩⟩
  · omega
  · exact ⟨by rw [h], h1⟩
set_option maxHeartbeats 8000000 in
theorem utfBack_near {A1 A2 : Option Addr} {n1 n2 c1 c2 : Nat} {z1 z2 : List Int} {s : ByteArray} {w : World} (hT : Tb w) (hr1 : RdI w A1 z1) (hr2 : RdI w A2 z2) (hn1 : n1 = z1.length) (hn2 : n2 = z2.length) (h : n1 + n2 + s.size ≤ 2000) :
    Calls Tryd.prog 6 #[.slice A1 n1 c1, .slice A2 n2 c2, .string s] w fun e w' => e = .returned (.bool true) ∧ StU w w' := by
  have HA := hid (awake_any hT)
  have hs : ¬ (2000 : Int) < (n1 : Int) + (n2 : Int) + (s.size : Int) := by omega
  have hw1 : IntKind.i64.wrap ((n1 : Int) + (n2 : Int)) = (n1 : Int) + (n2 : Int) := by rw [IntKind.wrap_i64]; omega
  have hw : IntKind.i64.wrap ((n1 : Int) + (n2 : Int) + (s.size : Int)) = (n1 : Int) + (n2 : Int) + (s.size : Int) := by rw [IntKind.wrap_i64]; omega
  have hsz : s.size ≤ 2000 := by omega
  have HTb : Hid (∀ W, StU w W → Tb W) := hid fun W hW => hT.stu hW
  have HT1 : Hid (∀ W, StU w W → Calls Tryd.prog 17 #[.slice A1 n1 c1] W fun e w' => e = (if allSg z1 then .returned (.tuple #[.string (strB (encL (natZ z1))), .int .i64 0]) else .returned (.tuple #[.string ByteArray.empty, .int .i64 11])) ∧ StU w w') := hid fun W hW => (text_any (hr1.only hW.out fun _ _ _ => no_) hn1 (by omega)).mono fun e w' h => ⟨h.2, hid (hW.out.trans h.1.out)⟩
  have HT2 : Hid (∀ W, StU w W → Calls Tryd.prog 17 #[.slice A2 n2 c2] W fun e w' => e = (if allSg z2 then .returned (.tuple #[.string (strB (encL (natZ z2))), .int .i64 0]) else .returned (.tuple #[.string ByteArray.empty, .int .i64 11])) ∧ StU w w') := hid fun W hW => (text_any (hr2.only hW.out fun _ _ _ => no_) hn2 (by omega)).mono fun e w' h => ⟨h.2, hid (hW.out.trans h.1.out)⟩
  have HLs : Hid (∀ W, StU w W → Calls Tryd.prog 25 #[.slice A1 n1 c1, .slice A2 n2 c2] W fun e w' => e = .returned (.bool (lessZ z1 z2)) ∧ StU w w') := hid fun W hW => (less_any (hr1.only hW.out fun _ _ _ => no_) (hr2.only hW.out fun _ _ _ => no_) hn1 hn2 (by omega) (by omega)).mono fun e w' h => ⟨h.1, hid (hW.out.trans h.2.out)⟩
  have HSame : Hid (∀ W A cap, StU w W → Hid (RdI W A z1) → Calls Tryd.prog 11 #[.slice A n1 cap, .slice A1 n1 c1] W fun e w' => e = .returned (.bool true) ∧ StU w w') := hid fun W A cap hW hA => by
    have g1 := hA.out
    have g2 : RdI W A1 z1 := hr1.only hW.out fun _ _ _ => no_
    unfold RdI at g1 g2
    rw [← hn1] at g1 g2
    exact (sameInts_eq (y := fun j => z1.getD j 0) g1 g2 (by omega)).mono fun e w' h => ⟨h.1, hid (hW.out.trans (quiet_only h.2))⟩
  have HSA : allSg z1 = true → Hid (∀ W, StU w W → Calls Tryd.prog 9 #[.string (strB (encL (natZ z1)))] W fun e w' => ∃ A cap, e = .returned (.tuple #[.slice A n1 cap, .int .i64 0, .int .i64 0]) ∧ Hid (StU w w' ∧ RdI w' A z1)) := fun ha => hid fun W hW => by
    have hl : (natZ z1).length = n1 := by rw [hn1]; simp [natZ]
    have hsz2 : (strB (encL (natZ z1))).size ≤ 900000 := by
      have := encL_len (natZ z1)
      rw [← bl_len, bl_strB (encL_bys (sg_nat ha))]
      omega
    refine (signs_ok (HTb.out W hW) hsz2 (sgs_text ha) rfl).mono ?_
    rintro e w' ⟨A, cap, rfl, h⟩
    rw [nat_back ha] at h
    exact ⟨A, cap, by rw [hl], hid ⟨hid (hW.out.trans h.out.1.out), h.out.2⟩⟩
  have HTL : allSg z1 = true → allSg z2 = true → Op.bytesLess (strB (encL (natZ z1))).toList (strB (encL (natZ z2))).toList = lessZ z1 z2 := fun a b => texts_less a b
  have hby := bl_bys s
  have hle := sgsL_le hby
  rw [bl_len] at hle
  obtain ⟨o1, o2, o3, o4⟩ := sgsL_of _ _ (Nat.le_refl _) hby
  have o5 := sgsL_take hby
  obtain ⟨ns, at_, hq⟩ : ∃ ns a, sgsL (bl s) = (ns, a) := ⟨_, _, rfl⟩
  rw [hq] at hle o1 o2 o3 o4 o5
  simp only at hle o1 o2 o3 o4 o5
  by_cases hval : at_ = s.size
  · have HSs : Hid (∀ W, StU w W → Calls Tryd.prog 9 #[.string s] W fun e w' => ∃ A cap, e = .returned (.tuple #[.slice A ns.length cap, .int .i64 0, .int .i64 0]) ∧ Hid (StU w w' ∧ RdI w' A (iNs ns))) := hid fun W hW => by
      refine (signs_ok (HTb.out W hW) (by omega) hq hval).mono ?_
      rintro e w' ⟨A, cap, rfl, h⟩
      exact ⟨A, cap, rfl, hid ⟨hid (hW.out.trans h.out.1.out), h.out.2⟩⟩
    have hS : strB (encL ns) = s := by
      rw [← o5, hval, List.take_of_length_le (by rw [bl_len]; omega), strB_bl]
    have hnl : ns.length ≤ 200000 := by
      have h2 : ns.length ≤ (encL ns).length := encL_ge ns
      omega
    have HTx : Hid (∀ W A cap, StU w W → Hid (RdI W A (iNs ns)) → Calls Tryd.prog 17 #[.slice A ns.length cap] W fun e w' => e = .returned (.tuple #[.string s, .int .i64 0]) ∧ StU w w') := hid fun W A cap hW hA => (text_any hA.out (iNs_len ns).symm hnl).mono fun e w' h => ⟨by rw [h.2, all_iNs o1, natZ_iNs, hS]; rfl, hid (hW.out.trans h.1.out)⟩
    have HSn := hid True.intro
    have HSh := hid True.intro
    clear o1 o2 o3 o4 o5 hq hle hS hby hval hT hr1 hr2 hn1 hn2 h
    cases ha : allSg z1
    · rw [ha, if_neg (by decide)] at HT1
      have HSA := hid True.intro
      cases hb : allSg z2
      · rw [hb, if_neg (by decide)] at HT2
        clear HTL ha hb
        generalize lessZ z1 z2 = q at *
        go_enter Tryd.func6, Tryd.ntmps6
        go_wp2_with (first
          | (go_at_call 8; refine HA.out.mono ?_; rintro e w1 ⟨rfl, HO⟩)
          | (go_at_call 17; first
              | (with_reducible refine (HT1.out _ HO).mono ?_; rintro e w2 ⟨rfl, HO2⟩; clear HO; have HO := HO2; clear HO2)
              | (with_reducible refine (HT2.out _ HO).mono ?_; rintro e w2 ⟨rfl, HO2⟩; clear HO; have HO := HO2; clear HO2)
              | (refine (HTx.out _ _ _ HO HRx).mono ?_; rintro e w2 ⟨rfl, HO2⟩; clear HO; have HO := HO2; clear HO2))
          | (go_at_call 9; first
              | (with_reducible refine (HSA.out _ HO).mono ?_; rintro e w2 ⟨Aa, ca, rfl, HO2⟩; clear HO; have HRa := hid HO2.out.2; have HO := HO2.out.1; clear HO2)
              | (with_reducible refine (HSs.out _ HO).mono ?_; rintro e w2 ⟨Ax, cx, rfl, HO2⟩; clear HO; have HRx := hid HO2.out.2; have HO := HO2.out.1; clear HO2)
              | (with_reducible refine (HSn.out _ HO).mono ?_; rintro e w2 ⟨rfl, HO2⟩; clear HO; have HO := HO2; clear HO2)
              | (with_reducible refine (HSh.out _ HO).mono ?_; rintro e w2 ⟨Ah, kh, ch, rfl, HO2⟩; clear HO; have HO := HO2; clear HO2))
          | (go_at_call 11; refine (HSame.out _ _ _ HO HRa).mono ?_; rintro e w2 ⟨rfl, HO2⟩; clear HO; have HO := HO2; clear HO2)
          | (go_at_call 25; refine (HLs.out _ HO).mono ?_; rintro e w2 ⟨rfl, HO2⟩; clear HO; have HO := HO2; clear HO2))
        go_ret
        exact ⟨ret_bool (by first | rfl | simp), HO⟩
      · rw [hb, if_pos rfl] at HT2
        clear HTL ha hb
        generalize strB (encL (natZ z1)) = S1 at *
        generalize strB (encL (natZ z2)) = S2 at *
        generalize lessZ z1 z2 = q at *
        go_enter Tryd.func6, Tryd.ntmps6
        go_wp2_with (first
          | (go_at_call 8; refine HA.out.mono ?_; rintro e w1 ⟨rfl, HO⟩)
          | (go_at_call 17; first
              | (with_reducible refine (HT1.out _ HO).mono ?_; rintro e w2 ⟨rfl, HO2⟩; clear HO; have HO := HO2; clear HO2)
              | (with_reducible refine (HT2.out _ HO).mono ?_; rintro e w2 ⟨rfl, HO2⟩; clear HO; have HO := HO2; clear HO2)
              | (refine (HTx.out _ _ _ HO HRx).mono ?_; rintro e w2 ⟨rfl, HO2⟩; clear HO; have HO := HO2; clear HO2))
          | (go_at_call 9; first
              | (with_reducible refine (HSA.out _ HO).mono ?_; rintro e w2 ⟨Aa, ca, rfl, HO2⟩; clear HO; have HRa := hid HO2.out.2; have HO := HO2.out.1; clear HO2)
              | (with_reducible refine (HSs.out _ HO).mono ?_; rintro e w2 ⟨Ax, cx, rfl, HO2⟩; clear HO; have HRx := hid HO2.out.2; have HO := HO2.out.1; clear HO2)
              | (with_reducible refine (HSn.out _ HO).mono ?_; rintro e w2 ⟨rfl, HO2⟩; clear HO; have HO := HO2; clear HO2)
              | (with_reducible refine (HSh.out _ HO).mono ?_; rintro e w2 ⟨Ah, kh, ch, rfl, HO2⟩; clear HO; have HO := HO2; clear HO2))
          | (go_at_call 11; refine (HSame.out _ _ _ HO HRa).mono ?_; rintro e w2 ⟨rfl, HO2⟩; clear HO; have HO := HO2; clear HO2)
          | (go_at_call 25; refine (HLs.out _ HO).mono ?_; rintro e w2 ⟨rfl, HO2⟩; clear HO; have HO := HO2; clear HO2))
        go_ret
        exact ⟨ret_bool (by first | rfl | simp), HO⟩
    · rw [ha, if_pos rfl] at HT1
      have HSA := HSA ha
      cases hb : allSg z2
      · rw [hb, if_neg (by decide)] at HT2
        clear HTL ha hb
        generalize strB (encL (natZ z1)) = S1 at *
        generalize strB (encL (natZ z2)) = S2 at *
        generalize lessZ z1 z2 = q at *
        go_enter Tryd.func6, Tryd.ntmps6
        go_wp2_with (first
          | (go_at_call 8; refine HA.out.mono ?_; rintro e w1 ⟨rfl, HO⟩)
          | (go_at_call 17; first
              | (with_reducible refine (HT1.out _ HO).mono ?_; rintro e w2 ⟨rfl, HO2⟩; clear HO; have HO := HO2; clear HO2)
              | (with_reducible refine (HT2.out _ HO).mono ?_; rintro e w2 ⟨rfl, HO2⟩; clear HO; have HO := HO2; clear HO2)
              | (refine (HTx.out _ _ _ HO HRx).mono ?_; rintro e w2 ⟨rfl, HO2⟩; clear HO; have HO := HO2; clear HO2))
          | (go_at_call 9; first
              | (with_reducible refine (HSA.out _ HO).mono ?_; rintro e w2 ⟨Aa, ca, rfl, HO2⟩; clear HO; have HRa := hid HO2.out.2; have HO := HO2.out.1; clear HO2)
              | (with_reducible refine (HSs.out _ HO).mono ?_; rintro e w2 ⟨Ax, cx, rfl, HO2⟩; clear HO; have HRx := hid HO2.out.2; have HO := HO2.out.1; clear HO2)
              | (with_reducible refine (HSn.out _ HO).mono ?_; rintro e w2 ⟨rfl, HO2⟩; clear HO; have HO := HO2; clear HO2)
              | (with_reducible refine (HSh.out _ HO).mono ?_; rintro e w2 ⟨Ah, kh, ch, rfl, HO2⟩; clear HO; have HO := HO2; clear HO2))
          | (go_at_call 11; refine (HSame.out _ _ _ HO HRa).mono ?_; rintro e w2 ⟨rfl, HO2⟩; clear HO; have HO := HO2; clear HO2)
          | (go_at_call 25; refine (HLs.out _ HO).mono ?_; rintro e w2 ⟨rfl, HO2⟩; clear HO; have HO := HO2; clear HO2))
        go_ret
        exact ⟨ret_bool (by first | rfl | simp), HO⟩
      · rw [hb, if_pos rfl] at HT2
        have hTL := HTL ha hb
        clear HTL ha hb
        generalize strB (encL (natZ z1)) = S1 at *
        generalize strB (encL (natZ z2)) = S2 at *
        generalize lessZ z1 z2 = q at *
        go_enter Tryd.func6, Tryd.ntmps6
        go_wp2_with (first
          | (go_at_call 8; refine HA.out.mono ?_; rintro e w1 ⟨rfl, HO⟩)
          | (go_at_call 17; first
              | (with_reducible refine (HT1.out _ HO).mono ?_; rintro e w2 ⟨rfl, HO2⟩; clear HO; have HO := HO2; clear HO2)
              | (with_reducible refine (HT2.out _ HO).mono ?_; rintro e w2 ⟨rfl, HO2⟩; clear HO; have HO := HO2; clear HO2)
              | (refine (HTx.out _ _ _ HO HRx).mono ?_; rintro e w2 ⟨rfl, HO2⟩; clear HO; have HO := HO2; clear HO2))
          | (go_at_call 9; first
              | (with_reducible refine (HSA.out _ HO).mono ?_; rintro e w2 ⟨Aa, ca, rfl, HO2⟩; clear HO; have HRa := hid HO2.out.2; have HO := HO2.out.1; clear HO2)
              | (with_reducible refine (HSs.out _ HO).mono ?_; rintro e w2 ⟨Ax, cx, rfl, HO2⟩; clear HO; have HRx := hid HO2.out.2; have HO := HO2.out.1; clear HO2)
              | (with_reducible refine (HSn.out _ HO).mono ?_; rintro e w2 ⟨rfl, HO2⟩; clear HO; have HO := HO2; clear HO2)
              | (with_reducible refine (HSh.out _ HO).mono ?_; rintro e w2 ⟨Ah, kh, ch, rfl, HO2⟩; clear HO; have HO := HO2; clear HO2))
          | (go_at_call 11; refine (HSame.out _ _ _ HO HRa).mono ?_; rintro e w2 ⟨rfl, HO2⟩; clear HO; have HO := HO2; clear HO2)
          | (go_at_call 25; refine (HLs.out _ HO).mono ?_; rintro e w2 ⟨rfl, HO2⟩; clear HO; have HO := HO2; clear HO2))
        go_ret
        exact ⟨ret_bool (by first | rfl | simp), HO⟩
  · have hlt : at_ < s.size := by omega
    have HSn : Hid (∀ W, StU w W → Calls Tryd.prog 9 #[.string s] W fun e w' => e = .returned (.tuple #[.slice none 0 0, .int .i64 (at_ : Int), .int .i64 11]) ∧ StU w w') := hid fun W hW =>
      (signs_no (HTb.out W hW) (by omega) (by rw [hq]) hlt).mono fun e w' h => ⟨h.1, hid (hW.out.trans h.2.out)⟩
    have he0 : sgsL ([] : List Nat) = ([], 0) := sgsL_end (by rw [nxt_nil])
    have hz : ∀ k, k ≤ s.size → (s.extract 0 k).size = k := fun k hk => by rw [← bl_len, bl_head, List.length_take, bl_len]; omega
    have hhd : sgsL (bl (s.extract 0 at_)) = (ns, at_) := by
      have h1 := sgsL_enc ns [] o1
      rw [List.append_nil, he0] at h1
      rw [bl_head, o5, h1, ← o2]
      simp
    have HSh : Hid (∀ W, StU w W → Calls Tryd.prog 9 #[.string (s.extract 0 at_)] W fun e w' => ∃ A k cap, e = .returned (.tuple #[.slice A k cap, .int .i64 0, .int .i64 0]) ∧ StU w w') := hid fun W hW => by
      refine (signs_ok (HTb.out W hW) (by rw [hz _ (by omega)]; omega) hhd (hz _ (by omega)).symm).mono ?_
      rintro e w' ⟨A, cap, rfl, h⟩
      exact ⟨A, _, cap, rfl, hid (hW.out.trans h.out.1.out)⟩
    have HSk : Hid (∀ W k, StU w W → at_ < k → k ≤ s.size → Calls Tryd.prog 9 #[.string (s.extract at_ k)] W fun e w' => ∃ p : Nat, e = .returned (.tuple #[.slice none 0 0, .int .i64 (p : Int), .int .i64 11]) ∧ StU w w') := hid fun W k hW hk1 hk2 => by
      have hb2 : Bys (bl (s.extract at_ k)) := bl_bys _
      have hlen : (s.extract at_ k).size = k - at_ := by rw [← bl_len, bl_extract, List.length_drop, List.length_take, bl_len]; omega
      have h1 := sgsL_le hb2
      rw [bl_len] at h1
      have hne : (sgsL (bl (s.extract at_ k))).2 ≠ (s.extract at_ k).size := fun e => by
        by_cases h0 : (nxt (bl (s.extract at_ k))).2 = 0
        · rw [sgsL_end h0] at e
          simp only at e
          omega
        · have h2 := (nxt_app hb2 h0 ((bl s).drop k)).1
          have h3 : bl (s.extract at_ k) ++ (bl s).drop k = (bl s).drop at_ := by
            rw [bl_extract]
            have e1 : (bl s).drop at_ = ((bl s).take k ++ (bl s).drop k).drop at_ := by rw [List.take_append_drop]
            rw [e1, List.drop_append_of_le_length (by rw [List.length_take, bl_len]; omega)]
          rw [h3] at h2
          rw [h2] at o4
          exact h0 o4
      refine (signs_no (HTb.out W hW) (by omega) rfl (by omega)).mono ?_
      rintro e w' ⟨rfl, h⟩
      exact ⟨_, rfl, hid (hW.out.trans h.out)⟩
    have HSs := hid True.intro
    have HTx := hid True.intro
    have hat : ¬ (at_ : Int) < 0 := by omega
    have hat2 : ¬ (s.size : Int) ≤ (at_ : Int) := by omega
    have hat3 : IntKind.i64.wrap ((at_ : Int) + 1) = (at_ : Int) + 1 := by rw [IntKind.wrap_i64]; omega
    clear o1 o2 o3 o4 o5 hq hby hval hT hr1 hr2 hn1 hn2 h he0 hz hhd
    cases ha : allSg z1
    · rw [ha, if_neg (by decide)] at HT1
      have HSA := hid True.intro
      cases hb : allSg z2
      · rw [hb, if_neg (by decide)] at HT2
        clear HTL ha hb
        generalize lessZ z1 z2 = q at *
        go_enter Tryd.func6, Tryd.ntmps6
        go_wp2_with (first
          | (go_at_call 8; refine HA.out.mono ?_; rintro e w1 ⟨rfl, HO⟩)
          | (go_at_call 17; first
              | (with_reducible refine (HT1.out _ HO).mono ?_; rintro e w2 ⟨rfl, HO2⟩; clear HO; have HO := HO2; clear HO2)
              | (with_reducible refine (HT2.out _ HO).mono ?_; rintro e w2 ⟨rfl, HO2⟩; clear HO; have HO := HO2; clear HO2)
              | (refine (HTx.out _ _ _ HO HRx).mono ?_; rintro e w2 ⟨rfl, HO2⟩; clear HO; have HO := HO2; clear HO2))
          | (go_at_call 9; first
              | (with_reducible refine (HSA.out _ HO).mono ?_; rintro e w2 ⟨Aa, ca, rfl, HO2⟩; clear HO; have HRa := hid HO2.out.2; have HO := HO2.out.1; clear HO2)
              | (with_reducible refine (HSs.out _ HO).mono ?_; rintro e w2 ⟨Ax, cx, rfl, HO2⟩; clear HO; have HRx := hid HO2.out.2; have HO := HO2.out.1; clear HO2)
              | (with_reducible refine (HSn.out _ HO).mono ?_; rintro e w2 ⟨rfl, HO2⟩; clear HO; have HO := HO2; clear HO2)
              | (with_reducible refine (HSh.out _ HO).mono ?_; rintro e w2 ⟨Ah, kh, ch, rfl, HO2⟩; clear HO; have HO := HO2; clear HO2))
          | (go_at_call 11; refine (HSame.out _ _ _ HO HRa).mono ?_; rintro e w2 ⟨rfl, HO2⟩; clear HO; have HO := HO2; clear HO2)
          | (go_at_call 25; refine (HLs.out _ HO).mono ?_; rintro e w2 ⟨rfl, HO2⟩; clear HO; have HO := HO2; clear HO2))
        go_loopw [22] (fun v wr => ∃ k : Nat, v = .int .i64 (k : Int) ∧ at_ + 1 ≤ k ∧ k ≤ at_ + 5 ∧ k ≤ s.size + 1 ∧ StU w wr) (fun v _ => at_ + 5 - (intOf v).toNat)
        case atStart => exact ⟨at_ + 1, by go_num, by omega, by omega, by omega, HO⟩
        case round =>
          obtain ⟨k, rfl, k1, k2, k3, HO3⟩ := hrel
          clear HO
          have hk4 : IntKind.i64.wrap ((at_ : Int) + 4) = (at_ : Int) + 4 := by rw [IntKind.wrap_i64]; omega
          by_cases hk : k ≤ s.size ∧ k ≤ at_ + 4
          · have hk5 : (k : Int) ≤ (s.size : Int) := by omega
            have hk6 : (k : Int) ≤ (at_ : Int) + 4 := by omega
            have hk7 : at_ ≤ k := by omega
            have hk8 : k ≤ s.size := hk.1
            have HKk := hid (HSk.out wr k HO3 (by omega) hk.1)
            go_wp2_with (go_at_call 9; refine HKk.out.mono ?_; rintro e w2 ⟨pk, rfl, HO4⟩)
            go_roundw
            case rel => exact ⟨k + 1, by go_num, by omega, by omega, by omega, HO4⟩
            case measure => simp [intOf]; omega
          · by_cases hk9 : k ≤ s.size
            · have hk5 : (k : Int) ≤ (s.size : Int) := by omega
              have hk6 : ¬ (k : Int) ≤ (at_ : Int) + 4 := by omega
              go_wp2_with fail
              go_ret
              exact ⟨ret_bool (by first | rfl | simp), HO3⟩
            · have hk5 : ¬ (k : Int) ≤ (s.size : Int) := by omega
              go_wp2_with fail
              go_ret
              exact ⟨ret_bool (by first | rfl | simp), HO3⟩
      · rw [hb, if_pos rfl] at HT2
        clear HTL ha hb
        generalize strB (encL (natZ z1)) = S1 at *
        generalize strB (encL (natZ z2)) = S2 at *
        generalize lessZ z1 z2 = q at *
        go_enter Tryd.func6, Tryd.ntmps6
        go_wp2_with (first
          | (go_at_call 8; refine HA.out.mono ?_; rintro e w1 ⟨rfl, HO⟩)
          | (go_at_call 17; first
              | (with_reducible refine (HT1.out _ HO).mono ?_; rintro e w2 ⟨rfl, HO2⟩; clear HO; have HO := HO2; clear HO2)
              | (with_reducible refine (HT2.out _ HO).mono ?_; rintro e w2 ⟨rfl, HO2⟩; clear HO; have HO := HO2; clear HO2)
              | (refine (HTx.out _ _ _ HO HRx).mono ?_; rintro e w2 ⟨rfl, HO2⟩; clear HO; have HO := HO2; clear HO2))
          | (go_at_call 9; first
              | (with_reducible refine (HSA.out _ HO).mono ?_; rintro e w2 ⟨Aa, ca, rfl, HO2⟩; clear HO; have HRa := hid HO2.out.2; have HO := HO2.out.1; clear HO2)
              | (with_reducible refine (HSs.out _ HO).mono ?_; rintro e w2 ⟨Ax, cx, rfl, HO2⟩; clear HO; have HRx := hid HO2.out.2; have HO := HO2.out.1; clear HO2)
              | (with_reducible refine (HSn.out _ HO).mono ?_; rintro e w2 ⟨rfl, HO2⟩; clear HO; have HO := HO2; clear HO2)
              | (with_reducible refine (HSh.out _ HO).mono ?_; rintro e w2 ⟨Ah, kh, ch, rfl, HO2⟩; clear HO; have HO := HO2; clear HO2))
          | (go_at_call 11; refine (HSame.out _ _ _ HO HRa).mono ?_; rintro e w2 ⟨rfl, HO2⟩; clear HO; have HO := HO2; clear HO2)
          | (go_at_call 25; refine (HLs.out _ HO).mono ?_; rintro e w2 ⟨rfl, HO2⟩; clear HO; have HO := HO2; clear HO2))
        go_loopw [22] (fun v wr => ∃ k : Nat, v = .int .i64 (k : Int) ∧ at_ + 1 ≤ k ∧ k ≤ at_ + 5 ∧ k ≤ s.size + 1 ∧ StU w wr) (fun v _ => at_ + 5 - (intOf v).toNat)
        case atStart => exact ⟨at_ + 1, by go_num, by omega, by omega, by omega, HO⟩
        case round =>
          obtain ⟨k, rfl, k1, k2, k3, HO3⟩ := hrel
          clear HO
          have hk4 : IntKind.i64.wrap ((at_ : Int) + 4) = (at_ : Int) + 4 := by rw [IntKind.wrap_i64]; omega
          by_cases hk : k ≤ s.size ∧ k ≤ at_ + 4
          · have hk5 : (k : Int) ≤ (s.size : Int) := by omega
            have hk6 : (k : Int) ≤ (at_ : Int) + 4 := by omega
            have hk7 : at_ ≤ k := by omega
            have hk8 : k ≤ s.size := hk.1
            have HKk := hid (HSk.out wr k HO3 (by omega) hk.1)
            go_wp2_with (go_at_call 9; refine HKk.out.mono ?_; rintro e w2 ⟨pk, rfl, HO4⟩)
            go_roundw
            case rel => exact ⟨k + 1, by go_num, by omega, by omega, by omega, HO4⟩
            case measure => simp [intOf]; omega
          · by_cases hk9 : k ≤ s.size
            · have hk5 : (k : Int) ≤ (s.size : Int) := by omega
              have hk6 : ¬ (k : Int) ≤ (at_ : Int) + 4 := by omega
              go_wp2_with fail
              go_ret
              exact ⟨ret_bool (by first | rfl | simp), HO3⟩
            · have hk5 : ¬ (k : Int) ≤ (s.size : Int) := by omega
              go_wp2_with fail
              go_ret
              exact ⟨ret_bool (by first | rfl | simp), HO3⟩
    · rw [ha, if_pos rfl] at HT1
      have HSA := HSA ha
      cases hb : allSg z2
      · rw [hb, if_neg (by decide)] at HT2
        clear HTL ha hb
        generalize strB (encL (natZ z1)) = S1 at *
        generalize strB (encL (natZ z2)) = S2 at *
        generalize lessZ z1 z2 = q at *
        go_enter Tryd.func6, Tryd.ntmps6
        go_wp2_with (first
          | (go_at_call 8; refine HA.out.mono ?_; rintro e w1 ⟨rfl, HO⟩)
          | (go_at_call 17; first
              | (with_reducible refine (HT1.out _ HO).mono ?_; rintro e w2 ⟨rfl, HO2⟩; clear HO; have HO := HO2; clear HO2)
              | (with_reducible refine (HT2.out _ HO).mono ?_; rintro e w2 ⟨rfl, HO2⟩; clear HO; have HO := HO2; clear HO2)
              | (refine (HTx.out _ _ _ HO HRx).mono ?_; rintro e w2 ⟨rfl, HO2⟩; clear HO; have HO := HO2; clear HO2))
          | (go_at_call 9; first
              | (with_reducible refine (HSA.out _ HO).mono ?_; rintro e w2 ⟨Aa, ca, rfl, HO2⟩; clear HO; have HRa := hid HO2.out.2; have HO := HO2.out.1; clear HO2)
              | (with_reducible refine (HSs.out _ HO).mono ?_; rintro e w2 ⟨Ax, cx, rfl, HO2⟩; clear HO; have HRx := hid HO2.out.2; have HO := HO2.out.1; clear HO2)
              | (with_reducible refine (HSn.out _ HO).mono ?_; rintro e w2 ⟨rfl, HO2⟩; clear HO; have HO := HO2; clear HO2)
              | (with_reducible refine (HSh.out _ HO).mono ?_; rintro e w2 ⟨Ah, kh, ch, rfl, HO2⟩; clear HO; have HO := HO2; clear HO2))
          | (go_at_call 11; refine (HSame.out _ _ _ HO HRa).mono ?_; rintro e w2 ⟨rfl, HO2⟩; clear HO; have HO := HO2; clear HO2)
          | (go_at_call 25; refine (HLs.out _ HO).mono ?_; rintro e w2 ⟨rfl, HO2⟩; clear HO; have HO := HO2; clear HO2))
        go_loopw [22] (fun v wr => ∃ k : Nat, v = .int .i64 (k : Int) ∧ at_ + 1 ≤ k ∧ k ≤ at_ + 5 ∧ k ≤ s.size + 1 ∧ StU w wr) (fun v _ => at_ + 5 - (intOf v).toNat)
        case atStart => exact ⟨at_ + 1, by go_num, by omega, by omega, by omega, HO⟩
        case round =>
          obtain ⟨k, rfl, k1, k2, k3, HO3⟩ := hrel
          clear HO
          have hk4 : IntKind.i64.wrap ((at_ : Int) + 4) = (at_ : Int) + 4 := by rw [IntKind.wrap_i64]; omega
          by_cases hk : k ≤ s.size ∧ k ≤ at_ + 4
          · have hk5 : (k : Int) ≤ (s.size : Int) := by omega
            have hk6 : (k : Int) ≤ (at_ : Int) + 4 := by omega
            have hk7 : at_ ≤ k := by omega
            have hk8 : k ≤ s.size := hk.1
            have HKk := hid (HSk.out wr k HO3 (by omega) hk.1)
            go_wp2_with (go_at_call 9; refine HKk.out.mono ?_; rintro e w2 ⟨pk, rfl, HO4⟩)
            go_roundw
            case rel => exact ⟨k + 1, by go_num, by omega, by omega, by omega, HO4⟩
            case measure => simp [intOf]; omega
          · by_cases hk9 : k ≤ s.size
            · have hk5 : (k : Int) ≤ (s.size : Int) := by omega
              have hk6 : ¬ (k : Int) ≤ (at_ : Int) + 4 := by omega
              go_wp2_with fail
              go_ret
              exact ⟨ret_bool (by first | rfl | simp), HO3⟩
            · have hk5 : ¬ (k : Int) ≤ (s.size : Int) := by omega
              go_wp2_with fail
              go_ret
              exact ⟨ret_bool (by first | rfl | simp), HO3⟩
      · rw [hb, if_pos rfl] at HT2
        have hTL := HTL ha hb
        clear HTL ha hb
        generalize strB (encL (natZ z1)) = S1 at *
        generalize strB (encL (natZ z2)) = S2 at *
        generalize lessZ z1 z2 = q at *
        go_enter Tryd.func6, Tryd.ntmps6
        go_wp2_with (first
          | (go_at_call 8; refine HA.out.mono ?_; rintro e w1 ⟨rfl, HO⟩)
          | (go_at_call 17; first
              | (with_reducible refine (HT1.out _ HO).mono ?_; rintro e w2 ⟨rfl, HO2⟩; clear HO; have HO := HO2; clear HO2)
              | (with_reducible refine (HT2.out _ HO).mono ?_; rintro e w2 ⟨rfl, HO2⟩; clear HO; have HO := HO2; clear HO2)
              | (refine (HTx.out _ _ _ HO HRx).mono ?_; rintro e w2 ⟨rfl, HO2⟩; clear HO; have HO := HO2; clear HO2))
          | (go_at_call 9; first
              | (with_reducible refine (HSA.out _ HO).mono ?_; rintro e w2 ⟨Aa, ca, rfl, HO2⟩; clear HO; have HRa := hid HO2.out.2; have HO := HO2.out.1; clear HO2)
              | (with_reducible refine (HSs.out _ HO).mono ?_; rintro e w2 ⟨Ax, cx, rfl, HO2⟩; clear HO; have HRx := hid HO2.out.2; have HO := HO2.out.1; clear HO2)
              | (with_reducible refine (HSn.out _ HO).mono ?_; rintro e w2 ⟨rfl, HO2⟩; clear HO; have HO := HO2; clear HO2)
              | (with_reducible refine (HSh.out _ HO).mono ?_; rintro e w2 ⟨Ah, kh, ch, rfl, HO2⟩; clear HO; have HO := HO2; clear HO2))
          | (go_at_call 11; refine (HSame.out _ _ _ HO HRa).mono ?_; rintro e w2 ⟨rfl, HO2⟩; clear HO; have HO := HO2; clear HO2)
          | (go_at_call 25; refine (HLs.out _ HO).mono ?_; rintro e w2 ⟨rfl, HO2⟩; clear HO; have HO := HO2; clear HO2))
        go_loopw [22] (fun v wr => ∃ k : Nat, v = .int .i64 (k : Int) ∧ at_ + 1 ≤ k ∧ k ≤ at_ + 5 ∧ k ≤ s.size + 1 ∧ StU w wr) (fun v _ => at_ + 5 - (intOf v).toNat)
        case atStart => exact ⟨at_ + 1, by go_num, by omega, by omega, by omega, HO⟩
        case round =>
          obtain ⟨k, rfl, k1, k2, k3, HO3⟩ := hrel
          clear HO
          have hk4 : IntKind.i64.wrap ((at_ : Int) + 4) = (at_ : Int) + 4 := by rw [IntKind.wrap_i64]; omega
          by_cases hk : k ≤ s.size ∧ k ≤ at_ + 4
          · have hk5 : (k : Int) ≤ (s.size : Int) := by omega
            have hk6 : (k : Int) ≤ (at_ : Int) + 4 := by omega
            have hk7 : at_ ≤ k := by omega
            have hk8 : k ≤ s.size := hk.1
            have HKk := hid (HSk.out wr k HO3 (by omega) hk.1)
            go_wp2_with (go_at_call 9; refine HKk.out.mono ?_; rintro e w2 ⟨pk, rfl, HO4⟩)
            go_roundw
            case rel => exact ⟨k + 1, by go_num, by omega, by omega, by omega, HO4⟩
            case measure => simp [intOf]; omega
          · by_cases hk9 : k ≤ s.size
            · have hk5 : (k : Int) ≤ (s.size : Int) := by omega
              have hk6 : ¬ (k : Int) ≤ (at_ : Int) + 4 := by omega
              go_wp2_with fail
              go_ret
              exact ⟨ret_bool (by first | rfl | simp), HO3⟩
            · have hk5 : ¬ (k : Int) ≤ (s.size : Int) := by omega
              go_wp2_with fail
              go_ret
              exact ⟨ret_bool (by first | rfl | simp), HO3⟩
end Go.Proofs.YtgfefkomgfgieaaDoor
