/- The document's Tag; UtfReads, reads. -/
import Derived.Test.YtbbclcllkpabkaaDoorUtF
namespace Go.Proofs.YtbbclcllkpabkaaDoor
open Go.RowKit U G

theorem drop_cons_bl {s : ByteArray} {k : Nat} (h : k < s.size) : (bl s).drop k = (s[k]'h).toNat :: (bl s).drop (k + 1) := by
  have h' : k < (bl s).length := by rw [bl_len]; exact h
  rw [List.drop_eq_getElem_cons h', ← bl_at h]
  simp [List.getD, h']
theorem lat_cast (z : Int) : ldZ z = (latZ z || inZ [(48, 57)] z) := rfl
set_option maxHeartbeats 2000000 in
theorem refTag_any {s : ByteArray} {w : World} (hs : s.size ≤ 900000) :
    Calls Tryd.prog 33 #[.string s] w fun e w' => e = .returned (.int .i64 ((tag (bl s) : Nat) : Int)) ∧ w = w' := by
  have HAl := hid refAlpha_any
  have HDi := hid refDigit_any
  have hby := bl_bys s
  have hln := bl_len s
  have Hft := hid (tag_first hby)
  have HSt : Hid (∀ k, (h : k < s.size) → ∀ p : Int → Bool, (∀ z, p z = true → z < 128) → runS p ((bl s).drop k) = if p (((s[k]'h).toNat : Nat) : Int) then 1 + runS p ((bl s).drop (k + 1)) else 0) := hid fun k h p hp => by
    rw [drop_cons_bl h]
    exact runS_b hp (by rw [← drop_cons_bl h]; exact bys_drop hby k)
  have HEn : Hid (∀ p, runS p ((bl s).drop s.size) = 0) := hid fun p => by
    rw [List.drop_eq_nil_of_le (by rw [hln]; exact Nat.le_refl _), runS_nil]
  have Hln := hid hln
  have Hby := hid hby
  clear hby hln
  obtain ⟨M, hM⟩ : ∃ M, runS latZ (bl s) = M := ⟨_, rfl⟩
  have hMs : M ≤ s.size := by
    have := runS_le latZ _ _ Hby.out (Nat.le_refl _)
    rw [Hln.out] at this
    omega
  rw [hM] at Hft
  have HMM := hid hM
  clear hM
  go_enter Tryd.func33, Tryd.ntmps33
  go_upto_block 0 with fail
  go_cut [3] from 5 to 16 (fun v wx => v = .int .i64 (M : Int) ∧ wx = w)
  case first =>
    go_wp2_with fail
    go_loopw [3] (fun v wr => ∃ k : Nat, v = .int .i64 (k : Int) ∧ k ≤ s.size ∧ wr = w ∧ Hid (runS latZ (bl s) = k + runS latZ ((bl s).drop k))) (fun v _ => s.size - (intOf v).toNat)
    case atStart => exact ⟨0, rfl, by omega, rfl, hid (by simp)⟩
    case round =>
      obtain ⟨k, rfl, hk, rfl, HR⟩ := hrel
      have hk1 : IntKind.i64.wrap ((k : Int) + 1) = ((k + 1 : Nat) : Int) := by rw [IntKind.wrap_i64]; omega
      by_cases hlt : k < s.size
      · have hlt' : (k : Int) < (s.size : Int) := by omega
        have hst := HSt.out k hlt latZ lat128
        obtain ⟨x, hx⟩ : ∃ x, s[k]'hlt = x := ⟨_, rfl⟩
        rw [hx] at hst
        have HAk := hid (HAl.out x.toNat)
        cases hq : latZ ((x.toNat : Nat) : Int) with
        | true =>
          rw [hq, if_pos rfl] at hst
          rw [hq] at HAk
          have HR2 : Hid (runS latZ (bl s) = (k + 1) + runS latZ ((bl s).drop (k + 1))) := hid (by have := HR.out; omega)
          clear hst hq HR
          go_wp2_with (go_at_call 54; refine (HAk.out _).mono ?_; rintro e w2 ⟨rfl, rfl⟩)
          go_roundw
          case rel => exact ⟨k + 1, by go_num, by omega, (by first | rfl | trivial), HR2⟩
          case measure => simp [intOf]; omega
        | false =>
          rw [hq, if_neg (by decide)] at hst
          rw [hq] at HAk
          have HM : Hid (k = M) := hid (by have := HR.out; have := HMM.out; omega)
          clear hst hq HR
          go_wp2_with (go_at_call 54; refine (HAk.out _).mono ?_; rintro e w2 ⟨rfl, rfl⟩)
          go_meet
          case rel => exact ⟨by rw [HM.out], rfl⟩
      · have hlt' : ¬ (k : Int) < (s.size : Int) := by omega
        have HM : Hid (k = M) := hid (by
          have h1 := HR.out
          rw [show k = s.size by omega, HEn.out] at h1
          have := HMM.out
          omega)
        clear HR
        go_wp2_with fail
        go_meet
        case rel => exact ⟨by rw [HM.out], rfl⟩
  case rest =>
    obtain ⟨rfl, hwc⟩ := hcut
    have hwc' := hwc.symm
    subst hwc'
    clear hwc
    go_wp2_with fail
    go_loopw [3] (fun v wr => ∃ E : Nat, v = .int .i64 (E : Int) ∧ E ≤ s.size ∧ wr = w ∧ Hid ((E = 0 ∧ tag (bl s) = 0) ∨ (0 < E ∧ tag (bl s) = tagM 4 ((bl s).drop E) E E))) (fun v _ => s.size - (intOf v).toNat)
    case atStart =>
      refine ⟨M, rfl, hMs, rfl, hid ?_⟩
      have h1 := Hft.out
      rcases Nat.eq_zero_or_pos M with h | h
      · rw [if_pos h] at h1
        exact .inl ⟨h, h1⟩
      · rw [if_neg (by omega)] at h1
        exact .inr ⟨h, h1⟩
    case round =>
      obtain ⟨E, rfl, hE, rfl, HR⟩ := hrel
      clear Hft HMM
      rcases Nat.eq_zero_or_pos E with hE0 | hE0
      · have HF : Hid (tag (bl s) = E) := hid (by
          rcases HR.out with h | h
          · rw [h.2, h.1]
          · omega)
        have hEn : ¬ (0 : Int) < (E : Int) := by omega
        have HE0 := hid hE0
        clear hE0 HR
        go_wp2_with fail
        go_ret
        exact ⟨by rw [HF.out]; rfl, rfl⟩
      · have hEp : (0 : Int) < (E : Int) := by omega
        have HB : Hid (tag (bl s) = tagM 4 ((bl s).drop E) E E) := hid (by
          rcases HR.out with h | h
          · omega
          · exact h.2)
        clear HR
        by_cases hlt : E < s.size
        · have hlt' : (E : Int) < (s.size : Int) := by omega
          obtain ⟨x, hx⟩ : ∃ x, s[E]'hlt = x := ⟨_, rfl⟩
          have hdc := drop_cons_bl hlt
          rw [hx] at hdc
          by_cases hx45 : x.toNat = 45
          · have hxe : ((x.toNat : Int) == 45) = true := by rw [beq_iff_eq]; omega
            have Hty : Hid (tag (bl s) = if runS ldZ ((bl s).drop (E + 1)) = 0 then E else tagM 4 ((bl s).drop (E + 1 + runS ldZ ((bl s).drop (E + 1)))) (E + 1 + runS ldZ ((bl s).drop (E + 1))) (E + 1 + runS ldZ ((bl s).drop (E + 1)))) := hid (by
              rw [HB.out, hdc, hx45, tag_hy (bys_drop Hby.out _), List.drop_drop])
            have hE1 : IntKind.i64.wrap ((E : Int) + 1) = (E : Int) + 1 := by rw [IntKind.wrap_i64]; omega
            have hq := runS_le ldZ _ _ (bys_drop Hby.out (E + 1)) (Nat.le_refl _)
            rw [List.length_drop, Hln.out] at hq
            obtain ⟨q, hqe⟩ : ∃ q, runS ldZ ((bl s).drop (E + 1)) = q := ⟨_, rfl⟩
            rw [hqe] at Hty hq
            have Hq := hid hqe
            clear hdc hqe HB hx45
            go_upto_block 4 with fail
            go_cut [4] from 33 to 50 (fun v wx => v = .int .i64 ((E + 1 + q : Nat) : Int) ∧ wx = wr)
            case first =>
              go_wp2_with fail
              go_loopw [4] (fun v wy => ∃ k : Nat, v = .int .i64 (k : Int) ∧ E + 1 ≤ k ∧ k ≤ s.size ∧ wy = wr ∧ Hid (runS ldZ ((bl s).drop (E + 1)) = (k - (E + 1)) + runS ldZ ((bl s).drop k))) (fun v _ => s.size - (intOf v).toNat)
              case atStart => exact ⟨E + 1, by go_num, by omega, by omega, rfl, hid (by simp)⟩
              case round =>
                obtain ⟨k, rfl, k1, k2, rfl, HK⟩ := hrel
                have hkw : IntKind.i64.wrap ((k : Int) + 1) = ((k + 1 : Nat) : Int) := by rw [IntKind.wrap_i64]; omega
                by_cases hks : k < s.size
                · have hks' : (k : Int) < (s.size : Int) := by omega
                  have hst := HSt.out k hks ldZ ld128
                  obtain ⟨y, hy⟩ : ∃ y, s[k]'hks = y := ⟨_, rfl⟩
                  rw [hy] at hst
                  have HAk := hid (HAl.out y.toNat)
                  have HDk := hid (HDi.out y.toNat)
                  have hld := lat_cast ((y.toNat : Nat) : Int)
                  cases hl : latZ ((y.toNat : Nat) : Int) with
                  | true =>
                    rw [hl, Bool.true_or] at hld
                    rw [hld, if_pos rfl] at hst
                    rw [hl] at HAk
                    have HK2 : Hid (runS ldZ ((bl s).drop (E + 1)) = (k + 1 - (E + 1)) + runS ldZ ((bl s).drop (k + 1))) := hid (by have := HK.out; omega)
                    clear hst hl hld HK
                    go_wp2_with (first
                      | (go_at_call 54; refine (HAk.out _).mono ?_; rintro e w2 ⟨rfl, rfl⟩)
                      | (go_at_call 55; refine (HDk.out _).mono ?_; rintro e w3 ⟨rfl, rfl⟩))
                    go_roundw
                    case rel => exact ⟨k + 1, by go_num, by omega, by omega, (by first | rfl | trivial), HK2⟩
                    case measure => simp [intOf]; omega
                  | false =>
                    rw [hl, Bool.false_or] at hld
                    rw [hl] at HAk
                    cases hd : inZ [(48, 57)] ((y.toNat : Nat) : Int) with
                    | true =>
                      rw [hd] at hld HDk
                      rw [hld, if_pos rfl] at hst
                      have HK2 : Hid (runS ldZ ((bl s).drop (E + 1)) = (k + 1 - (E + 1)) + runS ldZ ((bl s).drop (k + 1))) := hid (by have := HK.out; omega)
                      clear hst hl hld HK hd
                      go_wp2_with (first
                        | (go_at_call 54; refine (HAk.out _).mono ?_; rintro e w2 ⟨rfl, rfl⟩)
                        | (go_at_call 55; refine (HDk.out _).mono ?_; rintro e w3 ⟨rfl, rfl⟩))
                      go_roundw
                      case rel => exact ⟨k + 1, by go_num, by omega, by omega, (by first | rfl | trivial), HK2⟩
                      case measure => simp [intOf]; omega
                    | false =>
                      rw [hd] at hld HDk
                      rw [hld, if_neg (by decide)] at hst
                      have HK2 : Hid (k = E + 1 + q) := hid (by have h1 := HK.out; have h2 := Hq.out; omega)
                      clear hst hl hld HK hd
                      go_wp2_with (first
                        | (go_at_call 54; refine (HAk.out _).mono ?_; rintro e w2 ⟨rfl, rfl⟩)
                        | (go_at_call 55; refine (HDk.out _).mono ?_; rintro e w3 ⟨rfl, rfl⟩))
                      go_meet
                      case rel => exact ⟨by rw [HK2.out], rfl⟩
                · have hks' : ¬ (k : Int) < (s.size : Int) := by omega
                  have HK2 : Hid (k = E + 1 + q) := hid (by
                    have h1 := HK.out
                    have h2 := Hq.out
                    rw [show k = s.size by omega, HEn.out] at h1
                    omega)
                  clear HK
                  go_wp2_with fail
                  go_meet
                  case rel => exact ⟨by rw [HK2.out], rfl⟩
            case rest =>
              obtain ⟨rfl, hwc⟩ := hcut
              have hwc' := hwc.symm
              subst hwc'
              clear hwc
              obtain ⟨k, hk⟩ : ∃ k, E + 1 + q = k := ⟨_, rfl⟩
              rw [hk] at Hty ⊢
              by_cases hq0 : q = 0
              · have hke : ((k : Int) == (E : Int) + 1) = true := by rw [beq_iff_eq]; omega
                have HF : Hid (tag (bl s) = E) := hid (by rw [Hty.out, if_pos hq0])
                clear Hty hk hq0 Hq
                go_wp2_with fail
                go_ret
                exact ⟨by rw [HF.out]; rfl, rfl⟩
              · have hke : ((k : Int) == (E : Int) + 1) = false := by rw [beq_eq_false_iff_ne]; omega
                have HF : Hid ((k = 0 ∧ tag (bl s) = 0) ∨ (0 < k ∧ tag (bl s) = tagM 4 ((bl s).drop k) k k)) := hid (.inr ⟨by omega, by rw [Hty.out, if_neg hq0]⟩)
                have hkE : E < k := by omega
                have hkS : k ≤ s.size := by omega
                clear Hty hk hq0 Hq
                go_wp2_with fail
                go_roundw
                case rel => exact ⟨k, rfl, hkS, (by first | rfl | trivial), HF⟩
                case measure => simp [intOf]; omega
          · have hxe : ((x.toNat : Int) == 45) = false := by rw [beq_eq_false_iff_ne]; omega
            have HF : Hid (tag (bl s) = E) := hid (by
              rw [HB.out]
              apply tag_no
              rw [hdc]
              exact hx45)
            clear HB hdc
            go_wp2_with fail
            go_ret
            exact ⟨by rw [HF.out]; rfl, rfl⟩
        · have hlt' : ¬ (E : Int) < (s.size : Int) := by omega
          have HF : Hid (tag (bl s) = E) := hid (by
            rw [HB.out]
            apply tag_no
            rw [List.drop_eq_nil_of_le (by rw [Hln.out]; omega)]
            decide)
          clear HB
          go_wp2_with fail
          go_ret
          exact ⟨by rw [HF.out]; rfl, rfl⟩
theorem signs_len {s : ByteArray} : (sgsL (bl s)).1.length ≤ s.size := by
  obtain ⟨_, h2, _, _⟩ := sgsL_of _ _ (Nat.le_refl _) (bl_bys s)
  have h1 := sgsL_le (bl_bys s)
  rw [bl_len] at h1
  have := encL_ge (sgsL (bl s)).1
  omega
end Go.Proofs.YtbbclcllkpabkaaDoor
