/- The document's Label, Tag. -/
import Derived.Test.YtbbclcllkpabkaaDoorUtE
import Derived.Test.YtbbclcllkpabkaaDoorUt9
namespace Go.Proofs.YtbbclcllkpabkaaDoor
open Go.RowKit U G

set_option maxHeartbeats 4000000 in
theorem refLabel_any {s : ByteArray} {w : World} (hs : s.size ≤ 900000) :
    Calls Tryd.prog 32 #[.string s] w fun e w' => e = .returned (.int .i64 ((lab (bl s) : Nat) : Int)) ∧ StU w w' := by
  have HFi := hid refFirst_any
  have HLe := hid refLetter_any
  have hln := bl_len s
  go_enter Tryd.func32, Tryd.ntmps32
  go_wp2_with fail
  go_loopw [3, 4] (fun v i wr => ∃ (best b : Nat), v = .int .i64 (best : Int) ∧ i = .int .i64 (b : Int) ∧ b ≤ s.size ∧ StU w wr ∧ Hid ((b = 0 ∧ best = 0) ∨ (0 < b ∧ lab (bl s) = labW ((bl s).drop b) b best))) (fun _ i _ => s.size - (intOf i).toNat)
  case atStart => exact ⟨0, 0, rfl, rfl, by omega, hid (Only.refl _ _), hid (.inl ⟨rfl, rfl⟩)⟩
  case round =>
    obtain ⟨best, b, rfl, rfl, hb, HO, HR⟩ := hrel
    by_cases hlt : b < s.size
    · have hlt' : (b : Int) < (s.size : Int) := by omega
      have HN := hid (fun W => refNext_any (w := W) hlt hs)
      have hle := nxt_le (bys_drop (bl_bys s) b)
      rw [List.length_drop, bl_len] at hle
      by_cases hk : (nxt ((bl s).drop b)).2 = 0
      · have HF : Hid (lab (bl s) = best) := hid (by
          rcases HR.out with ⟨h1, h2⟩ | ⟨_, h2⟩
          · subst h1; subst h2
            rw [List.drop_zero] at hk
            unfold lab
            rw [if_neg (fun h => h.1 hk)]
          · rw [h2, labW_stop (.inl hk)])
        have hz := nxt_zero hk
        rw [hz] at HN
        clear hk hz HR hle
        go_wp2_with (go_at_call 30; refine (HN.out _).mono ?_; rintro e w2 ⟨rfl, HO2⟩)
        go_ret
        exact ⟨by rw [HF.out]; rfl, hid (HO.out.trans HO2.out)⟩
      · have hk' : (((nxt ((bl s).drop b)).2 : Int) == 0) = false := by rw [beq_eq_false_iff_ne]; omega
        have hbk : IntKind.i64.wrap ((b : Int) + ((nxt ((bl s).drop b)).2 : Int)) = ((b + (nxt ((bl s).drop b)).2 : Nat) : Int) := by rw [IntKind.wrap_i64]; omega
        have hlet : letZ ((nxt ((bl s).drop b)).1 : Int) = true → ∀ a e, labW ((bl s).drop b) a e = labW ((bl s).drop (b + (nxt ((bl s).drop b)).2)) (a + (nxt ((bl s).drop b)).2) (a + (nxt ((bl s).drop b)).2) := fun h a e => by rw [labW_let hk h, List.drop_drop]
        have hpt : (nxt ((bl s).drop b)).1 = 46 → ∀ a e, labW ((bl s).drop b) a e = labW ((bl s).drop (b + (nxt ((bl s).drop b)).2)) (a + (nxt ((bl s).drop b)).2) e := fun h a e => by rw [labW_pt hk h, List.drop_drop]
        have hstp : letZ ((nxt ((bl s).drop b)).1 : Int) = false → (nxt ((bl s).drop b)).1 ≠ 46 → ∀ a e, labW ((bl s).drop b) a e = e := fun h1 h2 a e => labW_stop (.inr ⟨h1, h2⟩)
        have hl0 : b = 0 → opnZ ((nxt ((bl s).drop b)).1 : Int) = true → lab (bl s) = labW ((bl s).drop (b + (nxt ((bl s).drop b)).2)) (b + (nxt ((bl s).drop b)).2) (b + (nxt ((bl s).drop b)).2) := fun h1 h2 => by
          subst h1
          rw [List.drop_zero] at hk h2 ⊢
          unfold lab
          rw [if_pos ⟨hk, h2⟩]
          simp
        have hl1 : b = 0 → opnZ ((nxt ((bl s).drop b)).1 : Int) = false → lab (bl s) = 0 := fun h1 h2 => by
          subst h1
          rw [List.drop_zero] at h2
          unfold lab
          rw [if_neg (fun h => by rw [h2] at h; exact absurd h.2 (by decide))]
        generalize nxt ((bl s).drop b) = q at *
        obtain ⟨n, k⟩ := q
        simp only at *
        have Hlet := hid hlet
        have Hpt := hid hpt
        have Hstp := hid hstp
        have Hl0 := hid hl0
        have Hl1 := hid hl1
        have HFn := hid (HFi.out (n : Int))
        have HLn := hid (HLe.out (n : Int))
        have hopn := opn_first (n : Int)
        clear hlet hpt hstp hl0 hl1
        rcases Nat.eq_zero_or_pos b with hb0 | hb0
        · have hb0' : ((b : Int) == 0) = true := by rw [beq_iff_eq]; omega
          have Hb0 := hid hb0
          clear hb0
          cases hf : firZ (n : Int) with
          | true =>
            have ho : opnZ (n : Int) = true := by rw [hopn, hf]; rfl
            have hl := opn_let ho
            have hn46 : ((n : Int) != 46) = true := by rw [bne_iff_ne]; intro e; rw [e] at hl; exact absurd hl (by decide)
            have HR2 : Hid ((b + k = 0 ∧ b + k = 0) ∨ (0 < b + k ∧ lab (bl s) = labW ((bl s).drop (b + k)) (b + k) (b + k))) := hid (.inr ⟨by omega, Hl0.out Hb0.out ho⟩)
            rw [hf] at HFn
            rw [hl] at HLn
            clear hf ho hl hopn HR
            go_wp2_with (first
              | (go_at_call 30; refine (HN.out _).mono ?_; rintro e w2 ⟨rfl, HO2⟩)
              | (go_at_call 51; refine (HFn.out _).mono ?_; rintro e w3 ⟨rfl, HO3⟩)
              | (go_at_call 53; refine (HLn.out _).mono ?_; rintro e w4 ⟨rfl, HO4⟩))
            have HO5 : StU w w4 := hid (((HO.out.trans HO2.out).trans HO3.out).trans HO4.out)
            clear HO HO2 HO3 HO4
            go_roundw
            case rel => exact ⟨b + k, b + k, by go_num, by go_num, by omega, HO5, HR2⟩
            case measure => simp [intOf]; omega
          | false =>
            rw [hf, Bool.false_or] at hopn
            rw [hf] at HFn
            cases hin : inZ [(95, 95), (58, 58), (48, 57)] (n : Int) with
            | true =>
              have HIn : Hid (∀ W : World, Calls Tryd.prog 52 #[.int .i64 (n : Int), .slice (some ⟨W.heap.size, 0, none⟩) 6 6] (W.alloc (.cells #[.int .i64 95, .int .i64 95, .int .i64 58, .int .i64 58, .int .i64 48, .int .i64 57] 3)) fun e w' => e = .returned (.bool true) ∧ W.alloc (.cells #[.int .i64 95, .int .i64 95, .int .i64 58, .int .i64 58, .int .i64 48, .int .i64 57] 3) = w') := hid fun W => by
                have := refIn_any (c := 6) (rs := [(95, 95), (58, 58), (48, 57)]) (z := (n : Int)) (rdI_new W [95, 95, 58, 58, 48, 57] #[.int .i64 95, .int .i64 95, .int .i64 58, .int .i64 58, .int .i64 48, .int .i64 57] rfl) (n := 6) rfl (by decide)
                rwa [hin] at this
              have ho : opnZ (n : Int) = true := by rw [hopn, hin]
              have hl := opn_let ho
              have hn46 : ((n : Int) != 46) = true := by rw [bne_iff_ne]; intro e; rw [e] at hl; exact absurd hl (by decide)
              have HR2 : Hid ((b + k = 0 ∧ b + k = 0) ∨ (0 < b + k ∧ lab (bl s) = labW ((bl s).drop (b + k)) (b + k) (b + k))) := hid (.inr ⟨by omega, Hl0.out Hb0.out ho⟩)
              rw [hl] at HLn
              clear hf ho hl hopn HR hin
              go_wp2_with (first
                | (go_at_call 30; refine (HN.out _).mono ?_; rintro e w2 ⟨rfl, HO2⟩)
                | (go_at_call 51; refine (HFn.out _).mono ?_; rintro e w3 ⟨rfl, HO3⟩)
                | (go_at_call 52; refine (HIn.out _).mono ?_; rintro e w9 ⟨rfl, rfl⟩)
                | (go_at_call 53; refine (HLn.out _).mono ?_; rintro e w4 ⟨rfl, HO4⟩))
              have HO5 : StU w w4 := hid ((((HO.out.trans HO2.out).trans HO3.out).alloc _).trans HO4.out)
              clear HO HO2 HO3 HO4
              go_roundw
              case rel => exact ⟨b + k, b + k, by go_num, by go_num, by omega, HO5, HR2⟩
              case measure => simp [intOf]; omega
            | false =>
              have HIn : Hid (∀ W : World, Calls Tryd.prog 52 #[.int .i64 (n : Int), .slice (some ⟨W.heap.size, 0, none⟩) 6 6] (W.alloc (.cells #[.int .i64 95, .int .i64 95, .int .i64 58, .int .i64 58, .int .i64 48, .int .i64 57] 3)) fun e w' => e = .returned (.bool false) ∧ W.alloc (.cells #[.int .i64 95, .int .i64 95, .int .i64 58, .int .i64 58, .int .i64 48, .int .i64 57] 3) = w') := hid fun W => by
                have := refIn_any (c := 6) (rs := [(95, 95), (58, 58), (48, 57)]) (z := (n : Int)) (rdI_new W [95, 95, 58, 58, 48, 57] #[.int .i64 95, .int .i64 95, .int .i64 58, .int .i64 58, .int .i64 48, .int .i64 57] rfl) (n := 6) rfl (by decide)
                rwa [hin] at this
              have HF : Hid (lab (bl s) = 0) := hid (Hl1.out Hb0.out (by rw [hopn, hin]))
              clear hf hopn HR hin
              go_wp2_with (first
                | (go_at_call 30; refine (HN.out _).mono ?_; rintro e w2 ⟨rfl, HO2⟩)
                | (go_at_call 51; refine (HFn.out _).mono ?_; rintro e w3 ⟨rfl, HO3⟩)
                | (go_at_call 52; refine (HIn.out _).mono ?_; rintro e w9 ⟨rfl, rfl⟩))
              go_ret
              exact ⟨by rw [HF.out]; rfl, hid (((HO.out.trans HO2.out).trans HO3.out).alloc _)⟩
        · have hb0' : ((b : Int) == 0) = false := by rw [beq_eq_false_iff_ne]; omega
          have HB : Hid (lab (bl s) = labW ((bl s).drop b) b best) := hid (by
            rcases HR.out with h | h
            · omega
            · exact h.2)
          clear HR hopn
          cases hl : letZ (n : Int) with
          | true =>
            have hn46 : ((n : Int) != 46) = true := by rw [bne_iff_ne]; intro e; rw [e] at hl; exact absurd hl (by decide)
            have HR2 : Hid ((b + k = 0 ∧ b + k = 0) ∨ (0 < b + k ∧ lab (bl s) = labW ((bl s).drop (b + k)) (b + k) (b + k))) := hid (.inr ⟨by omega, by rw [HB.out, Hlet.out hl]⟩)
            rw [hl] at HLn
            clear hl
            go_wp2_with (first
              | (go_at_call 30; refine (HN.out _).mono ?_; rintro e w2 ⟨rfl, HO2⟩)
              | (go_at_call 53; refine (HLn.out _).mono ?_; rintro e w4 ⟨rfl, HO4⟩))
            have HO5 : StU w w4 := hid ((HO.out.trans HO2.out).trans HO4.out)
            clear HO HO2 HO4
            go_roundw
            case rel => exact ⟨b + k, b + k, by go_num, by go_num, by omega, HO5, HR2⟩
            case measure => simp [intOf]; omega
          | false =>
            rw [hl] at HLn
            by_cases h46 : n = 46
            · have hn46 : ((n : Int) != 46) = false := by rw [bne_eq_false_iff_eq]; omega
              have HR2 : Hid ((b + k = 0 ∧ best = 0) ∨ (0 < b + k ∧ lab (bl s) = labW ((bl s).drop (b + k)) (b + k) best)) := hid (.inr ⟨by omega, by rw [HB.out, Hpt.out h46]⟩)
              clear hl h46
              go_wp2_with (first
                | (go_at_call 30; refine (HN.out _).mono ?_; rintro e w2 ⟨rfl, HO2⟩)
                | (go_at_call 53; refine (HLn.out _).mono ?_; rintro e w4 ⟨rfl, HO4⟩))
              have HO5 : StU w w4 := hid ((HO.out.trans HO2.out).trans HO4.out)
              clear HO HO2 HO4
              go_roundw
              case rel => exact ⟨best, b + k, by go_num, by go_num, by omega, HO5, HR2⟩
              case measure => simp [intOf]; omega
            · have hn46 : ((n : Int) != 46) = true := by rw [bne_iff_ne]; omega
              have HF : Hid (lab (bl s) = best) := hid (by rw [HB.out, Hstp.out hl h46])
              clear hl h46
              go_wp2_with (first
                | (go_at_call 30; refine (HN.out _).mono ?_; rintro e w2 ⟨rfl, HO2⟩)
                | (go_at_call 53; refine (HLn.out _).mono ?_; rintro e w4 ⟨rfl, HO4⟩))
              go_ret
              exact ⟨by rw [HF.out]; rfl, hid ((HO.out.trans HO2.out).trans HO4.out)⟩
    · have HF : Hid (lab (bl s) = best) := hid (by
        rcases HR.out with ⟨h1, h2⟩ | ⟨_, h2⟩
        · have : bl s = [] := List.length_eq_zero_iff.1 (by rw [hln]; omega)
          rw [this, lab_nil, h2]
        · rw [h2, List.drop_eq_nil_of_le (by rw [hln]; omega), shut_nil])
      have hlt' : ¬ (b : Int) < (s.size : Int) := by omega
      clear HR
      go_wp2_with fail
      go_ret
      exact ⟨by rw [HF.out]; rfl, HO⟩
end Go.Proofs.YtbbclcllkpabkaaDoor
