/- Label, Tag. -/
import Derived.Test.YtbbclcllkpabkaaDoorUt4
namespace Go.Proofs.YtbbclcllkpabkaaDoor
open Go.RowKit U G

/-! Runs of signs that are bytes. -/
theorem runS_nil (p : Int → Bool) : runS p [] = 0 := runS_stop (.inl (by rw [nxt_nil]))
theorem runS_b {p : Int → Bool} (hp : ∀ z, p z = true → z < 128) {b : Nat} {t : List Nat} (hb : Bys (b :: t)) : runS p (b :: t) = if p (b : Int) then 1 + runS p t else 0 := by
  by_cases h : b < 128
  · have e := nxt_asc h t
    cases hc : p (b : Int) with
    | true => rw [runS_step (by rw [e]; simp) (by rw [e]; exact hc), e, if_pos rfl]; rfl
    | false => rw [runS_stop (by rw [e]; exact .inr hc), if_neg (by decide)]
  · have hc : p (b : Int) = false := by
      cases hc : p (b : Int) with
      | false => rfl
      | true => have := hp _ hc; omega
    rw [hc, if_neg (by decide)]
    apply runS_stop
    by_cases h0 : (nxt (b :: t)).2 = 0
    · exact .inl h0
    · right
      have := nxt_high hb (by omega) h0
      cases hd : p ((nxt (b :: t)).1 : Int) with
      | false => rfl
      | true => have := hp _ hd; omega
theorem lat128 (z : Int) (h : latZ z = true) : z < 128 := by have := lat_lt h; omega
theorem ld128 (z : Int) (h : ldZ z = true) : z < 128 := by have := ld_lt h; omega
theorem tagM_A : ∀ (l : List Nat) (a : Nat), Bys l → tagM 1 l a a = tagM 4 (l.drop (runS latZ l)) (a + runS latZ l) (a + runS latZ l)
  | [], a, _ => by rw [runS_nil]; rfl
  | b :: t, a, hb => by
    rw [runS_b lat128 hb]
    have ho : okc 1 b = latZ (b : Int) := rfl
    cases hc : latZ (b : Int) with
    | true =>
      rw [if_pos rfl]
      conv => lhs; unfold tagM; rw [ho, hc, if_pos rfl]
      rw [show 1 + runS latZ t = runS latZ t + 1 by omega, List.drop_succ_cons, show a + (runS latZ t + 1) = (a + 1) + runS latZ t by omega]
      exact tagM_A t (a + 1) fun x hx => hb x (by simp [hx])
    | false =>
      simp only [Bool.false_eq_true, if_false, Nat.add_zero, List.drop_zero]
      unfold tagM
      rw [ho, hc, show okc 4 b = false from rfl]
      simp [hyc]
theorem tagM_B : ∀ (l : List Nat) (a : Nat), Bys l → tagM 3 l a a = tagM 4 (l.drop (runS ldZ l)) (a + runS ldZ l) (a + runS ldZ l)
  | [], a, _ => by rw [runS_nil]; rfl
  | b :: t, a, hb => by
    rw [runS_b ld128 hb]
    have ho : okc 3 b = ldZ (b : Int) := rfl
    cases hc : ldZ (b : Int) with
    | true =>
      rw [if_pos rfl]
      conv => lhs; unfold tagM; rw [ho, hc, if_pos rfl]
      rw [show 1 + runS ldZ t = runS ldZ t + 1 by omega, List.drop_succ_cons, show a + (runS ldZ t + 1) = (a + 1) + runS ldZ t by omega]
      exact tagM_B t (a + 1) fun x hx => hb x (by simp [hx])
    | false =>
      simp only [Bool.false_eq_true, if_false, Nat.add_zero, List.drop_zero]
      unfold tagM
      rw [ho, hc, show okc 4 b = false from rfl]
      simp [hyc]
theorem tag_first {l : List Nat} (hb : Bys l) : tag l = if runS latZ l = 0 then 0 else tagM 4 (l.drop (runS latZ l)) (runS latZ l) (runS latZ l) := by
  unfold tag
  cases l with
  | nil => rw [runS_nil]; rfl
  | cons b t =>
    rw [runS_b lat128 hb]
    have ho : okc 0 b = latZ (b : Int) := rfl
    cases hc : latZ (b : Int) with
    | true =>
      rw [if_pos rfl, if_neg (by omega)]
      conv => lhs; unfold tagM; rw [ho, hc, if_pos rfl]
      rw [show 1 + runS latZ t = runS latZ t + 1 by omega, List.drop_succ_cons, show runS latZ t + 1 = (0 + 1) + runS latZ t by omega]
      exact tagM_A t (0 + 1) fun x hx => hb x (by simp [hx])
    | false =>
      simp only [Bool.false_eq_true, if_false, if_true]
      unfold tagM
      rw [ho, hc]
      simp [hyc]
theorem tag_hy {t : List Nat} (hb : Bys t) (a : Nat) : tagM 4 (45 :: t) a a = if runS ldZ t = 0 then a else tagM 4 (t.drop (runS ldZ t)) (a + 1 + runS ldZ t) (a + 1 + runS ldZ t) := by
  conv => lhs; unfold tagM; rw [show okc 4 45 = false from rfl, if_neg (by decide), if_pos (by simp [hyc])]
  cases t with
  | nil => rw [runS_nil]; rfl
  | cons b t =>
    rw [runS_b ld128 hb]
    have ho : okc 2 b = ldZ (b : Int) := rfl
    cases hc : ldZ (b : Int) with
    | true =>
      rw [if_pos rfl, if_neg (by omega)]
      conv => lhs; unfold tagM; rw [ho, hc, if_pos rfl]
      rw [show 1 + runS ldZ t = runS ldZ t + 1 by omega, List.drop_succ_cons, show a + 1 + (runS ldZ t + 1) = (a + 1 + 1) + runS ldZ t by omega]
      exact tagM_B t (a + 1 + 1) fun x hx => hb x (by simp [hx])
    | false =>
      simp only [Bool.false_eq_true, if_false, if_true]
      unfold tagM
      rw [ho, hc]
      simp [hyc]
theorem tag_no {l : List Nat} {a : Nat} (h : l.getD 0 0 ≠ 45) : tagM 4 l a a = a := by
  cases l with
  | nil => rfl
  | cons b t =>
    unfold tagM
    have h : b ≠ 45 := h
    rw [show okc 4 b = false from rfl, if_neg (by decide), if_neg (by simp [h])]
theorem hy_of {l : List Nat} (hb : Bys l) (h0 : (nxt l).2 ≠ 0) (hp : hyZ ((nxt l).1 : Int) = true) : (nxt l).2 = 1 ∧ l = 45 :: l.drop 1 := by
  have h1 : (nxt l).1 = 45 := by unfold hyZ at hp; simp at hp; omega
  have := nxt_one hb h0 (by omega)
  rw [h1] at this
  exact this
theorem hy_not {l : List Nat} (h : (nxt l).2 = 0 ∨ hyZ ((nxt l).1 : Int) = false) : l.getD 0 0 ≠ 45 := by
  cases l with
  | nil => simp
  | cons b t =>
    rintro e
    have e : b = 45 := e
    subst e
    rw [nxt_asc (by decide)] at h
    rcases h with h | h
    · cases h
    · exact absurd h (by decide)
theorem not_such {p : Int → Bool} {n k : Nat} (h : ¬ (k ≠ 0 ∧ p (n : Int) = true)) : k = 0 ∨ p (n : Int) = false := by
  by_cases h1 : k = 0
  · exact .inl h1
  · right
    cases hc : p (n : Int) with
    | false => rfl
    | true => exact absurd ⟨h1, hc⟩ h
set_option maxHeartbeats 2000000 in
theorem label_any {s : ByteArray} {w : World} (hT : Tb w) (hs : s.size ≤ 140737488355328) :
    Calls Tryd.prog 39 #[.string s] w fun e w' => e = .returned (.int .i64 ((lab (bl s) : Nat) : Int)) ∧ StU w w' := by
  have HT : Hid (∀ W, Only (fun _ => False) w W → Tb W) := hid fun W hW => hT.only hW no_ no_
  have HI : Hid (CuS (w.alloc (.cells #[.string s, .int .i64 0] 52)) w.heap.size s 0 ∧ Only (fun _ => False) w (w.alloc (.cells #[.string s, .int .i64 0] 52))) := hid ⟨cu_new w s, (Only.refl _ w).alloc _⟩
  have hby := bl_bys s
  have hln := bl_len s
  by_cases h : (nxt (bl s)).2 ≠ 0 ∧ opnZ ((nxt (bl s)).1 : Int) = true
  · have HO := hid (one_yes such_opens HI.out.1 (HT.out _ HI.out.2) (by omega) hs h.1 h.2)
    have hl0 : lab (bl s) = labW ((bl s).drop (nxt (bl s)).2) (nxt (bl s)).2 (nxt (bl s)).2 := by unfold lab; rw [if_pos h]
    have hk := nxt_le hby
    rw [hln] at hk
    rw [List.drop_zero, Nat.zero_add] at HO
    generalize (nxt (bl s)).2 = k at *
    have hq := runS_le letZ _ _ (bys_drop hby k) (Nat.le_refl _)
    rw [List.length_drop, hln] at hq
    have hd := runS_done letZ _ ((bl s).drop k) (Nat.le_refl _)
    rw [List.drop_drop] at hd
    rw [labW_lets _ _ _ _ (Nat.le_refl _), List.drop_drop, show (if runS letZ ((bl s).drop k) = 0 then k else k + runS letZ ((bl s).drop k)) = k + runS letZ ((bl s).drop k) by split <;> omega] at hl0
    have HSome : Hid (∀ W, CuS W w.heap.size s k → Only (fun _ => False) w W → Calls Tryd.prog 64 #[.pointer (some ⟨w.heap.size, 0, none⟩), .func (.func 65) #[] #[]] W (SomeE W w.heap.size s k (runS letZ ((bl s).drop k)))) := hid fun W hc hW => some_any such_letter hc (HT.out _ hW) hk hs
    generalize runS letZ ((bl s).drop k) = q0 at *
    have Hl0 := hid hl0
    have Hd := hid hd
    clear hl0 hd h
    go_enter Tryd.func39, Tryd.ntmps39
    go_wp2_with (first
      | (go_at_call 62; refine HO.out.mono ?_; rintro e w2 ⟨rfl, HB⟩; have HB2 := hid (only_new HI.out.2 HB.out.2))
      | (go_at_call 64; refine (HSome.out _ HB.out.1 HB2.out).mono ?_; rintro e w3 ⟨rfl, HC⟩; have HC2 := hid (only_new HB2.out HC.out.2); have d1 := World.rowIs.cell HC.out.1 (i := 1) (by omega); simp only [cuF, if_neg (show ¬ (1 : Nat) = 0 by omega)] at d1))
    have HJ : Hid (CuS w3 w.heap.size s (k + q0) ∧ Only (fun _ => False) w w3) := hid ⟨HC.out.1, HC2.out⟩
    clear HC HC2 HB HB2 HO HSome HI d1
    go_loopw [4] (fun v wr => ∃ E : Nat, v = .int .i64 (E : Int) ∧ E ≤ s.size ∧ Hid (CuS wr w.heap.size s E ∧ Only (fun _ => False) w wr) ∧ Hid (lab (bl s) = labW ((bl s).drop E) E E ∧ ((nxt ((bl s).drop E)).2 = 0 ∨ letZ ((nxt ((bl s).drop E)).1 : Int) = false))) (fun v _ => s.size - (intOf v).toNat)
    case atStart => exact ⟨k + q0, rfl, by omega, HJ, hid ⟨Hl0.out, Hd.out⟩⟩
    case round =>
      obtain ⟨E, rfl, hE, HJ2, HL⟩ := hrel
      clear HJ Hl0 Hd
      have hq := runS_le ptZ _ _ (bys_drop hby E) (Nat.le_refl _)
      rw [List.length_drop, hln] at hq
      have HP := hid (some_any such_point HJ2.out.1 (HT.out _ HJ2.out.2) hE hs)
      have hpd := runS_done ptZ _ ((bl s).drop E) (Nat.le_refl _)
      rw [List.drop_drop] at hpd
      have hlp := labW_pts _ ((bl s).drop E) E E (Nat.le_refl _)
      rw [List.drop_drop] at hlp
      by_cases hq0 : runS ptZ ((bl s).drop E) = 0
      · rw [hq0, Nat.add_zero] at hpd
        have HF : Hid (lab (bl s) = E) := hid (by
          rw [HL.out.1]
          apply labW_stop
          rcases HL.out.2 with h | h
          · exact .inl h
          · rcases hpd with h2 | h2
            · exact .inl h2
            · exact .inr ⟨h, fun e => by rw [e] at h2; exact absurd h2 (by decide)⟩)
        rw [hq0] at HP
        clear hpd hlp hq0 hq HL
        go_wp2_with (go_at_call 64; refine HP.out.mono ?_; rintro e w4 ⟨rfl, HC⟩; have HC2 := hid (only_new HJ2.out.2 HC.out.2))
        go_ret
        exact ⟨by rw [HF.out]; rfl, HC2⟩
      · have HSome : Hid (∀ W, CuS W w.heap.size s (E + runS ptZ ((bl s).drop E)) → Only (fun _ => False) w W → Calls Tryd.prog 64 #[.pointer (some ⟨w.heap.size, 0, none⟩), .func (.func 65) #[] #[]] W (SomeE W w.heap.size s (E + runS ptZ ((bl s).drop E)) (runS letZ ((bl s).drop (E + runS ptZ ((bl s).drop E)))))) := hid fun W hc hW => some_any such_letter hc (HT.out _ hW) (by omega) hs
        have hdp : decide (0 < runS ptZ ((bl s).drop E)) = true := decide_eq_true (by omega)
        unfold SomeE at HP
        rw [hdp] at HP
        clear hdp
        generalize runS ptZ ((bl s).drop E) = q at *
        have hr := runS_le letZ _ _ (bys_drop hby (E + q)) (Nat.le_refl _)
        rw [List.length_drop, hln] at hr
        have hrd := runS_done letZ _ ((bl s).drop (E + q)) (Nat.le_refl _)
        rw [List.drop_drop] at hrd
        replace hlp := hlp.trans (labW_lets _ _ _ _ (Nat.le_refl _))
        rw [List.drop_drop] at hlp
        by_cases hr0 : runS letZ ((bl s).drop (E + q)) = 0
        · rw [hr0, Nat.add_zero] at hrd
          rw [if_pos hr0, hr0, Nat.add_zero] at hlp
          have HF : Hid (lab (bl s) = E) := hid (by
            rw [HL.out.1, hlp]
            apply labW_stop
            rcases hrd with h | h
            · exact .inl h
            · rcases hpd with h2 | h2
              · exact .inl h2
              · exact .inr ⟨h, fun e => by rw [e] at h2; exact absurd h2 (by decide)⟩)
          unfold SomeE at HSome
          rw [hr0, show decide (0 < 0) = false from rfl] at HSome
          clear hpd hlp hrd hr0 hr hq HL
          go_wp2_with (go_at_call 64; first
            | (refine (HSome.out _ HC.out.1 HC2.out).mono ?_; rintro e w5 ⟨rfl, HD⟩; have HD2 := hid (only_new HC2.out HD.out.2))
            | (refine HP.out.mono ?_; rintro e w4 ⟨rfl, HC⟩; have HC2 := hid (only_new HJ2.out.2 HC.out.2)))
          go_ret
          exact ⟨by rw [HF.out]; rfl, HD2⟩
        · have hdp : decide (0 < runS letZ ((bl s).drop (E + q))) = true := decide_eq_true (by omega)
          unfold SomeE at HSome
          rw [hdp] at HSome
          clear hdp
          rw [if_neg hr0] at hlp
          have HL2 : Hid (lab (bl s) = labW ((bl s).drop (E + q + runS letZ ((bl s).drop (E + q)))) (E + q + runS letZ ((bl s).drop (E + q))) (E + q + runS letZ ((bl s).drop (E + q))) ∧ ((nxt ((bl s).drop (E + q + runS letZ ((bl s).drop (E + q))))).2 = 0 ∨ letZ ((nxt ((bl s).drop (E + q + runS letZ ((bl s).drop (E + q))))).1 : Int) = false)) := hid ⟨HL.out.1.trans hlp, hrd⟩
          clear hpd hlp hrd hq HL
          generalize runS letZ ((bl s).drop (E + q)) = r at *
          go_wp2_with (go_at_call 64; first
            | (refine (HSome.out _ HC.out.1 HC2.out).mono ?_; rintro e w5 ⟨rfl, HD⟩; have HD2 := hid (And.intro HD.out.1 (only_new HC2.out HD.out.2)); have d1 := World.rowIs.cell HD.out.1 (i := 1) (by omega); simp only [cuF, if_neg (show ¬ (1 : Nat) = 0 by omega)] at d1)
            | (refine HP.out.mono ?_; rintro e w4 ⟨rfl, HC⟩; have HC2 := hid (only_new HJ2.out.2 HC.out.2)))
          go_roundw
          case rel => exact ⟨E + q + r, rfl, by omega, HD2, HL2⟩
          case measure => simp [intOf]; omega
  · have h' := not_such h
    have HO := hid (one_no such_opens HI.out.1 (HT.out _ HI.out.2) (by omega) (a := 0) (by simpa using h'))
    have hl0 : lab (bl s) = 0 := by unfold lab; rw [if_neg h]
    rw [hl0]
    clear h h' hl0
    go_enter Tryd.func39, Tryd.ntmps39
    go_wp2_with (go_at_call 62; refine HO.out.mono ?_; rintro e w2 ⟨rfl, HB⟩)
    go_ret
    exact ⟨rfl, hid (HI.out.2.trans HB.out)⟩
theorem drop_one_of {l t : List Nat} {E : Nat} (h : l.drop E = 45 :: t) : l.drop (E + 1) = t := by
  rw [← List.drop_drop, h]; rfl
set_option maxHeartbeats 2000000 in
theorem tag_any {s : ByteArray} {w : World} (hT : Tb w) (hs : s.size ≤ 140737488355328) :
    Calls Tryd.prog 42 #[.string s] w fun e w' => e = .returned (.int .i64 ((tag (bl s) : Nat) : Int)) ∧ StU w w' := by
  have HT : Hid (∀ W, Only (fun _ => False) w W → Tb W) := hid fun W hW => hT.only hW no_ no_
  have HI : Hid (CuS (w.alloc (.cells #[.string s, .int .i64 0] 52)) w.heap.size s 0 ∧ Only (fun _ => False) w (w.alloc (.cells #[.string s, .int .i64 0] 52))) := hid ⟨cu_new w s, (Only.refl _ w).alloc _⟩
  have hby := bl_bys s
  have hln := bl_len s
  have hft := tag_first hby
  have hq := runS_le latZ _ _ hby (Nat.le_refl _)
  rw [hln] at hq
  have HP := hid (some_any such_latin HI.out.1 (HT.out _ HI.out.2) (by omega) hs)
  rw [List.drop_zero] at HP
  by_cases hm0 : runS latZ (bl s) = 0
  · rw [if_pos hm0] at hft
    rw [hft]
    unfold SomeE at HP
    rw [hm0, show decide (0 < 0) = false from rfl] at HP
    clear hm0 hft hq
    go_enter Tryd.func42, Tryd.ntmps42
    go_wp2_with (go_at_call 64; refine HP.out.mono ?_; rintro e w2 ⟨rfl, HB⟩; have HB2 := hid (only_new HI.out.2 HB.out.2))
    go_ret
    exact ⟨rfl, HB2⟩
  · rw [if_neg hm0] at hft
    have hdp : decide (0 < runS latZ (bl s)) = true := decide_eq_true (by omega)
    unfold SomeE at HP
    rw [hdp, Nat.zero_add] at HP
    clear hdp
    generalize runS latZ (bl s) = m at *
    have Hft := hid hft
    clear hft
    go_enter Tryd.func42, Tryd.ntmps42
    go_wp2_with (go_at_call 64; refine HP.out.mono ?_; rintro e w2 ⟨rfl, HB⟩; have HB2 := hid (And.intro HB.out.1 (only_new HI.out.2 HB.out.2)); have d1 := World.rowIs.cell HB.out.1 (i := 1) (by omega); simp only [cuF, if_neg (show ¬ (1 : Nat) = 0 by omega)] at d1)
    clear HB HP HI d1
    go_loopw [4] (fun v wr => ∃ E : Nat, v = .int .i64 (E : Int) ∧ E ≤ s.size ∧ Hid (CuS wr w.heap.size s E ∧ Only (fun _ => False) w wr) ∧ Hid (tag (bl s) = tagM 4 ((bl s).drop E) E E)) (fun v _ => s.size - (intOf v).toNat)
    case atStart => exact ⟨m, rfl, by omega, HB2, Hft⟩
    case round =>
      obtain ⟨E, rfl, hE, HJ, HL⟩ := hrel
      clear HB2 Hft
      by_cases h : (nxt ((bl s).drop E)).2 ≠ 0 ∧ hyZ ((nxt ((bl s).drop E)).1 : Int) = true
      · obtain ⟨h1, h2⟩ := hy_of (bys_drop hby E) h.1 h.2
        have HO := hid (one_yes such_hyphen HJ.out.1 (HT.out _ HJ.out.2) hE hs h.1 h.2)
        rw [h1] at HO
        have hle := nxt_le (bys_drop hby E)
        rw [h1, List.length_drop, hln] at hle
        rw [List.drop_drop] at h2
        have HSome : Hid (∀ W, CuS W w.heap.size s (E + 1) → Only (fun _ => False) w W → Calls Tryd.prog 64 #[.pointer (some ⟨w.heap.size, 0, none⟩), .func (.func 69) #[] #[]] W (SomeE W w.heap.size s (E + 1) (runS ldZ ((bl s).drop (E + 1))))) := hid fun W hc hW => some_any such_ld hc (HT.out _ hW) (by omega) hs
        have hr := runS_le ldZ _ _ (bys_drop hby (E + 1)) (Nat.le_refl _)
        rw [List.length_drop, hln] at hr
        have hty := tag_hy (bys_drop hby (E + 1)) E
        rw [← h2, List.drop_drop] at hty
        have hL := HL.out.trans hty
        by_cases hr0 : runS ldZ ((bl s).drop (E + 1)) = 0
        · rw [if_pos hr0] at hL
          have HF := hid hL
          unfold SomeE at HSome
          rw [hr0, show decide (0 < 0) = false from rfl] at HSome
          clear h h1 h2 hty hL hr hr0 HL hle
          go_wp2_with (first
            | (go_at_call 62; refine HO.out.mono ?_; rintro e w4 ⟨rfl, HC⟩; have HC2 := hid (only_new HJ.out.2 HC.out.2))
            | (go_at_call 64; refine (HSome.out _ HC.out.1 HC2.out).mono ?_; rintro e w5 ⟨rfl, HD⟩; have HD2 := hid (only_new HC2.out HD.out.2)))
          go_ret
          exact ⟨by rw [HF.out]; rfl, HD2⟩
        · rw [if_neg hr0] at hL
          have hdp : decide (0 < runS ldZ ((bl s).drop (E + 1))) = true := decide_eq_true (by omega)
          unfold SomeE at HSome
          rw [hdp] at HSome
          have HF := hid hL
          clear hdp h h1 h2 hty hL HL
          generalize runS ldZ ((bl s).drop (E + 1)) = r at *
          go_wp2_with (first
            | (go_at_call 62; refine HO.out.mono ?_; rintro e w4 ⟨rfl, HC⟩; have HC2 := hid (only_new HJ.out.2 HC.out.2))
            | (go_at_call 64; refine (HSome.out _ HC.out.1 HC2.out).mono ?_; rintro e w5 ⟨rfl, HD⟩; have HD2 := hid (And.intro HD.out.1 (only_new HC2.out HD.out.2)); have d1 := World.rowIs.cell HD.out.1 (i := 1) (by omega); simp only [cuF, if_neg (show ¬ (1 : Nat) = 0 by omega)] at d1))
          go_roundw
          case rel => exact ⟨E + 1 + r, rfl, by omega, HD2, HF⟩
          case measure => simp [intOf]; omega
      · have h' := not_such h
        have HO := hid (one_no such_hyphen HJ.out.1 (HT.out _ HJ.out.2) hE h')
        have HF : Hid (tag (bl s) = E) := hid (by rw [HL.out]; exact tag_no (hy_not h'))
        clear h h' HL
        go_wp2_with (go_at_call 62; refine HO.out.mono ?_; rintro e w4 ⟨rfl, HC⟩; have HC2 := hid (HJ.out.2.trans HC.out))
        go_ret
        exact ⟨by rw [HF.out]; rfl, HC2⟩
end Go.Proofs.YtbbclcllkpabkaaDoor
