/- The document's Fits; TuckerFits. -/
import Derived.Test.YthfnpgmjbfbocaaTkF
namespace Go.Proofs.Ythfnpgmjbfbocaa
open Go.RowKit

theorem OwI.rebase {w0 w1 w : World} {v : Value} {zs : List Int} (h : OwI w1 w v zs) (ho : Only (fun _ => False) w0 w1) : OwI w0 w v zs := by
  refine ⟨⟨h.own.1, ?_⟩, ho.trans h.only⟩
  rcases h.own.2 with h0 | ⟨g, cap, cur, e, hge, hr⟩
  · exact .inl h0
  · exact .inr ⟨g, cap, cur, e, Nat.le_trans ho.size hge, hr⟩
theorem rd_from {w : World} {g n k : Nat} {zs : List Int} (h : RdI w (some ⟨g, 0, none⟩) zs) (hn : zs.length = n) (hk : k ≤ n) : RdV w (some ⟨g, k, none⟩) (n - k) (vI (zs.drop k)) := by
  intro h0
  obtain ⟨b, off, e, hc⟩ := h (by omega)
  injection e with e
  injection e with e1 e2
  subst e1
  subst e2
  refine ⟨g, k, rfl, fun j hj => ?_⟩
  have := hc (k + j) (by omega)
  rw [Nat.zero_add] at this
  rw [this]
  unfold vI
  simp [List.getD, List.getElem?_drop]
theorem keepI {w0 w' : World} {v : Value} {zs : List Int} (h : Hid (OwI w0 w' v zs)) : True ∧ StO w0 w' := ⟨trivial, hid h.out.only⟩
theorem fit_single {z : Int} {zs : List Int} (h : Tr 0 [z] ↔ Tr 0 zs) (h1 : 2 ≤ zs.length) (h2 : zs.length ≤ 257) : (z == 0) = fitB zs := fitB_of (by
  constructor
  · intro hz
    have : z = 0 := by simpa using hz
    subst this
    exact .inr ⟨h1, h2, h.1 (.one 0)⟩
  · rintro (⟨h3, _⟩ | ⟨_, _, h3⟩)
    · omega
    · have := (h.2 h3).single
      subst this
      rfl)
theorem fit_no {zs : List Int} (h : ¬ Tr 0 zs) (h1 : 2 ≤ zs.length) : false = fitB zs := fitB_of ⟨fun h => (by cases h), by
  rintro (⟨h3, _⟩ | ⟨_, _, h3⟩)
  · omega
  · exact absurd h3 h⟩

theorem OwI.put' {w0 w : World} {g n c k : Nat} {zs : List Int} (h : OwI w0 w (.slice (some ⟨g, 0, none⟩) n c) zs) (hk : k < n) : w.cell? ⟨g, k, none⟩ = some (.int .i64 (zs.getD k 0)) ∧ w.frozen? ⟨g, k, none⟩ = false ∧ g < w.heap.size ∧ n ≤ c ∧ c ≤ maxLen ∧ ∀ x : Int, OwI w0 (w.setCell ⟨g, k, none⟩ (.int .i64 x)) (.slice (some ⟨g, 0, none⟩) n c) (zs.set k x) := by
  obtain ⟨g', e, h1, h2, h3, h4⟩ := h.put hk
  injection e with e
  injection e with e1 _
  subst e1
  obtain ⟨A', c', e, _, _, _, h5, h6⟩ := h.shape
  injection e with _ e2 e3
  subst e2
  subst e3
  exact ⟨h1, h2, h3, h5, h6, h4⟩
theorem next_inI {a : List Int} {b : Nat} {m : Int} (h : InI a) (h1 : 1 ≤ m) (h2 : m ≤ 9223372036854775807) : InI (a.take b ++ [m - 1] ++ a.drop (b + 2)) := fun z hz => by
  rcases List.mem_append.1 hz with hz | hz
  · rcases List.mem_append.1 hz with hz | hz
    · exact h z (List.mem_of_mem_take hz)
    · simp at hz; omega
  · exact h z (List.mem_of_mem_drop hz)
theorem next_len {a : List Int} {b : Nat} {m : Int} (h : b + 1 < a.length) : (a.take b ++ [m - 1] ++ a.drop (b + 2)).length = a.length - 1 := by
  rw [List.length_append, List.length_append, List.length_take, List.length_drop]
  simp
  omega
set_option maxRecDepth 100000 in
set_option maxHeartbeats 8000000 in
theorem refFits_main {A : Option Addr} {cap : Nat} {zs : List Int} {w : World} (hz : RdI w A zs) (hi : InI zs) (hA : A = none → zs.length = 0 ∧ cap = 0) (h1 : 2 ≤ zs.length) (h2 : zs.length ≤ 257) :
    Calls Try.prog 44 #[.slice A zs.length cap] w fun e w' => e = .returned (.bool (fitB zs)) ∧ StO w w' := by
  have HZ : Hid (RdI w A zs) := hid hz
  have HI := hid hi
  have HA := hid hA
  have HNo : Hid (¬ Tr 0 zs → false = fitB zs) := hid fun h => fit_no h h1
  have HSi : Hid (∀ z, (Tr 0 [z] ↔ Tr 0 zs) → (z == 0) = fitB zs) := hid fun z h => fit_single h h1 h2
  clear hz hi hA
  obtain ⟨fb, hfb⟩ : ∃ fb, fb = fitB zs := ⟨_, rfl⟩
  rw [← hfb] at HNo HSi ⊢
  clear hfb
  obtain ⟨N, hN⟩ : ∃ N, N = zs.length := ⟨_, rfl⟩
  have HN := hid hN
  rw [← hN] at HA h1 h2 ⊢
  clear hN
  have h1' : ¬ (N : Int) < 1 := by omega
  have h2' : ¬ (257 : Int) < (N : Int) := by omega
  have h3' : ¬ (N : Int) = 1 := by omega
  go_enter Try.func44, Try.ntmps44
  go_wp2_with (at_builtin; (refine wpList_addI w _ rfl (.tmp 21) (.tmp 22) rfl _ [] rfl (hid (OwI.begin (Only.refl _ _))) _ N _ zs rfl HN.out HA (hid (HZ.out.only ((Only.refl (fun _ => False) _).alloc _) fun _ _ _ => no_)) (by have := HN.out; simp; omega) ?_); intro v' w1 H1'; obtain ⟨A1, c1, rfl, H1⟩ := H1'.out.made (n := N) (by simp [HN.out]))
  have HOw : Hid (OwI w w1 (.slice A1 N c1) zs) := hid (by have := H1.out; rw [List.nil_append] at this; exact this)
  have HT0 : Hid (Tr 0 zs ↔ Tr 0 zs) := hid Iff.rfl
  have HN' : Hid (zs.length = N) := hid HN.out.symm
  clear H1 H1'
  go_loopw [3] (fun v wr => ∃ (a : List Int) (n c : Nat) (B : Option Addr), v = .slice B n c ∧ 1 ≤ n ∧ n ≤ 257 ∧ Hid (a.length = n) ∧ Hid (Tr 0 a ↔ Tr 0 zs) ∧ Hid (InI a) ∧ Hid (OwI w wr (.slice B n c) a)) (fun v _ => lenV v)
  case atStart => exact ⟨zs, N, c1, A1, rfl, by omega, by omega, HN', HT0, HI, HOw⟩
  case round =>
    obtain ⟨a, n, c, B, rfl, hn1, hn2, HLn, HTr, HIa, HO⟩ := hrel
    clear HOw HT0 HZ
    by_cases hp : 1 < n
    · have hp' : (1 : Int) < (n : Int) := by omega
      go_wp2_with fail
      obtain ⟨wo, rfl⟩ : ∃ wo : World, wo = wr := ⟨_, rfl⟩
      go_loopw [4, 5] (fun s4 s5 wr => ∃ b i : Nat, b < i ∧ i ≤ n ∧ s4 = .int .i64 b ∧ s5 = .int .i64 i ∧ Hid (MaxAt a b i) ∧ Hid (∃ d, wr = wo.drewN d)) (fun _ s5 _ => n - (intOf s5).toNat)
      case atStart => exact ⟨0, 1, by omega, by omega, rfl, rfl, hid (MaxAt.start a), hid ⟨0, rfl⟩⟩
      case round =>
        obtain ⟨b, i, hbi, hin, rfl, rfl, HM, HW⟩ := hrel
        obtain ⟨d, rfl⟩ := HW.out
        clear HW
        by_cases hpi : i < n
        · obtain ⟨g, off, hB, hci, _⟩ := HO.out.rd.1.at (k := i) (by rw [HLn.out]; exact hpi)
          obtain ⟨g2, off2, hB2, hcb, _⟩ := HO.out.rd.1.at (k := b) (by rw [HLn.out]; omega)
          rw [hB] at hB2
          injection hB2 with hB2
          injection hB2 with e1 e2
          subst e1
          subst e2
          subst hB
          unfold vI at hci hcb
          by_cases hx : a.getD b 0 < a.getD i 0
          · have HM2 := hid (HM.out.more hx)
            clear HM
            generalize a.getD b 0 = y at *
            generalize a.getD i 0 = x at *
            go_wp2
            go_quiet (fail)
            go_wp2
            go_roundw
            case rel => exact ⟨i, i + 1, by omega, by omega, rfl, by go_num, HM2, hid ⟨_, rfl⟩⟩
            case measure => simp [intOf]; omega
          · have HM2 := hid (HM.out.less hx)
            clear HM
            generalize a.getD b 0 = y at *
            generalize a.getD i 0 = x at *
            go_wp2
            go_quiet (fail)
            go_wp2
            go_roundw
            case rel => exact ⟨b, i + 1, by omega, by omega, rfl, by go_num, HM2, hid ⟨_, rfl⟩⟩
            case measure => simp [intOf]; omega
        · obtain rfl : i = n := by omega
          have hbn : b < a.length := by rw [HLn.out]; exact hbi
          have HMx : Hid (MaxAt a b a.length) := hid (by rw [HLn.out]; exact HM.out)
          have h2l : 2 ≤ a.length := by rw [HLn.out]; omega
          obtain ⟨gg, rfl, cb, fb', ltb, HPut⟩ := HO.out.put hbi
          have HO' : Hid (∀ k, StO w ((wo.drewN d).drewN k)) := hid fun k => hid ((HO.out.only.drewN d).drewN k)
          clear HM
          by_cases hm1 : a.getD b 0 < 1
          · have HF := hid (HNo.out fun h => HMx.out.no h2l (.inl hm1) (HTr.out.2 h))
            clear HPut hbn h2l
            generalize a.getD b 0 = m at *
            have hd : decide (m < 1) = true := decide_eq_true hm1
            go_wp2
            go_quiet (fail)
            go_wp2
            go_ret
            exact ⟨ret_bool HF.out, HO'.out _⟩
          · by_cases hb1 : b + 1 = i
            · have HF := hid (HNo.out fun h => HMx.out.no h2l (.inr (.inl (by rw [HLn.out]; exact hb1))) (HTr.out.2 h))
              have hb1' : (b : Int) + 1 = (i : Int) := by omega
              clear HPut hbn h2l
              generalize a.getD b 0 = m at *
              have hd : decide (m < 1) = false := decide_eq_false hm1
              have hd2 : decide ((b : Int) + 1 = (i : Int)) = true := decide_eq_true hb1'
              go_wp2
              go_quiet (fail)
              go_wp2
              go_ret
              exact ⟨ret_bool HF.out, HO'.out _⟩
            · have hb1' : ¬ (b : Int) + 1 = (i : Int) := by omega
              obtain ⟨g3, off3, hB3, cb1, _⟩ := HO.out.rd.1.at (k := b + 1) (by rw [HLn.out]; omega)
              injection hB3 with hB3
              injection hB3 with e1 e2
              subst e1
              subst e2
              unfold vI at cb1
              by_cases hx : a.getD (b + 1) 0 = a.getD b 0
              · have HMy := hid (HMx.out.yes (by rw [HLn.out]; omega) hx)
                have hab : b + 1 < a.length := by rw [HLn.out]; omega
                have hmI := HIa.out _ (getD_mem hbn)
                rw [hx] at cb1
                have HO5 : Hid (∀ k, OwI w ((wo.drewN d).drewN k) (.slice (some ⟨gg, 0, none⟩) i c) a) := hid fun k => HO.out.carry (((Only.refl _ _).drewN d).drewN k)
                clear HPut h2l hx HNo HSi HI HMx
                obtain ⟨m, hm⟩ : ∃ m, m = a.getD b 0 := ⟨_, rfl⟩
                rw [← hm] at cb1 cb hm1 HMy hmI
                have Hm := hid hm
                have HNl := hid (next_len (m := m) hab)
                have HNi : Hid (InI (a.take b ++ [m - 1] ++ a.drop (b + 2))) := hid (next_inI HIa.out (by omega) hmI.2)
                have Hset : Hid ((a.set b (m - 1)).take (b + 1) = a.take b ++ [m - 1] ∧ (a.set b (m - 1)).drop (b + 2) = a.drop (b + 2) ∧ (a.set b (m - 1)).length = i) := hid ⟨ref_take hbn _, ref_drop _, by rw [List.length_set, HLn.out]⟩
                clear hm hab hbn
                have hd : decide (m < 1) = false := decide_eq_false hm1
                have hd2 : decide ((b : Int) + 1 = (i : Int)) = false := decide_eq_false hb1'
                have hd4 : ((b : Int) + 1 == (i : Int)) = false := by simp; omega
                have hb5 : (b : Int) + 1 < (i : Int) := by omega
                have hb6 : (0 : Int) ≤ (b : Int) + 1 := by omega
                have hwb : IntKind.i64.wrap ((b : Int) + 1) = (b : Int) + 1 := by rw [IntKind.wrap_i64]; omega
                obtain ⟨wd, hwd⟩ : ∃ wd, wd = wo.drewN d := ⟨_, rfl⟩
                have cb1' : wd.cell? ⟨gg, b + 1, none⟩ = some (.int .i64 m) := by rw [hwd]; rw [Nat.zero_add] at cb1; exact cb1
                have cb' : wd.cell? ⟨gg, b, none⟩ = some (.int .i64 m) := by rw [hwd]; exact cb
                have HO6 : Hid (OwI w wd.drew (.slice (some ⟨gg, 0, none⟩) i c) a) := hid (by rw [hwd]; exact HO5.out 1)
                rw [← hwd]
                clear hwd cb cb1 HO HO' HO5 HIa
                go_wp2_with fail
                go_region_held3 (fun w' => w'.cell? ⟨gg, b, none⟩ = some (.int .i64 m) ∧ w'.cell? ⟨gg, b + 1, none⟩ = some (.int .i64 m) ∧ StO wd w')
                  (first | assumption | exact ⟨cb', cb1', hid (Only.refl _ _)⟩ | exact ⟨cb', cb1', hid (Only.refl _ _).drew⟩ | exact ⟨by assumption, by assumption, by assumption⟩) (fail)
                obtain ⟨cc, fc, ltc, hic, hcm, hput⟩ := HO6.out.put' hbi
                rw [← Hm.out] at cc
                unfold maxLen at hcm
                have HPut := hid (hput (m - 1))
                clear hput HO6 cb' cb1'
                generalize wd.drew = w4 at *
                go_upto_region 16 with fail
                obtain ⟨w5, hw5⟩ : ∃ w5, w5 = w4.setCell ⟨gg, b, none⟩ (.int .i64 (m - 1)) := ⟨_, rfl⟩
                rw [← hw5] at HPut ⊢
                clear hw5 cc fc ltc
                have hwb2 : IntKind.i64.wrap ((b : Int) + 2) = (b : Int) + 2 := by rw [IntKind.wrap_i64]; omega
                have hb7 : (b : Int) + 2 ≤ (i : Int) := by omega
                have hb8 : (b : Int) + 1 ≤ (c : Int) := by omega
                have hb9 : (i : Int) ≤ (c : Int) := by omega
                have hb10 : (0 : Int) ≤ (b : Int) + 2 := by omega
                have et1 : ((b : Int) + 1).toNat = b + 1 := by omega
                have et2 : ((b : Int) + 2).toNat = b + 2 := by omega
                have HRd := hid HPut.out.rd.1
                have HT1 := hid (HPut.out.take (k := b + 1) (by rw [Hset.out.2.2]; omega)).rd.1
                have HRf : Hid (∀ u, Only (fun _ => False) w5 u → RdI u (some ⟨gg, b + 2, none⟩) ((a.set b (m - 1)).drop (b + 2))) := hid fun u hu => by
                  show RdV u _ ((a.set b (m - 1)).drop (b + 2)).length _
                  rw [List.length_drop, Hset.out.2.2]
                  exact rd_from (HRd.out.only hu fun _ _ _ => no_) Hset.out.2.2 (by omega)
                by_cases hcap : c = b + 2
                · have hdr : Hid ((a.set b (m - 1)).drop (b + 2) = []) := hid (List.drop_of_length_le (by rw [Hset.out.2.2]; omega))
                  go_region_held3 (fun w' => True ∧ StO w5 w')
                    (first | with_reducible assumption | with_reducible exact ⟨trivial, by with_reducible assumption⟩ | with_reducible exact keepR | with_reducible exact keepR1 | with_reducible exact keepR2 | with_reducible exact keepA (by with_reducible assumption) | with_reducible exact keepD (by with_reducible assumption) | with_reducible exact keepI (by with_reducible assumption))
                    (first
                      | (refine step_addI (by rfl) w5 (.tmp 73) (.tmp 77) rfl _ [] (by rfl) (hid (OwI.begin (Only.refl _ _).drew)) _ (b + 1) _ ((a.set b (m - 1)).take (b + 1)) (by rfl) (by rw [List.length_take, Hset.out.2.2]; omega) (hid (fun h => by cases h)) (hid (HT1.out.only (((Only.refl (fun _ => False) _).drew).alloc _) fun _ _ _ => no_)) (by rw [List.length_take, Hset.out.2.2]; simp; omega) ?_; intro v6 w6 H6)
                      | (refine step_addI (by rfl) w5 (.tmp 78) (.tmp 82) rfl _ _ (by rfl) H6 _ _ _ [] (by rfl) (by simp; omega) (hid (fun h => by cases h)) (hid (RdV.nil _)) (by rw [List.nil_append, List.length_take, Hset.out.2.2]; simp; omega) ?_; intro v7 w7 H7))
                  have HF7 : Hid (OwI w w7 v7 (a.take b ++ [m - 1] ++ a.drop (b + 2))) := hid (by
                    have := H7.out.rebase HPut.out.only
                    rw [List.nil_append, Hset.out.1, List.append_nil] at this
                    rw [← Hset.out.2.1, hdr.out, List.append_nil]
                    exact this)
                  obtain ⟨A7, c7, rfl, HF8⟩ := HF7.out.made (n := i - 1) (by rw [HNl.out, HLn.out])
                  have HL8 : Hid ((a.take b ++ [m - 1] ++ a.drop (b + 2)).length = i - 1) := hid (by rw [HNl.out, HLn.out])
                  have HT8 : Hid (Tr 0 (a.take b ++ [m - 1] ++ a.drop (b + 2)) ↔ Tr 0 zs) := hid (HMy.out.symm.trans HTr.out)
                  clear hdr HF7 H7 H6 HRf HT1 HRd HPut Hset HMy HTr HNl HLn Hm
                  go_wp2_with fail
                  go_roundw
                  case rel => exact ⟨_, i - 1, c7, A7, rfl, by omega, by omega, HL8, HT8, HNi, HF8⟩
                  case measure => simp [lenV]; omega
                · go_region_held3 (fun w' => True ∧ StO w5 w')
                    (first | with_reducible assumption | with_reducible exact ⟨trivial, by with_reducible assumption⟩ | with_reducible exact keepR | with_reducible exact keepR1 | with_reducible exact keepR2 | with_reducible exact keepA (by with_reducible assumption) | with_reducible exact keepD (by with_reducible assumption) | with_reducible exact keepI (by with_reducible assumption))
                    (first
                      | (refine step_addI (by rfl) w5 (.tmp 73) (.tmp 77) rfl _ [] (by rfl) (hid (OwI.begin (Only.refl _ _).drew)) _ (b + 1) _ ((a.set b (m - 1)).take (b + 1)) (by rfl) (by rw [List.length_take, Hset.out.2.2]; omega) (hid (fun h => by cases h)) (hid (HT1.out.only (((Only.refl (fun _ => False) _).drew).alloc _) fun _ _ _ => no_)) (by rw [List.length_take, Hset.out.2.2]; simp; omega) ?_; intro v6 w6 H6)
                      | (refine step_addI (by rfl) w5 (.tmp 78) (.tmp 82) rfl _ _ (by rfl) H6 (some ⟨gg, b + 2, none⟩) (i - (b + 2)) (c - (b + 2)) ((a.set b (m - 1)).drop (b + 2)) (by rfl) (by rw [List.length_drop, Hset.out.2.2]) (hid (fun h => by cases h)) (hid (HRf.out _ H6.out.only)) (by rw [List.nil_append, List.length_take, List.length_drop, Hset.out.2.2]; omega) ?_; intro v7 w7 H7))
                  have HF7 : Hid (OwI w w7 v7 (a.take b ++ [m - 1] ++ a.drop (b + 2))) := hid (by
                    have := H7.out.rebase HPut.out.only
                    rw [List.nil_append, Hset.out.1, Hset.out.2.1] at this
                    exact this)
                  obtain ⟨A7, c7, rfl, HF8⟩ := HF7.out.made (n := i - 1) (by rw [HNl.out, HLn.out])
                  have HL8 : Hid ((a.take b ++ [m - 1] ++ a.drop (b + 2)).length = i - 1) := hid (by rw [HNl.out, HLn.out])
                  have HT8 : Hid (Tr 0 (a.take b ++ [m - 1] ++ a.drop (b + 2)) ↔ Tr 0 zs) := hid (HMy.out.symm.trans HTr.out)
                  clear HF7 H7 H6 HRf HT1 HRd HPut Hset HMy HTr HNl HLn Hm
                  go_wp2_with fail
                  go_roundw
                  case rel => exact ⟨_, i - 1, c7, A7, rfl, by omega, by omega, HL8, HT8, HNi, HF8⟩
                  case measure => simp [lenV]; omega
              · have HF := hid (HNo.out fun h => HMx.out.no h2l (.inr (.inr hx)) (HTr.out.2 h))
                clear HPut hbn h2l
                generalize a.getD b 0 = m at *
                generalize a.getD (b + 1) 0 = x at *
                have hd : decide (m < 1) = false := decide_eq_false hm1
                have hd2 : decide ((b : Int) + 1 = (i : Int)) = false := decide_eq_false hb1'
                have hd3 : decide (x = m) = false := decide_eq_false hx
                have hd4 : ((b : Int) + 1 == (i : Int)) = false := by simp; omega
                have hd5 : (x == m) = false := by simp; exact hx
                have hb5 : (b : Int) + 1 < (i : Int) := by omega
                have hb6 : (0 : Int) ≤ (b : Int) + 1 := by omega
                have hwb : IntKind.i64.wrap ((b : Int) + 1) = (b : Int) + 1 := by rw [IntKind.wrap_i64]; omega
                obtain ⟨wd, hwd⟩ : ∃ wd, wd = wo.drewN d := ⟨_, rfl⟩
                have cb1' : wd.cell? ⟨gg, b + 1, none⟩ = some (.int .i64 x) := by rw [hwd]; rw [Nat.zero_add] at cb1; exact cb1
                have cb' : wd.cell? ⟨gg, b, none⟩ = some (.int .i64 m) := by rw [hwd]; exact cb
                have HOd : StO w wd := hid (by rw [hwd]; exact HO.out.only.drewN d)
                rw [← hwd]
                clear hwd cb cb1 HO HO'
                go_wp2_with fail
                go_region_held3 (fun w' => w'.cell? ⟨gg, b, none⟩ = some (.int .i64 m) ∧ w'.cell? ⟨gg, b + 1, none⟩ = some (.int .i64 x) ∧ StO wd w')
                  (first | assumption | exact ⟨cb', cb1', hid (Only.refl _ _)⟩ | exact ⟨cb', cb1', hid (Only.refl _ _).drew⟩ | exact ⟨by assumption, by assumption, by assumption⟩) (fail)
                go_wp2_with fail
                go_ret
                exact ⟨ret_bool HF.out, hid (HOd.out.trans (Only.refl _ _).drew)⟩
    · obtain rfl : n = 1 := by omega
      obtain ⟨z, rfl⟩ : ∃ z, a = [z] := by
        match a, HLn.out with
        | [z], _ => exact ⟨z, rfl⟩
      have HF := hid (HSi.out z HTr.out)
      obtain ⟨gg, rfl, cb, _, _, _⟩ := HO.out.put (k := 0) (by omega)
      have cb' : wr.cell? ⟨gg, 0, none⟩ = some (.int .i64 z) := cb
      have HO' : StO w wr := hid HO.out.only
      clear cb HO
      go_wp2
      go_ret
      exact ⟨ret_bool HF.out, HO'⟩
set_option maxHeartbeats 1000000 in
theorem refFits_any {A : Option Addr} {cap : Nat} {zs : List Int} {w : World} (hz : RdI w A zs) (hi : InI zs) (hA : A = none → zs.length = 0 ∧ cap = 0) (hl : zs.length ≤ 9223372036854775807) :
    Calls Try.prog 44 #[.slice A zs.length cap] w fun e w' => e = .returned (.bool (fitB zs)) ∧ StO w w' := by
  by_cases hb : 2 ≤ zs.length ∧ zs.length ≤ 257
  · exact refFits_main hz hi hA hb.1 hb.2
  · by_cases h1 : zs.length = 1
    · obtain ⟨z, rfl⟩ : ∃ z, zs = [z] := by
        match zs, h1 with
        | [z], _ => exact ⟨z, rfl⟩
      obtain ⟨b, off, rfl, hc, _⟩ := hz.at (k := 0) (by simp)
      have hc' : w.cell? ⟨b, off, none⟩ = some (.int .i64 z) := hc
      have HF : Hid ((z == 1) = fitB [z]) := hid (fitB_of (by
        constructor
        · intro h
          have : z = 1 := by simpa using h
          subst this
          exact .inl ⟨rfl, rfl⟩
        · intro h
          rcases h with ⟨_, h⟩ | ⟨h, _⟩
          · simp at h; subst h; rfl
          · simp at h))
      clear hz hi hc hA
      go_enter Try.func44, Try.ntmps44
      go_wp2_with fail
      go_ret
      exact ⟨ret_bool HF.out, hid (Only.refl _ w)⟩
    · have HF : Hid (false = fitB zs) := hid (fitB_of ⟨fun h => (by cases h), fun h => by
        rcases h with h | h <;> omega⟩)
      clear hz hi hA
      generalize fitB zs = fb at *
      generalize zs.length = N at *
      by_cases h0 : N < 1
      · have h0' : (N : Int) < 1 := by omega
        clear hb h1
        go_enter Try.func44, Try.ntmps44
        go_wp2_with fail
        go_ret
        exact ⟨ret_bool HF.out, hid (Only.refl _ w)⟩
      · have h0' : ¬ (N : Int) < 1 := by omega
        have h2' : (257 : Int) < (N : Int) := by omega
        clear hb h1
        go_enter Try.func44, Try.ntmps44
        go_wp2_with fail
        go_ret
        exact ⟨ret_bool HF.out, hid (Only.refl _ w)⟩
end Go.Proofs.Ythfnpgmjbfbocaa
