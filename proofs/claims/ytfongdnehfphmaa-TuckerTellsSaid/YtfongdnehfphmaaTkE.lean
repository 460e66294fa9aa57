/- TuckerBest: no lengths that fit cost less. -/
import Derived.Test.YtfongdnehfphmaaTkD
namespace Go.Proofs.Ytfongdnehfphmaa
open Go.RowKit

theorem wt_rev {l : List Int} {k : Nat} (hk : k < l.length) : wt l.reverse k = wt l (l.length - 1 - k) := by
  unfold wt
  simp only [List.getD]
  rw [List.getElem?_reverse hk]
/-- Turned round, the same cost. -/
theorem wsum_rev (w : Nat → Int) : ∀ (ls : List Int) (a : Nat), wsum (fun k => w (a + ls.length - 1 - k)) 0 ls.reverse = wsum w a ls
  | [], a => rfl
  | x :: t, a => by
    have ih := wsum_rev w t (a + 1)
    rw [List.reverse_cons, wsum_append, List.length_reverse]
    have e1 : wsum (fun k => w (a + (x :: t).length - 1 - k)) 0 t.reverse = wsum (fun k => w (a + 1 + t.length - 1 - k)) 0 t.reverse := by
      congr 1
      funext k
      congr 1
      simp only [List.length_cons]
      omega
    rw [e1, ih]
    show wsum w (a + 1) t + (w (a + (t.length + 1) - 1 - (0 + t.length)) * x + 0) = w a * x + wsum w (a + 1) t
    have e2 : a + (t.length + 1) - 1 - (0 + t.length) = a := by omega
    rw [e2]
    omega
theorem wsum_congr {w v : Nat → Int} : ∀ (ls : List Int) (a : Nat), (∀ k, a ≤ k → k < a + ls.length → w k = v k) → wsum w a ls = wsum v a ls
  | [], _, _ => rfl
  | x :: t, a, h => by
    show w a * x + wsum w (a + 1) t = v a * x + wsum v (a + 1) t
    rw [h a (Nat.le_refl _) (by simp only [List.length_cons]; omega), wsum_congr t (a + 1) fun k k1 k2 => h k (by omega) (by simp only [List.length_cons]; omega)]
theorem costL_rev {w l : List Int} (h : w.length = l.length) : costL w.reverse l.reverse = costL w l := by
  unfold costL
  rw [← wsum_rev (wt w) l 0]
  refine wsum_congr _ _ fun k _ k2 => ?_
  rw [List.length_reverse] at k2
  rw [wt_rev (by omega)]
  congr 1
  omega
theorem fit_rev {l : List Int} (h : Fit l) : Fit l.reverse := by
  rcases h with ⟨h1, rfl⟩ | ⟨h1, h2, h3⟩
  · exact .inl ⟨rfl, rfl⟩
  · exact .inr ⟨by rw [List.length_reverse]; exact h1, by rw [List.length_reverse]; exact h2, h3.reverse⟩
theorem isW_rev {l : List Int} (h : isW l = true) : isW l.reverse = true := by
  unfold isW at h ⊢
  rw [List.length_reverse, List.all_reverse]
  exact h
theorem best_rev {w : List Int} (h : isW w = true) : costL w.reverse (bestL w.reverse) = costL w (bestL w) := by
  have h1 := bestL_least (w := w.reverse) (l := (bestL w).reverse) (by rw [List.length_reverse, List.length_reverse, bestL_len]) (fit_rev (bestL_fit h))
  rw [costL_rev (by rw [bestL_len])] at h1
  have h2 := bestL_least (w := w) (l := (bestL w.reverse).reverse) (by rw [List.length_reverse, bestL_len, List.length_reverse]) (fit_rev (bestL_fit (isW_rev h)))
  have h3 : costL w (bestL w.reverse).reverse = costL w.reverse (bestL w.reverse) := by
    have := costL_rev (w := w.reverse) (l := bestL w.reverse) (by rw [bestL_len])
    rw [List.reverse_reverse] at this
    exact this
  omega
theorem okC_of {w l : List Int} (hw : isW w = true) (hf : Fit l) (hl : w.length = l.length) : okC w l = true := by
  unfold okC
  rw [hw, fitB_true.2 hf, decide_eq_true hl]
  rfl
theorem costE_of {w l : List Int} (hw : isW w = true) (hf : Fit l) (hl : w.length = l.length) : costE w l = .tuple #[.int .i64 (costL w l), .int .i64 0] := by
  unfold costE
  rw [if_pos (okC_of hw hf hl)]
theorem fit_inI {l : List Int} (h : Fit l) : InI l := fun z hz => by
  have := h.small z hz
  omega
theorem rev_take {l : List Int} {k : Nat} (h : k < l.length) : (l.drop k).reverse = (l.drop (k + 1)).reverse ++ [l.getD k 0] := by
  rw [List.drop_eq_getElem_cons h, List.reverse_cons]
  simp [List.getD, h]
theorem cost_of {A B : Option Addr} {c1 c2 n m : Nat} {ws ls : List Int} {u : World} (hw : RdI u A ws) (hl : RdI u B ls) (hi : InI ls) (hn : n = ws.length) (hm : m = ls.length) (h1 : n ≤ 1000000) (h2 : m ≤ 1000000) :
    Calls Try.prog 15 #[.slice A n c1, .slice B m c2] u fun e w' => e = .returned (costE ws ls) ∧ StO u w' := by
  subst hn
  subst hm
  exact cost_any hw hl hi (by omega) (by omega)
/-- Lengths of weights. -/
theorem len_ok {A : Option Addr} {c n : Nat} {zs : List Int} {u : World} (hw : isW zs = true) (hz : RdI u A zs) (hn : n = zs.length) : Calls Try.prog 10 #[.slice A n c] u fun e w' => ∃ B c', e = .returned (.tuple #[.slice B n c', .int .i64 0]) ∧ Hid (RdI w' B (bestL zs)) ∧ StO u w' := by
  have h := isW_of hw
  subst hn
  refine (Lengths_any (cap := c) hz (by omega)).mono ?_
  rintro e w' ⟨B, n, c2, he, hn, hc, hr, _, _, ho⟩
  have hn := hn.out
  have hr := hr.out
  rw [hw, if_pos rfl] at hn hr
  rw [hw, if_pos rfl] at he
  rw [bestL_len] at hn
  subst hn
  exact ⟨B, c2, he, hid hr, ho⟩

set_option maxRecDepth 100000 in
set_option maxHeartbeats 4000000 in
theorem tuckerBest_any {A B : Option Addr} {c1 c2 : Nat} {zs cs : List Int} {w : World} (hz : RdI w A zs) (_hzi : InI zs) (hc : RdI w B cs) (hci : InI cs) (hl : zs.length ≤ 9223372036854775807) (hm : cs.length ≤ 9223372036854775807) :
    Calls Try.prog 6 #[.slice A zs.length c1, .slice B cs.length c2] w fun e w' => e = .returned (.bool true) ∧ Hid (Below w.heap.size w w') := by
  have HAw := hid fun u => tkAwake u
  by_cases hlong : zs.length ≤ 300 ∧ cs.length ≤ 300
  · obtain ⟨hl1, hl2⟩ := hlong
    have hl1' : ¬ (300 : Int) < (zs.length : Int) := by omega
    have hl2' : ¬ (300 : Int) < (cs.length : Int) := by omega
    cases hw : isW zs with
    | false =>
      have HLe : Hid (∀ u, StO w u → Calls Try.prog 10 #[.slice A zs.length c1] u fun e w' => ∃ B, e = .returned (.tuple #[.slice B 0 0, .int .i64 2]) ∧ StO u w') := hid fun u hu => by
        refine (Lengths_any (cap := c1) (hz.st hu) hl).mono ?_
        rintro e w' ⟨B, n, c2, he, hn, hc, hr, hA, hx, ho⟩
        have hn := hn.out
        have hc := hc.out
        rw [hw] at hn he
        subst hc
        simp at hn
        subst hn
        exact ⟨B, he, ho⟩
      clear hz hc hci hw
      generalize zs.length = N at *
      generalize cs.length = M at *
      go_enter Try.func6, Try.ntmps6
      go_wp2_with fail
      refine (HAw.out _).mono ?_
      rintro e w1 ⟨rfl, HO1⟩
      go_wp2_with fail
      refine (HLe.out _ HO1).mono ?_
      rintro e w2 ⟨B2, rfl, HO2⟩
      go_wp2_with fail
      go_ret
      exact ⟨rfl, hid ((HO1.out.trans HO2.out).to_below (fun _ h => h.elim) (Nat.le_refl _))⟩
    | true =>
      have hW := isW_of hw
      have h1 := hW.1
      have h2 := hW.2.1
      have hfit := bestL_fit hw
      have HLe : Hid (∀ u, StO w u → Calls Try.prog 10 #[.slice A zs.length c1] u fun e w' => ∃ B c', e = .returned (.tuple #[.slice B zs.length c', .int .i64 0]) ∧ Hid (RdI w' B (bestL zs)) ∧ StO u w') := hid fun u hu => len_ok hw (hz.st hu) rfl
      have HCo : Hid (∀ u B c ls, StO w u → RdI u B ls → Fit ls → ls.length = zs.length → Calls Try.prog 15 #[.slice A zs.length c1, .slice B zs.length c] u fun e w' => e = .returned (.tuple #[.int .i64 (costL zs ls), .int .i64 0]) ∧ StO u w') := hid fun u B c ls hu hr hf hn => by
        have := cost_of (c1 := c1) (c2 := c) (hz.st hu) hr (fit_inI hf) rfl hn.symm (by omega) (by omega)
        rw [costE_of hw hf hn.symm] at this
        exact this
      have HGr : Hid (∀ u, StO w u → Calls Try.prog 19 #[.int .i64 (zs.length : Int), .slice B cs.length c2] u fun e w' => ∃ l B c, e = .returned (.slice B zs.length c) ∧ Hid (Fit l ∧ l.length = zs.length) ∧ Hid (RdI w' B l) ∧ StO u w') := hid fun u hu => by
        refine (grown_any zs.length (cap := c2) (hc.st hu) hci (by omega) h1 (by omega)).mono ?_
        rintro e w' ⟨l, B, c, he, hn, ht, ho⟩
        refine ⟨l, B, c, he, hid ⟨?_, hn.out⟩, hid ho.out.rd.1, hid ho.out.only⟩
        have ht := ht.out
        have hn := hn.out
        by_cases e1 : zs.length = 1
        · rw [if_pos e1] at ht
          exact .inl ⟨by omega, ht⟩
        · rw [if_neg e1] at ht
          exact .inr ⟨by omega, by omega, ht⟩
      have HFi : Hid (∀ u B c ls, RdI u B ls → Fit ls → ls.length = zs.length → Calls Try.prog 17 #[.slice B zs.length c] u fun e w' => e = .returned (.bool true) ∧ StO u w') := hid fun u B c ls hr hf hn => by
        have := fits_of (c := c) hr (fit_inI hf) hn.symm (by omega)
        rw [fitB_true.2 hf] at this
        exact this
      have HLr : Hid (∀ u B c, RdI u B zs.reverse → Calls Try.prog 10 #[.slice B zs.length c] u fun e w' => ∃ B c', e = .returned (.tuple #[.slice B zs.length c', .int .i64 0]) ∧ Hid (RdI w' B (bestL zs.reverse)) ∧ StO u w') := hid fun u B c hr => len_ok (isW_rev hw) hr (by rw [List.length_reverse])
      have HCr : Hid (∀ u B c B' c', RdI u B zs.reverse → RdI u B' (bestL zs.reverse) → Calls Try.prog 15 #[.slice B zs.length c, .slice B' zs.length c'] u fun e w' => e = .returned (.tuple #[.int .i64 (costL zs (bestL zs)), .int .i64 0]) ∧ StO u w') := hid fun u B c B' c' hr hr2 => by
        have := cost_of (c1 := c) (c2 := c') hr hr2 (fit_inI (bestL_fit (isW_rev hw))) (by rw [List.length_reverse]) (by rw [bestL_len, List.length_reverse]) (by omega) (by omega)
        rw [costE_of (isW_rev hw) (bestL_fit (isW_rev hw)) (by rw [bestL_len]), best_rev hw] at this
        exact this
      have HLst : Hid (∀ l, Fit l → l.length = zs.length → costL zs (bestL zs) ≤ costL zs l) := hid fun l hf hn => bestL_least hn hf
      have HBf : Hid (Fit (bestL zs) ∧ (bestL zs).length = zs.length) := hid ⟨hfit, bestL_len zs⟩
      have HRt : Hid (∀ k, k < zs.length → (zs.drop k).reverse = (zs.drop (k + 1)).reverse ++ [zs.getD k 0]) := hid fun k hk => rev_take hk
      have HZ : Hid (RdV w A zs.length (vI zs)) := hid hz
      have HDr : Hid ((zs.drop zs.length).reverse = []) := hid (by simp)
      have HD0 : Hid ((zs.drop 0).reverse = zs.reverse ∧ zs.reverse.length = zs.length) := hid ⟨rfl, by simp⟩
      have HDl : Hid (∀ k, k ≤ zs.length → (zs.drop k).reverse.length = zs.length - k) := hid fun k _ => by simp
      clear hz hc hci hw hW hfit hl hm
      generalize hbb : bestL zs = bl at *
      clear hbb
      obtain ⟨ca, hca⟩ : ∃ ca, ca = costL zs bl := ⟨_, rfl⟩
      have HCa := hid hca
      clear hca
      generalize zs.length = N at *
      generalize cs.length = M at *
      go_enter Try.func6, Try.ntmps6
      go_wp2_with fail
      refine (HAw.out _).mono ?_
      rintro e w1 ⟨rfl, HO1⟩
      go_wp2_with fail
      refine (HLe.out _ HO1).mono ?_
      rintro e w2 ⟨B2, k2, rfl, HB2, HO2⟩
      have HO02 : StO w w2 := hid (HO1.out.trans HO2.out)
      go_wp2_with fail
      refine (HCo.out _ _ _ bl HO02 HB2.out HBf.out.1 HBf.out.2).mono ?_
      rintro e w3 ⟨rfl, HO3⟩
      rw [← HCa.out]
      have HO03 : StO w w3 := hid (HO02.out.trans HO3.out)
      have HB3 := hid (HB2.out.st HO3)
      clear HO1 HO2 HB2 HO02 HO3 HAw HLe
      go_wp2_with fail
      refine (HGr.out _ HO03).mono ?_
      rintro e w4 ⟨l, B4, k4, rfl, HL4, HR4, HO4⟩
      have HO04 : StO w w4 := hid (HO03.out.trans HO4.out)
      have HB4 := hid (HB3.out.st HO4)
      go_wp2_with fail
      refine (HCo.out _ _ _ l HO04 HR4.out HL4.out.1 HL4.out.2).mono ?_
      rintro e w5 ⟨rfl, HO5⟩
      have HO05 : StO w w5 := hid (HO04.out.trans HO5.out)
      have HB5 := hid (HB4.out.st HO5)
      have HR5 := hid (HR4.out.st HO5)
      have hle := HLst.out l HL4.out.1 HL4.out.2
      rw [← HCa.out] at hle
      clear HO03 HO4 HO04 HO5 HB3 HB4 HR4 HGr HLst
      generalize costL zs l = cd at *
      have hle' : ¬ cd < ca := by omega
      go_wp2_with fail
      refine (HFi.out _ _ _ bl HB5.out HBf.out.1 HBf.out.2).mono ?_
      rintro e w6 ⟨rfl, HO6⟩
      go_wp2_with fail
      refine (HFi.out _ _ _ l (HR5.out.st HO6) HL4.out.1 HL4.out.2).mono ?_
      rintro e w7 ⟨rfl, HO7⟩
      have HO07 : StO w w7 := hid ((HO05.out.trans HO6.out).trans HO7.out)
      clear HO05 HO6 HO7 HB5 HR5 HFi HL4 HCo
      go_wp2_with fail
      have HV0 : Hid (OwI w7 w7 (.slice none 0 0) (zs.drop N).reverse) := hid (by rw [HDr.out]; exact OwI.nil (Only.refl _ _))
      go_loopw [12, 13] (fun v i wr => ∃ j : Nat, j ≤ N ∧ i = .int .i64 ((j : Int) - 1) ∧ Hid (OwI w7 wr v (zs.drop j).reverse)) (fun _ i _ => (intOf i + 1).toNat)
      case atStart => exact ⟨N, by omega, rfl, HV0⟩
      case round =>
        obtain ⟨j, hj, rfl, HV⟩ := hrel
        clear HV0
        by_cases hp : 1 ≤ j
        · obtain ⟨q, rfl⟩ : ∃ q, j = q + 1 := ⟨j - 1, by omega⟩
          have eq1 : (((q + 1 : Nat) : Int) - 1) = (q : Int) := by omega
          rw [eq1]
          clear eq1
          obtain ⟨b, off, hA, hc, _⟩ := (HZ.out.only (HO07.out.trans HV.out.only) fun _ _ _ => no_).at (k := q) (by omega)
          unfold vI at hc
          subst hA
          have HR := hid (HRt.out q (by omega))
          have HDq := hid (HDl.out (q + 1) hj)
          generalize zs.getD q 0 = z at hc HR
          go_wp2_with (at_builtin; (refine wpList_addI w7 _ rfl (.tmp 86) (.tmp 91) rfl _ _ rfl (hid (HV.out.carry ((Only.refl _ _).alloc _))) _ 1 1 [z] rfl rfl (hid (fun h => by cases h)) (hid (rd_oneI _ z)) (by rw [HDq.out]; simp; omega) ?_); intro v' w8 HV2)
          go_roundw
          case rel => exact ⟨q, by omega, by go_num, hid (by rw [HR.out]; exact HV2.out)⟩
          case measure => simp [intOf]
        · obtain rfl : j = 0 := by omega
          obtain ⟨A8, c8, rfl, HV8⟩ := OwI.made (n := N) HV.out (by rw [HD0.out.1]; exact HD0.out.2)
          rw [HD0.out.1] at HV8
          have HO08 : StO w wr := hid (HO07.out.trans HV.out.only)
          clear HV HZ HRt HDr HDl HO07
          go_wp2_with fail
          refine (HLr.out _ _ _ HV8.out.rd.1).mono ?_
          rintro e w9 ⟨B9, k9, rfl, HR9, HO9⟩
          have HV9 := hid (HV8.out.rd.1.st HO9)
          have HO09 : StO w w9 := hid (HO08.out.trans HO9.out)
          clear HV8 HO9 HO08 HLr
          go_wp2_with fail
          refine (HCr.out _ _ _ _ _ HV9.out HR9.out).mono ?_
          rintro e w10 ⟨rfl, HO10⟩
          rw [← HCa.out]
          have HO010 : StO w w10 := hid (HO09.out.trans HO10.out)
          clear HV9 HR9 HO10 HO09 HCr HCa
          go_wp2_with fail
          go_ret
          exact ⟨rfl, hid (HO010.out.to_below (fun _ h => h.elim) (Nat.le_refl _))⟩
  · clear hz hc hci
    generalize zs.length = N at *
    generalize cs.length = M at *
    by_cases hN : 300 < N
    · have hN' : (300 : Int) < (N : Int) := by omega
      clear hlong
      go_enter Try.func6, Try.ntmps6
      go_wp2_with fail
      refine (HAw.out _).mono ?_
      rintro e w1 ⟨rfl, HO1⟩
      go_wp2_with fail
      go_ret
      exact ⟨rfl, hid (HO1.out.to_below (fun _ h => h.elim) (Nat.le_refl _))⟩
    · have hN' : ¬ (300 : Int) < (N : Int) := by omega
      have hM' : (300 : Int) < (M : Int) := by omega
      clear hlong
      go_enter Try.func6, Try.ntmps6
      go_wp2_with fail
      refine (HAw.out _).mono ?_
      rintro e w1 ⟨rfl, HO1⟩
      go_wp2_with fail
      go_ret
      exact ⟨rfl, hid (HO1.out.to_below (fun _ h => h.elim) (Nat.le_refl _))⟩
end Go.Proofs.Ytfongdnehfphmaa
