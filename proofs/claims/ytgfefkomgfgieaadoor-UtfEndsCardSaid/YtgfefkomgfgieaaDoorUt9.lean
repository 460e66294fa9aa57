/- UtfSpans. -/
import Derived.Test.YtgfefkomgfgieaaDoorUt8
namespace Go.Proofs.YtgfefkomgfgieaaDoor
open Go.RowKit U G

theorem bl_one : bl { data := #[32] } = [32] := by decide
theorem bl_two : bl { data := #[46, 32] } = [46, 32] := by decide
theorem bl_at {s : ByteArray} {j : Nat} (h : j < s.size) : (bl s).getD j 0 = (s[j]'h).toNat := by
  rw [bl_get, Utf8W.get!_of_lt s j h]
theorem utfSpans_far {s t : ByteArray} {w : World} (hT : Tb w) (h1 : s.size ≤ 140737488355328) (h2 : t.size ≤ 140737488355328) (h : 2000 < s.size + t.size) :
    Calls Tryd.prog 7 #[.string s, .string t] w fun e w' => e = .returned (.bool true) ∧ StU w w' := by
  have HA := hid (awake_any hT)
  have hs : (2000 : Int) < (s.size : Int) + (t.size : Int) := by omega
  have hw : IntKind.i64.wrap ((s.size : Int) + (t.size : Int)) = (s.size : Int) + (t.size : Int) := by rw [IntKind.wrap_i64]; omega
  clear hT h
  go_enter Tryd.func7, Tryd.ntmps7
  go_wp2_with (go_at_call 8; refine HA.out.mono ?_; rintro e w1 ⟨rfl, HO⟩)
  go_ret
  exact ⟨rfl, HO⟩
set_option maxHeartbeats 4000000 in
theorem utfSpans_near {s t : ByteArray} {w : World} (hT : Tb w) (h : s.size + t.size ≤ 2000) :
    Calls Tryd.prog 7 #[.string s, .string t] w fun e w' => e = .returned (.bool true) ∧ StU w w' := by
  have HA := hid (awake_any hT)
  have hs : ¬ (2000 : Int) < (s.size : Int) + (t.size : Int) := by omega
  have hw : IntKind.i64.wrap ((s.size : Int) + (t.size : Int)) = (s.size : Int) + (t.size : Int) := by rw [IntKind.wrap_i64]; omega
  have hsz : s.size ≤ 2000 := by omega
  have htz : t.size ≤ 2000 := by omega
  have hb := bl_bys s
  have hln := bl_len s
  have HLab : Hid (∀ W r k, StU w W → r.size ≤ 140737488355328 → lab (bl r) = k → Calls Tryd.prog 12 #[.string r] W fun e w' => e = .returned (.int .i64 (k : Int)) ∧ StU w w') := hid fun W r k hW hr hk => (label_any (hT.stu hW) hr).mono fun e w' h => ⟨by rw [h.1, hk], hid (hW.out.trans h.2.out)⟩
  have HTag : Hid (∀ W r k, StU w W → r.size ≤ 140737488355328 → tag (bl r) = k → Calls Tryd.prog 14 #[.string r] W fun e w' => e = .returned (.int .i64 (k : Int)) ∧ StU w w') := hid fun W r k hW hr hk => (tag_any (hT.stu hW) hr).mono fun e w' h => ⟨by rw [h.1, hk], hid (hW.out.trans h.2.out)⟩
  have hn := lab_le hb
  have hm := tag_le (bl s)
  have hmn := tag_le_lab (bl s)
  rw [hln] at hn hm
  have a1 := (lab_cut (y := []) hb shut_nil lab_nil).1
  have a2 := (lab_cut (y := 32 :: bl t) hb (shut_sp _) (lab_sp _)).1
  have a3 := (lab_cut (y := 46 :: 32 :: bl t) hb (shut_pt _) (lab_pt _)).1
  have a4 := lab_more hb (bl t)
  have a5 := (lab_cut (y := []) hb shut_nil lab_nil).2
  have b1 := (tag_cut (l := bl s) (y := []) shutT_nil).1
  have b2 := (tag_cut (l := bl s) (y := 32 :: bl t) (shutT_sp _)).1
  have b4 := tag_more (bl s) (bl t)
  have b5 := (tag_cut (l := bl s) (y := []) shutT_nil).2
  rw [List.append_nil, ← bl_head] at a1 b1
  have e1 : ∀ k, bl ((s.extract 0 k ++ ({ data := #[32] } : ByteArray)) ++ t) = (bl s).take k ++ 32 :: bl t := fun k => by rw [bl_append, bl_append, bl_one, bl_head]; simp
  have e2 : ∀ k, bl ((s.extract 0 k ++ ({ data := #[46, 32] } : ByteArray)) ++ t) = (bl s).take k ++ 46 :: 32 :: bl t := fun k => by rw [bl_append, bl_append, bl_two, bl_head]; simp
  rw [← e1] at a2 b2
  rw [← e2] at a3
  rw [← bl_append] at a4 b4
  have z1 : ∀ k, (s.extract 0 k).size ≤ 2000 := fun k => by rw [← bl_len, bl_head, List.length_take]; omega
  have z2 : ∀ k, ((s.extract 0 k ++ ({ data := #[32] } : ByteArray)) ++ t).size ≤ 5000 := fun k => by rw [← bl_len, e1]; simp only [List.length_append, List.length_take, List.length_cons, bl_len]; omega
  have z3 : ∀ k, ((s.extract 0 k ++ ({ data := #[46, 32] } : ByteArray)) ++ t).size ≤ 5000 := fun k => by rw [← bl_len, e2]; simp only [List.length_append, List.length_take, List.length_cons, bl_len]; omega
  have z4 : (s ++ t).size ≤ 5000 := by rw [← bl_len, bl_append, List.length_append, bl_len, bl_len]; omega
  have HL0 := hid (fun W hW => HLab.out W s (lab (bl s)) hW (by omega) rfl)
  have HT0 := hid (fun W hW => HTag.out W s (tag (bl s)) hW (by omega) rfl)
  have HL1 := hid (fun W hW => HLab.out W _ _ hW (Nat.le_trans (z1 _) (by decide)) a1)
  have HT1 := hid (fun W hW => HTag.out W _ _ hW (Nat.le_trans (z1 _) (by decide)) b1)
  have HL2 := hid (fun W hW => HLab.out W _ _ hW (Nat.le_trans (z2 _) (by decide)) a2)
  have HT2 := hid (fun W hW => HTag.out W _ _ hW (Nat.le_trans (z2 _) (by decide)) b2)
  have HL3 := hid (fun W hW => HLab.out W _ _ hW (Nat.le_trans (z3 _) (by decide)) a3)
  have HL4 := hid (fun W hW => HLab.out W _ _ hW (Nat.le_trans z4 (by decide)) rfl)
  have HT4 := hid (fun W hW => HTag.out W _ _ hW (Nat.le_trans z4 (by decide)) rfl)
  have g1 : ∀ j, lab (bl s) = j + 1 → ∃ h : j < s.size, (s[j]'h).toNat ≠ 46 := fun j hj => ⟨by omega, by
    rw [← bl_at (by omega)]
    have := a5 (by omega)
    rwa [hj, Nat.add_sub_cancel] at this⟩
  have g2 : ∀ j, tag (bl s) = j + 1 → ∃ h : j < s.size, (s[j]'h).toNat ≠ 45 := fun j hj => ⟨by omega, by
    rw [← bl_at (by omega)]
    have := b5 (by omega)
    rwa [hj, Nat.add_sub_cancel] at this⟩
  clear a1 a2 a3 a5 b1 b2 b5 e1 e2 z1 z2 z3 z4 HLab HTag hb hln hT h
  generalize lab (bl (s ++ t)) = n2 at *
  generalize tag (bl (s ++ t)) = m2 at *
  generalize lab (bl s) = n at *
  generalize tag (bl s) = m at *
  have c1 : ¬ (n : Int) < 0 := by omega
  have c2 : ¬ (s.size : Int) < (n : Int) := by omega
  have c3 : ¬ (m : Int) < 0 := by omega
  have c4 : ¬ (s.size : Int) < (m : Int) := by omega
  have c5 : ¬ (n : Int) < (m : Int) := by omega
  have c6 : (n : Int) ≤ (n2 : Int) := by omega
  have c7 : (m : Int) ≤ (m2 : Int) := by omega
  rcases Nat.eq_zero_or_pos n with hn0 | hn0
  · have hm0 : m = 0 := by omega
    have hnp : ¬ (0 : Int) < (n : Int) := by omega
    have hmp : ¬ (0 : Int) < (m : Int) := by omega
    clear hn0 hm0 g1 g2
    go_enter Tryd.func7, Tryd.ntmps7
    go_wp2_with (first
      | (go_at_call 8; refine HA.out.mono ?_; rintro e w1 ⟨rfl, HO⟩)
      | (go_at_call 12; first
          | (with_reducible refine (HL0.out _ HO).mono ?_; rintro e w2 ⟨rfl, HO2⟩; clear HO; have HO := HO2; clear HO2)
          | (with_reducible refine (HL1.out _ HO).mono ?_; rintro e w2 ⟨rfl, HO2⟩; clear HO; have HO := HO2; clear HO2)
          | (with_reducible refine (HL2.out _ HO).mono ?_; rintro e w2 ⟨rfl, HO2⟩; clear HO; have HO := HO2; clear HO2)
          | (with_reducible refine (HL3.out _ HO).mono ?_; rintro e w2 ⟨rfl, HO2⟩; clear HO; have HO := HO2; clear HO2)
          | (with_reducible refine (HL4.out _ HO).mono ?_; rintro e w2 ⟨rfl, HO2⟩; clear HO; have HO := HO2; clear HO2))
      | (go_at_call 14; first
          | (with_reducible refine (HT0.out _ HO).mono ?_; rintro e w2 ⟨rfl, HO2⟩; clear HO; have HO := HO2; clear HO2)
          | (with_reducible refine (HT1.out _ HO).mono ?_; rintro e w2 ⟨rfl, HO2⟩; clear HO; have HO := HO2; clear HO2)
          | (with_reducible refine (HT2.out _ HO).mono ?_; rintro e w2 ⟨rfl, HO2⟩; clear HO; have HO := HO2; clear HO2)
          | (with_reducible refine (HT4.out _ HO).mono ?_; rintro e w2 ⟨rfl, HO2⟩; clear HO; have HO := HO2; clear HO2)))
    go_ret
    exact ⟨ret_bool (by first | rfl | simp [c6, c7] | (simp; omega)), HO⟩
  · obtain ⟨j, hj⟩ : ∃ j, n = j + 1 := ⟨n - 1, by omega⟩
    obtain ⟨hjs, hjx⟩ := g1 j hj
    have hnp : (0 : Int) < (n : Int) := by omega
    have hw1 : IntKind.i64.wrap ((n : Int) - 1) = (j : Int) := by rw [IntKind.wrap_i64]; omega
    have hw2 : (n : Int) - 1 = (j : Int) := by omega
    obtain ⟨x, hx⟩ : ∃ x, s[j]'hjs = x := ⟨_, rfl⟩
    rw [hx] at hjx
    have hx46 : ((x.toNat : Int) == 46) = false := by rw [beq_eq_false_iff_ne]; omega
    clear hj hjx g1
    rcases Nat.eq_zero_or_pos m with hm0 | hm0
    · have hmp : ¬ (0 : Int) < (m : Int) := by omega
      clear hm0 g2
      go_enter Tryd.func7, Tryd.ntmps7
      go_wp2_with (first
        | (go_at_call 8; refine HA.out.mono ?_; rintro e w1 ⟨rfl, HO⟩)
        | (go_at_call 12; first
            | (with_reducible refine (HL0.out _ HO).mono ?_; rintro e w2 ⟨rfl, HO2⟩; clear HO; have HO := HO2; clear HO2)
            | (with_reducible refine (HL1.out _ HO).mono ?_; rintro e w2 ⟨rfl, HO2⟩; clear HO; have HO := HO2; clear HO2)
            | (with_reducible refine (HL2.out _ HO).mono ?_; rintro e w2 ⟨rfl, HO2⟩; clear HO; have HO := HO2; clear HO2)
            | (with_reducible refine (HL3.out _ HO).mono ?_; rintro e w2 ⟨rfl, HO2⟩; clear HO; have HO := HO2; clear HO2)
            | (with_reducible refine (HL4.out _ HO).mono ?_; rintro e w2 ⟨rfl, HO2⟩; clear HO; have HO := HO2; clear HO2))
        | (go_at_call 14; first
            | (with_reducible refine (HT0.out _ HO).mono ?_; rintro e w2 ⟨rfl, HO2⟩; clear HO; have HO := HO2; clear HO2)
            | (with_reducible refine (HT1.out _ HO).mono ?_; rintro e w2 ⟨rfl, HO2⟩; clear HO; have HO := HO2; clear HO2)
            | (with_reducible refine (HT2.out _ HO).mono ?_; rintro e w2 ⟨rfl, HO2⟩; clear HO; have HO := HO2; clear HO2)
            | (with_reducible refine (HT4.out _ HO).mono ?_; rintro e w2 ⟨rfl, HO2⟩; clear HO; have HO := HO2; clear HO2)))
      go_ret
      exact ⟨ret_bool (by first | rfl | simp [c6, c7] | (simp; omega)), HO⟩
    · obtain ⟨i, hi⟩ : ∃ i, m = i + 1 := ⟨m - 1, by omega⟩
      obtain ⟨his, hiy⟩ := g2 i hi
      have hmp : (0 : Int) < (m : Int) := by omega
      have hw3 : IntKind.i64.wrap ((m : Int) - 1) = (i : Int) := by rw [IntKind.wrap_i64]; omega
      have hw4 : (m : Int) - 1 = (i : Int) := by omega
      obtain ⟨y, hy⟩ : ∃ y, s[i]'his = y := ⟨_, rfl⟩
      rw [hy] at hiy
      have hy45 : ((y.toNat : Int) == 45) = false := by rw [beq_eq_false_iff_ne]; omega
      clear hi hiy g2
      go_enter Tryd.func7, Tryd.ntmps7
      go_wp2_with (first
        | (go_at_call 8; refine HA.out.mono ?_; rintro e w1 ⟨rfl, HO⟩)
        | (go_at_call 12; first
            | (with_reducible refine (HL0.out _ HO).mono ?_; rintro e w2 ⟨rfl, HO2⟩; clear HO; have HO := HO2; clear HO2)
            | (with_reducible refine (HL1.out _ HO).mono ?_; rintro e w2 ⟨rfl, HO2⟩; clear HO; have HO := HO2; clear HO2)
            | (with_reducible refine (HL2.out _ HO).mono ?_; rintro e w2 ⟨rfl, HO2⟩; clear HO; have HO := HO2; clear HO2)
            | (with_reducible refine (HL3.out _ HO).mono ?_; rintro e w2 ⟨rfl, HO2⟩; clear HO; have HO := HO2; clear HO2)
            | (with_reducible refine (HL4.out _ HO).mono ?_; rintro e w2 ⟨rfl, HO2⟩; clear HO; have HO := HO2; clear HO2))
        | (go_at_call 14; first
            | (with_reducible refine (HT0.out _ HO).mono ?_; rintro e w2 ⟨rfl, HO2⟩; clear HO; have HO := HO2; clear HO2)
            | (with_reducible refine (HT1.out _ HO).mono ?_; rintro e w2 ⟨rfl, HO2⟩; clear HO; have HO := HO2; clear HO2)
            | (with_reducible refine (HT2.out _ HO).mono ?_; rintro e w2 ⟨rfl, HO2⟩; clear HO; have HO := HO2; clear HO2)
            | (with_reducible refine (HT4.out _ HO).mono ?_; rintro e w2 ⟨rfl, HO2⟩; clear HO; have HO := HO2; clear HO2)))
      go_ret
      exact ⟨ret_bool (by first | rfl | simp [c6, c7] | (simp; omega)), HO⟩
end Go.Proofs.YtgfefkomgfgieaaDoor
