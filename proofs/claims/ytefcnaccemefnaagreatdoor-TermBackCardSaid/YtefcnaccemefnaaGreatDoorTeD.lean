/- The document's small answers on terms: small, valid, order, Tagged, Typed. -/
import Derived.Test.YtefcnaccemefnaaGreatDoorTeC
import Derived.Test.YtefcnaccemefnaaGreatDoorUtG
namespace Go.Proofs.YtefcnaccemefnaaGreatDoor
open Go.RowKit U G

theorem smallN_drop {s : ByteArray} {k : Nat} (h : k < s.size) : smallN ((bl s).drop k) = (!(decide (65 ≤ (s[k]'h).toNat) && decide ((s[k]'h).toNat ≤ 90)) && smallN ((bl s).drop (k + 1))) := by
  rw [drop_cons_bl h]
  unfold smallN
  rw [List.all_cons]
set_option maxHeartbeats 1000000 in
theorem small_any {s : ByteArray} {w : World} (hs : s.size ≤ 140737488355328) :
    Calls Tryz.prog 46 #[.string s] w fun e w' => e = .returned (.bool (smallN (bl s))) ∧ w = w' := by
  have HD : Hid (∀ k (h : k < s.size), smallN ((bl s).drop k) = (!(decide (65 ≤ (s[k]'h).toNat) && decide ((s[k]'h).toNat ≤ 90)) && smallN ((bl s).drop (k + 1)))) := hid fun k h => smallN_drop h
  have HE : Hid (smallN ((bl s).drop s.size) = true) := hid (by rw [List.drop_eq_nil_of_le (by rw [bl_len]; exact Nat.le_refl _)]; rfl)
  go_enter Tryz.func46, Tryz.ntmps46
  go_wp2_with fail
  go_loop [3] (fun i => ∃ k : Nat, k ≤ s.size ∧ i = .int .i64 (k : Int) ∧ Hid (smallN (bl s) = smallN ((bl s).drop k))) (fun i => s.size - (intOf i).toNat)
  case atStart => exact ⟨0, by omega, rfl, hid rfl⟩
  case round =>
    obtain ⟨k, hk, rfl, HA⟩ := hrel
    by_cases hp : k < s.size
    · have hp' : (k : Int) < (s.size : Int) := by omega
      have hD := HD.out k hp
      obtain ⟨x, hx⟩ : ∃ x, s[k]'hp = x := ⟨_, rfl⟩
      rw [hx] at hD
      by_cases h1 : 65 ≤ x.toNat
      · have h1' : (65 : Int) ≤ (x.toNat : Int) := by omega
        by_cases h2 : x.toNat ≤ 90
        · have h2' : (x.toNat : Int) ≤ 90 := by omega
          rw [decide_eq_true h1, decide_eq_true h2] at hD
          have HA2 := hid (HA.out.trans hD)
          clear hD HA h1 h2
          go_wp2_with fail
          go_ret
          exact ⟨by rw [HA2.out]; rfl, rfl⟩
        · have h2' : ¬ (x.toNat : Int) ≤ 90 := by omega
          rw [decide_eq_true h1, decide_eq_false h2] at hD
          have HA2 := hid (HA.out.trans hD)
          clear hD HA h1 h2
          go_wp2_with fail
          go_round
          case rel => exact ⟨k + 1, by omega, by go_num, hid (by rw [HA2.out]; simp)⟩
          case measure => simp [intOf]; omega
      · have h1' : ¬ (65 : Int) ≤ (x.toNat : Int) := by omega
        rw [decide_eq_false h1] at hD
        have HA2 := hid (HA.out.trans hD)
        clear hD HA h1
        go_wp2_with fail
        go_round
        case rel => exact ⟨k + 1, by omega, by go_num, hid (by rw [HA2.out]; simp)⟩
        case measure => simp [intOf]; omega
    · obtain rfl : k = s.size := by omega
      have HA2 := hid (HA.out.trans HE.out)
      go_wp2_with fail
      go_ret
      exact ⟨by rw [HA2.out]; rfl, rfl⟩
set_option maxHeartbeats 1000000 in
theorem refValid_any {s : ByteArray} {w : World} (hs : s.size ≤ 900000) :
    Calls Tryz.prog 43 #[.string s] w fun e w' => e = .returned (.bool (vld (bl s))) ∧ StU w w' := by
  have HS := hid (refSigns_any (w := w) hs)
  by_cases h : (sgsL (bl s)).2 = s.size
  · have hv : vld (bl s) = true := decide_eq_true (by rw [bl_len]; exact h)
    rw [hv]
    have HS2 : Hid (Calls Tryz.prog 70 #[.string s] w fun e w' => ∃ A n cap, e = .returned (.tuple #[.slice A n cap, .int .i64 0, .int .i64 0]) ∧ StU w w') := hid (HS.out.mono fun e w' h2 => by
      obtain ⟨h3, ⟨_, A, cap, h4, _⟩ | ⟨h4, _⟩⟩ := h2
      · exact ⟨A, _, cap, h4, h3⟩
      · exact absurd h4 (by omega))
    clear HS h hv hs
    go_enter Tryz.func43, Tryz.ntmps43
    go_wp2_with (go_at_call 70; refine HS2.out.mono ?_; rintro e w1 ⟨A, n, cap, rfl, HO⟩)
    go_ret
    exact ⟨rfl, HO⟩
  · have hv : vld (bl s) = false := decide_eq_false (by rw [bl_len]; exact h)
    rw [hv]
    have HS2 : Hid (Calls Tryz.prog 70 #[.string s] w fun e w' => ∃ z : Int, e = .returned (.tuple #[.slice none 0 0, .int .i64 z, .int .i64 11]) ∧ StU w w') := hid (HS.out.mono fun e w' h2 => by
      obtain ⟨h3, ⟨h4, _⟩ | ⟨_, h4⟩⟩ := h2
      · exact absurd h4 h
      · exact ⟨_, h4, h3⟩)
    clear HS h hv hs
    go_enter Tryz.func43, Tryz.ntmps43
    go_wp2_with (go_at_call 70; refine HS2.out.mono ?_; rintro e w1 ⟨z, rfl, HO⟩)
    go_ret
    exact ⟨rfl, HO⟩
theorem lessL_irrefl : ∀ a : List Nat, lessL a a = false
  | [] => rfl
  | a :: x => by rw [lessL_eq, lessL_irrefl x]
theorem lessL_tri : ∀ a b : List Nat, a = b ∨ lessL a b = true ∨ lessL b a = true
  | [], [] => .inl rfl
  | [], _ :: _ => .inr (.inl rfl)
  | _ :: _, [] => .inr (.inr rfl)
  | a :: x, b :: y => by
    rcases Nat.lt_trichotomy a b with h | h | h
    · exact .inr (.inl (lessL_lt h))
    · subst h
      rw [lessL_eq, lessL_eq]
      rcases lessL_tri x y with h | h | h
      · exact .inl (by rw [h])
      · exact .inr (.inl h)
      · exact .inr (.inr h)
    · exact .inr (.inr (lessL_lt h))
theorem lessL_asymm : ∀ {a b : List Nat}, lessL a b = true → lessL b a = false
  | [], [], h => by cases h
  | [], _ :: _, _ => rfl
  | _ :: _, [], h => by cases h
  | a :: x, b :: y, h => by
    rcases Nat.lt_trichotomy a b with h2 | h2 | h2
    · exact lessL_gt h2
    · subst h2
      rw [lessL_eq] at h ⊢
      exact lessL_asymm h
    · rw [lessL_gt h2] at h; cases h
theorem gtr_str (s t : ByteArray) (W : World) : (binOp .gtr 9 (.string s) (.string t)).run Tryz.prog W = .ok (.bool (lessL (bl t) (bl s))) W := by
  have h : binOp .gtr 9 (.string s) (.string t) = pure (.bool !(Op.bytesLess s.toList t.toList || s.toList == t.toList)) := by simp [binOp, Op.stringOp]
  rw [h, strLess, toList_beq]
  have e : (!(lessL (bl s) (bl t) || decide (s = t))) = lessL (bl t) (bl s) := by
    rcases lessL_tri (bl s) (bl t) with h | h | h
    · have := bl_inj h
      subst this
      rw [lessL_irrefl]
      simp
    · rw [h, lessL_asymm h]; rfl
    · have h2 := lessL_asymm h
      rw [h, h2, decide_eq_false (by rintro rfl; rw [lessL_irrefl] at h; cases h)]
      rfl
  rw [e]
  rfl
set_option maxHeartbeats 1000000 in
theorem order_any (s t : ByteArray) (w : World) : Calls Tryz.prog 47 #[.string s, .string t] w fun e w' => e = .returned (.int .i64 (cmpL (bl s) (bl t))) ∧ w = w' := by
  have h1 := strLess s t
  have h2 := gtr_str s t
  have hc : cmpL (bl s) (bl t) = if lessL (bl s) (bl t) then -1 else if lessL (bl t) (bl s) then 1 else 0 := rfl
  rw [hc]
  clear hc
  cases c1 : lessL (bl s) (bl t) with
  | true =>
    rw [c1] at h1
    clear h2 c1
    go_enter Tryz.func47, Tryz.ntmps47
    go_wp2
    go_ret
    exact ⟨rfl, rfl⟩
  | false =>
    rw [c1] at h1
    cases c2 : lessL (bl t) (bl s) with
    | true =>
      rw [c2] at h2
      clear c1 c2
      go_enter Tryz.func47, Tryz.ntmps47
      go_wp2
      go_ret
      exact ⟨rfl, rfl⟩
    | false =>
      rw [c2] at h2
      clear c1 c2
      go_enter Tryz.func47, Tryz.ntmps47
      go_wp2
      go_ret
      exact ⟨rfl, rfl⟩
set_option maxHeartbeats 1000000 in
theorem refTyp_any (s y : ByteArray) (w : World) : Calls Tryz.prog 26 #[.string s, .string y] w fun e w' => e = .returned (tmV (typT s y)) ∧ StU w w' := by
  by_cases h : y = xsd
  · have he : typT s y = litT s := by unfold typT; rw [if_pos h]
    rw [he]
    have hq := xsd_beq y
    rw [decide_eq_true h] at hq
    clear he h
    go_enter Tryz.func26, Tryz.ntmps26
    go_wp2_with fail
    exact bodyPost_ret (v := tmV (litT s)) (by simp [results, Tryz.results26, go_sem, tmV, litT]; rfl) rfl ⟨rfl, hid ((Only.refl _ w).alloc _)⟩
  · have he : typT s y = ⟨4, s, ByteArray.empty, y⟩ := by unfold typT; rw [if_neg h]
    rw [he]
    have hq := xsd_beq y
    rw [decide_eq_false h] at hq
    clear he h
    go_enter Tryz.func26, Tryz.ntmps26
    go_wp2_with fail
    exact bodyPost_ret (v := tmV ⟨4, s, ByteArray.empty, y⟩) (by simp [results, Tryz.results26, go_sem, tmV]; rfl) rfl ⟨rfl, hid ((Only.refl _ w).alloc _)⟩
end Go.Proofs.YtefcnaccemefnaaGreatDoor
