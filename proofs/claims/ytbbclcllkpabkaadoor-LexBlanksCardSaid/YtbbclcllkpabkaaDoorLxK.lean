/- LexBlanks: both lines have tokens. -/
import Derived.Test.YtbbclcllkpabkaaDoorLxF
namespace Go.Proofs.YtbbclcllkpabkaaDoor.X
open Go.RowKit U G

theorem rdk_add {w : World} {ad : Addr} {ts us : List Tk} {n : Nat} (hn : ts.length = n) (h : RdK w (some ad) (ts ++ us)) : RdK w (some (ad.add (n * 3))) us := by
  cases us with
  | nil => intro j hj; simp at hj
  | cons q us =>
    obtain ⟨b, off, e, _⟩ := h 0 (by simp; omega)
    injection e with e
    subst e
    have e2 : (⟨b, off, none⟩ : Addr).add (n * 3) = ⟨b, off + n * 3, none⟩ := by
      by_cases e0 : n * 3 = 0
      · simp [Addr.add, e0]
      · simp [Addr.add, e0]
    rw [e2, ← hn]
    exact rdk_drop h
set_option maxRecDepth 100000 in
set_option maxHeartbeats 4000000 in
theorem blanks_ok {s t : ByteArray} {z : Int} {w : World} (hT : Tb w) (hE : XerrAt w) (hz : -9223372036854775808 ≤ z ∧ z ≤ 9223372036854775807) (hs : s.size ≤ 1400) (ht : t.size ≤ 1400) (hv : Val (bl s)) (hf0 : (lin (bl s) 0).2 = 0) (hvt : Val (bl t)) (hft : (lin (bl t) 0).2 < 2) :
    Calls Tryd.prog 6 #[.string s, .string t, .int .i64 z] w fun e w' => e = .returned (.bool true) ∧ StU w w' := by
  have hf : (lin (bl s) 0).2 < 2 := by omega
  have h1' : ¬ (1400 : Int) < (s.size : Int) := by omega
  have h2' : ¬ (1400 : Int) < (t.size : Int) := by omega
  have HA := hid (awake9_any hT hE)
  have HPk := hid (fun W => pick_any z 3 W (by omega) (by omega) hz.1 hz.2)
  have HS := hid (fun W (hW : StU w W) => line_is (f := (lin (bl s) 0).2) (ts := (lin (bl s) 0).1) (hT.stu hW) (hE.stu hW) (by omega) hv rfl hf)
  have HN : Hid (∀ (g : ByteArray) W, (g = { data := #[32] } ∨ g = { data := #[9] } ∨ g = { data := #[32, 9, 32] }) → StU w W → Calls Tryd.prog 9 #[.string (s ++ g ++ rem9)] W fun e w' => ∃ A cap, e = .returned (.tuple #[.slice A (lin (bl s) 0).1.length cap, .int .i64 0, .int .i64 0]) ∧ Hid (StU W w' ∧ RdK w' A (lin (bl s) 0).1 ∧ (lin (bl s) 0).1.length ≤ cap ∧ (A = none → (lin (bl s) 0).1.length = 0 ∧ cap = 0))) := hid fun g W hg hW => by
    obtain ⟨b1, b2⟩ := gap_bks g hg
    obtain ⟨m1, f, m2, m3⟩ := line_rem hv hf b1
    exact line_is (hT.stu hW) (hE.stu hW) (by rw [app_size, app_size]; exact Nat.le_trans (show s.size + g.size + 5 ≤ 1408 by omega) (by decide)) m1 m3 m2
  have hln := lin_in _ (bl s) 0 (Nat.le_refl _) hv.bys
  rw [bl_len] at hln
  have hsa : SaK (lin (bl s) 0).1 (lin (bl s) 0).1 0 := sa_refl (m := 0 + s.size) (fun q hq => (hln.2.1 q hq).2.1) (by omega)
  have HSm : Hid (∀ W A B c1 c2, RdK W A (lin (bl s) 0).1 → RdK W B (lin (bl s) 0).1 → Calls Tryd.prog 13 #[.slice A (lin (bl s) 0).1.length c1, .slice B (lin (bl s) 0).1.length c2, .int .i64 0] W fun e w' => e = .returned (.bool true) ∧ StU W w') := hid fun W A B c1 c2 h1 h2 => same_any (off := 0) h1 h2 rfl (by omega) (by omega) hsa
  have HD : Hid (∀ (g : ByteArray) W, (g = { data := #[32] } ∨ g = { data := #[9] } ∨ g = { data := #[32, 9, 32] }) → StU w W → Calls Tryd.prog 9 #[.string (s ++ g ++ dot9)] W fun e w' => ∃ A cap, e = .returned (.tuple #[.slice A ((lin (bl s) 0).1.length + 1) cap, .int .i64 0, .int .i64 0]) ∧ StU W w') := hid fun g W hg hW => by
    obtain ⟨b1, b2⟩ := gap_bks g hg
    obtain ⟨m1, m2, _⟩ := line_dot hv b1
    obtain ⟨q, hq⟩ := m2 hf0
    refine (line_is (hT.stu hW) (hE.stu hW) (by rw [app_size, app_size]; exact Nat.le_trans (show s.size + g.size + 1 ≤ 1408 by omega) (by decide)) m1 hq (by decide)).mono fun e w' ⟨A, cap, h1, h2⟩ => ⟨A, cap, ?_, h2.out.1⟩
    rw [h1, List.length_append, List.length_singleton]
  have HT := hid (fun W (hW : StU w W) => line_is (f := (lin (bl t) 0).2) (ts := (lin (bl t) 0).1) (hT.stu hW) (hE.stu hW) (by omega) hvt rfl hft)
  have HZ : Hid (∀ (g : ByteArray) (k : Nat), (g = { data := #[32] } ∨ g = { data := #[9] } ∨ g = { data := #[32, 9, 32] }) → g.size = k → ∀ W, StU w W → Calls Tryd.prog 9 #[.string (s ++ g ++ t)] W fun e w' => ∃ A cap, e = .returned (.tuple #[.slice A ((lin (bl s) 0).1.length + (lin (bl t) 0).1.length) cap, .int .i64 0, .int .i64 0]) ∧ Hid (StU W w' ∧ RdK w' A ((lin (bl s) 0).1 ++ (lin (bl t) 0).1.map (fun q => (q.1, q.2.1, q.2.2 + (s.size + k)))) ∧ (lin (bl s) 0).1.length + (lin (bl t) 0).1.length ≤ cap ∧ (A = none → (lin (bl s) 0).1.length + (lin (bl t) 0).1.length = 0 ∧ cap = 0))) := hid fun g k hg hk W hW => by
    obtain ⟨b1, b2⟩ := gap_bks g hg
    obtain ⟨_, m2, m3⟩ := line_two (t := t) hv hf0 b1
    rw [if_pos hft, hk] at m3
    have := line_is (hT.stu hW) (hE.stu hW) (by rw [app_size, app_size]; exact Nat.le_trans (show s.size + g.size + t.size ≤ 3000 by omega) (by decide)) (m2 hvt) m3 hft
    rw [List.length_append, List.length_map] at this
    exact this
  have hlt := lin_in _ (bl t) 0 (Nat.le_refl _) hvt.bys
  rw [bl_len] at hlt
  have HSm2 : Hid (∀ k, k ≤ 3 → ∀ W A B c1 c2, RdK W A ((lin (bl t) 0).1.map (fun q => (q.1, q.2.1, q.2.2 + (s.size + k)))) → RdK W B (lin (bl t) 0).1 → Calls Tryd.prog 13 #[.slice A (lin (bl t) 0).1.length c1, .slice B (lin (bl t) 0).1.length c2, .int .i64 ((s.size + k : Nat) : Int)] W fun e w' => e = .returned (.bool true) ∧ StU W w') := hid fun k hk W A B c1 c2 h1 h2 => same_any (off := s.size + k) h1 h2 rfl (by omega) (by omega) (sa_shift (m := 0 + t.size) (fun q hq => (hlt.2.1 q hq).2.1) (by omega))
  have hw1 : IntKind.i64.wrap ((s.size : Int) + 1) = ((s.size + 1 : Nat) : Int) := by rw [IntKind.wrap_i64]; omega
  have hw3 : IntKind.i64.wrap ((s.size : Int) + 3) = ((s.size + 3 : Nat) : Int) := by rw [IntKind.wrap_i64]; omega
  have hnl := hln.1
  have hml := hlt.1
  obtain ⟨n, hn⟩ : ∃ n, (lin (bl s) 0).1.length = n := ⟨_, rfl⟩
  obtain ⟨m, hm⟩ : ∃ m, (lin (bl t) 0).1.length = m := ⟨_, rfl⟩
  rw [hn] at HS HN HSm HD HZ hnl
  rw [hm] at HT HZ HSm2 hml
  have Hn := hid hn
  have Hm := hid hm
  clear hT hE hz hln hsa hv hf hf0 hvt hft hlt hn hm
  generalize (lin (bl s) 0).1 = ts at *
  generalize (lin (bl t) 0).1 = us at *
  have hn1 : (((n + 1 : Nat) : Int) == (n : Int)) = false := by rw [beq_eq_false_iff_ne]; omega
  have hnm : IntKind.i64.wrap ((n : Int) + (m : Int)) = ((n + m : Nat) : Int) := by rw [IntKind.wrap_i64]; omega
  have hn0 : (0 : Int) ≤ (n : Int) := by omega
  have hnm1 : (n : Int) ≤ ((n + m : Nat) : Int) := by omega
  clear hs ht hnl hml
  go_enter Tryd.func6, Tryd.ntmps6
  go_upto_region 6 with (first
    | (go_at_call 7; refine HA.out.mono ?_; rintro e w1 ⟨rfl, HO1⟩; clear HA)
    | (go_at_call 9; refine (HS.out _ HO1).mono ?_; rintro e w2 ⟨A2, c2, rfl, HX⟩; have HO2 : StU w w2 := hid (HO1.out.trans HX.out.1.out); have HR2 := hid HX.out.2.1; clear HX HO1 HS))
  go_upto_region 7 with (go_at_call 9; refine (HT.out _ HO2).mono ?_; rintro e w3 ⟨A3, c3, rfl, HX⟩; have HO3 : StU w w3 := hid (HO2.out.trans HX.out.1.out); have HR3 := hid (HR2.out.only HX.out.1); have HT3 := hid HX.out.2.1; clear HX HO2 HT HR2)
  go_upto_region 8 with (go_at_call 12; refine (HPk.out _).mono ?_; rintro e w4 ⟨r, rfl, hr, hw4⟩; subst hw4; have hr3 : r = 0 ∨ r = 1 ∨ r = 2 := (by omega); rcases hr3 with rfl | rfl | rfl)
  · have HO4 := hid (HO3.out.alloc (.cells #[.string { data := #[32] }, .string { data := #[9] }, .string { data := #[32, 9, 32] }] 9))
    have HR4 := hid (HR3.out.only (hid ((Only.refl _ w3).alloc (.cells #[.string { data := #[32] }, .string { data := #[9] }, .string { data := #[32, 9, 32] }] 9))))
    have HN2 := hid (fun W (hW : StU w W) => HN.out { data := #[32] } W (.inl rfl) hW)
    have HD2 := hid (fun W (hW : StU w W) => HD.out { data := #[32] } W (.inl rfl) hW)
    have HZ2 := hid (fun W (hW : StU w W) => HZ.out { data := #[32] } 1 (.inl rfl) rfl W hW)
    have HT4 := hid (HT3.out.only (hid ((Only.refl _ w3).alloc (.cells #[.string { data := #[32] }, .string { data := #[9] }, .string { data := #[32, 9, 32] }] 9))))
    clear HN HPk HD HO3 HR3 HT3 HZ
    go_upto_region 9 with (go_at_call 9; refine (HN2.out _ HO4).mono ?_; rintro e w5 ⟨A5, c5, rfl, HX⟩; have HO5 : StU w w5 := hid (HO4.out.trans HX.out.1.out); have HR5 := hid (HR4.out.only HX.out.1); have HQ5 := hid HX.out.2.1; have HT5 := hid (HT4.out.only HX.out.1); clear HX HR4 HT4)
    go_upto_region 13 with (go_at_call 13; refine (HSm.out _ _ _ _ _ HQ5.out HR5.out).mono ?_; rintro e w6 ⟨rfl, HO⟩; have HO6 : StU w w6 := hid (HO5.out.trans HO.out); have HR6 := hid (HR5.out.only HO); have HT6 := hid (HT5.out.only HO); clear HO HR5 HQ5 HT5)
    go_upto_region 18 with (go_at_call 9; refine (HD2.out _ HO6).mono ?_; rintro e w7 ⟨A7, c7, rfl, HX⟩; have HO7 : StU w w7 := hid (HO6.out.trans HX.out); have HR7 := hid (HR6.out.only HX); have HT7 := hid (HT6.out.only HX); clear HX HR6 HT6)
    go_upto_region 19 with (go_at_call 9; refine (HZ2.out _ HO7).mono ?_; rintro e w8 ⟨A8, c8, rfl, HX⟩; have HO8 : StU w w8 := hid (HO7.out.trans HX.out.1.out); have HR8 := hid (HR7.out.only HX.out.1); have HT8 := hid (HT7.out.only HX.out.1))
    have HZ8 := hid HX.out.2.1
    have hcap8 : ((n + m : Nat) : Int) ≤ (c8 : Int) := by have := HX.out.2.2.1; omega
    have hA8 : A8 = none → n + m = 0 ∧ c8 = 0 := HX.out.2.2.2
    clear HX HR7 HT7 HO7 HO6 HO5 HO4 HN2 HD2 HZ2
    have HP1 := hid (rdk_take HZ8.out)
    have HSm3 : Hid (∀ W A B c1 c2, RdK W A (us.map (fun q => (q.1, q.2.1, q.2.2 + (s.size + 1)))) → RdK W B us → Calls Tryd.prog 13 #[.slice A m c1, .slice B m c2, .int .i64 ((s.size : Int) + 1)] W fun e w' => e = .returned (.bool true) ∧ StU W w') := hid fun W A B c1 c2 h1 h2 => HSm2.out 1 (by decide) W A B c1 c2 h1 h2
    clear HSm2
    have HAd : Hid (∀ W ad, RdK W (some ad) (ts ++ us.map (fun q => (q.1, q.2.1, q.2.2 + (s.size + 1)))) → RdK W (some (ad.add (n * 3))) (us.map (fun q => (q.1, q.2.1, q.2.2 + (s.size + 1))))) := hid fun W ad h => rdk_add Hn.out h
    have HM0 : Hid (c8 = n → ∀ W A, RdK W A (us.map (fun q => (q.1, q.2.1, q.2.2 + (s.size + 1))))) := hid fun e W A => by
      have hm0 : m = 0 := by omega
      intro j hj
      rw [List.length_map, Hm.out] at hj
      omega
    generalize us.map (fun q => (q.1, q.2.1, q.2.2 + (s.size + 1))) = vs at *
    cases A8 with
    | none =>
      have HMz := hid (HM0.out (by have := hA8 rfl; omega))
      have hn8 : (n : Int) ≤ (c8 : Int) := by omega
      clear hA8 HM0 HAd
      go_wp2_with (first
        | (go_at_call 13; with_reducible (show Calls _ _ #[_, Value.slice A2 _ _, _] _ _); with_reducible (refine (HSm.out _ _ _ _ _ HP1.out HR8.out).mono ?_); rintro e w9 ⟨rfl, HO⟩; have HO9 : StU w w9 := hid (HO8.out.trans HO.out); have HT9 := hid (HT8.out.only HO); clear HO HSm HP1 HR8 HO8 HZ8 HT8)
        | (go_at_call 13; with_reducible (refine (HSm3.out _ _ _ _ _ (HMz.out _ _) HT9.out).mono ?_); rintro e w10 ⟨rfl, HO⟩; have HO10 : StU w w10 := hid (HO9.out.trans HO.out)))
      all_goals (go_ret; exact ⟨rfl, HO10⟩)
    | some ad =>
      clear hA8
      go_wp2_with (first
        | (go_at_call 13; with_reducible (show Calls _ _ #[_, Value.slice A2 _ _, _] _ _); with_reducible (refine (HSm.out _ _ _ _ _ HP1.out HR8.out).mono ?_); rintro e w9 ⟨rfl, HO⟩; have HO9 : StU w w9 := hid (HO8.out.trans HO.out); have HT9 := hid (HT8.out.only HO); have HB9 := hid (HAd.out _ _ (HZ8.out.only HO)); clear HO HSm HP1 HR8 HO8 HZ8 HT8)
        | (go_at_call 13; (first | with_reducible (refine (HSm3.out _ _ _ _ _ HB9.out HT9.out).mono ?_) | with_reducible (refine (HSm3.out _ _ _ _ _ (HM0.out (by omega) _ _) HT9.out).mono ?_)); rintro e w10 ⟨rfl, HO⟩; have HO10 : StU w w10 := hid (HO9.out.trans HO.out)))
      all_goals (go_ret; exact ⟨rfl, HO10⟩)
  · have HO4 := hid (HO3.out.alloc (.cells #[.string { data := #[32] }, .string { data := #[9] }, .string { data := #[32, 9, 32] }] 9))
    have HR4 := hid (HR3.out.only (hid ((Only.refl _ w3).alloc (.cells #[.string { data := #[32] }, .string { data := #[9] }, .string { data := #[32, 9, 32] }] 9))))
    have HN2 := hid (fun W (hW : StU w W) => HN.out { data := #[9] } W (.inr (.inl rfl)) hW)
    have HD2 := hid (fun W (hW : StU w W) => HD.out { data := #[9] } W (.inr (.inl rfl)) hW)
    have HZ2 := hid (fun W (hW : StU w W) => HZ.out { data := #[9] } 1 (.inr (.inl rfl)) rfl W hW)
    have HT4 := hid (HT3.out.only (hid ((Only.refl _ w3).alloc (.cells #[.string { data := #[32] }, .string { data := #[9] }, .string { data := #[32, 9, 32] }] 9))))
    clear HN HPk HD HO3 HR3 HT3 HZ
    go_upto_region 9 with (go_at_call 9; refine (HN2.out _ HO4).mono ?_; rintro e w5 ⟨A5, c5, rfl, HX⟩; have HO5 : StU w w5 := hid (HO4.out.trans HX.out.1.out); have HR5 := hid (HR4.out.only HX.out.1); have HQ5 := hid HX.out.2.1; have HT5 := hid (HT4.out.only HX.out.1); clear HX HR4 HT4)
    go_upto_region 13 with (go_at_call 13; refine (HSm.out _ _ _ _ _ HQ5.out HR5.out).mono ?_; rintro e w6 ⟨rfl, HO⟩; have HO6 : StU w w6 := hid (HO5.out.trans HO.out); have HR6 := hid (HR5.out.only HO); have HT6 := hid (HT5.out.only HO); clear HO HR5 HQ5 HT5)
    go_upto_region 18 with (go_at_call 9; refine (HD2.out _ HO6).mono ?_; rintro e w7 ⟨A7, c7, rfl, HX⟩; have HO7 : StU w w7 := hid (HO6.out.trans HX.out); have HR7 := hid (HR6.out.only HX); have HT7 := hid (HT6.out.only HX); clear HX HR6 HT6)
    go_upto_region 19 with (go_at_call 9; refine (HZ2.out _ HO7).mono ?_; rintro e w8 ⟨A8, c8, rfl, HX⟩; have HO8 : StU w w8 := hid (HO7.out.trans HX.out.1.out); have HR8 := hid (HR7.out.only HX.out.1); have HT8 := hid (HT7.out.only HX.out.1))
    have HZ8 := hid HX.out.2.1
    have hcap8 : ((n + m : Nat) : Int) ≤ (c8 : Int) := by have := HX.out.2.2.1; omega
    have hA8 : A8 = none → n + m = 0 ∧ c8 = 0 := HX.out.2.2.2
    clear HX HR7 HT7 HO7 HO6 HO5 HO4 HN2 HD2 HZ2
    have HP1 := hid (rdk_take HZ8.out)
    have HSm3 : Hid (∀ W A B c1 c2, RdK W A (us.map (fun q => (q.1, q.2.1, q.2.2 + (s.size + 1)))) → RdK W B us → Calls Tryd.prog 13 #[.slice A m c1, .slice B m c2, .int .i64 ((s.size : Int) + 1)] W fun e w' => e = .returned (.bool true) ∧ StU W w') := hid fun W A B c1 c2 h1 h2 => HSm2.out 1 (by decide) W A B c1 c2 h1 h2
    clear HSm2
    have HAd : Hid (∀ W ad, RdK W (some ad) (ts ++ us.map (fun q => (q.1, q.2.1, q.2.2 + (s.size + 1)))) → RdK W (some (ad.add (n * 3))) (us.map (fun q => (q.1, q.2.1, q.2.2 + (s.size + 1))))) := hid fun W ad h => rdk_add Hn.out h
    have HM0 : Hid (c8 = n → ∀ W A, RdK W A (us.map (fun q => (q.1, q.2.1, q.2.2 + (s.size + 1))))) := hid fun e W A => by
      have hm0 : m = 0 := by omega
      intro j hj
      rw [List.length_map, Hm.out] at hj
      omega
    generalize us.map (fun q => (q.1, q.2.1, q.2.2 + (s.size + 1))) = vs at *
    cases A8 with
    | none =>
      have HMz := hid (HM0.out (by have := hA8 rfl; omega))
      have hn8 : (n : Int) ≤ (c8 : Int) := by omega
      clear hA8 HM0 HAd
      go_wp2_with (first
        | (go_at_call 13; with_reducible (show Calls _ _ #[_, Value.slice A2 _ _, _] _ _); with_reducible (refine (HSm.out _ _ _ _ _ HP1.out HR8.out).mono ?_); rintro e w9 ⟨rfl, HO⟩; have HO9 : StU w w9 := hid (HO8.out.trans HO.out); have HT9 := hid (HT8.out.only HO); clear HO HSm HP1 HR8 HO8 HZ8 HT8)
        | (go_at_call 13; with_reducible (refine (HSm3.out _ _ _ _ _ (HMz.out _ _) HT9.out).mono ?_); rintro e w10 ⟨rfl, HO⟩; have HO10 : StU w w10 := hid (HO9.out.trans HO.out)))
      all_goals (go_ret; exact ⟨rfl, HO10⟩)
    | some ad =>
      clear hA8
      go_wp2_with (first
        | (go_at_call 13; with_reducible (show Calls _ _ #[_, Value.slice A2 _ _, _] _ _); with_reducible (refine (HSm.out _ _ _ _ _ HP1.out HR8.out).mono ?_); rintro e w9 ⟨rfl, HO⟩; have HO9 : StU w w9 := hid (HO8.out.trans HO.out); have HT9 := hid (HT8.out.only HO); have HB9 := hid (HAd.out _ _ (HZ8.out.only HO)); clear HO HSm HP1 HR8 HO8 HZ8 HT8)
        | (go_at_call 13; (first | with_reducible (refine (HSm3.out _ _ _ _ _ HB9.out HT9.out).mono ?_) | with_reducible (refine (HSm3.out _ _ _ _ _ (HM0.out (by omega) _ _) HT9.out).mono ?_)); rintro e w10 ⟨rfl, HO⟩; have HO10 : StU w w10 := hid (HO9.out.trans HO.out)))
      all_goals (go_ret; exact ⟨rfl, HO10⟩)
  · have HO4 := hid (HO3.out.alloc (.cells #[.string { data := #[32] }, .string { data := #[9] }, .string { data := #[32, 9, 32] }] 9))
    have HR4 := hid (HR3.out.only (hid ((Only.refl _ w3).alloc (.cells #[.string { data := #[32] }, .string { data := #[9] }, .string { data := #[32, 9, 32] }] 9))))
    have HN2 := hid (fun W (hW : StU w W) => HN.out { data := #[32, 9, 32] } W (.inr (.inr rfl)) hW)
    have HD2 := hid (fun W (hW : StU w W) => HD.out { data := #[32, 9, 32] } W (.inr (.inr rfl)) hW)
    have HZ2 := hid (fun W (hW : StU w W) => HZ.out { data := #[32, 9, 32] } 3 (.inr (.inr rfl)) rfl W hW)
    have HT4 := hid (HT3.out.only (hid ((Only.refl _ w3).alloc (.cells #[.string { data := #[32] }, .string { data := #[9] }, .string { data := #[32, 9, 32] }] 9))))
    clear HN HPk HD HO3 HR3 HT3 HZ
    go_upto_region 9 with (go_at_call 9; refine (HN2.out _ HO4).mono ?_; rintro e w5 ⟨A5, c5, rfl, HX⟩; have HO5 : StU w w5 := hid (HO4.out.trans HX.out.1.out); have HR5 := hid (HR4.out.only HX.out.1); have HQ5 := hid HX.out.2.1; have HT5 := hid (HT4.out.only HX.out.1); clear HX HR4 HT4)
    go_upto_region 13 with (go_at_call 13; refine (HSm.out _ _ _ _ _ HQ5.out HR5.out).mono ?_; rintro e w6 ⟨rfl, HO⟩; have HO6 : StU w w6 := hid (HO5.out.trans HO.out); have HR6 := hid (HR5.out.only HO); have HT6 := hid (HT5.out.only HO); clear HO HR5 HQ5 HT5)
    go_upto_region 18 with (go_at_call 9; refine (HD2.out _ HO6).mono ?_; rintro e w7 ⟨A7, c7, rfl, HX⟩; have HO7 : StU w w7 := hid (HO6.out.trans HX.out); have HR7 := hid (HR6.out.only HX); have HT7 := hid (HT6.out.only HX); clear HX HR6 HT6)
    go_upto_region 19 with (go_at_call 9; refine (HZ2.out _ HO7).mono ?_; rintro e w8 ⟨A8, c8, rfl, HX⟩; have HO8 : StU w w8 := hid (HO7.out.trans HX.out.1.out); have HR8 := hid (HR7.out.only HX.out.1); have HT8 := hid (HT7.out.only HX.out.1))
    have HZ8 := hid HX.out.2.1
    have hcap8 : ((n + m : Nat) : Int) ≤ (c8 : Int) := by have := HX.out.2.2.1; omega
    have hA8 : A8 = none → n + m = 0 ∧ c8 = 0 := HX.out.2.2.2
    clear HX HR7 HT7 HO7 HO6 HO5 HO4 HN2 HD2 HZ2
    have HP1 := hid (rdk_take HZ8.out)
    have HSm3 : Hid (∀ W A B c1 c2, RdK W A (us.map (fun q => (q.1, q.2.1, q.2.2 + (s.size + 3)))) → RdK W B us → Calls Tryd.prog 13 #[.slice A m c1, .slice B m c2, .int .i64 ((s.size : Int) + 3)] W fun e w' => e = .returned (.bool true) ∧ StU W w') := hid fun W A B c1 c2 h1 h2 => HSm2.out 3 (by decide) W A B c1 c2 h1 h2
    clear HSm2
    have HAd : Hid (∀ W ad, RdK W (some ad) (ts ++ us.map (fun q => (q.1, q.2.1, q.2.2 + (s.size + 3)))) → RdK W (some (ad.add (n * 3))) (us.map (fun q => (q.1, q.2.1, q.2.2 + (s.size + 3))))) := hid fun W ad h => rdk_add Hn.out h
    have HM0 : Hid (c8 = n → ∀ W A, RdK W A (us.map (fun q => (q.1, q.2.1, q.2.2 + (s.size + 3))))) := hid fun e W A => by
      have hm0 : m = 0 := by omega
      intro j hj
      rw [List.length_map, Hm.out] at hj
      omega
    generalize us.map (fun q => (q.1, q.2.1, q.2.2 + (s.size + 3))) = vs at *
    cases A8 with
    | none =>
      have HMz := hid (HM0.out (by have := hA8 rfl; omega))
      have hn8 : (n : Int) ≤ (c8 : Int) := by omega
      clear hA8 HM0 HAd
      go_wp2_with (first
        | (go_at_call 13; with_reducible (show Calls _ _ #[_, Value.slice A2 _ _, _] _ _); with_reducible (refine (HSm.out _ _ _ _ _ HP1.out HR8.out).mono ?_); rintro e w9 ⟨rfl, HO⟩; have HO9 : StU w w9 := hid (HO8.out.trans HO.out); have HT9 := hid (HT8.out.only HO); clear HO HSm HP1 HR8 HO8 HZ8 HT8)
        | (go_at_call 13; with_reducible (refine (HSm3.out _ _ _ _ _ (HMz.out _ _) HT9.out).mono ?_); rintro e w10 ⟨rfl, HO⟩; have HO10 : StU w w10 := hid (HO9.out.trans HO.out)))
      all_goals (go_ret; exact ⟨rfl, HO10⟩)
    | some ad =>
      clear hA8
      go_wp2_with (first
        | (go_at_call 13; with_reducible (show Calls _ _ #[_, Value.slice A2 _ _, _] _ _); with_reducible (refine (HSm.out _ _ _ _ _ HP1.out HR8.out).mono ?_); rintro e w9 ⟨rfl, HO⟩; have HO9 : StU w w9 := hid (HO8.out.trans HO.out); have HT9 := hid (HT8.out.only HO); have HB9 := hid (HAd.out _ _ (HZ8.out.only HO)); clear HO HSm HP1 HR8 HO8 HZ8 HT8)
        | (go_at_call 13; (first | with_reducible (refine (HSm3.out _ _ _ _ _ HB9.out HT9.out).mono ?_) | with_reducible (refine (HSm3.out _ _ _ _ _ (HM0.out (by omega) _ _) HT9.out).mono ?_)); rintro e w10 ⟨rfl, HO⟩; have HO10 : StU w w10 := hid (HO9.out.trans HO.out)))
      all_goals (go_ret; exact ⟨rfl, HO10⟩)
theorem lexBlanks_any {s t : ByteArray} {z : Int} {w : World} (hT : Tb w) (hE : XerrAt w) (hz : -9223372036854775808 ≤ z ∧ z ≤ 9223372036854775807) :
    Calls Tryd.prog 6 #[.string s, .string t, .int .i64 z] w fun e w' => e = .returned (.bool true) ∧ StU w w' := by
  by_cases hs : s.size ≤ 1400
  · by_cases ht : t.size ≤ 1400
    · have h := sgsL_le (bl_bys s)
      have h' := sgsL_le (bl_bys t)
      rw [bl_len] at h h'
      rcases Nat.lt_or_ge (sgsL (bl s)).2 s.size with h1 | h1
      · exact blanks_not hT hE hz hs ht (er := 11) (by decide) fun W hW => line_bad (hT.stu hW) (hE.stu hW) (by omega) h1
      · have hv : Val (bl s) := val_of (bl_bys s) (by rw [bl_len]; omega)
        by_cases hf : (lin (bl s) 0).2 < 2
        · by_cases hf1 : (lin (bl s) 0).2 = 1
          · exact blanks_rem hT hE hz hs ht hv hf1
          · have hf0 : (lin (bl s) 0).2 = 0 := by omega
            rcases Nat.lt_or_ge (sgsL (bl t)).2 t.size with h2 | h2
            · refine blanks_err hT hE hz hs ht hv hf0 (at_ := (sgsL (bl t)).2) (er := 11) (by omega) (by decide) (fun W hW => line_bad (hT.stu hW) (hE.stu hW) (by omega) h2) fun g k hg hk W hW => ?_
              obtain ⟨b1, b2⟩ := gap_bks g hg
              obtain ⟨m1, _, _⟩ := line_two (t := t) hv hf0 b1
              have := line_bad (s := s ++ g ++ t) (hT.stu hW) (hE.stu hW) (by rw [app_size, app_size]; omega) (by rw [m1, app_size, app_size]; omega)
              rw [m1, hk] at this
              exact this
            · have hvt : Val (bl t) := val_of (bl_bys t) (by rw [bl_len]; omega)
              by_cases hft : (lin (bl t) 0).2 < 2
              · exact blanks_ok hT hE hz hs ht hv hf0 hvt hft
              · obtain ⟨p, hp⟩ : ∃ p, (lin (bl t) 0).2 = p + 2 := ⟨(lin (bl t) 0).2 - 2, by omega⟩
                have hpl := (lin_in _ (bl t) 0 (Nat.le_refl _) hvt.bys).2.2
                rw [bl_len] at hpl
                refine blanks_err hT hE hz hs ht hv hf0 (at_ := p) (er := 10) (by omega) (by decide) (fun W hW => line_not (hT.stu hW) (hE.stu hW) (by omega) hvt (show lin (bl t) 0 = ((lin (bl t) 0).1, p + 2) by rw [← hp])) fun g k hg hk W hW => ?_
                obtain ⟨b1, b2⟩ := gap_bks g hg
                obtain ⟨_, m2, m3⟩ := line_two (t := t) hv hf0 b1
                rw [if_neg hft, hp, hk] at m3
                exact line_not (p := s.size + k + p) (hT.stu hW) (hE.stu hW) (by rw [app_size, app_size]; omega) (m2 hvt) (m3.trans (by congr 1; omega))
        · obtain ⟨p, hp⟩ : ∃ p, (lin (bl s) 0).2 = p + 2 := ⟨(lin (bl s) 0).2 - 2, by omega⟩
          exact blanks_not hT hE hz hs ht (er := 10) (by decide) fun W hW => line_not (hT.stu hW) (hE.stu hW) (by omega) hv (show lin (bl s) 0 = ((lin (bl s) 0).1, p + 2) by rw [← hp])
    · exact blanks_far hT hE (.inr (by omega))
  · exact blanks_far hT hE (.inl (by omega))
end Go.Proofs.YtbbclcllkpabkaaDoor.X
