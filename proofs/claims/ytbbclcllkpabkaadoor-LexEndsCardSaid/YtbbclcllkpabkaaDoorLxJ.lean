/- The document's token: labels, tags, points; its Line. -/
import Derived.Test.YtbbclcllkpabkaaDoorLxI
namespace Go.Proofs.YtbbclcllkpabkaaDoor.X
open Go.RowKit U G

theorem ext_szJ {s : ByteArray} {a b : Nat} : (s.extract a b).size ≤ s.size := by rw [← bl_len, bl_extract, List.length_drop, List.length_take, bl_len]; omega
theorem strB_ext (s : ByteArray) (i n : Nat) : strB (((bl s).drop i).take n) = s.extract i (i + n) := by
  rw [← strB_bl (s.extract i (i + n)), bl_extract, List.drop_take, Nat.add_sub_cancel_left]
set_option maxHeartbeats 8000000 in
set_option maxRecDepth 100000 in
theorem refTok_lab {s : ByteArray} {a : Nat} {w : World} (ha : a < s.size) (hs : s.size ≤ 100000) (hv : Val ((bl s).drop a)) (hc : (bl s).getD a 0 = 95) (ha1 : a + 1 < s.size) (hc1 : (bl s).getD (a + 1) 0 = 58) :
    Calls Tryd.prog 21 #[.string s, .int .i64 (a : Int)] w (RtE w a (tok ((bl s).drop a))) := by
  obtain ⟨w1, g, w2, h, hw1, hg, hw2, hh, HR⟩ := rdt_start w (a : Int)
  have ha0 : (0 : Int) ≤ (a : Int) := by omega
  have hal : (a : Int) < (s.size : Int) := by omega
  obtain ⟨x, hx⟩ : ∃ x, s[a]'ha = x := ⟨_, rfl⟩
  have hxl := x.toNat_lt
  have hgd : ((bl s).drop a).getD 0 0 = x.toNat := by rw [drop_getD, Nat.add_zero, bl_at ha, hx]
  have hw : IntKind.i64.wrap ((a : Int) + 1) = ((a + 1 : Nat) : Int) := by rw [IntKind.wrap_i64]; omega
  obtain ⟨x1, hx1⟩ : ∃ x1, s[a + 1]'ha1 = x1 := ⟨_, rfl⟩
  have hxc : x.toNat = 95 := by rw [← hx, ← bl_at ha]; exact hc
  have hxc1 : x1.toNat = 58 := by rw [← hx1, ← bl_at ha1]; exact hc1
  have hgd1 : ((bl s).drop a).getD 1 0 = x1.toNat := by rw [drop_getD, bl_at ha1, hx1]
  have ht : tok ((bl s).drop a) = if lab ((bl s).drop (a + 2)) = 0 then none else some (2, ((bl s).drop (a + 2)).take (lab ((bl s).drop (a + 2))), 2 + lab ((bl s).drop (a + 2))) := by
    unfold tok
    rw [hgd, hgd1, hxc, hxc1]
    simp only [List.drop_drop]
    rfl
  rw [ht]
  have hll := lab_le (bys_drop (bl_bys s) (a + 2))
  rw [List.length_drop, bl_len] at hll
  have HL : Hid (∀ W, Calls Tryd.prog 32 #[.string (s.extract (a + 2) s.size)] W fun e w' => e = .returned (.int .i64 ((lab ((bl s).drop (a + 2)) : Nat) : Int)) ∧ StU W w') := hid fun W => by
    have := refLabel_any (s := s.extract (a + 2) s.size) (w := W) (Nat.le_trans ext_szJ (by omega))
    rwa [bl_tail] at this
  have hse := strB_ext s (a + 2) (lab ((bl s).drop (a + 2)))
  generalize ((bl s).drop (a + 2)).take (lab ((bl s).drop (a + 2))) = xl at *
  generalize lab ((bl s).drop (a + 2)) = n at *
  have Hxs := hid hse
  have k60 : ((x.toNat : Int) == 60) = false := by rw [beq_eq_false_iff_ne]; omega
  have k34 : ((x.toNat : Int) == 34) = false := by rw [beq_eq_false_iff_ne]; omega
  have k95 : ((x.toNat : Int) == 95) = true := by rw [beq_iff_eq]; omega
  have j58 : ((x1.toNat : Int) == 58) = true := by rw [beq_iff_eq]; omega
  have hw2' : IntKind.i64.wrap ((a : Int) + 2) = ((a + 2 : Nat) : Int) := by rw [IntKind.wrap_i64]; omega
  have hw3' : IntKind.i64.wrap ((a : Int) + 2 + (n : Int)) = ((a + 2 + n : Nat) : Int) := by rw [IntKind.wrap_i64]; omega
  have hw4' : IntKind.i64.wrap (2 + (n : Int)) = ((2 + n : Nat) : Int) := by rw [IntKind.wrap_i64]; omega
  have b1 : ((a + 1 : Nat) : Int) < (s.size : Int) := by omega
  have b2 : (0 : Int) ≤ ((a + 1 : Nat) : Int) := by omega
  have b3 : (0 : Int) ≤ (a : Int) + 2 := by omega
  have b4 : (a : Int) + 2 ≤ (s.size : Int) := by omega
  have b5 : (a : Int) + 2 ≤ (a : Int) + 2 + (n : Int) := by omega
  have b6 : (a : Int) + 2 + (n : Int) ≤ (s.size : Int) := by omega
  have HK := hid (HR.out.kind 2)
  obtain ⟨d0, d1, d2, df0, df1, dl⟩ := HR.out.cells
  by_cases hm : n = 0
  · rw [if_pos hm]
    subst hm
    clear ht hv hgd hgd1 hc hc1 hxc hxc1 hse hll hs
    go_enter Tryd.func21, Tryd.ntmps21
    go_upto_region 1 with fail
    rw [← hw1, ← hg]
    clear hw1 hg
    go_upto_region 2 with fail
    rw [← hw2, ← hh]
    clear hw2 hh
    go_upto_region 13 with (go_at_call 32; refine (HL.out _).mono ?_; rintro e w5 ⟨rfl, HO5⟩; have HK5 := hid (HK.out.same HO5))
    clear HK HL d0 d1 d2 df0 df1 dl
    obtain ⟨c0, c1, c2, _, _, hl⟩ := HK5.out.cells
    obtain ⟨r0, r1, r2, f0, f1, f2, rl⟩ := HK5.out.res
    have HQ := hid fun a b c => HK5.out.fin a b c
    go_wp2_with fail
    obtain ⟨q0, q1, q2, HO⟩ := HQ.out (.int .i64 2) (.string { data := #[] }) (.int .i64 (a : Int))
    exact bodyPost_ret (v := .tuple #[.agg #[.int .i64 2, .string { data := #[] }, .int .i64 (a : Int)], .int .i64 0]) (by simp [results, Tryd.results21, go_sem, q0, q1, q2]) rfl ⟨⟨_, _, rfl⟩, HO⟩
  · rw [if_neg hm]
    have hm0 : ((n : Int) == 0) = false := by rw [beq_eq_false_iff_ne]; omega
    clear ht hv hgd hgd1 hc hc1 hxc hxc1 hse hll hs
    go_enter Tryd.func21, Tryd.ntmps21
    go_upto_region 1 with fail
    rw [← hw1, ← hg]
    clear hw1 hg
    go_upto_region 2 with fail
    rw [← hw2, ← hh]
    clear hw2 hh
    go_upto_region 14 with (go_at_call 32; refine (HL.out _).mono ?_; rintro e w5 ⟨rfl, HO5⟩; have HK5 := hid (HK.out.same HO5); obtain ⟨e0, e1, e2, ef0, ef1, el⟩ := HK5.out.cells)
    clear HK HL d0 d1 d2 df0 df1 dl
    go_upto_region 15 with fail
    have HT6 := hid (HK5.out.text (s.extract (a + 2) (a + 2 + n)))
    obtain ⟨c0, c1, c2, _, _, hl⟩ := HT6.out.cells
    obtain ⟨r0, r1, r2, f0, f1, f2, rl⟩ := HT6.out.res
    have HQ := hid fun a b c => HT6.out.fin a b c
    go_wp2_with fail
    obtain ⟨q0, q1, q2, HO⟩ := HQ.out (.int .i64 2) (.string (s.extract (a + 2) (a + 2 + n))) (.int .i64 (a : Int))
    exact bodyPost_ret (v := .tuple #[.agg #[.int .i64 2, .string (s.extract (a + 2) (a + 2 + n)), .int .i64 (a : Int)], .int .i64 ((2 + n : Nat) : Int)]) (by simp [results, Tryd.results21, go_sem, q0, q1, q2]) rfl ⟨by rw [← Hxs.out]; rfl, HO⟩
set_option maxHeartbeats 8000000 in
set_option maxRecDepth 100000 in
theorem refTok_tag {s : ByteArray} {a : Nat} {w : World} (ha : a < s.size) (hs : s.size ≤ 100000) (hv : Val ((bl s).drop a)) (hc : (bl s).getD a 0 = 64) :
    Calls Tryd.prog 21 #[.string s, .int .i64 (a : Int)] w (RtE w a (tok ((bl s).drop a))) := by
  obtain ⟨w1, g, w2, h, hw1, hg, hw2, hh, HR⟩ := rdt_start w (a : Int)
  have ha0 : (0 : Int) ≤ (a : Int) := by omega
  have hal : (a : Int) < (s.size : Int) := by omega
  obtain ⟨x, hx⟩ : ∃ x, s[a]'ha = x := ⟨_, rfl⟩
  have hxl := x.toNat_lt
  have hgd : ((bl s).drop a).getD 0 0 = x.toNat := by rw [drop_getD, Nat.add_zero, bl_at ha, hx]
  have hw : IntKind.i64.wrap ((a : Int) + 1) = ((a + 1 : Nat) : Int) := by rw [IntKind.wrap_i64]; omega
  have hxc : x.toNat = 64 := by rw [← hx, ← bl_at ha]; exact hc
  have ht : tok ((bl s).drop a) = if tag ((bl s).drop (a + 1)) = 0 then none else some (4, ((bl s).drop (a + 1)).take (tag ((bl s).drop (a + 1))), 1 + tag ((bl s).drop (a + 1))) := by
    unfold tok
    rw [hgd, hxc]
    simp only [List.drop_drop]
    rfl
  rw [ht]
  have hll := tag_le ((bl s).drop (a + 1))
  rw [List.length_drop, bl_len] at hll
  have HL : Hid (∀ W, Calls Tryd.prog 33 #[.string (s.extract (a + 1) s.size)] W fun e w' => e = .returned (.int .i64 ((tag ((bl s).drop (a + 1)) : Nat) : Int)) ∧ W = w') := hid fun W => by
    have := refTag_any (s := s.extract (a + 1) s.size) (w := W) (Nat.le_trans ext_szJ (by omega))
    rwa [bl_tail] at this
  have hse := strB_ext s (a + 1) (tag ((bl s).drop (a + 1)))
  generalize ((bl s).drop (a + 1)).take (tag ((bl s).drop (a + 1))) = xl at *
  generalize tag ((bl s).drop (a + 1)) = n at *
  have Hxs := hid hse
  have k60 : ((x.toNat : Int) == 60) = false := by rw [beq_eq_false_iff_ne]; omega
  have k34 : ((x.toNat : Int) == 34) = false := by rw [beq_eq_false_iff_ne]; omega
  have k95 : ((x.toNat : Int) == 95) = false := by rw [beq_eq_false_iff_ne]; omega
  have k64 : ((x.toNat : Int) == 64) = true := by rw [beq_iff_eq]; omega
  have hw3' : IntKind.i64.wrap ((a : Int) + 1 + (n : Int)) = ((a + 1 + n : Nat) : Int) := by rw [IntKind.wrap_i64]; omega
  have hw4' : IntKind.i64.wrap (1 + (n : Int)) = ((1 + n : Nat) : Int) := by rw [IntKind.wrap_i64]; omega
  have b3 : (0 : Int) ≤ (a : Int) + 1 := by omega
  have b4 : (a : Int) + 1 ≤ (s.size : Int) := by omega
  have b5 : (a : Int) + 1 ≤ (a : Int) + 1 + (n : Int) := by omega
  have b6 : (a : Int) + 1 + (n : Int) ≤ (s.size : Int) := by omega
  have HK := hid (HR.out.kind 4)
  obtain ⟨d0, d1, d2, df0, df1, dl⟩ := HR.out.cells
  by_cases hm : n = 0
  · rw [if_pos hm]
    have hm0 : ((n : Int) == 0) = true := by rw [beq_iff_eq]; omega
    have Hm := hid hm
    clear hm
    clear ht hv hgd hc hxc hse hll hs
    go_enter Tryd.func21, Tryd.ntmps21
    go_upto_region 1 with fail
    rw [← hw1, ← hg]
    clear hw1 hg
    go_upto_region 2 with fail
    rw [← hw2, ← hh]
    clear hw2 hh
    go_upto_region 19 with (go_at_call 33; refine (HL.out _).mono ?_; rintro e w5 ⟨rfl, hw5⟩; subst hw5)
    obtain ⟨e0, e1, e2, ef0, ef1, el⟩ := HK.out.cells
    clear d0 d1 d2 df0 df1 dl HL
    go_upto_region 26 with fail
    have HT6 := hid (HK.out.text (s.extract (a + 1) (a + 1 + n)))
    obtain ⟨c0, c1, c2, _, _, hl⟩ := HT6.out.cells
    obtain ⟨r0, r1, r2, f0, f1, f2, rl⟩ := HT6.out.res
    have HQ := hid fun a b c => HT6.out.fin a b c
    go_wp2_with fail
    obtain ⟨q0, q1, q2, HO⟩ := HQ.out (.int .i64 4) (.string (s.extract (a + 1) (a + 1 + n))) (.int .i64 (a : Int))
    exact bodyPost_ret (v := .tuple #[.agg #[.int .i64 4, .string (s.extract (a + 1) (a + 1 + n)), .int .i64 (a : Int)], .int .i64 0]) (by simp [results, Tryd.results21, go_sem, q0, q1, q2]) rfl ⟨⟨_, _, rfl⟩, HO⟩
  · rw [if_neg hm]
    have hm0 : ((n : Int) == 0) = false := by rw [beq_eq_false_iff_ne]; omega
    clear ht hv hgd hc hxc hse hll hs
    go_enter Tryd.func21, Tryd.ntmps21
    go_upto_region 1 with fail
    rw [← hw1, ← hg]
    clear hw1 hg
    go_upto_region 2 with fail
    rw [← hw2, ← hh]
    clear hw2 hh
    go_upto_region 19 with (go_at_call 33; refine (HL.out _).mono ?_; rintro e w5 ⟨rfl, hw5⟩; subst hw5)
    obtain ⟨e0, e1, e2, ef0, ef1, el⟩ := HK.out.cells
    clear d0 d1 d2 df0 df1 dl HL
    go_upto_region 26 with fail
    have HT6 := hid (HK.out.text (s.extract (a + 1) (a + 1 + n)))
    obtain ⟨c0, c1, c2, _, _, hl⟩ := HT6.out.cells
    obtain ⟨r0, r1, r2, f0, f1, f2, rl⟩ := HT6.out.res
    have HQ := hid fun a b c => HT6.out.fin a b c
    go_wp2_with fail
    obtain ⟨q0, q1, q2, HO⟩ := HQ.out (.int .i64 4) (.string (s.extract (a + 1) (a + 1 + n))) (.int .i64 (a : Int))
    exact bodyPost_ret (v := .tuple #[.agg #[.int .i64 4, .string (s.extract (a + 1) (a + 1 + n)), .int .i64 (a : Int)], .int .i64 ((1 + n : Nat) : Int)]) (by simp [results, Tryd.results21, go_sem, q0, q1, q2]) rfl ⟨by rw [← Hxs.out]; rfl, HO⟩
set_option maxHeartbeats 8000000 in
set_option maxRecDepth 100000 in
theorem refTok_caret {s : ByteArray} {a : Nat} {w : World} (ha : a < s.size) (hs : s.size ≤ 100000) (hv : Val ((bl s).drop a)) (hc : (bl s).getD a 0 = 94) (ha1 : a + 1 < s.size) (hc1 : (bl s).getD (a + 1) 0 = 94) :
    Calls Tryd.prog 21 #[.string s, .int .i64 (a : Int)] w (RtE w a (tok ((bl s).drop a))) := by
  obtain ⟨w1, g, w2, h, hw1, hg, hw2, hh, HR⟩ := rdt_start w (a : Int)
  have ha0 : (0 : Int) ≤ (a : Int) := by omega
  have hal : (a : Int) < (s.size : Int) := by omega
  obtain ⟨x, hx⟩ : ∃ x, s[a]'ha = x := ⟨_, rfl⟩
  have hxl := x.toNat_lt
  have hgd : ((bl s).drop a).getD 0 0 = x.toNat := by rw [drop_getD, Nat.add_zero, bl_at ha, hx]
  have hw : IntKind.i64.wrap ((a : Int) + 1) = ((a + 1 : Nat) : Int) := by rw [IntKind.wrap_i64]; omega
  obtain ⟨x1, hx1⟩ : ∃ x1, s[a + 1]'ha1 = x1 := ⟨_, rfl⟩
  have hxc : x.toNat = 94 := by rw [← hx, ← bl_at ha]; exact hc
  have hxc1 : x1.toNat = 94 := by rw [← hx1, ← bl_at ha1]; exact hc1
  have hgd1 : ((bl s).drop a).getD 1 0 = x1.toNat := by rw [drop_getD, bl_at ha1, hx1]
  have ht : tok ((bl s).drop a) = some (5, [], 2) := by
    unfold tok
    rw [hgd, hgd1, hxc, hxc1]
    rfl
  rw [ht]
  have k60 : ((x.toNat : Int) == 60) = false := by rw [beq_eq_false_iff_ne]; omega
  have k34 : ((x.toNat : Int) == 34) = false := by rw [beq_eq_false_iff_ne]; omega
  have k95 : ((x.toNat : Int) == 95) = false := by rw [beq_eq_false_iff_ne]; omega
  have k64 : ((x.toNat : Int) == 64) = false := by rw [beq_eq_false_iff_ne]; omega
  have k94 : ((x.toNat : Int) == 94) = true := by rw [beq_iff_eq]; omega
  have j94 : ((x1.toNat : Int) == 94) = true := by rw [beq_iff_eq]; omega
  have b1 : ((a + 1 : Nat) : Int) < (s.size : Int) := by omega
  have b2 : (0 : Int) ≤ ((a + 1 : Nat) : Int) := by omega
  have HK := hid (HR.out.kind 5)
  obtain ⟨d0, d1, d2, df0, df1, dl⟩ := HR.out.cells
  clear ht hv hgd hgd1 hc hc1 hxc hxc1 hs
  go_enter Tryd.func21, Tryd.ntmps21
  go_upto_region 1 with fail
  rw [← hw1, ← hg]
  clear hw1 hg
  go_upto_region 2 with fail
  rw [← hw2, ← hh]
  clear hw2 hh
  go_upto_region 26 with fail
  clear d0 d1 d2 df0 df1 dl
  obtain ⟨c0, c1, c2, _, _, hl⟩ := HK.out.cells
  obtain ⟨r0, r1, r2, f0, f1, f2, rl⟩ := HK.out.res
  have HQ := hid fun a b c => HK.out.fin a b c
  go_wp2_with fail
  obtain ⟨q0, q1, q2, HO⟩ := HQ.out (.int .i64 5) (.string { data := #[] }) (.int .i64 (a : Int))
  exact bodyPost_ret (v := .tuple #[.agg #[.int .i64 5, .string { data := #[] }, .int .i64 (a : Int)], .int .i64 2]) (by simp [results, Tryd.results21, go_sem, q0, q1, q2]) rfl ⟨rfl, HO⟩
set_option maxHeartbeats 8000000 in
set_option maxRecDepth 100000 in
theorem refTok_dot {s : ByteArray} {a : Nat} {w : World} (ha : a < s.size) (hs : s.size ≤ 100000) (hv : Val ((bl s).drop a)) (hc : (bl s).getD a 0 = 46) :
    Calls Tryd.prog 21 #[.string s, .int .i64 (a : Int)] w (RtE w a (tok ((bl s).drop a))) := by
  obtain ⟨w1, g, w2, h, hw1, hg, hw2, hh, HR⟩ := rdt_start w (a : Int)
  have ha0 : (0 : Int) ≤ (a : Int) := by omega
  have hal : (a : Int) < (s.size : Int) := by omega
  obtain ⟨x, hx⟩ : ∃ x, s[a]'ha = x := ⟨_, rfl⟩
  have hxl := x.toNat_lt
  have hgd : ((bl s).drop a).getD 0 0 = x.toNat := by rw [drop_getD, Nat.add_zero, bl_at ha, hx]
  have hw : IntKind.i64.wrap ((a : Int) + 1) = ((a + 1 : Nat) : Int) := by rw [IntKind.wrap_i64]; omega
  have hxc : x.toNat = 46 := by rw [← hx, ← bl_at ha]; exact hc
  have ht : tok ((bl s).drop a) = some (6, [], 1) := by
    unfold tok
    rw [hgd, hxc]
    rfl
  rw [ht]
  have k60 : ((x.toNat : Int) == 60) = false := by rw [beq_eq_false_iff_ne]; omega
  have k34 : ((x.toNat : Int) == 34) = false := by rw [beq_eq_false_iff_ne]; omega
  have k95 : ((x.toNat : Int) == 95) = false := by rw [beq_eq_false_iff_ne]; omega
  have k64 : ((x.toNat : Int) == 64) = false := by rw [beq_eq_false_iff_ne]; omega
  have k94 : ((x.toNat : Int) == 94) = false := by rw [beq_eq_false_iff_ne]; omega
  have k46 : ((x.toNat : Int) == 46) = true := by rw [beq_iff_eq]; omega
  have HK := hid (HR.out.kind 6)
  obtain ⟨d0, d1, d2, df0, df1, dl⟩ := HR.out.cells
  clear ht hv hgd hc hxc hs
  go_enter Tryd.func21, Tryd.ntmps21
  go_upto_region 1 with fail
  rw [← hw1, ← hg]
  clear hw1 hg
  go_upto_region 2 with fail
  rw [← hw2, ← hh]
  clear hw2 hh
  go_upto_region 25 with fail
  clear d0 d1 d2 df0 df1 dl
  obtain ⟨c0, c1, c2, _, _, hl⟩ := HK.out.cells
  obtain ⟨r0, r1, r2, f0, f1, f2, rl⟩ := HK.out.res
  have HQ := hid fun a b c => HK.out.fin a b c
  go_wp2_with fail
  obtain ⟨q0, q1, q2, HO⟩ := HQ.out (.int .i64 6) (.string { data := #[] }) (.int .i64 (a : Int))
  exact bodyPost_ret (v := .tuple #[.agg #[.int .i64 6, .string { data := #[] }, .int .i64 (a : Int)], .int .i64 1]) (by simp [results, Tryd.results21, go_sem, q0, q1, q2]) rfl ⟨rfl, HO⟩
set_option maxHeartbeats 8000000 in
set_option maxRecDepth 100000 in
theorem refTok_none0 {s : ByteArray} {a : Nat} {w : World} (ha : a < s.size) (hs : s.size ≤ 100000) (hv : Val ((bl s).drop a)) (hn : tok ((bl s).drop a) = none) (c1 : (bl s).getD a 0 ≠ 60) (c2 : (bl s).getD a 0 ≠ 34) (c3 : (bl s).getD a 0 ≠ 95) (c4 : (bl s).getD a 0 ≠ 64) (c5 : (bl s).getD a 0 ≠ 94) (c6 : (bl s).getD a 0 ≠ 46) :
    Calls Tryd.prog 21 #[.string s, .int .i64 (a : Int)] w (RtE w a (tok ((bl s).drop a))) := by
  obtain ⟨w1, g, w2, h, hw1, hg, hw2, hh, HR⟩ := rdt_start w (a : Int)
  have ha0 : (0 : Int) ≤ (a : Int) := by omega
  have hal : (a : Int) < (s.size : Int) := by omega
  obtain ⟨x, hx⟩ : ∃ x, s[a]'ha = x := ⟨_, rfl⟩
  have hxl := x.toNat_lt
  have hgd : ((bl s).drop a).getD 0 0 = x.toNat := by rw [drop_getD, Nat.add_zero, bl_at ha, hx]
  have hw : IntKind.i64.wrap ((a : Int) + 1) = ((a + 1 : Nat) : Int) := by rw [IntKind.wrap_i64]; omega
  have ht : tok ((bl s).drop a) = none := hn
  rw [ht]
  rw [bl_at ha, hx] at c1 c2 c3 c4 c5 c6
  have k60 : ((x.toNat : Int) == 60) = false := by rw [beq_eq_false_iff_ne]; omega
  have k34 : ((x.toNat : Int) == 34) = false := by rw [beq_eq_false_iff_ne]; omega
  have k95 : ((x.toNat : Int) == 95) = false := by rw [beq_eq_false_iff_ne]; omega
  have k64 : ((x.toNat : Int) == 64) = false := by rw [beq_eq_false_iff_ne]; omega
  have k94 : ((x.toNat : Int) == 94) = false := by rw [beq_eq_false_iff_ne]; omega
  have k46 : ((x.toNat : Int) == 46) = false := by rw [beq_eq_false_iff_ne]; omega
  clear ht hn hv hgd hs c1 c2 c3 c4 c5 c6
  go_enter Tryd.func21, Tryd.ntmps21
  go_upto_region 1 with fail
  rw [← hw1, ← hg]
  clear hw1 hg
  go_upto_region 2 with fail
  rw [← hw2, ← hh]
  clear hw2 hh
  go_upto_region 26 with fail
  obtain ⟨c0, c1, c2, _, _, hl⟩ := HR.out.cells
  obtain ⟨r0, r1, r2, f0, f1, f2, rl⟩ := HR.out.res
  have HQ := hid fun a b c => HR.out.fin a b c
  go_wp2_with fail
  obtain ⟨q0, q1, q2, HO⟩ := HQ.out (.int .i64 0) (.string { data := #[] }) (.int .i64 (a : Int))
  exact bodyPost_ret (v := .tuple #[.agg #[.int .i64 0, .string { data := #[] }, .int .i64 (a : Int)], .int .i64 0]) (by simp [results, Tryd.results21, go_sem, q0, q1, q2]) rfl ⟨⟨_, _, rfl⟩, HO⟩
set_option maxHeartbeats 8000000 in
set_option maxRecDepth 100000 in
theorem refTok_none95 {s : ByteArray} {a : Nat} {w : World} (ha : a < s.size) (hs : s.size ≤ 100000) (hv : Val ((bl s).drop a)) (hn : tok ((bl s).drop a) = none) (hc : (bl s).getD a 0 = 95) (h1 : s.size ≤ a + 1 ∨ (bl s).getD (a + 1) 0 ≠ 58) :
    Calls Tryd.prog 21 #[.string s, .int .i64 (a : Int)] w (RtE w a (tok ((bl s).drop a))) := by
  obtain ⟨w1, g, w2, h, hw1, hg, hw2, hh, HR⟩ := rdt_start w (a : Int)
  have ha0 : (0 : Int) ≤ (a : Int) := by omega
  have hal : (a : Int) < (s.size : Int) := by omega
  obtain ⟨x, hx⟩ : ∃ x, s[a]'ha = x := ⟨_, rfl⟩
  have hxl := x.toNat_lt
  have hgd : ((bl s).drop a).getD 0 0 = x.toNat := by rw [drop_getD, Nat.add_zero, bl_at ha, hx]
  have hw : IntKind.i64.wrap ((a : Int) + 1) = ((a + 1 : Nat) : Int) := by rw [IntKind.wrap_i64]; omega
  have ht : tok ((bl s).drop a) = none := hn
  rw [ht]
  have hxc : x.toNat = 95 := by rw [← hx, ← bl_at ha]; exact hc
  have k60 : ((x.toNat : Int) == 60) = false := by rw [beq_eq_false_iff_ne]; omega
  have k34 : ((x.toNat : Int) == 34) = false := by rw [beq_eq_false_iff_ne]; omega
  have k95 : ((x.toNat : Int) == 95) = true := by rw [beq_iff_eq]; omega
  have k64 : ((x.toNat : Int) == 64) = false := by rw [beq_eq_false_iff_ne]; omega
  have k94 : ((x.toNat : Int) == 94) = false := by rw [beq_eq_false_iff_ne]; omega
  have k46 : ((x.toNat : Int) == 46) = false := by rw [beq_eq_false_iff_ne]; omega
  by_cases ha1 : s.size ≤ a + 1
  · have b1 : ¬ ((a + 1 : Nat) : Int) < (s.size : Int) := by omega
    clear ht hn hv hgd hs hc hxc h1 ha1
    go_enter Tryd.func21, Tryd.ntmps21
    go_upto_region 1 with fail
    rw [← hw1, ← hg]
    clear hw1 hg
    go_upto_region 2 with fail
    rw [← hw2, ← hh]
    clear hw2 hh
    go_upto_region 26 with fail
    obtain ⟨c0, c1, c2, _, _, hl⟩ := HR.out.cells
    obtain ⟨r0, r1, r2, f0, f1, f2, rl⟩ := HR.out.res
    have HQ := hid fun a b c => HR.out.fin a b c
    go_wp2_with fail
    obtain ⟨q0, q1, q2, HO⟩ := HQ.out (.int .i64 0) (.string { data := #[] }) (.int .i64 (a : Int))
    exact bodyPost_ret (v := .tuple #[.agg #[.int .i64 0, .string { data := #[] }, .int .i64 (a : Int)], .int .i64 0]) (by simp [results, Tryd.results21, go_sem, q0, q1, q2]) rfl ⟨⟨_, _, rfl⟩, HO⟩
  · have ha2 : a + 1 < s.size := by omega
    have c1 := h1.resolve_left ha1
    obtain ⟨x1, hx1⟩ : ∃ x1, s[a + 1]'ha2 = x1 := ⟨_, rfl⟩
    rw [bl_at ha2, hx1] at c1
    have j : ((x1.toNat : Int) == 58) = false := by rw [beq_eq_false_iff_ne]; omega
    have b1 : ((a + 1 : Nat) : Int) < (s.size : Int) := by omega
    have b2 : (0 : Int) ≤ ((a + 1 : Nat) : Int) := by omega
    clear ht hn hv hgd hs hc hxc h1 ha1 c1
    go_enter Tryd.func21, Tryd.ntmps21
    go_upto_region 1 with fail
    rw [← hw1, ← hg]
    clear hw1 hg
    go_upto_region 2 with fail
    rw [← hw2, ← hh]
    clear hw2 hh
    go_upto_region 26 with fail
    obtain ⟨c0, c1, c2, _, _, hl⟩ := HR.out.cells
    obtain ⟨r0, r1, r2, f0, f1, f2, rl⟩ := HR.out.res
    have HQ := hid fun a b c => HR.out.fin a b c
    go_wp2_with fail
    obtain ⟨q0, q1, q2, HO⟩ := HQ.out (.int .i64 0) (.string { data := #[] }) (.int .i64 (a : Int))
    exact bodyPost_ret (v := .tuple #[.agg #[.int .i64 0, .string { data := #[] }, .int .i64 (a : Int)], .int .i64 0]) (by simp [results, Tryd.results21, go_sem, q0, q1, q2]) rfl ⟨⟨_, _, rfl⟩, HO⟩
set_option maxHeartbeats 8000000 in
set_option maxRecDepth 100000 in
theorem refTok_none94 {s : ByteArray} {a : Nat} {w : World} (ha : a < s.size) (hs : s.size ≤ 100000) (hv : Val ((bl s).drop a)) (hn : tok ((bl s).drop a) = none) (hc : (bl s).getD a 0 = 94) (h1 : s.size ≤ a + 1 ∨ (bl s).getD (a + 1) 0 ≠ 94) :
    Calls Tryd.prog 21 #[.string s, .int .i64 (a : Int)] w (RtE w a (tok ((bl s).drop a))) := by
  obtain ⟨w1, g, w2, h, hw1, hg, hw2, hh, HR⟩ := rdt_start w (a : Int)
  have ha0 : (0 : Int) ≤ (a : Int) := by omega
  have hal : (a : Int) < (s.size : Int) := by omega
  obtain ⟨x, hx⟩ : ∃ x, s[a]'ha = x := ⟨_, rfl⟩
  have hxl := x.toNat_lt
  have hgd : ((bl s).drop a).getD 0 0 = x.toNat := by rw [drop_getD, Nat.add_zero, bl_at ha, hx]
  have hw : IntKind.i64.wrap ((a : Int) + 1) = ((a + 1 : Nat) : Int) := by rw [IntKind.wrap_i64]; omega
  have ht : tok ((bl s).drop a) = none := hn
  rw [ht]
  have hxc : x.toNat = 94 := by rw [← hx, ← bl_at ha]; exact hc
  have k60 : ((x.toNat : Int) == 60) = false := by rw [beq_eq_false_iff_ne]; omega
  have k34 : ((x.toNat : Int) == 34) = false := by rw [beq_eq_false_iff_ne]; omega
  have k95 : ((x.toNat : Int) == 95) = false := by rw [beq_eq_false_iff_ne]; omega
  have k64 : ((x.toNat : Int) == 64) = false := by rw [beq_eq_false_iff_ne]; omega
  have k94 : ((x.toNat : Int) == 94) = true := by rw [beq_iff_eq]; omega
  have k46 : ((x.toNat : Int) == 46) = false := by rw [beq_eq_false_iff_ne]; omega
  by_cases ha1 : s.size ≤ a + 1
  · have b1 : ¬ ((a + 1 : Nat) : Int) < (s.size : Int) := by omega
    clear ht hn hv hgd hs hc hxc h1 ha1
    go_enter Tryd.func21, Tryd.ntmps21
    go_upto_region 1 with fail
    rw [← hw1, ← hg]
    clear hw1 hg
    go_upto_region 2 with fail
    rw [← hw2, ← hh]
    clear hw2 hh
    go_upto_region 26 with fail
    obtain ⟨c0, c1, c2, _, _, hl⟩ := HR.out.cells
    obtain ⟨r0, r1, r2, f0, f1, f2, rl⟩ := HR.out.res
    have HQ := hid fun a b c => HR.out.fin a b c
    go_wp2_with fail
    obtain ⟨q0, q1, q2, HO⟩ := HQ.out (.int .i64 0) (.string { data := #[] }) (.int .i64 (a : Int))
    exact bodyPost_ret (v := .tuple #[.agg #[.int .i64 0, .string { data := #[] }, .int .i64 (a : Int)], .int .i64 0]) (by simp [results, Tryd.results21, go_sem, q0, q1, q2]) rfl ⟨⟨_, _, rfl⟩, HO⟩
  · have ha2 : a + 1 < s.size := by omega
    have c1 := h1.resolve_left ha1
    obtain ⟨x1, hx1⟩ : ∃ x1, s[a + 1]'ha2 = x1 := ⟨_, rfl⟩
    rw [bl_at ha2, hx1] at c1
    have j : ((x1.toNat : Int) == 94) = false := by rw [beq_eq_false_iff_ne]; omega
    have b1 : ((a + 1 : Nat) : Int) < (s.size : Int) := by omega
    have b2 : (0 : Int) ≤ ((a + 1 : Nat) : Int) := by omega
    clear ht hn hv hgd hs hc hxc h1 ha1 c1
    go_enter Tryd.func21, Tryd.ntmps21
    go_upto_region 1 with fail
    rw [← hw1, ← hg]
    clear hw1 hg
    go_upto_region 2 with fail
    rw [← hw2, ← hh]
    clear hw2 hh
    go_upto_region 26 with fail
    obtain ⟨c0, c1, c2, _, _, hl⟩ := HR.out.cells
    obtain ⟨r0, r1, r2, f0, f1, f2, rl⟩ := HR.out.res
    have HQ := hid fun a b c => HR.out.fin a b c
    go_wp2_with fail
    obtain ⟨q0, q1, q2, HO⟩ := HQ.out (.int .i64 0) (.string { data := #[] }) (.int .i64 (a : Int))
    exact bodyPost_ret (v := .tuple #[.agg #[.int .i64 0, .string { data := #[] }, .int .i64 (a : Int)], .int .i64 0]) (by simp [results, Tryd.results21, go_sem, q0, q1, q2]) rfl ⟨⟨_, _, rfl⟩, HO⟩
theorem refTok_any {s : ByteArray} {a : Nat} {w : World} (ha : a < s.size) (hs : s.size ≤ 100000) (hv : Val ((bl s).drop a)) :
    Calls Tryd.prog 21 #[.string s, .int .i64 (a : Int)] w (RtE w a (tok ((bl s).drop a))) := by
  have e0 : ((bl s).drop a).getD 0 0 = (bl s).getD a 0 := by rw [drop_getD, Nat.add_zero]
  have e1 : ((bl s).drop a).getD 1 0 = (bl s).getD (a + 1) 0 := by rw [drop_getD]
  have hout : s.size ≤ a + 1 → (bl s).getD (a + 1) 0 = 0 := fun h => by rw [List.getD_eq_getElem?_getD, List.getElem?_eq_none (by rw [bl_len]; exact h)]; rfl
  by_cases h1 : (bl s).getD a 0 = 60
  · exact refTok_iri ha hs hv h1
  by_cases h2 : (bl s).getD a 0 = 34
  · exact refTok_text ha hs hv h2
  by_cases h4 : (bl s).getD a 0 = 64
  · exact refTok_tag ha hs hv h4
  by_cases h6 : (bl s).getD a 0 = 46
  · exact refTok_dot ha hs hv h6
  by_cases h3 : (bl s).getD a 0 = 95
  · by_cases h31 : a + 1 < s.size ∧ (bl s).getD (a + 1) 0 = 58
    · exact refTok_lab ha hs hv h3 h31.1 h31.2
    · refine refTok_none95 ha hs hv ?_ h3 (by rcases Nat.lt_or_ge (a + 1) s.size with h | h; exact .inr fun e => h31 ⟨h, e⟩; exact .inl h)
      have : (bl s).getD (a + 1) 0 ≠ 58 := fun e => h31 ⟨(by rcases Nat.lt_or_ge (a + 1) s.size with h | h; exact h; rw [hout h] at e; cases e), e⟩
      unfold tok
      rw [e0, e1, if_neg h1, if_neg (fun h => this h.2), if_neg h2, if_neg h4, if_neg (fun h => by rw [h3] at h; cases h.1), if_neg h6]
  by_cases h5 : (bl s).getD a 0 = 94
  · by_cases h51 : a + 1 < s.size ∧ (bl s).getD (a + 1) 0 = 94
    · exact refTok_caret ha hs hv h5 h51.1 h51.2
    · refine refTok_none94 ha hs hv ?_ h5 (by rcases Nat.lt_or_ge (a + 1) s.size with h | h; exact .inr fun e => h51 ⟨h, e⟩; exact .inl h)
      have : (bl s).getD (a + 1) 0 ≠ 94 := fun e => h51 ⟨(by rcases Nat.lt_or_ge (a + 1) s.size with h | h; exact h; rw [hout h] at e; cases e), e⟩
      unfold tok
      rw [e0, e1, if_neg h1, if_neg (fun h => h3 h.1), if_neg h2, if_neg h4, if_neg (fun h => this h.2), if_neg h6]
  refine refTok_none0 ha hs hv ?_ h1 h2 h3 h4 h5 h6
  unfold tok
  rw [e0, e1, if_neg h1, if_neg (fun h => h3 h.1), if_neg h2, if_neg h4, if_neg (fun h => h5 h.1), if_neg h6]
end Go.Proofs.YtbbclcllkpabkaaDoor.X
