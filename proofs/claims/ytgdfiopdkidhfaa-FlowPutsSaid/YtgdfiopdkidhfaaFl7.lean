/- Number, Gamma of a writer. -/
import Derived.Test.YtgdfiopdkidhfaaFl6
import Derived.Test.YtgdfiopdkidhfaaVecS
import Derived.Laws.EntriesVeiled
namespace Go.Proofs.Ytgdfiopdkidhfaa
open Go.RowKit

theorem size_alloc (w : World) (o : Obj) : (w.alloc o).heap.size = w.heap.size + 1 := by simp
theorem flat_take {zs : List Int} {f : Int → List Bool} {k : Nat} (h : k < zs.length) : (zs.take (k + 1)).flatMap f = (zs.take k).flatMap f ++ f (zs.getD k 0) := by
  rw [take_getD h, List.flatMap_append]; simp
theorem flat_len {zs : List Int} {f : Int → List Bool} {k : Nat} (h : k < zs.length) : ((zs.take k).flatMap f).length + (f (zs.getD k 0)).length ≤ (zs.flatMap f).length := by
  have e : zs.flatMap f = (zs.take (k + 1)).flatMap f ++ (zs.drop (k + 1)).flatMap f := by rw [← List.flatMap_append, List.take_append_drop]
  rw [e, flat_take h, List.length_append, List.length_append]
  omega
theorem nd_lt (n : Nat) (h : n < 18446744073709551616) : n < 2 ^ nd n := by
  have := V1.bitLenAux_lt 64 n (by omega)
  exact this
theorem nd_pos {n : Nat} (h : 0 < n) (h2 : n < 18446744073709551616) : 1 ≤ nd n := by
  rcases Nat.eq_zero_or_pos (nd n) with h0 | h0
  · have := nd_lt n h2
    rw [h0] at this
    omega
  · exact h0
theorem gma_len (n : Nat) : (gma n).length = gln n := dgs_len _ _
theorem glnS_gam {zs : List Int} (hi : ∀ z ∈ zs, 1 ≤ z ∧ z ≤ 9223372036854775807) : ∀ k, k ≤ zs.length → glnS zs k = (((gamB (zs.take k)).length : Nat) : Int)
  | 0, _ => by simp [glnS, gamB]
  | k + 1, h => by
    have h2 := hi _ (getD_mem (zs := zs) (k := k) (by omega))
    have h3 := nd_pos (n := (zs.getD k 0).toNat) (by omega) (by omega)
    rw [glnS_step (by omega), glnS_gam hi k (by omega)]
    unfold gamB
    rw [flat_take (by omega), List.length_append, gma_len]
    unfold gln
    omega
theorem okG_all {zs : List Int} (h : okG zs = true) : ∀ z ∈ zs, 1 ≤ z ∧ z < 1152921504606846976 := fun z hz => by
  have h1 := List.all_eq_true.1 h z hz
  simp only [Bool.and_eq_true, decide_eq_true_eq, fitB] at h1
  obtain ⟨n, rfl⟩ := Int.eq_ofNat_of_zero_le (a := z) (by omega)
  have h3 := h1.2.2
  have e : (2 : Int) ^ (60 : Int).toNat = 1152921504606846976 := rfl
  rw [e] at h3
  omega
theorem okN_all {wd : Int} {zs : List Int} (h : okN wd zs = true) : (0 ≤ wd ∧ wd ≤ 60) ∧ ∀ z ∈ zs, 0 ≤ z ∧ z.toNat < 2 ^ wd.toNat := by
  simp only [okN, Bool.and_eq_true, okW, decide_eq_true_eq] at h
  refine ⟨h.1, fun z hz => ?_⟩
  have h1 := List.all_eq_true.1 h.2 z hz
  simp only [Bool.and_eq_true, decide_eq_true_eq, fitB] at h1
  obtain ⟨n, rfl⟩ := Int.eq_ofNat_of_zero_le (a := z) (by omega)
  refine ⟨h1.1, ?_⟩
  have h3 : (((n / 2 ^ wd.toNat : Nat)) : Int) = 0 := by simpa using h1.2
  have h4 : n / 2 ^ wd.toNat = 0 := by omega
  rw [Int.toNat_natCast]
  exact (Nat.div_eq_zero_iff_lt (Nat.two_pow_pos _)).1 h4

set_option maxHeartbeats 2000000 in
theorem number_any {B g cap : Nat} {e wd : Int} {xs : List Bool} {zs : List Int} {A : Option Addr} {w : World} (h : IsWr B w g e xs) (hB : B ≤ w.heap.size) (hy : RdI w A zs) (hA : 0 < zs.length → ArgOk w A B) (hz : I64s zs) (hl : zs.length ≤ 3000000) :
    Calls Try.prog 11 #[.pointer (some ⟨g, 0, none⟩), .int .i64 wd, .slice A zs.length cap] w (WrE B w g (putN (e, xs) wd zs)) := by
  have hrf := one_row ((w.alloc (.cells #[.int .i64 wd] 3)).alloc (.cells #[.slice A zs.length cap] 32)) (.func (.func 35) #[] #[.pointer (some ⟨w.heap.size, 0, none⟩)]) 68
  have hrn := one_row (w.alloc (.cells #[.int .i64 wd] 3)) (.slice A zs.length cap) 32
  rw [size_alloc] at hrn
  have hrw := one_row w (.int .i64 wd) 3
  rw [show ((w.alloc (.cells #[.int .i64 wd] 3)).alloc (.cells #[.slice A zs.length cap] 32)).heap.size = w.heap.size + 1 + 1 by simp] at hrf
  obtain ⟨w1, hw1⟩ : ∃ w1, w1 = ((w.alloc (.cells #[.int .i64 wd] 3)).alloc (.cells #[.slice A zs.length cap] 32)).alloc (.cells #[.func (.func 35) #[] #[.pointer (some ⟨w.heap.size, 0, none⟩)]] 68) := ⟨_, rfl⟩
  have ho : Only (fun _ => False) w w1 := by
    rw [hw1]
    exact (((Only.refl _ w).alloc _).alloc _).alloc _
  have hbf : w1.rowIs (w.heap.size + 1 + 1) 68 1 (fun _ => .func (.func 35) #[] #[.pointer (some ⟨w.heap.size, 0, none⟩)]) := by
    rw [hw1]
    exact hrf
  have hbn : w1.rowIs (w.heap.size + 1) 32 1 (fun _ => .slice A zs.length cap) := by
    rw [hw1]
    exact hrn.alloc _
  have hbw : w1.rowIs w.heap.size 3 1 (fun _ => .int .i64 wd) := by
    rw [hw1]
    exact (hrw.alloc _).alloc _
  have HI := hid (h.same ho)
  have HB := hid (Nat.le_trans hB ho.size)
  have HY := hid (hy.only ho fun _ _ _ => no_)
  have HO := hid ho
  have HY0 := hid hy
  have HA := hid hA
  have HZ := hid hz
  have HRn := hid hbn
  have HRf := hid hbf
  have HRw := hid hbw
  have HM : Hid (∀ W, Only (fun _ => False) w1 W → Calls Try.prog 37 #[.pointer (some ⟨w.heap.size, 0, none⟩), .pointer (some ⟨w.heap.size + 1, 0, none⟩), .pointer (some ⟨w.heap.size + 1 + 1, 0, none⟩)] W fun e w' => e = .returned (.bool (okN wd zs)) ∧ W = w') := hid fun W o =>
    may_num (o.row HRw.out no_ |>.cell (i := 0) (by omega)) (o.row HRn.out no_ |>.cell (i := 0) (by omega)) (o.row HRf.out no_ |>.cell (i := 0) (by omega)) (HY.out.only o fun _ _ _ => no_) HZ.out (by omega)
  have HS : Hid (okN wd zs = true → ∀ W, Only (fun _ => False) w1 W → Calls Try.prog 40 #[.pointer (some ⟨w.heap.size, 0, none⟩), .pointer (some ⟨w.heap.size + 1, 0, none⟩)] W fun e w' => e = .returned (.int .i64 (((wd.toNat * zs.length : Nat) : Int))) ∧ W = w') := hid fun hok W o => by
    have h2 := (okN_all hok).1
    obtain ⟨q, hq⟩ := Int.eq_ofNat_of_zero_le h2.1
    have h3 := (o.row HRw.out no_).cell (i := 0) (by omega)
    subst hq
    rw [Int.toNat_natCast]
    exact size_num h3 (o.row HRn.out no_ |>.cell (i := 0) (by omega)) (by omega) hl
  have HAd := hid (admit_num w.heap.size (w.heap.size + 1) (w.heap.size + 1 + 1) (okN wd zs) (((wd.toNat * zs.length : Nat) : Int)) HI.out (fun hok => by have h2 := (okN_all hok).1; have h3 := Nat.mul_le_mul (show wd.toNat ≤ 60 by omega) hl; omega) HM HS)
  have hcase := putAll_adm e xs (okN wd zs) (numB wd.toNat zs) (((wd.toNat * zs.length : Nat) : Int)) (fun hok => by rw [numB_len])
  unfold putN
  clear h hB hy ho hbn hbf hA hz hrn HM HS hbw hrw
  rcases hcase with ⟨hr, hp⟩ | ⟨hr, hp, hok, hsum, rfl⟩
  · rw [hp]
    generalize admE e xs (okN wd zs) (((wd.toNat * zs.length : Nat) : Int)) = r at HAd hr ⊢
    have hr2 : (r != 0) = true := bne_iff_ne.2 hr
    clear hp HZ
    go_enter Try.func11, Try.ntmps11
    go_wp2_with fail
    rw [← hw1]
    clear hw1 hrf
    refine HAd.out.mono ?_
    rintro e' w2 ⟨rfl, h2⟩
    go_wp2_with fail
    go_ret
    exact ⟨rfl, hid ⟨h2.out.1, (FrT.of_only HO.out).trans h2.out.2⟩⟩
  · rw [hp]
    rw [hr] at HAd
    have HS := hid hsum
    have HOk := hid (okN_all hok).2
    have hwd := (okN_all hok).1
    obtain ⟨wn, rfl⟩ := Int.eq_ofNat_of_zero_le hwd.1
    rw [Int.toNat_natCast] at HS HOk ⊢
    clear hok HZ
    clear hp hr hsum
    obtain ⟨N, hN⟩ : ∃ N, N = zs.length := ⟨_, rfl⟩
    rw [← hN] at hw1 hl HRn hrf ⊢
    have HN := hid hN
    clear hN
    go_enter Try.func11, Try.ntmps11
    go_wp2_with fail
    rw [← hw1]
    clear hw1 hrf
    refine HAd.out.mono ?_
    rintro e' w2 ⟨rfl, h2⟩
    have hbc2 := (h2.out.2.row HRn.out (by unfold TW; decide)).cell (i := 0) (by omega)
    have HK : Hid (BitE B w1 g 0 (xs ++ (zs.take 0).flatMap (fun z => dgs wn z.toNat)) w2) := hid ⟨by simpa using h2.out.1, h2.out.2⟩
    clear h2 HAd
    go_wp2_with fail
    go_loopw [21] (fun s wr => ∃ k : Nat, k ≤ N ∧ s = .int .i64 k ∧ Hid (BitE B w1 g 0 (xs ++ (zs.take k).flatMap (fun z => dgs wn z.toNat)) wr)) (fun s _ => N - (intOf s).toNat)
    case atStart => exact ⟨0, by omega, rfl, HK⟩
    case round =>
      obtain ⟨k, hk, rfl, HI2⟩ := hrel
      clear HK hbc2
      by_cases hp : k < N
      · obtain ⟨b, off, hAe, hc, _⟩ := (((FrT.of_only HO.out).trans HI2.out.2).rdV' HY0.out (HA.out (by have := HN.out; omega))).at (k := k) (by rw [← HN.out]; exact hp)
        subst hAe
        unfold vI at hc
        have cw := (HI2.out.2.row HRw.out (by unfold TW; decide)).cell (i := 0) (by omega)
        have HT := hid (flat_take (zs := zs) (f := (fun z => dgs wn z.toNat)) (k := k) (by rw [← HN.out]; exact hp))
        have hr1 := HOk.out _ (getD_mem (zs := zs) (k := k) (by rw [← HN.out]; exact hp))
        have HL := hid (flat_len (zs := zs) (f := (fun z => dgs wn z.toNat)) (k := k) (by rw [← HN.out]; exact hp))
        have HL2 : Hid ((xs ++ (zs.take k).flatMap (fun z => dgs wn z.toNat)).length + ((fun z => dgs wn z.toNat) (zs.getD k 0)).length ≤ 16777216) := hid (by
          rw [List.length_append, Nat.add_assoc]
          exact Nat.le_trans (Nat.add_le_add_left HL.out xs.length) HS.out)
        clear HL
        generalize zs.getD k 0 = z at hc HT hr1 HL2
        obtain ⟨n, rfl⟩ := Int.eq_ofNat_of_zero_le (a := z) (by omega)
        have hn : n < 9223372036854775808 := by have h1 := hr1.2; rw [Int.toNat_natCast] at h1; have h2 : 2 ^ wn ≤ 2 ^ 60 := Nat.pow_le_pow_right (by decide) (by omega); omega
        go_wp2_with fail
        refine (digits_any wn n HI2.out.1 (Nat.le_trans HB.out HI2.out.2.size) (by omega) hn (by have h := HL2.out; rw [dgs_len] at h; exact h)).mono ?_
        rintro e' w3 ⟨rfl, h3⟩
        have HN2 : Hid (BitE B w1 g 0 (xs ++ (zs.take (k + 1)).flatMap (fun z => dgs wn z.toNat)) w3) := hid (by
          rw [HT.out, ← List.append_assoc]
          exact ⟨h3.out.1, HI2.out.2.trans h3.out.2⟩)
        clear h3 HI2 HL2 HT hc cw
        go_wp2_with fail
        go_roundw
        case rel => exact ⟨k + 1, by omega, by go_num, HN2⟩
        case measure => simp [intOf]; omega
      · obtain rfl : k = N := by omega
        have HD : Hid (IsWr B wr g 0 (xs ++ numB wn zs) ∧ FrT TW B w wr) := hid (by
          have h := HI2.out
          rw [HN.out, List.take_length] at h
          exact ⟨h.1, (FrT.of_only HO.out).trans h.2⟩)
        clear HI2
        go_wp2_with fail
        go_ret
        exact ⟨rfl, HD⟩

set_option maxHeartbeats 2000000 in
theorem gamma_any {B g cap : Nat} {e : Int} {xs : List Bool} {zs : List Int} {A : Option Addr} {w : World} (h : IsWr B w g e xs) (hB : B ≤ w.heap.size) (hy : RdI w A zs) (hA : 0 < zs.length → ArgOk w A B) (hz : I64s zs) (hl : zs.length ≤ 3000000) :
    Calls Try.prog 13 #[.pointer (some ⟨g, 0, none⟩), .slice A zs.length cap] w (WrE B w g (putG (e, xs) zs)) := by
  have hrf := one_row (w.alloc (.cells #[.slice A zs.length cap] 32)) (.func (.func 43) #[] #[]) 68
  have hrn := one_row w (.slice A zs.length cap) 32
  
  rw [show (w.alloc (.cells #[.slice A zs.length cap] 32)).heap.size = w.heap.size + 1 by simp] at hrf
  obtain ⟨w1, hw1⟩ : ∃ w1, w1 = (w.alloc (.cells #[.slice A zs.length cap] 32)).alloc (.cells #[.func (.func 43) #[] #[]] 68) := ⟨_, rfl⟩
  have ho : Only (fun _ => False) w w1 := by
    rw [hw1]
    exact ((Only.refl _ w).alloc _).alloc _
  have hbf : w1.rowIs (w.heap.size + 1) 68 1 (fun _ => .func (.func 43) #[] #[]) := by
    rw [hw1]
    exact hrf
  have hbn : w1.rowIs (w.heap.size) 32 1 (fun _ => .slice A zs.length cap) := by
    rw [hw1]
    exact hrn.alloc _
  
  have HI := hid (h.same ho)
  have HB := hid (Nat.le_trans hB ho.size)
  have HY := hid (hy.only ho fun _ _ _ => no_)
  have HO := hid ho
  have HY0 := hid hy
  have HA := hid hA
  have HZ := hid hz
  have HRn := hid hbn
  have HRf := hid hbf
  
  have HM : Hid (∀ W, Only (fun _ => False) w1 W → Calls Try.prog 44 #[.pointer (some ⟨w.heap.size, 0, none⟩), .pointer (some ⟨w.heap.size + 1, 0, none⟩)] W fun e w' => e = .returned (.bool (okG zs)) ∧ W = w') := hid fun W o =>
    may_gam (o.row HRn.out no_ |>.cell (i := 0) (by omega)) (o.row HRf.out no_ |>.cell (i := 0) (by omega)) (HY.out.only o fun _ _ _ => no_) HZ.out (by omega)
  have HS : Hid (okG zs = true → ∀ W, Only (fun _ => False) w1 W → Calls Try.prog 45 #[.pointer (some ⟨w.heap.size, 0, none⟩)] W fun e w' => e = .returned (.int .i64 (glnS zs zs.length)) ∧ W = w') := hid fun hok W o => by
    exact size_gam (o.row HRn.out no_ |>.cell (i := 0) (by omega)) (HY.out.only o fun _ _ _ => no_) (fun z hzm => by have := okG_all hok z hzm; omega) hl
  have HAd := hid (admit_gam w.heap.size (w.heap.size + 1) (okG zs) (glnS zs zs.length) HI.out (fun hok => by have h2 := glnS_le (zs := zs) (fun z hzm => by have := okG_all hok z hzm; omega) zs.length (Nat.le_refl _); omega) HM HS)
  have hcase := putAll_adm e xs (okG zs) (gamB zs) (glnS zs zs.length) (fun hok => by have h2 := glnS_gam (zs := zs) (fun z hzm => by have := okG_all hok z hzm; omega) zs.length (Nat.le_refl _); rwa [List.take_length] at h2)
  unfold putG
  clear h hB hy ho hbn hbf hA hz hrn HM HS 
  rcases hcase with ⟨hr, hp⟩ | ⟨hr, hp, hok, hsum, rfl⟩
  · rw [hp]
    generalize admE e xs (okG zs) (glnS zs zs.length) = r at HAd hr ⊢
    have hr2 : (r != 0) = true := bne_iff_ne.2 hr
    clear hp HZ
    go_enter Try.func13, Try.ntmps13
    go_wp2_with fail
    rw [← hw1]
    clear hw1 hrf
    refine HAd.out.mono ?_
    rintro e' w2 ⟨rfl, h2⟩
    go_wp2_with fail
    go_ret
    exact ⟨rfl, hid ⟨h2.out.1, (FrT.of_only HO.out).trans h2.out.2⟩⟩
  · rw [hp]
    rw [hr] at HAd
    have HS := hid hsum
    have HOk := hid (okG_all hok)
    clear hok HZ
    clear hp hr hsum
    obtain ⟨N, hN⟩ : ∃ N, N = zs.length := ⟨_, rfl⟩
    rw [← hN] at hw1 hl HRn hrf ⊢
    have HN := hid hN
    clear hN
    go_enter Try.func13, Try.ntmps13
    go_wp2_with fail
    rw [← hw1]
    clear hw1 hrf
    refine HAd.out.mono ?_
    rintro e' w2 ⟨rfl, h2⟩
    have hbc2 := (h2.out.2.row HRn.out (by unfold TW; decide)).cell (i := 0) (by omega)
    have HK : Hid (BitE B w1 g 0 (xs ++ (zs.take 0).flatMap (fun z => gma z.toNat)) w2) := hid ⟨by simpa using h2.out.1, h2.out.2⟩
    clear h2 HAd
    go_wp2_with fail
    go_loopw [18] (fun s wr => ∃ k : Nat, k ≤ N ∧ s = .int .i64 k ∧ Hid (BitE B w1 g 0 (xs ++ (zs.take k).flatMap (fun z => gma z.toNat)) wr)) (fun s _ => N - (intOf s).toNat)
    case atStart => exact ⟨0, by omega, rfl, HK⟩
    case round =>
      obtain ⟨k, hk, rfl, HI2⟩ := hrel
      clear HK hbc2
      by_cases hp : k < N
      · obtain ⟨b, off, hAe, hc, _⟩ := (((FrT.of_only HO.out).trans HI2.out.2).rdV' HY0.out (HA.out (by have := HN.out; omega))).at (k := k) (by rw [← HN.out]; exact hp)
        subst hAe
        unfold vI at hc
        
        have HT := hid (flat_take (zs := zs) (f := (fun z => gma z.toNat)) (k := k) (by rw [← HN.out]; exact hp))
        have hr1 := HOk.out _ (getD_mem (zs := zs) (k := k) (by rw [← HN.out]; exact hp))
        have HL := hid (flat_len (zs := zs) (f := (fun z => gma z.toNat)) (k := k) (by rw [← HN.out]; exact hp))
        have HL2 : Hid ((xs ++ (zs.take k).flatMap (fun z => gma z.toNat)).length + ((fun z => gma z.toNat) (zs.getD k 0)).length ≤ 16777216) := hid (by
          rw [List.length_append, Nat.add_assoc]
          exact Nat.le_trans (Nat.add_le_add_left HL.out xs.length) HS.out)
        clear HL
        generalize zs.getD k 0 = z at hc HT hr1 HL2
        obtain ⟨n, rfl⟩ := Int.eq_ofNat_of_zero_le (a := z) (by omega)
        have hn : n < 9223372036854775808 := by omega
        have hL := nd_le n (by omega)
        have hLp := nd_pos (n := n) (by omega) (by omega)
        have HG : Hid (∀ W : World, Calls Try.prog 47 #[.int .i64 (n : Int)] W fun e' w' => e' = .returned (.int .i64 ((gln n : Nat) : Int)) ∧ W = w') := hid fun W => by
          refine (gammaLen_any n W hn).mono ?_
          rintro e w' ⟨rfl, rfl⟩
          exact ⟨ret_int (by unfold gln; omega), rfl⟩
        have hg : gln n ≤ 200 := by unfold gln; omega
        clear hL hLp
        go_wp2_with fail
        refine (HG.out _).mono ?_
        rintro e' w3 ⟨rfl, rfl⟩
        go_wp2_with fail
        refine (digits_any (gln n) n HI2.out.1 (Nat.le_trans HB.out HI2.out.2.size) hg hn (by have h := HL2.out; rw [gma_len, Int.toNat_natCast] at h; exact h)).mono ?_
        rintro e' w3 ⟨rfl, h3⟩
        have HN2 : Hid (BitE B w1 g 0 (xs ++ (zs.take (k + 1)).flatMap (fun z => gma z.toNat)) w3) := hid (by
          rw [HT.out, ← List.append_assoc]
          exact ⟨h3.out.1, HI2.out.2.trans h3.out.2⟩)
        clear h3 HI2 HL2 HT hc 
        go_wp2_with fail
        go_roundw
        case rel => exact ⟨k + 1, by omega, by go_num, HN2⟩
        case measure => simp [intOf]; omega
      · obtain rfl : k = N := by omega
        have HD : Hid (IsWr B wr g 0 (xs ++ gamB zs) ∧ FrT TW B w wr) := hid (by
          have h := HI2.out
          rw [HN.out, List.take_length] at h
          exact ⟨h.1, (FrT.of_only HO.out).trans h.2⟩)
        clear HI2
        go_wp2_with fail
        go_ret
        exact ⟨rfl, HD⟩

end Go.Proofs.Ytgdfiopdkidhfaa
