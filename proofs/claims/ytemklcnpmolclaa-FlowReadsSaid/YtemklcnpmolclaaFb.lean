/- A deed read again. -/
import Derived.Test.YtemklcnpmolclaaFd
import Derived.Deep.RegionWith
namespace Go.Proofs.Ytemklcnpmolclaa
open Go.RowKit

def BackE (B : Nat) (w : World) (r gb : Nat) (f : Nat → Bool) (n a : Nat) (e' : Ending) (w' : World) : Prop := e' = .returned (.bool true) ∧ Hid (IsRd B w' r gb 0 f n a ∧ FrT TR B w w')
theorem fr_box {B : Nat} {w w' : World} {k : Nat} {d : Dd} (o : FrT TR B w w') (h : w.rowIs k 35 4 d.val) : w'.rowIs k 35 4 d.val := o.row h (by unfold TR; decide)
/-- What is read lies below. -/
def Old (A : Option Addr) (L B : Nat) : Prop := 0 < L → ∀ b off, A = some ⟨b, off, none⟩ → b < B
theorem fr_rd {B : Nat} {w w' : World} {A : Option Addr} {L : Nat} {V : Nat → Value} (o : FrT TR B w w') (h : RdV w A L V) (hA : Old A L B) : RdV w' A L V := by
  intro h0
  exact (o.rdV' h fun b off e _ => .inl (hA h0 b off e)) h0
theorem flat_split {zs : List Int} {F : Int → List Bool} {k : Nat} (h : k < zs.length) : zs.flatMap F = (zs.take k).flatMap F ++ (F (zs.getD k 0) ++ (zs.drop (k + 1)).flatMap F) := by
  rw [← List.append_assoc, ← flat_take h, ← List.flatMap_append, List.take_append_drop]
theorem has_flat {f : Nat → Bool} {a k : Nat} {zs : List Int} {F : Int → List Bool} (h : Has f a (zs.flatMap F)) (hk : k < zs.length) : Has f (a + ((zs.take k).flatMap F).length) (F (zs.getD k 0)) := by
  rw [flat_split hk] at h
  exact h.right.left
theorem next_bool (b : Bool) : ((((b.toNat : Nat) : Int)) == 1) = b := by cases b <;> rfl

set_option maxHeartbeats 2000000 in
theorem back_bits {B r gb n a : Nat} {f : Nat → Bool} {d : Dd} {w : World} (h : IsRd B w r gb 0 f n a) (hd : DIn w d) (hA : Old d.oa d.ys.length B) (hm : d.what % 3 = 0) (hok : True) (hh : Has f a (d.ys)) (hn : a + (d.ys).length ≤ n) :
    Calls Try.prog 37 #[.pointer (some ⟨r, 0, none⟩), .agg (deedArr d)] w (BackE B w r gb f n (a + (d.ys).length)) := by
  obtain ⟨w1, hw1⟩ : ∃ w1, w1 = w.alloc (.cells (deedArr d) 35) := ⟨_, rfl⟩
  have hrow := deed_row w d
  have o : Only (fun _ => False) w (w.alloc (.cells (deedArr d) 35)) := (Only.refl _ w).alloc _
  have hd1 := hd.only o
  have hI := h.same o
  rw [← hw1] at hrow o hd1 hI
  have c0 : w1.cell? ⟨w.heap.size, 0, none⟩ = some (.int .i64 d.what) := hrow.cell (i := 0) (by omega)
  have HP : Hid (∀ W : World, Calls Try.prog 11 #[.int .i64 d.what, .int .i64 3] W fun e w' => e = .returned (.int .i64 0) ∧ W = w') := hid fun W => by
    have := pickM d.what 3 W (by omega) (by omega) hd.what.1 hd.what.2
    rwa [hm] at this
  have HO := hid o
  have HRow := hid hrow
  have HD := hid hd1
  have HA := hid hA
  have HH := hid hh
  have HN := hid hn
  have HOK2 := hid hok
  have HI0 : Hid (IsRd B w1 r gb 0 f n (a + 0) ∧ FrT TR B w1 w1) := hid ⟨by simpa using hI, FrT.refl _ _ _⟩
  unfold deedArr at hw1
  unfold deedArr
  clear h hd hrow hd1 hI hA hh hn o hm hok
  obtain ⟨L, hL⟩ : ∃ L, L = d.ys.length := ⟨_, rfl⟩
  have HL := hid hL
  have hLs : L ≤ 3000000 := by rw [hL]; exact HD.out.ol
  clear hL
  go_enter Try.func37, Try.ntmps37
  go_wp2_with fail
  rw [← hw1]
  clear hw1
  refine (HP.out _).mono ?_
  rintro e' w2 ⟨rfl, rfl⟩
  clear c0 HP
  go_wp2_with fail
  go_loopw [5] (fun s wr => ∃ k : Nat, k ≤ L ∧ s = .int .i64 (k : Int) ∧ Hid (IsRd B wr r gb 0 f n (a + k) ∧ FrT TR B w1 wr)) (fun s _ => L - (intOf s).toNat)
  case atStart => exact ⟨0, by omega, rfl, HI0⟩
  case round =>
    obtain ⟨k, hk, rfl, HI⟩ := hrel
    clear HI0
    have cb : wr.cell? ⟨w.heap.size, 2, none⟩ = some (.slice d.oa L d.oc) := by
      have h1 := (fr_box HI.out.2 HRow.out).cell (i := 2) (by omega)
      rw [HL.out]; exact h1
    
    by_cases hp : k < L
    · have hpl : k < d.ys.length := by rw [← HL.out]; exact hp
      obtain ⟨b, off, hAe, dk, _⟩ := (fr_rd HI.out.2 HD.out.ones HA.out).at (k := k) hpl
      unfold vB at dk
      obtain ⟨z, hz⟩ : ∃ z, z = d.ys.getD k false := ⟨_, rfl⟩
      have Hz := hid hz
      rw [← hz] at dk
      clear hz
      have HNx : Hid (∀ W, Only (fun _ => False) wr W → Calls Try.prog 28 #[.pointer (some ⟨r, 0, none⟩)] W fun e' w2 => e' = .returned (.bool z) ∧ Hid (IsRd B w2 r gb 0 f n (a + (k + 1)) ∧ FrT TR B w1 w2)) := hid fun W o2 => by
        have hfz : f (a + k) = z := by rw [HH.out k hpl, Hz.out]; rfl
        have hnn := HN.out
        refine (rnext_any (HI.out.1.same o2)).mono ?_
        rw [next_has hfz (by omega)]
        rintro e' w2 ⟨rfl, hw⟩
        exact ⟨ret_bool (next_bool z), hid ⟨hw.out.1, (HI.out.2.trans (FrT.of_only o2)).trans hw.out.2⟩⟩
      have HNx2 : Hid (∀ w2, FrT TR B w1 w2 → w2.cell? ⟨w.heap.size, 2, none⟩ = some (.slice d.oa L d.oc) ∧ w2.cell? ⟨b, off + k, none⟩ = some (.bool z)) := hid fun w2 o2 => by
        refine ⟨?_, ?_⟩
        · have h1 := (fr_box o2 HRow.out).cell (i := 2) (by omega)
          rw [HL.out]; exact h1
        · have h2 := (fr_rd o2 HD.out.ones HA.out) (show 0 < d.ys.length by omega)
          obtain ⟨b', off', e', hc'⟩ := h2
          rw [hAe] at e'
          injection e' with e'
          injection e' with e1 e2
          subst e1
          subst e2
          rw [hc' k hpl]
          first | rfl | (unfold vB; rw [Hz.out]) | (unfold vB; rw [← Hz.out])
      
      rw [hAe] at cb HNx2
      clear hAe HI hpl Hz
      cases z
      all_goals
        go_wp2_with fail
        go_region_with (go_at_call 28; refine (HNx.out _ ?_).mono ?_; (first | exact Only.refl _ _ | exact (Only.refl _ _).drew | exact (Only.refl _ _).drew.drew); rintro e' w2 ⟨rfl, h2⟩; have q2 := (HNx2.out w2 h2.out.2).1; have d2 := (HNx2.out w2 h2.out.2).2)
        all_goals
          (try clear q2 d2)
          go_wp2_with fail
          go_roundw
          case rel => exact ⟨k + 1, by omega, by go_num, hid ⟨h2.out.1.same (by first | exact Only.refl _ _ | exact (Only.refl _ _).drew), h2.out.2.trans (FrT.of_only (by first | exact Only.refl _ _ | exact (Only.refl _ _).drew))⟩⟩
          case measure => simp [intOf]; omega
    · obtain rfl : k = L := by omega
      have HF : Hid (IsRd B wr r gb 0 f n (a + (d.ys).length) ∧ FrT TR B w wr) := hid (by
        have h1 := HI.out
        rw [HL.out] at h1
        exact ⟨h1.1, (FrT.of_only HO.out).trans h1.2⟩)
      clear HI
      go_wp2_with fail
      go_ret
      exact ⟨rfl, HF⟩

set_option maxHeartbeats 2000000 in
theorem back_num {B r gb n a : Nat} {f : Nat → Bool} {d : Dd} {w : World} (h : IsRd B w r gb 0 f n a) (hd : DIn w d) (hA : Old d.na d.zs.length B) (hm : d.what % 3 = 1) (hok : okN d.width d.zs = true) (hh : Has f a (d.zs.flatMap (fun z => dgs d.width.toNat z.toNat))) (hn : a + (d.zs.flatMap (fun z => dgs d.width.toNat z.toNat)).length ≤ n) :
    Calls Try.prog 37 #[.pointer (some ⟨r, 0, none⟩), .agg (deedArr d)] w (BackE B w r gb f n (a + (d.zs.flatMap (fun z => dgs d.width.toNat z.toNat)).length)) := by
  obtain ⟨w1, hw1⟩ : ∃ w1, w1 = w.alloc (.cells (deedArr d) 35) := ⟨_, rfl⟩
  have hrow := deed_row w d
  have o : Only (fun _ => False) w (w.alloc (.cells (deedArr d) 35)) := (Only.refl _ w).alloc _
  have hd1 := hd.only o
  have hI := h.same o
  rw [← hw1] at hrow o hd1 hI
  have c0 : w1.cell? ⟨w.heap.size, 0, none⟩ = some (.int .i64 d.what) := hrow.cell (i := 0) (by omega)
  have HP : Hid (∀ W : World, Calls Try.prog 11 #[.int .i64 d.what, .int .i64 3] W fun e w' => e = .returned (.int .i64 1) ∧ W = w') := hid fun W => by
    have := pickM d.what 3 W (by omega) (by omega) hd.what.1 hd.what.2
    rwa [hm] at this
  have HO := hid o
  have HRow := hid hrow
  have HD := hid hd1
  have HA := hid hA
  have HH := hid hh
  have HN := hid hn
  have HOK2 := hid hok
  have HI0 : Hid (IsRd B w1 r gb 0 f n (a + ((d.zs.take 0).flatMap (fun z => dgs d.width.toNat z.toNat)).length) ∧ FrT TR B w1 w1) := hid ⟨by simpa using hI, FrT.refl _ _ _⟩
  unfold deedArr at hw1
  unfold deedArr
  clear h hd hrow hd1 hI hA hh hn o hm hok
  obtain ⟨L, hL⟩ : ∃ L, L = d.zs.length := ⟨_, rfl⟩
  have HL := hid hL
  have hLs : L ≤ 3000000 := by rw [hL]; exact HD.out.nl
  clear hL
  go_enter Try.func37, Try.ntmps37
  go_wp2_with fail
  rw [← hw1]
  clear hw1
  refine (HP.out _).mono ?_
  rintro e' w2 ⟨rfl, rfl⟩
  clear c0 HP
  go_wp2_with fail
  go_loopw [6] (fun s wr => ∃ k : Nat, k ≤ L ∧ s = .int .i64 (k : Int) ∧ Hid (IsRd B wr r gb 0 f n (a + ((d.zs.take k).flatMap (fun z => dgs d.width.toNat z.toNat)).length) ∧ FrT TR B w1 wr)) (fun s _ => L - (intOf s).toNat)
  case atStart => exact ⟨0, by omega, rfl, HI0⟩
  case round =>
    obtain ⟨k, hk, rfl, HI⟩ := hrel
    clear HI0
    have cb : wr.cell? ⟨w.heap.size, 3, none⟩ = some (.slice d.na L d.nc) := by
      have h1 := (fr_box HI.out.2 HRow.out).cell (i := 3) (by omega)
      rw [HL.out]; exact h1
    have cw : wr.cell? ⟨w.heap.size, 1, none⟩ = some (.int .i64 d.width) := (fr_box HI.out.2 HRow.out).cell (i := 1) (by omega)
    by_cases hp : k < L
    · have hpl : k < d.zs.length := by rw [← HL.out]; exact hp
      obtain ⟨b, off, hAe, dk, _⟩ := (fr_rd HI.out.2 HD.out.nums HA.out).at (k := k) hpl
      unfold vI at dk
      obtain ⟨z, hz⟩ : ∃ z, z = d.zs.getD k 0 := ⟨_, rfl⟩
      have Hz := hid hz
      rw [← hz] at dk
      clear hz
      have HNx : Hid (∀ W, Only (fun _ => False) wr W → Calls Try.prog 30 #[.pointer (some ⟨r, 0, none⟩), .int .i64 d.width] W fun e' w2 => e' = .returned (.int .i64 z) ∧ Hid (IsRd B w2 r gb 0 f n (a + ((d.zs.take (k + 1)).flatMap (fun z => dgs d.width.toNat z.toNat)).length) ∧ FrT TR B w1 w2)) := hid fun W o2 => by
        have hhz := has_flat (F := (fun z => dgs d.width.toNat z.toNat)) HH.out hpl
        have hlen := flat_len (zs := d.zs) (f := (fun z => dgs d.width.toNat z.toNat)) (k := k) hpl
        have hnn := HN.out
        have hin := getD_mem (zs := d.zs) (k := k) hpl
        rw [← Hz.out] at hhz hlen hin
        have htk : ((d.zs.take (k + 1)).flatMap (fun z => dgs d.width.toNat z.toNat)).length = ((d.zs.take k).flatMap (fun z => dgs d.width.toNat z.toNat)).length + ((fun z => dgs d.width.toNat z.toNat) z).length := by rw [flat_take hpl, List.length_append, Hz.out]
        obtain ⟨hw0, hall⟩ := okN_all HOK2.out
        have hz2 := hall z hin
        have hFl : ((fun z => dgs d.width.toNat z.toNat) z).length = d.width.toNat := dgs_len _ _
        have hbnd : ((d.zs.take k).flatMap (fun z => dgs d.width.toNat z.toNat)).length + d.width.toNat ≤ (d.zs.flatMap (fun z => dgs d.width.toNat z.toNat)).length := Nat.le_trans (Nat.add_le_add_left (Nat.le_of_eq (dgs_len _ _).symm) _) hlen
        have hbn2 : a + ((d.zs.take k).flatMap (fun z => dgs d.width.toNat z.toNat)).length + d.width.toNat ≤ n := by omega
        obtain ⟨wn, hwn⟩ := Int.eq_ofNat_of_zero_le hw0.1
        have hstep : numR f n (0, a + ((d.zs.take k).flatMap (fun z => dgs d.width.toNat z.toNat)).length) d.width = (z, 0, a + ((d.zs.take k).flatMap (fun z => dgs d.width.toNat z.toNat)).length + d.width.toNat) := by
          have hwt : d.width.toNat = wn := by omega
          rw [hwt] at hz2 hhz hbn2 ⊢
          rw [hwn]
          exact num_has (by omega) hz2.1 hz2.2 hhz hbn2
        refine (rnum_any d.width (HI.out.1.same o2)).mono ?_
        rw [hstep]
        rintro e' w2 ⟨rfl, hw⟩
        refine ⟨rfl, hid ⟨?_, (HI.out.2.trans (FrT.of_only o2)).trans hw.out.2⟩⟩
        rw [htk, hFl, ← Nat.add_assoc]
        exact hw.out.1
      have HNx2 : Hid (∀ w2, FrT TR B w1 w2 → w2.cell? ⟨w.heap.size, 3, none⟩ = some (.slice d.na L d.nc) ∧ w2.cell? ⟨b, off + k, none⟩ = some (.int .i64 z)) := hid fun w2 o2 => by
        refine ⟨?_, ?_⟩
        · have h1 := (fr_box o2 HRow.out).cell (i := 3) (by omega)
          rw [HL.out]; exact h1
        · have h2 := (fr_rd o2 HD.out.nums HA.out) (show 0 < d.zs.length by omega)
          obtain ⟨b', off', e', hc'⟩ := h2
          rw [hAe] at e'
          injection e' with e'
          injection e' with e1 e2
          subst e1
          subst e2
          rw [hc' k hpl]
          first | rfl | (unfold vI; rw [Hz.out]) | (unfold vI; rw [← Hz.out])
      
      rw [hAe] at cb HNx2
      clear hAe HI hpl Hz
      all_goals
        go_wp2_with fail
        go_region_with (go_at_call 30; refine (HNx.out _ ?_).mono ?_; (first | exact Only.refl _ _ | exact (Only.refl _ _).drew | exact (Only.refl _ _).drew.drew); rintro e' w2 ⟨rfl, h2⟩; have q2 := (HNx2.out w2 h2.out.2).1; have d2 := (HNx2.out w2 h2.out.2).2)
        all_goals
          (try clear q2 d2)
          go_wp2_with fail
          go_roundw
          case rel => exact ⟨k + 1, by omega, by go_num, hid ⟨h2.out.1.same (by first | exact Only.refl _ _ | exact (Only.refl _ _).drew), h2.out.2.trans (FrT.of_only (by first | exact Only.refl _ _ | exact (Only.refl _ _).drew))⟩⟩
          case measure => simp [intOf]; omega
    · obtain rfl : k = L := by omega
      have HF : Hid (IsRd B wr r gb 0 f n (a + (d.zs.flatMap (fun z => dgs d.width.toNat z.toNat)).length) ∧ FrT TR B w wr) := hid (by
        have h1 := HI.out
        rw [HL.out, List.take_length] at h1
        exact ⟨h1.1, (FrT.of_only HO.out).trans h1.2⟩)
      clear HI
      go_wp2_with fail
      go_ret
      exact ⟨rfl, HF⟩

set_option maxHeartbeats 2000000 in
theorem back_gam {B r gb n a : Nat} {f : Nat → Bool} {d : Dd} {w : World} (h : IsRd B w r gb 0 f n a) (hd : DIn w d) (hA : Old d.na d.zs.length B) (hm : d.what % 3 = 2) (hok : okG d.zs = true) (hh : Has f a (d.zs.flatMap (fun z => gma z.toNat))) (hn : a + (d.zs.flatMap (fun z => gma z.toNat)).length ≤ n) :
    Calls Try.prog 37 #[.pointer (some ⟨r, 0, none⟩), .agg (deedArr d)] w (BackE B w r gb f n (a + (d.zs.flatMap (fun z => gma z.toNat)).length)) := by
  obtain ⟨w1, hw1⟩ : ∃ w1, w1 = w.alloc (.cells (deedArr d) 35) := ⟨_, rfl⟩
  have hrow := deed_row w d
  have o : Only (fun _ => False) w (w.alloc (.cells (deedArr d) 35)) := (Only.refl _ w).alloc _
  have hd1 := hd.only o
  have hI := h.same o
  rw [← hw1] at hrow o hd1 hI
  have c0 : w1.cell? ⟨w.heap.size, 0, none⟩ = some (.int .i64 d.what) := hrow.cell (i := 0) (by omega)
  have HP : Hid (∀ W : World, Calls Try.prog 11 #[.int .i64 d.what, .int .i64 3] W fun e w' => e = .returned (.int .i64 2) ∧ W = w') := hid fun W => by
    have := pickM d.what 3 W (by omega) (by omega) hd.what.1 hd.what.2
    rwa [hm] at this
  have HO := hid o
  have HRow := hid hrow
  have HD := hid hd1
  have HA := hid hA
  have HH := hid hh
  have HN := hid hn
  have HOK2 := hid hok
  have HI0 : Hid (IsRd B w1 r gb 0 f n (a + ((d.zs.take 0).flatMap (fun z => gma z.toNat)).length) ∧ FrT TR B w1 w1) := hid ⟨by simpa using hI, FrT.refl _ _ _⟩
  unfold deedArr at hw1
  unfold deedArr
  clear h hd hrow hd1 hI hA hh hn o hm hok
  obtain ⟨L, hL⟩ : ∃ L, L = d.zs.length := ⟨_, rfl⟩
  have HL := hid hL
  have hLs : L ≤ 3000000 := by rw [hL]; exact HD.out.nl
  clear hL
  go_enter Try.func37, Try.ntmps37
  go_wp2_with fail
  rw [← hw1]
  clear hw1
  refine (HP.out _).mono ?_
  rintro e' w2 ⟨rfl, rfl⟩
  clear c0 HP
  go_wp2_with fail
  go_loopw [7] (fun s wr => ∃ k : Nat, k ≤ L ∧ s = .int .i64 (k : Int) ∧ Hid (IsRd B wr r gb 0 f n (a + ((d.zs.take k).flatMap (fun z => gma z.toNat)).length) ∧ FrT TR B w1 wr)) (fun s _ => L - (intOf s).toNat)
  case atStart => exact ⟨0, by omega, rfl, HI0⟩
  case round =>
    obtain ⟨k, hk, rfl, HI⟩ := hrel
    clear HI0
    have cb : wr.cell? ⟨w.heap.size, 3, none⟩ = some (.slice d.na L d.nc) := by
      have h1 := (fr_box HI.out.2 HRow.out).cell (i := 3) (by omega)
      rw [HL.out]; exact h1
    
    by_cases hp : k < L
    · have hpl : k < d.zs.length := by rw [← HL.out]; exact hp
      obtain ⟨b, off, hAe, dk, _⟩ := (fr_rd HI.out.2 HD.out.nums HA.out).at (k := k) hpl
      unfold vI at dk
      obtain ⟨z, hz⟩ : ∃ z, z = d.zs.getD k 0 := ⟨_, rfl⟩
      have Hz := hid hz
      rw [← hz] at dk
      clear hz
      have HNx : Hid (∀ W, Only (fun _ => False) wr W → Calls Try.prog 32 #[.pointer (some ⟨r, 0, none⟩)] W fun e' w2 => e' = .returned (.int .i64 z) ∧ Hid (IsRd B w2 r gb 0 f n (a + ((d.zs.take (k + 1)).flatMap (fun z => gma z.toNat)).length) ∧ FrT TR B w1 w2)) := hid fun W o2 => by
        have hhz := has_flat (F := (fun z => gma z.toNat)) HH.out hpl
        have hlen := flat_len (zs := d.zs) (f := (fun z => gma z.toNat)) (k := k) hpl
        have hnn := HN.out
        have hin := getD_mem (zs := d.zs) (k := k) hpl
        rw [← Hz.out] at hhz hlen hin
        have htk : ((d.zs.take (k + 1)).flatMap (fun z => gma z.toNat)).length = ((d.zs.take k).flatMap (fun z => gma z.toNat)).length + ((fun z => gma z.toNat) z).length := by rw [flat_take hpl, List.length_append, Hz.out]
        have hz2 := okG_all HOK2.out z hin
        have hFl : ((fun z => gma z.toNat) z).length = gln z.toNat := gma_len _
        have hbnd : ((d.zs.take k).flatMap (fun z => gma z.toNat)).length + gln z.toNat ≤ (d.zs.flatMap (fun z => gma z.toNat)).length := Nat.le_trans (Nat.add_le_add_left (Nat.le_of_eq (gma_len _).symm) _) hlen
        have hstep := gam_has (f := f) (n := n) hz2.1 hz2.2 hhz (by omega)
        refine (rgam_any (HI.out.1.same o2)).mono ?_
        rw [hstep]
        rintro e' w2 ⟨rfl, hw⟩
        refine ⟨rfl, hid ⟨?_, (HI.out.2.trans (FrT.of_only o2)).trans hw.out.2⟩⟩
        rw [htk, hFl, ← Nat.add_assoc]
        exact hw.out.1
      have HNx2 : Hid (∀ w2, FrT TR B w1 w2 → w2.cell? ⟨w.heap.size, 3, none⟩ = some (.slice d.na L d.nc) ∧ w2.cell? ⟨b, off + k, none⟩ = some (.int .i64 z)) := hid fun w2 o2 => by
        refine ⟨?_, ?_⟩
        · have h1 := (fr_box o2 HRow.out).cell (i := 3) (by omega)
          rw [HL.out]; exact h1
        · have h2 := (fr_rd o2 HD.out.nums HA.out) (show 0 < d.zs.length by omega)
          obtain ⟨b', off', e', hc'⟩ := h2
          rw [hAe] at e'
          injection e' with e'
          injection e' with e1 e2
          subst e1
          subst e2
          rw [hc' k hpl]
          first | rfl | (unfold vI; rw [Hz.out]) | (unfold vI; rw [← Hz.out])
      
      rw [hAe] at cb HNx2
      clear hAe HI hpl Hz
      all_goals
        go_wp2_with fail
        go_region_with (go_at_call 32; refine (HNx.out _ ?_).mono ?_; (first | exact Only.refl _ _ | exact (Only.refl _ _).drew | exact (Only.refl _ _).drew.drew); rintro e' w2 ⟨rfl, h2⟩; have q2 := (HNx2.out w2 h2.out.2).1; have d2 := (HNx2.out w2 h2.out.2).2)
        all_goals
          (try clear q2 d2)
          go_wp2_with fail
          go_roundw
          case rel => exact ⟨k + 1, by omega, by go_num, hid ⟨h2.out.1.same (by first | exact Only.refl _ _ | exact (Only.refl _ _).drew), h2.out.2.trans (FrT.of_only (by first | exact Only.refl _ _ | exact (Only.refl _ _).drew))⟩⟩
          case measure => simp [intOf]; omega
    · obtain rfl : k = L := by omega
      have HF : Hid (IsRd B wr r gb 0 f n (a + (d.zs.flatMap (fun z => gma z.toNat)).length) ∧ FrT TR B w wr) := hid (by
        have h1 := HI.out
        rw [HL.out, List.take_length] at h1
        exact ⟨h1.1, (FrT.of_only HO.out).trans h1.2⟩)
      clear HI
      go_wp2_with fail
      go_ret
      exact ⟨rfl, HF⟩

end Go.Proofs.Ytemklcnpmolclaa
