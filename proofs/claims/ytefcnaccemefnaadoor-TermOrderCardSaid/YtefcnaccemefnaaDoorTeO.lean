/- TermTriples. -/
import Derived.Test.YtefcnaccemefnaaDoorTeN
namespace Go.Proofs.YtefcnaccemefnaaDoor
open Go.RowKit U G

theorem terms3_new (W : World) (a b c : Tm) : TmsAt (W.alloc (.cells #[.int .i64 a.k, .string a.x, .string a.g, .string a.y, .int .i64 b.k, .string b.x, .string b.g, .string b.y, .int .i64 c.k, .string c.x, .string c.g, .string c.y] 24)) W.heap.size [a, b, c] :=
  ⟨by simp, fun k hk => by
    match k, hk with
    | 0, _ => exact ⟨by simp, by simp, by simp⟩
    | 1, _ => exact ⟨by simp, by simp, by simp⟩
    | 2, _ => exact ⟨by simp, by simp, by simp⟩
    | k + 3, hk => exact absurd (show k + 3 < 3 from hk) (by omega)⟩
theorem size3_any (a b c : Tm) (W : World) (ha : sizeT a ≤ 422212465065984) (hb : sizeT b ≤ 422212465065984) (hc : sizeT c ≤ 422212465065984) :
    Calls Tryd.prog 6 #[.slice (some ⟨W.heap.size, 0, none⟩) 3 3] (W.alloc (.cells #[.int .i64 a.k, .string a.x, .string a.g, .string a.y, .int .i64 b.k, .string b.x, .string b.g, .string b.y, .int .i64 c.k, .string c.x, .string c.g, .string c.y] 24)) fun e w' => e = .returned (.int .i64 ((sizeT a + sizeT b + sizeT c : Nat) : Int)) ∧ StU W w' :=
  (size_any (terms3_new W a b c) rfl (by simp) (by intro t ht; rcases List.mem_cons.1 ht with rfl | ht; exact ha; rcases List.mem_cons.1 ht with rfl | ht; exact hb; rcases List.mem_cons.1 ht with rfl | ht; exact hc; cases ht)).mono fun e w' h => ⟨by rw [h.1]; simp [sumT, Nat.add_assoc], hid (((Only.refl _ W).alloc _).trans h.2.out)⟩
set_option maxHeartbeats 4000000 in
theorem tri_far1 {a b c d e f : Tm} {w : World} (hT : Tb w) (hsa : sizeT a ≤ 422212465065984) (hsb : sizeT b ≤ 422212465065984) (hsc : sizeT c ≤ 422212465065984) (h : 6000 < sizeT a + sizeT b + sizeT c) :
    Calls Tryd.prog 4 #[trV a b c, trV d e f] w fun e' w' => e' = .returned (.bool true) ∧ StU w w' := by
  obtain ⟨w1, hw1, HA0, HB0, HO0⟩ := tr2_start a b c d e f w
  have HS0 := tr2_of HA0.out HB0.out (hid (Only.refl _ w1))
  obtain ⟨p0, p1, p2, p3, p4, p5, p6, p7, p8, p9, p10, p11, q0, q1, q2, q3, q4, q5, q6, q7, q8, q9, q10, q11, z0⟩ := HS0
  replace hT : Tb w1 := hT.stu HO0
  have HZ1 : Hid (∀ W, StU w1 W → Calls Tryd.prog 6 #[.slice (some ⟨W.heap.size, 0, none⟩) 3 3] (W.alloc (.cells #[.int .i64 a.k, .string a.x, .string a.g, .string a.y, .int .i64 b.k, .string b.x, .string b.g, .string b.y, .int .i64 c.k, .string c.x, .string c.g, .string c.y] 24)) fun e' w' => e' = .returned (.int .i64 ((sizeT a + sizeT b + sizeT c : Nat) : Int)) ∧ Tr2 w1 w.heap.size (w.heap.size + 1) a b c d e f w') := hid fun W hW => (size3_any a b c W (by omega) (by omega) (by omega)).mono fun e' w' h2 => ⟨h2.1, tr2_of HA0.out HB0.out (hid (hW.out.trans h2.2.out))⟩
  have HAw : Hid (∀ W, StU w1 W → Calls Tryd.prog 7 #[] W fun e' w' => e' = .returned (.bool true) ∧ Tr2 w1 w.heap.size (w.heap.size + 1) a b c d e f w') := hid fun W hW => (awake8_any (hT.stu hW)).mono fun e' w' h2 => ⟨h2.1, tr2_of HA0.out HB0.out (hid (hW.out.trans h2.2.out))⟩
  generalize sizeT a + sizeT b + sizeT c = z at *
  have h' : (6000 : Int) < (z : Int) := by omega
  clear hT h hsa hsb hsc
  unfold trV
  go_enter Tryd.func4, Tryd.ntmps4
  go_upto_region 1 with fail
  rw [← hw1]
  clear hw1
  go_wp2_with (first
    | (go_at_call 6; (with_reducible show Calls _ _ _ (World.alloc _ (Obj.cells #[Value.int IntKind.i64 a.k, Value.string a.x, Value.string a.g, Value.string a.y, Value.int IntKind.i64 b.k, Value.string b.x, Value.string b.g, Value.string b.y, Value.int IntKind.i64 c.k, Value.string c.x, Value.string c.g, Value.string c.y] _)) _); refine (HZ1.out _ z0).mono ?_; rintro e' w2 ⟨rfl, r0, r1, r2, r3, r4, r5, r6, r7, r8, r9, r10, r11, s0, s1, s2, s3, s4, s5, s6, s7, s8, s9, s10, s11, z1⟩)
    | (go_at_call 7; refine (HAw.out _ z1).mono ?_; rintro e' w3 ⟨rfl, t0, t1, t2, t3, t4, t5, t6, t7, t8, t9, t10, t11, u0, u1, u2, u3, u4, u5, u6, u7, u8, u9, u10, u11, z2⟩))
  go_ret
  exact ⟨rfl, hid (HO0.out.trans z2.out)⟩
set_option maxHeartbeats 4000000 in
theorem tri_far2 {a b c d e f : Tm} {w : World} (hT : Tb w) (hsa : sizeT a ≤ 422212465065984) (hsb : sizeT b ≤ 422212465065984) (hsc : sizeT c ≤ 422212465065984) (hsd : sizeT d ≤ 422212465065984) (hse : sizeT e ≤ 422212465065984) (hsf : sizeT f ≤ 422212465065984) (h : sizeT a + sizeT b + sizeT c ≤ 6000) (h2 : 6000 < sizeT d + sizeT e + sizeT f) :
    Calls Tryd.prog 4 #[trV a b c, trV d e f] w fun e' w' => e' = .returned (.bool true) ∧ StU w w' := by
  obtain ⟨w1, hw1, HA0, HB0, HO0⟩ := tr2_start a b c d e f w
  have HS0 := tr2_of HA0.out HB0.out (hid (Only.refl _ w1))
  obtain ⟨p0, p1, p2, p3, p4, p5, p6, p7, p8, p9, p10, p11, q0, q1, q2, q3, q4, q5, q6, q7, q8, q9, q10, q11, z0⟩ := HS0
  replace hT : Tb w1 := hT.stu HO0
  have HZ1 : Hid (∀ W, StU w1 W → Calls Tryd.prog 6 #[.slice (some ⟨W.heap.size, 0, none⟩) 3 3] (W.alloc (.cells #[.int .i64 a.k, .string a.x, .string a.g, .string a.y, .int .i64 b.k, .string b.x, .string b.g, .string b.y, .int .i64 c.k, .string c.x, .string c.g, .string c.y] 24)) fun e' w' => e' = .returned (.int .i64 ((sizeT a + sizeT b + sizeT c : Nat) : Int)) ∧ Tr2 w1 w.heap.size (w.heap.size + 1) a b c d e f w') := hid fun W hW => (size3_any a b c W (by omega) (by omega) (by omega)).mono fun e' w' h2 => ⟨h2.1, tr2_of HA0.out HB0.out (hid (hW.out.trans h2.2.out))⟩
  have HZ2 : Hid (∀ W, StU w1 W → Calls Tryd.prog 6 #[.slice (some ⟨W.heap.size, 0, none⟩) 3 3] (W.alloc (.cells #[.int .i64 d.k, .string d.x, .string d.g, .string d.y, .int .i64 e.k, .string e.x, .string e.g, .string e.y, .int .i64 f.k, .string f.x, .string f.g, .string f.y] 24)) fun e' w' => e' = .returned (.int .i64 ((sizeT d + sizeT e + sizeT f : Nat) : Int)) ∧ Tr2 w1 w.heap.size (w.heap.size + 1) a b c d e f w') := hid fun W hW => (size3_any d e f W (by omega) (by omega) (by omega)).mono fun e' w' h2 => ⟨h2.1, tr2_of HA0.out HB0.out (hid (hW.out.trans h2.2.out))⟩
  have HAw : Hid (∀ W, StU w1 W → Calls Tryd.prog 7 #[] W fun e' w' => e' = .returned (.bool true) ∧ Tr2 w1 w.heap.size (w.heap.size + 1) a b c d e f w') := hid fun W hW => (awake8_any (hT.stu hW)).mono fun e' w' h2 => ⟨h2.1, tr2_of HA0.out HB0.out (hid (hW.out.trans h2.2.out))⟩
  generalize sizeT a + sizeT b + sizeT c = z at *
  generalize sizeT d + sizeT e + sizeT f = y at *
  have h' : ¬ (6000 : Int) < (z : Int) := by omega
  have h2' : (6000 : Int) < (y : Int) := by omega
  clear hT h h2 hsa hsb hsc hsd hse hsf
  unfold trV
  go_enter Tryd.func4, Tryd.ntmps4
  go_upto_region 1 with fail
  rw [← hw1]
  clear hw1
  go_wp2_with (first
    | (go_at_call 6; (with_reducible show Calls _ _ _ (World.alloc _ (Obj.cells #[Value.int IntKind.i64 a.k, Value.string a.x, Value.string a.g, Value.string a.y, Value.int IntKind.i64 b.k, Value.string b.x, Value.string b.g, Value.string b.y, Value.int IntKind.i64 c.k, Value.string c.x, Value.string c.g, Value.string c.y] _)) _); refine (HZ1.out _ z0).mono ?_; rintro e' w2 ⟨rfl, r0, r1, r2, r3, r4, r5, r6, r7, r8, r9, r10, r11, s0, s1, s2, s3, s4, s5, s6, s7, s8, s9, s10, s11, z1⟩)
    | (go_at_call 6; (with_reducible show Calls _ _ _ (World.alloc _ (Obj.cells #[Value.int IntKind.i64 d.k, Value.string d.x, Value.string d.g, Value.string d.y, Value.int IntKind.i64 e.k, Value.string e.x, Value.string e.g, Value.string e.y, Value.int IntKind.i64 f.k, Value.string f.x, Value.string f.g, Value.string f.y] _)) _); refine (HZ2.out _ z1).mono ?_; rintro e' w2 ⟨rfl, r0, r1, r2, r3, r4, r5, r6, r7, r8, r9, r10, r11, s0, s1, s2, s3, s4, s5, s6, s7, s8, s9, s10, s11, z2⟩)
    | (go_at_call 7; refine (HAw.out _ z2).mono ?_; rintro e' w3 ⟨rfl, t0, t1, t2, t3, t4, t5, t6, t7, t8, t9, t10, t11, u0, u1, u2, u3, u4, u5, u6, u7, u8, u9, u10, u11, z3⟩))
  go_ret
  exact ⟨rfl, hid (HO0.out.trans z3.out)⟩
set_option maxHeartbeats 4000000 in
theorem tri_near {a b c d e f : Tm} {w : World} (hT : Tb w) (h : sizeT a + sizeT b + sizeT c ≤ 6000) (h2 : sizeT d + sizeT e + sizeT f ≤ 6000) :
    Calls Tryd.prog 4 #[trV a b c, trV d e f] w fun e' w' => e' = .returned (.bool true) ∧ StU w w' := by
  obtain ⟨w1, hw1, HA0, HB0, HO0⟩ := tr2_start a b c d e f w
  have HS0 := tr2_of HA0.out HB0.out (hid (Only.refl _ w1))
  obtain ⟨p0, p1, p2, p3, p4, p5, p6, p7, p8, p9, p10, p11, q0, q1, q2, q3, q4, q5, q6, q7, q8, q9, q10, q11, z0⟩ := HS0
  replace hT : Tb w1 := hT.stu HO0
  have HZ1 : Hid (∀ W, StU w1 W → Calls Tryd.prog 6 #[.slice (some ⟨W.heap.size, 0, none⟩) 3 3] (W.alloc (.cells #[.int .i64 a.k, .string a.x, .string a.g, .string a.y, .int .i64 b.k, .string b.x, .string b.g, .string b.y, .int .i64 c.k, .string c.x, .string c.g, .string c.y] 24)) fun e' w' => e' = .returned (.int .i64 ((sizeT a + sizeT b + sizeT c : Nat) : Int)) ∧ Tr2 w1 w.heap.size (w.heap.size + 1) a b c d e f w') := hid fun W hW => (size3_any a b c W (by omega) (by omega) (by omega)).mono fun e' w' h2 => ⟨h2.1, tr2_of HA0.out HB0.out (hid (hW.out.trans h2.2.out))⟩
  have HZ2 : Hid (∀ W, StU w1 W → Calls Tryd.prog 6 #[.slice (some ⟨W.heap.size, 0, none⟩) 3 3] (W.alloc (.cells #[.int .i64 d.k, .string d.x, .string d.g, .string d.y, .int .i64 e.k, .string e.x, .string e.g, .string e.y, .int .i64 f.k, .string f.x, .string f.g, .string f.y] 24)) fun e' w' => e' = .returned (.int .i64 ((sizeT d + sizeT e + sizeT f : Nat) : Int)) ∧ Tr2 w1 w.heap.size (w.heap.size + 1) a b c d e f w') := hid fun W hW => (size3_any d e f W (by omega) (by omega) (by omega)).mono fun e' w' h2 => ⟨h2.1, tr2_of HA0.out HB0.out (hid (hW.out.trans h2.2.out))⟩
  have HAw : Hid (∀ W, StU w1 W → Calls Tryd.prog 7 #[] W fun e' w' => e' = .returned (.bool true) ∧ Tr2 w1 w.heap.size (w.heap.size + 1) a b c d e f w') := hid fun W hW => (awake8_any (hT.stu hW)).mono fun e' w' h2 => ⟨h2.1, tr2_of HA0.out HB0.out (hid (hW.out.trans h2.2.out))⟩
  have HT1 : Hid (∀ W, StU w1 W → Calls Tryd.prog 21 #[.agg #[.int .i64 a.k, .string a.x, .string a.g, .string a.y, .int .i64 b.k, .string b.x, .string b.g, .string b.y, .int .i64 c.k, .string c.x, .string c.g, .string c.y]] W fun e' w' => e' = .returned (.bool (tripleB a b c)) ∧ Tr2 w1 w.heap.size (w.heap.size + 1) a b c d e f w') := hid fun W hW => (triple_any (a := a) (b := b) (c := c) (hT.stu hW) (by omega) (by omega) (by omega)).mono fun e' w' h2 => ⟨h2.1, tr2_of HA0.out HB0.out (hid (hW.out.trans h2.2.out))⟩
  have HT2 : Hid (∀ W, StU w1 W → Calls Tryd.prog 22 #[.agg #[.int .i64 a.k, .string a.x, .string a.g, .string a.y, .int .i64 b.k, .string b.x, .string b.g, .string b.y, .int .i64 c.k, .string c.x, .string c.g, .string c.y]] W fun e' w' => e' = .returned (.bool (tripleB a b c)) ∧ Tr2 w1 w.heap.size (w.heap.size + 1) a b c d e f w') := hid fun W hW => (refTriple_any (a := a) (b := b) (c := c) (by omega) (by omega) (by omega)).mono fun e' w' h2 => ⟨h2.1, tr2_of HA0.out HB0.out (hid (hW.out.trans h2.2.out))⟩
  have HC1 : Hid (∀ W, StU w1 W → Calls Tryd.prog 23 #[.agg #[.int .i64 a.k, .string a.x, .string a.g, .string a.y, .int .i64 b.k, .string b.x, .string b.g, .string b.y, .int .i64 c.k, .string c.x, .string c.g, .string c.y], .agg #[.int .i64 d.k, .string d.x, .string d.g, .string d.y, .int .i64 e.k, .string e.x, .string e.g, .string e.y, .int .i64 f.k, .string f.x, .string f.g, .string f.y]] W fun e' w' => e' = .returned (.int .i64 (triT a b c d e f)) ∧ Tr2 w1 w.heap.size (w.heap.size + 1) a b c d e f w') := hid fun W hW => (triples_any (a := a) (b := b) (c := c) (d := d) (e := e) (f := f) (hT.stu hW) (by omega) (by omega) (by omega) (by omega) (by omega) (by omega)).mono fun e' w' h2 => ⟨h2.1, tr2_of HA0.out HB0.out (hid (hW.out.trans h2.2.out))⟩
  have HC2 : Hid (∀ W, StU w1 W → Calls Tryd.prog 24 #[.agg #[.int .i64 a.k, .string a.x, .string a.g, .string a.y, .int .i64 b.k, .string b.x, .string b.g, .string b.y, .int .i64 c.k, .string c.x, .string c.g, .string c.y], .agg #[.int .i64 d.k, .string d.x, .string d.g, .string d.y, .int .i64 e.k, .string e.x, .string e.g, .string e.y, .int .i64 f.k, .string f.x, .string f.g, .string f.y]] W fun e' w' => e' = .returned (.int .i64 (triT a b c d e f)) ∧ Tr2 w1 w.heap.size (w.heap.size + 1) a b c d e f w') := hid fun W hW => (refTriples_any (a := a) (b := b) (c := c) (d := d) (e := e) (f := f) (by omega) (by omega) (by omega) (by omega) (by omega) (by omega)).mono fun e' w' h2 => ⟨h2.1, tr2_of HA0.out HB0.out (hid (hW.out.trans h2.2.out))⟩
  have hqr : (tripleB a b c == tripleB a b c) = true := beq_self_eq_true _
  have hqc : (triT a b c d e f == triT a b c d e f) = true := beq_self_eq_true _
  generalize tripleB a b c = R at *
  generalize triT a b c d e f = C at *
  generalize sizeT a + sizeT b + sizeT c = z at *
  generalize sizeT d + sizeT e + sizeT f = y at *
  have h' : ¬ (6000 : Int) < (z : Int) := by omega
  have h2' : ¬ (6000 : Int) < (y : Int) := by omega
  clear hT h h2
  unfold trV
  go_enter Tryd.func4, Tryd.ntmps4
  go_upto_region 1 with fail
  rw [← hw1]
  clear hw1
  go_wp2_with (first
    | (go_at_call 6; (with_reducible show Calls _ _ _ (World.alloc _ (Obj.cells #[Value.int IntKind.i64 a.k, Value.string a.x, Value.string a.g, Value.string a.y, Value.int IntKind.i64 b.k, Value.string b.x, Value.string b.g, Value.string b.y, Value.int IntKind.i64 c.k, Value.string c.x, Value.string c.g, Value.string c.y] _)) _); refine (HZ1.out _ z0).mono ?_; rintro e' w2 ⟨rfl, r0, r1, r2, r3, r4, r5, r6, r7, r8, r9, r10, r11, s0, s1, s2, s3, s4, s5, s6, s7, s8, s9, s10, s11, z1⟩)
    | (go_at_call 6; (with_reducible show Calls _ _ _ (World.alloc _ (Obj.cells #[Value.int IntKind.i64 d.k, Value.string d.x, Value.string d.g, Value.string d.y, Value.int IntKind.i64 e.k, Value.string e.x, Value.string e.g, Value.string e.y, Value.int IntKind.i64 f.k, Value.string f.x, Value.string f.g, Value.string f.y] _)) _); refine (HZ2.out _ z1).mono ?_; rintro e' w2 ⟨rfl, r0, r1, r2, r3, r4, r5, r6, r7, r8, r9, r10, r11, s0, s1, s2, s3, s4, s5, s6, s7, s8, s9, s10, s11, z2⟩))
  refine wp_region_noPanic ?_
  refine wp_region_held_drew (S := fun u => u.cell? ⟨w.heap.size, 0, none⟩ = some (.int .i64 a.k) ∧ u.cell? ⟨w.heap.size, 1, none⟩ = some (.string a.x) ∧ u.cell? ⟨w.heap.size, 2, none⟩ = some (.string a.g) ∧ u.cell? ⟨w.heap.size, 3, none⟩ = some (.string a.y) ∧ u.cell? ⟨w.heap.size, 4, none⟩ = some (.int .i64 b.k) ∧ u.cell? ⟨w.heap.size, 5, none⟩ = some (.string b.x) ∧ u.cell? ⟨w.heap.size, 6, none⟩ = some (.string b.g) ∧ u.cell? ⟨w.heap.size, 7, none⟩ = some (.string b.y) ∧ u.cell? ⟨w.heap.size, 8, none⟩ = some (.int .i64 c.k) ∧ u.cell? ⟨w.heap.size, 9, none⟩ = some (.string c.x) ∧ u.cell? ⟨w.heap.size, 10, none⟩ = some (.string c.g) ∧ u.cell? ⟨w.heap.size, 11, none⟩ = some (.string c.y) ∧ u.cell? ⟨w.heap.size + 1, 0, none⟩ = some (.int .i64 d.k) ∧ u.cell? ⟨w.heap.size + 1, 1, none⟩ = some (.string d.x) ∧ u.cell? ⟨w.heap.size + 1, 2, none⟩ = some (.string d.g) ∧ u.cell? ⟨w.heap.size + 1, 3, none⟩ = some (.string d.y) ∧ u.cell? ⟨w.heap.size + 1, 4, none⟩ = some (.int .i64 e.k) ∧ u.cell? ⟨w.heap.size + 1, 5, none⟩ = some (.string e.x) ∧ u.cell? ⟨w.heap.size + 1, 6, none⟩ = some (.string e.g) ∧ u.cell? ⟨w.heap.size + 1, 7, none⟩ = some (.string e.y) ∧ u.cell? ⟨w.heap.size + 1, 8, none⟩ = some (.int .i64 f.k) ∧ u.cell? ⟨w.heap.size + 1, 9, none⟩ = some (.string f.x) ∧ u.cell? ⟨w.heap.size + 1, 10, none⟩ = some (.string f.g) ∧ u.cell? ⟨w.heap.size + 1, 11, none⟩ = some (.string f.y) ∧ StU w1 u) (by kernel_rfl) (tr2_of HA0.out HB0.out (hid (z2.out.drew))) (fun hHeld => ?_)
  refine wpAnyH_take (i := 0) (oi := { dst := some 26, op := Op.load 36 (Operand.tmp 2), type := 36, pos := "law.go:62", after := #[], guard := none }) (v := ?_) rfl (by kernel_rfl) (by kernel_rfl) (by kernel_rfl) (fun _ _ _ h => h) (Or.inl ⟨by rfl, ?_⟩) (by with_reducible assumption) ?_
  rotate_left
  · (intro w' hSw; (try dsimp only at hSw); first | (go_simp; done) | (go_simp; with_reducible rfl))
  (try simp only [Act.put, List.setIfInBounds_toArray, List.set_cons_zero, List.set_cons_succ])
  refine wpAnyH_take (i := 2) (oi := { dst := some 28, op := Op.load 36 (Operand.tmp 2), type := 36, pos := "law.go:62", after := #[], guard := none }) (v := ?_) rfl (by kernel_rfl) (by kernel_rfl) (by kernel_rfl) (fun _ _ _ h => h) (Or.inl ⟨by rfl, ?_⟩) (by with_reducible assumption) ?_
  rotate_left
  · (intro w' hSw; (try dsimp only at hSw); first | (go_simp; done) | (go_simp; with_reducible rfl))
  (try simp only [Act.put, List.setIfInBounds_toArray, List.set_cons_zero, List.set_cons_succ])
  refine wpAnyH_ready (rs := [1]) (by kernel_rfl) (by simp) ?_
  refine AllReadyH.cons (o := { dst := some 27, op := Op.call { callee := Callee.value (Operand.func 21), args := #[Operand.tmp 26], argTypes := #[36] }, type := 4, pos := "law.go:62", after := #[{ on := 0, ground := Ground.data }], guard := none }) rfl (fun K hK => ?_) AllReadyH.nil
  go_simp
  (refine (HT1.out _ hHeld.2.2.2.2.2.2.2.2.2.2.2.2.2.2.2.2.2.2.2.2.2.2.2.2).mono ?_)
  rintro e' wa ⟨rfl, HOa⟩
  go_wp2_with fail
  refine hK.out _ _ (HOa) (fun hHeld => ?_)
  clear hK K
  (try simp only [Act.put, List.setIfInBounds_toArray, List.set_cons_zero, List.set_cons_succ])
  refine wpAnyH_ready (rs := [3]) (by kernel_rfl) (by simp) ?_
  refine AllReadyH.cons (o := { dst := some 29, op := Op.call { callee := Callee.value (Operand.func 22), args := #[Operand.tmp 28], argTypes := #[36] }, type := 4, pos := "law.go:62", after := #[{ on := 2, ground := Ground.data }, { on := 1, ground := Ground.chain }], guard := none }) rfl (fun K hK => ?_) AllReadyH.nil
  go_simp
  (refine (HT2.out _ hHeld.2.2.2.2.2.2.2.2.2.2.2.2.2.2.2.2.2.2.2.2.2.2.2.2).mono ?_)
  rintro e' wa ⟨rfl, HOa⟩
  go_wp2_with fail
  refine hK.out _ _ (HOa) (fun hHeld => ?_)
  clear hK K
  (try simp only [Act.put, List.setIfInBounds_toArray, List.set_cons_zero, List.set_cons_succ])
  refine wpAnyH_take (i := 4) (oi := { dst := some 30, op := Op.binOp BinOp.eql 4 (Operand.tmp 27) (Operand.tmp 29) 4, type := 4, pos := "law.go:62", after := #[{ on := 1, ground := Ground.data }, { on := 3, ground := Ground.data }], guard := none }) (v := ?_) rfl (by kernel_rfl) (by kernel_rfl) (by kernel_rfl) (fun _ _ _ h => h) (Or.inl ⟨by rfl, ?_⟩) (by with_reducible assumption) ?_
  rotate_left
  · (intro w' hSw; (try dsimp only at hSw); first | (go_simp; done) | (go_simp; with_reducible rfl))
  (try simp only [Act.put, List.setIfInBounds_toArray, List.set_cons_zero, List.set_cons_succ])
  refine wpAnyH_take (i := 5) (oi := { dst := some 31, op := Op.move (Operand.tmp 30), type := 4, pos := "law.go:62", after := #[{ on := 4, ground := Ground.data }, { on := 3, ground := Ground.chain }], guard := none }) (v := ?_) rfl (by kernel_rfl) (by kernel_rfl) (by kernel_rfl) (fun _ _ _ h => h) (Or.inl ⟨by rfl, ?_⟩) (by with_reducible assumption) ?_
  rotate_left
  · (intro w' hSw; (try dsimp only at hSw); first | (go_simp; done) | (go_simp; with_reducible rfl))
  (try simp only [Act.put, List.setIfInBounds_toArray, List.set_cons_zero, List.set_cons_succ])
  refine wpAnyH_take (i := 6) (oi := { dst := some 32, op := Op.load 36 (Operand.tmp 2), type := 36, pos := "law.go:62", after := #[{ on := 5, ground := Ground.guard }], guard := some (5, true) }) (v := ?_) rfl (by kernel_rfl) (by kernel_rfl) (by kernel_rfl) (fun _ _ _ h => h) (Or.inl ⟨by rfl, ?_⟩) (by with_reducible assumption) ?_
  rotate_left
  · (intro w' hSw; (try dsimp only at hSw); first | (go_simp; done) | (go_simp; with_reducible rfl))
  (try simp only [Act.put, List.setIfInBounds_toArray, List.set_cons_zero, List.set_cons_succ])
  refine wpAnyH_take (i := 7) (oi := { dst := some 33, op := Op.load 36 (Operand.tmp 3), type := 36, pos := "law.go:62", after := #[{ on := 5, ground := Ground.guard }], guard := some (5, true) }) (v := ?_) rfl (by kernel_rfl) (by kernel_rfl) (by kernel_rfl) (fun _ _ _ h => h) (Or.inl ⟨by rfl, ?_⟩) (by with_reducible assumption) ?_
  rotate_left
  · (intro w' hSw; (try dsimp only at hSw); first | (go_simp; done) | (go_simp; with_reducible rfl))
  (try simp only [Act.put, List.setIfInBounds_toArray, List.set_cons_zero, List.set_cons_succ])
  refine wpAnyH_take (i := 9) (oi := { dst := some 35, op := Op.load 36 (Operand.tmp 2), type := 36, pos := "law.go:62", after := #[{ on := 5, ground := Ground.guard }], guard := some (5, true) }) (v := ?_) rfl (by kernel_rfl) (by kernel_rfl) (by kernel_rfl) (fun _ _ _ h => h) (Or.inl ⟨by rfl, ?_⟩) (by with_reducible assumption) ?_
  rotate_left
  · (intro w' hSw; (try dsimp only at hSw); first | (go_simp; done) | (go_simp; with_reducible rfl))
  (try simp only [Act.put, List.setIfInBounds_toArray, List.set_cons_zero, List.set_cons_succ])
  refine wpAnyH_take (i := 10) (oi := { dst := some 36, op := Op.load 36 (Operand.tmp 3), type := 36, pos := "law.go:62", after := #[{ on := 5, ground := Ground.guard }], guard := some (5, true) }) (v := ?_) rfl (by kernel_rfl) (by kernel_rfl) (by kernel_rfl) (fun _ _ _ h => h) (Or.inl ⟨by rfl, ?_⟩) (by with_reducible assumption) ?_
  rotate_left
  · (intro w' hSw; (try dsimp only at hSw); first | (go_simp; done) | (go_simp; with_reducible rfl))
  (try simp only [Act.put, List.setIfInBounds_toArray, List.set_cons_zero, List.set_cons_succ])
  refine wpAnyH_ready (rs := [8]) (by kernel_rfl) (by simp) ?_
  refine AllReadyH.cons (o := { dst := some 34, op := Op.call { callee := Callee.value (Operand.func 23), args := #[Operand.tmp 32, Operand.tmp 33], argTypes := #[36, 36] }, type := 3, pos := "law.go:62", after := #[{ on := 6, ground := Ground.data }, { on := 7, ground := Ground.data }, { on := 5, ground := Ground.chain }, { on := 5, ground := Ground.guard }], guard := some (5, true) }) rfl (fun K hK => ?_) AllReadyH.nil
  go_simp
  (refine (HC1.out _ hHeld.2.2.2.2.2.2.2.2.2.2.2.2.2.2.2.2.2.2.2.2.2.2.2.2).mono ?_)
  rintro e' wa ⟨rfl, HOa⟩
  go_wp2_with fail
  refine hK.out _ _ (HOa) (fun hHeld => ?_)
  clear hK K
  (try simp only [Act.put, List.setIfInBounds_toArray, List.set_cons_zero, List.set_cons_succ])
  refine wpAnyH_ready (rs := [11]) (by kernel_rfl) (by simp) ?_
  refine AllReadyH.cons (o := { dst := some 37, op := Op.call { callee := Callee.value (Operand.func 24), args := #[Operand.tmp 35, Operand.tmp 36], argTypes := #[36, 36] }, type := 3, pos := "law.go:62", after := #[{ on := 9, ground := Ground.data }, { on := 10, ground := Ground.data }, { on := 8, ground := Ground.chain }, { on := 5, ground := Ground.guard }], guard := some (5, true) }) rfl (fun K hK => ?_) AllReadyH.nil
  go_simp
  (refine (HC2.out _ hHeld.2.2.2.2.2.2.2.2.2.2.2.2.2.2.2.2.2.2.2.2.2.2.2.2).mono ?_)
  rintro e' wa ⟨rfl, HOa⟩
  go_wp2_with fail
  refine hK.out _ _ (HOa) (fun hHeld => ?_)
  clear hK K
  (try simp only [Act.put, List.setIfInBounds_toArray, List.set_cons_zero, List.set_cons_succ])
  refine wpAnyH_take (i := 12) (oi := { dst := some 38, op := Op.binOp BinOp.eql 3 (Operand.tmp 34) (Operand.tmp 37) 3, type := 4, pos := "law.go:62", after := #[{ on := 8, ground := Ground.data }, { on := 11, ground := Ground.data }, { on := 5, ground := Ground.guard }], guard := some (5, true) }) (v := ?_) rfl (by kernel_rfl) (by kernel_rfl) (by kernel_rfl) (fun _ _ _ h => h) (Or.inl ⟨by rfl, ?_⟩) (by with_reducible assumption) ?_
  rotate_left
  · (intro w' hSw; (try dsimp only at hSw); first | (go_simp; done) | (go_simp; with_reducible rfl))
  (try simp only [Act.put, List.setIfInBounds_toArray, List.set_cons_zero, List.set_cons_succ])
  refine wpAnyH_take (i := 13) (oi := { dst := some 39, op := Op.pick (Operand.tmp 31) (Operand.tmp 38) (Operand.const (Value.bool false)), type := 4, pos := "law.go:62", after := #[{ on := 5, ground := Ground.data }, { on := 12, ground := Ground.data }], guard := none }) (v := ?_) rfl (by kernel_rfl) (by kernel_rfl) (by kernel_rfl) (fun _ _ _ h => h) (Or.inl ⟨by rfl, ?_⟩) (by with_reducible assumption) ?_
  rotate_left
  · (intro w' hSw; (try dsimp only at hSw); first | (go_simp; done) | (go_simp; with_reducible rfl))
  (try simp only [Act.put, List.setIfInBounds_toArray, List.set_cons_zero, List.set_cons_succ])
  refine wpAnyH_take (i := 14) (oi := { dst := some 40, op := Op.move (Operand.tmp 39), type := 4, pos := "law.go:62", after := #[{ on := 13, ground := Ground.data }, { on := 11, ground := Ground.chain }], guard := none }) (v := ?_) rfl (by kernel_rfl) (by kernel_rfl) (by kernel_rfl) (fun _ _ _ h => h) (Or.inl ⟨by rfl, ?_⟩) (by with_reducible assumption) ?_
  rotate_left
  · (intro w' hSw; (try dsimp only at hSw); first | (go_simp; done) | (go_simp; with_reducible rfl))
  (try simp only [Act.put, List.setIfInBounds_toArray, List.set_cons_zero, List.set_cons_succ])
  refine wpAnyH_ready (rs := [15]) (by kernel_rfl) (by simp) ?_
  refine AllReadyH.cons (o := { dst := some 41, op := Op.call { callee := Callee.value (Operand.func 7), args := #[], argTypes := #[] }, type := 4, pos := "law.go:62", after := #[{ on := 14, ground := Ground.chain }, { on := 14, ground := Ground.guard }], guard := some (14, true) }) rfl (fun K hK => ?_) AllReadyH.nil
  go_simp
  (refine (HAw.out _ hHeld.2.2.2.2.2.2.2.2.2.2.2.2.2.2.2.2.2.2.2.2.2.2.2.2).mono ?_)
  rintro e' wa ⟨rfl, HOa⟩
  go_wp2_with fail
  refine hK.out _ _ (HOa) (fun hHeld => ?_)
  clear hK K
  (try simp only [Act.put, List.setIfInBounds_toArray, List.set_cons_zero, List.set_cons_succ])
  refine wpAnyH_take (i := 16) (oi := { dst := some 42, op := Op.pick (Operand.tmp 40) (Operand.tmp 41) (Operand.const (Value.bool false)), type := 4, pos := "law.go:62", after := #[{ on := 14, ground := Ground.data }, { on := 15, ground := Ground.data }], guard := none }) (v := ?_) rfl (by kernel_rfl) (by kernel_rfl) (by kernel_rfl) (fun _ _ _ h => h) (Or.inl ⟨by rfl, ?_⟩) (by with_reducible assumption) ?_
  rotate_left
  · (intro w' hSw; (try dsimp only at hSw); first | (go_simp; done) | (go_simp; with_reducible rfl))
  (try simp only [Act.put, List.setIfInBounds_toArray, List.set_cons_zero, List.set_cons_succ])
  refine wpAnyH_take (i := 17) (oi := { dst := some 4, op := Op.assign (Operand.tmp 42), type := 4, pos := "law.go:62", after := #[{ on := 16, ground := Ground.data }, { on := 15, ground := Ground.chain }, { on := 0, ground := Ground.phase }, { on := 1, ground := Ground.phase }, { on := 2, ground := Ground.phase }, { on := 3, ground := Ground.phase }, { on := 4, ground := Ground.phase }, { on := 5, ground := Ground.phase }, { on := 6, ground := Ground.phase }, { on := 7, ground := Ground.phase }, { on := 8, ground := Ground.phase }, { on := 9, ground := Ground.phase }, { on := 10, ground := Ground.phase }, { on := 11, ground := Ground.phase }, { on := 12, ground := Ground.phase }, { on := 13, ground := Ground.phase }, { on := 14, ground := Ground.phase }, { on := 15, ground := Ground.phase }, { on := 16, ground := Ground.phase }], guard := none }) (v := ?_) rfl (by kernel_rfl) (by kernel_rfl) (by kernel_rfl) (fun _ _ _ h => h) (Or.inl ⟨by rfl, ?_⟩) (by with_reducible assumption) ?_
  rotate_left
  · (intro w' hSw; (try dsimp only at hSw); first | (go_simp; done) | (go_simp; with_reducible rfl))
  (try simp only [Act.put, List.setIfInBounds_toArray, List.set_cons_zero, List.set_cons_succ])
  refine wpAnyH_done (by kernel_rfl) ?_ _
  refine NoPanic.normal ?_
  go_wp2_with fail
  go_ret
  exact ⟨rfl, hid (HO0.out.trans hHeld.2.2.2.2.2.2.2.2.2.2.2.2.2.2.2.2.2.2.2.2.2.2.2.2.out)⟩
end Go.Proofs.YtefcnaccemefnaaDoor
