/- Triples, the code's and the document's. -/
import Derived.Test.YtefcnaccemefnaaDoorTeK
namespace Go.Proofs.YtefcnaccemefnaaDoor
open Go.RowKit U G

def triT (a b c d e f : Tm) : Int := if cmpT a d = 0 then (if cmpT b e = 0 then cmpT c f else cmpT b e) else cmpT a d
def Tr2 (w1 : World) (g1 g2 : Nat) (a b c d e f : Tm) (u : World) : Prop := u.cell? ⟨g1, 0, none⟩ = some (.int .i64 a.k) ∧ u.cell? ⟨g1, 1, none⟩ = some (.string a.x) ∧ u.cell? ⟨g1, 2, none⟩ = some (.string a.g) ∧ u.cell? ⟨g1, 3, none⟩ = some (.string a.y) ∧ u.cell? ⟨g1, 4, none⟩ = some (.int .i64 b.k) ∧ u.cell? ⟨g1, 5, none⟩ = some (.string b.x) ∧ u.cell? ⟨g1, 6, none⟩ = some (.string b.g) ∧ u.cell? ⟨g1, 7, none⟩ = some (.string b.y) ∧ u.cell? ⟨g1, 8, none⟩ = some (.int .i64 c.k) ∧ u.cell? ⟨g1, 9, none⟩ = some (.string c.x) ∧ u.cell? ⟨g1, 10, none⟩ = some (.string c.g) ∧ u.cell? ⟨g1, 11, none⟩ = some (.string c.y) ∧ u.cell? ⟨g2, 0, none⟩ = some (.int .i64 d.k) ∧ u.cell? ⟨g2, 1, none⟩ = some (.string d.x) ∧ u.cell? ⟨g2, 2, none⟩ = some (.string d.g) ∧ u.cell? ⟨g2, 3, none⟩ = some (.string d.y) ∧ u.cell? ⟨g2, 4, none⟩ = some (.int .i64 e.k) ∧ u.cell? ⟨g2, 5, none⟩ = some (.string e.x) ∧ u.cell? ⟨g2, 6, none⟩ = some (.string e.g) ∧ u.cell? ⟨g2, 7, none⟩ = some (.string e.y) ∧ u.cell? ⟨g2, 8, none⟩ = some (.int .i64 f.k) ∧ u.cell? ⟨g2, 9, none⟩ = some (.string f.x) ∧ u.cell? ⟨g2, 10, none⟩ = some (.string f.g) ∧ u.cell? ⟨g2, 11, none⟩ = some (.string f.y) ∧ StU w1 u
theorem tr2_of {w1 u : World} {g1 g2 : Nat} {a b c d e f : Tm} (hA : TrAt w1 g1 a b c) (hB : TrAt w1 g2 d e f) (o : StU w1 u) : Tr2 w1 g1 g2 a b c d e f u := by
  obtain ⟨h0, h1, h2, h3, h4, h5, h6, h7, h8, h9, h10, h11⟩ := TrAt.cells (o.out.row hA no_)
  obtain ⟨k0, k1, k2, k3, k4, k5, k6, k7, k8, k9, k10, k11⟩ := TrAt.cells (o.out.row hB no_)
  exact ⟨h0, h1, h2, h3, h4, h5, h6, h7, h8, h9, h10, h11, k0, k1, k2, k3, k4, k5, k6, k7, k8, k9, k10, k11, o⟩
theorem tr2_start (a b c d e f : Tm) (w : World) : ∃ w1, w1 = (w.alloc (trObj a b c)).alloc (trObj d e f) ∧ Hid (TrAt w1 w.heap.size a b c) ∧ Hid (TrAt w1 (w.heap.size + 1) d e f) ∧ StU w w1 := by
  refine ⟨_, rfl, hid ?_, hid ?_, hid (((Only.refl _ w).alloc _).alloc _)⟩
  · exact ((Only.refl (fun _ => False) (w.alloc (trObj a b c))).alloc (trObj d e f)).row (tr_new w a b c) no_
  · have := tr_new (w.alloc (trObj a b c)) d e f
    rwa [show (w.alloc (trObj a b c)).heap.size = w.heap.size + 1 by simp] at this
set_option maxHeartbeats 4000000 in
theorem triples_any {a b c d e f : Tm} {w : World} (hT : Tb w) (hsa : sizeT a ≤ 1099511627776) (hsb : sizeT b ≤ 1099511627776) (hsc : sizeT c ≤ 1099511627776) (hsd : sizeT d ≤ 1099511627776) (hse : sizeT e ≤ 1099511627776) (hsf : sizeT f ≤ 1099511627776) :
    Calls Tryd.prog 23 #[trV a b c, trV d e f] w fun e' w' => e' = .returned (.int .i64 (triT a b c d e f)) ∧ StU w w' := by
  obtain ⟨w1, hw1, HA0, HB0, HO0⟩ := tr2_start a b c d e f w
  have HS0 := tr2_of HA0.out HB0.out (hid (Only.refl _ w1))
  obtain ⟨p0, p1, p2, p3, p4, p5, p6, p7, p8, p9, p10, p11, q0, q1, q2, q3, q4, q5, q6, q7, q8, q9, q10, q11, z0⟩ := HS0
  have HC0 : Hid (∀ W, StU w1 W → Calls Tryd.prog 12 #[.agg #[.int .i64 a.k, .string a.x, .string a.g, .string a.y], .agg #[.int .i64 d.k, .string d.x, .string d.g, .string d.y]] W fun e' w' => e' = .returned (.int .i64 (cmpT a d)) ∧ Tr2 w1 w.heap.size (w.heap.size + 1) a b c d e f w') := hid fun W hW => (compare_any ((hT.stu HO0).stu hW) hsa hsd).mono fun e' w' h => ⟨h.1, tr2_of HA0.out HB0.out (hid (hW.out.trans h.2.out))⟩
  have HC1 : Hid (∀ W, StU w1 W → Calls Tryd.prog 12 #[.agg #[.int .i64 b.k, .string b.x, .string b.g, .string b.y], .agg #[.int .i64 e.k, .string e.x, .string e.g, .string e.y]] W fun e' w' => e' = .returned (.int .i64 (cmpT b e)) ∧ Tr2 w1 w.heap.size (w.heap.size + 1) a b c d e f w') := hid fun W hW => (compare_any ((hT.stu HO0).stu hW) hsb hse).mono fun e' w' h => ⟨h.1, tr2_of HA0.out HB0.out (hid (hW.out.trans h.2.out))⟩
  have HC2 : Hid (∀ W, StU w1 W → Calls Tryd.prog 12 #[.agg #[.int .i64 c.k, .string c.x, .string c.g, .string c.y], .agg #[.int .i64 f.k, .string f.x, .string f.g, .string f.y]] W fun e' w' => e' = .returned (.int .i64 (cmpT c f)) ∧ Tr2 w1 w.heap.size (w.heap.size + 1) a b c d e f w') := hid fun W hW => (compare_any ((hT.stu HO0).stu hW) hsc hsf).mono fun e' w' h => ⟨h.1, tr2_of HA0.out HB0.out (hid (hW.out.trans h.2.out))⟩
  have hc : triT a b c d e f = if cmpT a d = 0 then (if cmpT b e = 0 then cmpT c f else cmpT b e) else cmpT a d := rfl
  rw [hc]
  generalize cmpT a d = n1 at *
  generalize cmpT b e = n2 at *
  generalize cmpT c f = n3 at *
  clear hc hT hsa hsb hsc hsd hse hsf
  by_cases hn1 : n1 = 0
  · subst hn1
    rw [if_pos rfl]
    by_cases hn2 : n2 = 0
    · subst hn2
      rw [if_pos rfl]
      unfold trV
      go_enter Tryd.func23, Tryd.ntmps23
      go_upto_region 1 with fail
      rw [← hw1]
      clear hw1
      go_wp2_with (first
        | (go_at_call 12; (with_reducible show Calls _ _ #[Value.agg #[Value.int IntKind.i64 a.k, Value.string a.x, Value.string a.g, Value.string a.y], Value.agg #[Value.int IntKind.i64 d.k, Value.string d.x, Value.string d.g, Value.string d.y]] _ _); refine (HC0.out _ z0).mono ?_; rintro e' w2 ⟨rfl, p0, p1, p2, p3, p4, p5, p6, p7, p8, p9, p10, p11, q0, q1, q2, q3, q4, q5, q6, q7, q8, q9, q10, q11, z1⟩)
        | (go_at_call 12; (with_reducible show Calls _ _ #[Value.agg #[Value.int IntKind.i64 b.k, Value.string b.x, Value.string b.g, Value.string b.y], Value.agg #[Value.int IntKind.i64 e.k, Value.string e.x, Value.string e.g, Value.string e.y]] _ _); refine (HC1.out _ z1).mono ?_; rintro e' w3 ⟨rfl, p0, p1, p2, p3, p4, p5, p6, p7, p8, p9, p10, p11, q0, q1, q2, q3, q4, q5, q6, q7, q8, q9, q10, q11, z2⟩)
        | (go_at_call 12; (with_reducible show Calls _ _ #[Value.agg #[Value.int IntKind.i64 c.k, Value.string c.x, Value.string c.g, Value.string c.y], Value.agg #[Value.int IntKind.i64 f.k, Value.string f.x, Value.string f.g, Value.string f.y]] _ _); refine (HC2.out _ z2).mono ?_; rintro e' w4 ⟨rfl, p0, p1, p2, p3, p4, p5, p6, p7, p8, p9, p10, p11, q0, q1, q2, q3, q4, q5, q6, q7, q8, q9, q10, q11, z3⟩))
      go_ret
      exact ⟨rfl, hid (HO0.out.trans z3.out)⟩
    · rw [if_neg hn2]
      have gn2 : (n2 == 0) = false := by rw [beq_eq_false_iff_ne]; exact hn2
      have gn2' : (n2 != 0) = true := by rw [bne_iff_ne]; exact hn2
      clear hn2
      unfold trV
      go_enter Tryd.func23, Tryd.ntmps23
      go_upto_region 1 with fail
      rw [← hw1]
      clear hw1
      go_wp2_with (first
        | (go_at_call 12; (with_reducible show Calls _ _ #[Value.agg #[Value.int IntKind.i64 a.k, Value.string a.x, Value.string a.g, Value.string a.y], Value.agg #[Value.int IntKind.i64 d.k, Value.string d.x, Value.string d.g, Value.string d.y]] _ _); refine (HC0.out _ z0).mono ?_; rintro e' w2 ⟨rfl, p0, p1, p2, p3, p4, p5, p6, p7, p8, p9, p10, p11, q0, q1, q2, q3, q4, q5, q6, q7, q8, q9, q10, q11, z1⟩)
        | (go_at_call 12; (with_reducible show Calls _ _ #[Value.agg #[Value.int IntKind.i64 b.k, Value.string b.x, Value.string b.g, Value.string b.y], Value.agg #[Value.int IntKind.i64 e.k, Value.string e.x, Value.string e.g, Value.string e.y]] _ _); refine (HC1.out _ z1).mono ?_; rintro e' w3 ⟨rfl, p0, p1, p2, p3, p4, p5, p6, p7, p8, p9, p10, p11, q0, q1, q2, q3, q4, q5, q6, q7, q8, q9, q10, q11, z2⟩)
        | (go_at_call 12; (with_reducible show Calls _ _ #[Value.agg #[Value.int IntKind.i64 c.k, Value.string c.x, Value.string c.g, Value.string c.y], Value.agg #[Value.int IntKind.i64 f.k, Value.string f.x, Value.string f.g, Value.string f.y]] _ _); refine (HC2.out _ z2).mono ?_; rintro e' w4 ⟨rfl, p0, p1, p2, p3, p4, p5, p6, p7, p8, p9, p10, p11, q0, q1, q2, q3, q4, q5, q6, q7, q8, q9, q10, q11, z3⟩))
      go_ret
      exact ⟨rfl, hid (HO0.out.trans z2.out)⟩
  · rw [if_neg hn1]
    have gn1 : (n1 == 0) = false := by rw [beq_eq_false_iff_ne]; exact hn1
    have gn1' : (n1 != 0) = true := by rw [bne_iff_ne]; exact hn1
    clear hn1
    unfold trV
    go_enter Tryd.func23, Tryd.ntmps23
    go_upto_region 1 with fail
    rw [← hw1]
    clear hw1
    go_wp2_with (first
      | (go_at_call 12; (with_reducible show Calls _ _ #[Value.agg #[Value.int IntKind.i64 a.k, Value.string a.x, Value.string a.g, Value.string a.y], Value.agg #[Value.int IntKind.i64 d.k, Value.string d.x, Value.string d.g, Value.string d.y]] _ _); refine (HC0.out _ z0).mono ?_; rintro e' w2 ⟨rfl, p0, p1, p2, p3, p4, p5, p6, p7, p8, p9, p10, p11, q0, q1, q2, q3, q4, q5, q6, q7, q8, q9, q10, q11, z1⟩)
      | (go_at_call 12; (with_reducible show Calls _ _ #[Value.agg #[Value.int IntKind.i64 b.k, Value.string b.x, Value.string b.g, Value.string b.y], Value.agg #[Value.int IntKind.i64 e.k, Value.string e.x, Value.string e.g, Value.string e.y]] _ _); refine (HC1.out _ z1).mono ?_; rintro e' w3 ⟨rfl, p0, p1, p2, p3, p4, p5, p6, p7, p8, p9, p10, p11, q0, q1, q2, q3, q4, q5, q6, q7, q8, q9, q10, q11, z2⟩)
      | (go_at_call 12; (with_reducible show Calls _ _ #[Value.agg #[Value.int IntKind.i64 c.k, Value.string c.x, Value.string c.g, Value.string c.y], Value.agg #[Value.int IntKind.i64 f.k, Value.string f.x, Value.string f.g, Value.string f.y]] _ _); refine (HC2.out _ z2).mono ?_; rintro e' w4 ⟨rfl, p0, p1, p2, p3, p4, p5, p6, p7, p8, p9, p10, p11, q0, q1, q2, q3, q4, q5, q6, q7, q8, q9, q10, q11, z3⟩))
    go_ret
    exact ⟨rfl, hid (HO0.out.trans z1.out)⟩
set_option maxHeartbeats 4000000 in
theorem refTriples_any {a b c d e f : Tm} {w : World} (hsa : sizeT a ≤ 900000) (hsb : sizeT b ≤ 900000) (hsc : sizeT c ≤ 900000) (hsd : sizeT d ≤ 900000) (hse : sizeT e ≤ 900000) (hsf : sizeT f ≤ 900000) :
    Calls Tryd.prog 24 #[trV a b c, trV d e f] w fun e' w' => e' = .returned (.int .i64 (triT a b c d e f)) ∧ StU w w' := by
  obtain ⟨w1, hw1, HA0, HB0, HO0⟩ := tr2_start a b c d e f w
  have HS0 := tr2_of HA0.out HB0.out (hid (Only.refl _ w1))
  obtain ⟨p0, p1, p2, p3, p4, p5, p6, p7, p8, p9, p10, p11, q0, q1, q2, q3, q4, q5, q6, q7, q8, q9, q10, q11, z0⟩ := HS0
  have HC0 : Hid (∀ W, StU w1 W → Calls Tryd.prog 13 #[.agg #[.int .i64 a.k, .string a.x, .string a.g, .string a.y], .agg #[.int .i64 d.k, .string d.x, .string d.g, .string d.y]] W fun e' w' => e' = .returned (.int .i64 (cmpT a d)) ∧ Tr2 w1 w.heap.size (w.heap.size + 1) a b c d e f w') := hid fun W hW => (refCompare_any hsa hsd).mono fun e' w' h => ⟨h.1, tr2_of HA0.out HB0.out (hid (hW.out.trans h.2.out))⟩
  have HC1 : Hid (∀ W, StU w1 W → Calls Tryd.prog 13 #[.agg #[.int .i64 b.k, .string b.x, .string b.g, .string b.y], .agg #[.int .i64 e.k, .string e.x, .string e.g, .string e.y]] W fun e' w' => e' = .returned (.int .i64 (cmpT b e)) ∧ Tr2 w1 w.heap.size (w.heap.size + 1) a b c d e f w') := hid fun W hW => (refCompare_any hsb hse).mono fun e' w' h => ⟨h.1, tr2_of HA0.out HB0.out (hid (hW.out.trans h.2.out))⟩
  have HC2 : Hid (∀ W, StU w1 W → Calls Tryd.prog 13 #[.agg #[.int .i64 c.k, .string c.x, .string c.g, .string c.y], .agg #[.int .i64 f.k, .string f.x, .string f.g, .string f.y]] W fun e' w' => e' = .returned (.int .i64 (cmpT c f)) ∧ Tr2 w1 w.heap.size (w.heap.size + 1) a b c d e f w') := hid fun W hW => (refCompare_any hsc hsf).mono fun e' w' h => ⟨h.1, tr2_of HA0.out HB0.out (hid (hW.out.trans h.2.out))⟩
  have hc : triT a b c d e f = if cmpT a d = 0 then (if cmpT b e = 0 then cmpT c f else cmpT b e) else cmpT a d := rfl
  rw [hc]
  generalize cmpT a d = n1 at *
  generalize cmpT b e = n2 at *
  generalize cmpT c f = n3 at *
  clear hc hsa hsb hsc hsd hse hsf
  by_cases hn1 : n1 = 0
  · subst hn1
    rw [if_pos rfl]
    by_cases hn2 : n2 = 0
    · subst hn2
      rw [if_pos rfl]
      unfold trV
      go_enter Tryd.func24, Tryd.ntmps24
      go_upto_region 1 with fail
      rw [← hw1]
      clear hw1
      go_wp2_with (first
        | (go_at_call 13; (with_reducible show Calls _ _ #[Value.agg #[Value.int IntKind.i64 a.k, Value.string a.x, Value.string a.g, Value.string a.y], Value.agg #[Value.int IntKind.i64 d.k, Value.string d.x, Value.string d.g, Value.string d.y]] _ _); refine (HC0.out _ z0).mono ?_; rintro e' w2 ⟨rfl, p0, p1, p2, p3, p4, p5, p6, p7, p8, p9, p10, p11, q0, q1, q2, q3, q4, q5, q6, q7, q8, q9, q10, q11, z1⟩)
        | (go_at_call 13; (with_reducible show Calls _ _ #[Value.agg #[Value.int IntKind.i64 b.k, Value.string b.x, Value.string b.g, Value.string b.y], Value.agg #[Value.int IntKind.i64 e.k, Value.string e.x, Value.string e.g, Value.string e.y]] _ _); refine (HC1.out _ z1).mono ?_; rintro e' w3 ⟨rfl, p0, p1, p2, p3, p4, p5, p6, p7, p8, p9, p10, p11, q0, q1, q2, q3, q4, q5, q6, q7, q8, q9, q10, q11, z2⟩)
        | (go_at_call 13; (with_reducible show Calls _ _ #[Value.agg #[Value.int IntKind.i64 c.k, Value.string c.x, Value.string c.g, Value.string c.y], Value.agg #[Value.int IntKind.i64 f.k, Value.string f.x, Value.string f.g, Value.string f.y]] _ _); refine (HC2.out _ z2).mono ?_; rintro e' w4 ⟨rfl, p0, p1, p2, p3, p4, p5, p6, p7, p8, p9, p10, p11, q0, q1, q2, q3, q4, q5, q6, q7, q8, q9, q10, q11, z3⟩))
      go_ret
      exact ⟨rfl, hid (HO0.out.trans z3.out)⟩
    · rw [if_neg hn2]
      have gn2 : (n2 == 0) = false := by rw [beq_eq_false_iff_ne]; exact hn2
      have gn2' : (n2 != 0) = true := by rw [bne_iff_ne]; exact hn2
      clear hn2
      unfold trV
      go_enter Tryd.func24, Tryd.ntmps24
      go_upto_region 1 with fail
      rw [← hw1]
      clear hw1
      go_wp2_with (first
        | (go_at_call 13; (with_reducible show Calls _ _ #[Value.agg #[Value.int IntKind.i64 a.k, Value.string a.x, Value.string a.g, Value.string a.y], Value.agg #[Value.int IntKind.i64 d.k, Value.string d.x, Value.string d.g, Value.string d.y]] _ _); refine (HC0.out _ z0).mono ?_; rintro e' w2 ⟨rfl, p0, p1, p2, p3, p4, p5, p6, p7, p8, p9, p10, p11, q0, q1, q2, q3, q4, q5, q6, q7, q8, q9, q10, q11, z1⟩)
        | (go_at_call 13; (with_reducible show Calls _ _ #[Value.agg #[Value.int IntKind.i64 b.k, Value.string b.x, Value.string b.g, Value.string b.y], Value.agg #[Value.int IntKind.i64 e.k, Value.string e.x, Value.string e.g, Value.string e.y]] _ _); refine (HC1.out _ z1).mono ?_; rintro e' w3 ⟨rfl, p0, p1, p2, p3, p4, p5, p6, p7, p8, p9, p10, p11, q0, q1, q2, q3, q4, q5, q6, q7, q8, q9, q10, q11, z2⟩)
        | (go_at_call 13; (with_reducible show Calls _ _ #[Value.agg #[Value.int IntKind.i64 c.k, Value.string c.x, Value.string c.g, Value.string c.y], Value.agg #[Value.int IntKind.i64 f.k, Value.string f.x, Value.string f.g, Value.string f.y]] _ _); refine (HC2.out _ z2).mono ?_; rintro e' w4 ⟨rfl, p0, p1, p2, p3, p4, p5, p6, p7, p8, p9, p10, p11, q0, q1, q2, q3, q4, q5, q6, q7, q8, q9, q10, q11, z3⟩))
      go_ret
      exact ⟨rfl, hid (HO0.out.trans z2.out)⟩
  · rw [if_neg hn1]
    have gn1 : (n1 == 0) = false := by rw [beq_eq_false_iff_ne]; exact hn1
    have gn1' : (n1 != 0) = true := by rw [bne_iff_ne]; exact hn1
    clear hn1
    unfold trV
    go_enter Tryd.func24, Tryd.ntmps24
    go_upto_region 1 with fail
    rw [← hw1]
    clear hw1
    go_wp2_with (first
      | (go_at_call 13; (with_reducible show Calls _ _ #[Value.agg #[Value.int IntKind.i64 a.k, Value.string a.x, Value.string a.g, Value.string a.y], Value.agg #[Value.int IntKind.i64 d.k, Value.string d.x, Value.string d.g, Value.string d.y]] _ _); refine (HC0.out _ z0).mono ?_; rintro e' w2 ⟨rfl, p0, p1, p2, p3, p4, p5, p6, p7, p8, p9, p10, p11, q0, q1, q2, q3, q4, q5, q6, q7, q8, q9, q10, q11, z1⟩)
      | (go_at_call 13; (with_reducible show Calls _ _ #[Value.agg #[Value.int IntKind.i64 b.k, Value.string b.x, Value.string b.g, Value.string b.y], Value.agg #[Value.int IntKind.i64 e.k, Value.string e.x, Value.string e.g, Value.string e.y]] _ _); refine (HC1.out _ z1).mono ?_; rintro e' w3 ⟨rfl, p0, p1, p2, p3, p4, p5, p6, p7, p8, p9, p10, p11, q0, q1, q2, q3, q4, q5, q6, q7, q8, q9, q10, q11, z2⟩)
      | (go_at_call 13; (with_reducible show Calls _ _ #[Value.agg #[Value.int IntKind.i64 c.k, Value.string c.x, Value.string c.g, Value.string c.y], Value.agg #[Value.int IntKind.i64 f.k, Value.string f.x, Value.string f.g, Value.string f.y]] _ _); refine (HC2.out _ z2).mono ?_; rintro e' w4 ⟨rfl, p0, p1, p2, p3, p4, p5, p6, p7, p8, p9, p10, p11, q0, q1, q2, q3, q4, q5, q6, q7, q8, q9, q10, q11, z3⟩))
    go_ret
    exact ⟨rfl, hid (HO0.out.trans z1.out)⟩
end Go.Proofs.YtefcnaccemefnaaDoor
