/- Triples: Triple, Triples, the code's and the document's. -/
import Derived.Test.YtefcnaccemefnaaDoorTeJ
namespace Go.Proofs.YtefcnaccemefnaaDoor
open Go.RowKit U G

def trV (a b c : Tm) : Value := .agg #[.int .i64 a.k, .string a.x, .string a.g, .string a.y, .int .i64 b.k, .string b.x, .string b.g, .string b.y, .int .i64 c.k, .string c.x, .string c.g, .string c.y]
def trF (a b c : Tm) (i : Nat) : Value := if i < 4 then tmF a i else if i < 8 then tmF b (i - 4) else tmF c (i - 8)
abbrev TrAt (w : World) (g : Nat) (a b c : Tm) : Prop := w.rowIs g 36 12 (trF a b c)
abbrev trObj (a b c : Tm) : Obj := .cells #[.int .i64 a.k, .string a.x, .string a.g, .string a.y, .int .i64 b.k, .string b.x, .string b.g, .string b.y, .int .i64 c.k, .string c.x, .string c.g, .string c.y] 36
theorem tr_new (w : World) (a b c : Tm) : TrAt (w.alloc (trObj a b c)) w.heap.size a b c :=
  World.rowIs_alloc w #[.int .i64 a.k, .string a.x, .string a.g, .string a.y, .int .i64 b.k, .string b.x, .string b.g, .string b.y, .int .i64 c.k, .string c.x, .string c.g, .string c.y] 36 (trF a b c) (fun i hi => by
    match i, hi with
    | 0, _ => rfl
    | 1, _ => rfl
    | 2, _ => rfl
    | 3, _ => rfl
    | 4, _ => rfl
    | 5, _ => rfl
    | 6, _ => rfl
    | 7, _ => rfl
    | 8, _ => rfl
    | 9, _ => rfl
    | 10, _ => rfl
    | 11, _ => rfl
    | i + 12, hi => exact absurd (show i + 12 < 12 from hi) (by omega))
theorem TrAt.cells {w : World} {g : Nat} {a b c : Tm} (h : TrAt w g a b c) : w.cell? ⟨g, 0, none⟩ = some (.int .i64 a.k) ∧ w.cell? ⟨g, 1, none⟩ = some (.string a.x) ∧ w.cell? ⟨g, 2, none⟩ = some (.string a.g) ∧ w.cell? ⟨g, 3, none⟩ = some (.string a.y) ∧ w.cell? ⟨g, 4, none⟩ = some (.int .i64 b.k) ∧ w.cell? ⟨g, 5, none⟩ = some (.string b.x) ∧ w.cell? ⟨g, 6, none⟩ = some (.string b.g) ∧ w.cell? ⟨g, 7, none⟩ = some (.string b.y) ∧ w.cell? ⟨g, 8, none⟩ = some (.int .i64 c.k) ∧ w.cell? ⟨g, 9, none⟩ = some (.string c.x) ∧ w.cell? ⟨g, 10, none⟩ = some (.string c.g) ∧ w.cell? ⟨g, 11, none⟩ = some (.string c.y) :=
  ⟨h.cell (by omega), h.cell (by omega), h.cell (by omega), h.cell (by omega), h.cell (by omega), h.cell (by omega), h.cell (by omega), h.cell (by omega), h.cell (by omega), h.cell (by omega), h.cell (by omega), h.cell (by omega)⟩
/-- The worlds in which such a row stands as it stood. -/
def TrS (w1 : World) (g : Nat) (a b c : Tm) (u : World) : Prop := u.cell? ⟨g, 0, none⟩ = some (.int .i64 a.k) ∧ u.cell? ⟨g, 1, none⟩ = some (.string a.x) ∧ u.cell? ⟨g, 2, none⟩ = some (.string a.g) ∧ u.cell? ⟨g, 3, none⟩ = some (.string a.y) ∧ u.cell? ⟨g, 4, none⟩ = some (.int .i64 b.k) ∧ u.cell? ⟨g, 5, none⟩ = some (.string b.x) ∧ u.cell? ⟨g, 6, none⟩ = some (.string b.g) ∧ u.cell? ⟨g, 7, none⟩ = some (.string b.y) ∧ u.cell? ⟨g, 8, none⟩ = some (.int .i64 c.k) ∧ u.cell? ⟨g, 9, none⟩ = some (.string c.x) ∧ u.cell? ⟨g, 10, none⟩ = some (.string c.g) ∧ u.cell? ⟨g, 11, none⟩ = some (.string c.y) ∧ StU w1 u
theorem trS_of {w1 u : World} {g : Nat} {a b c : Tm} (h : TrAt w1 g a b c) (o : StU w1 u) : TrS w1 g a b c u := by
  obtain ⟨h0, h1, h2, h3, h4, h5, h6, h7, h8, h9, h10, h11⟩ := TrAt.cells (o.out.row h no_)
  exact ⟨h0, h1, h2, h3, h4, h5, h6, h7, h8, h9, h10, h11, o⟩
def tripleB (a b c : Tm) : Bool := ((decide (a.k = 1) || decide (a.k = 2)) && decide (b.k = 1)) && (rightT a && (rightT b && rightT c))
set_option maxHeartbeats 4000000 in
theorem triple_any {a b c : Tm} {w : World} (hT : Tb w) (hsa : sizeT a ≤ 1099511627776) (hsb : sizeT b ≤ 1099511627776) (hsc : sizeT c ≤ 1099511627776) :
    Calls Tryd.prog 21 #[trV a b c] w fun e w' => e = .returned (.bool (tripleB a b c)) ∧ StU w w' := by
  obtain ⟨w1, hw1⟩ : ∃ w1, w1 = w.alloc (trObj a b c) := ⟨_, rfl⟩
  have HO0 : StU w w1 := hid (by rw [hw1]; exact (Only.refl _ w).alloc _)
  have HA0 : Hid (TrAt w1 w.heap.size a b c) := hid (by rw [hw1]; exact tr_new w a b c)
  obtain ⟨d0, d1, d2, d3, d4, d5, d6, d7, d8, d9, d10, d11⟩ := HA0.out.cells
  have HB0 : StU w1 w1 := hid (Only.refl _ w1)
  have HRa : Hid (∀ W, StU w1 W → Calls Tryd.prog 10 #[.agg #[.int .i64 a.k, .string a.x, .string a.g, .string a.y]] W fun e w' => e = .returned (.bool (rightT a)) ∧ TrS w1 w.heap.size a b c w') := hid fun W hW => (right_any ((hT.stu HO0).stu hW) (by omega)).mono fun e w' h => ⟨h.1, trS_of HA0.out (hid (hW.out.trans h.2.out))⟩
  have HRb : Hid (∀ W, StU w1 W → Calls Tryd.prog 10 #[.agg #[.int .i64 b.k, .string b.x, .string b.g, .string b.y]] W fun e w' => e = .returned (.bool (rightT b)) ∧ TrS w1 w.heap.size a b c w') := hid fun W hW => (right_any ((hT.stu HO0).stu hW) (by omega)).mono fun e w' h => ⟨h.1, trS_of HA0.out (hid (hW.out.trans h.2.out))⟩
  have HRc : Hid (∀ W, StU w1 W → Calls Tryd.prog 10 #[.agg #[.int .i64 c.k, .string c.x, .string c.g, .string c.y]] W fun e w' => e = .returned (.bool (rightT c)) ∧ TrS w1 w.heap.size a b c w') := hid fun W hW => (right_any ((hT.stu HO0).stu hW) (by omega)).mono fun e w' h => ⟨h.1, trS_of HA0.out (hid (hW.out.trans h.2.out))⟩
  have Hr : Hid (tripleB a b c = (((decide (a.k = 1) || decide (a.k = 2)) && decide (b.k = 1)) && (rightT a && (rightT b && rightT c)))) := hid rfl
  generalize tripleB a b c = R at *
  generalize rightT a = ra at *
  generalize rightT b = rb at *
  generalize rightT c = rc at *
  clear hT hsa hsb hsc
  by_cases hk : (a.k = 1 ∨ a.k = 2) ∧ b.k = 1
  · have HF : Hid (R = (ra && (rb && rc))) := hid (by rw [Hr.out, decide_eq_true hk.2]; rcases hk.1 with h | h <;> simp [h])
    have nb : (b.k != 1) = false := by simp [hk.2]
    have na : (a.k != 1) = false ∨ ((a.k != 1) = true ∧ (a.k != 2) = false) := by
      rcases hk.1 with h | h
      · exact .inl (by simp [h])
      · exact .inr ⟨by simp [h], by simp [h]⟩
    clear Hr hk
    rcases na with na | ⟨na, na2⟩
    · skip
      cases ra with
      | false =>
        unfold trV
        go_enter Tryd.func21, Tryd.ntmps21
        go_upto_region 1 with fail
        rw [← hw1]
        clear hw1
        go_wp2_with (first
          | (go_at_call 10; (with_reducible show Calls _ _ #[Value.agg #[Value.int IntKind.i64 a.k, Value.string a.x, Value.string a.g, Value.string a.y]] _ _); refine (HRa.out _ HB0).mono ?_; rintro e wp ⟨rfl, p0, p1, p2, p3, p4, p5, p6, p7, p8, p9, p10, p11, pO⟩)
          | (go_at_call 10; (with_reducible show Calls _ _ #[Value.agg #[Value.int IntKind.i64 b.k, Value.string b.x, Value.string b.g, Value.string b.y]] _ _); refine (HRb.out _ pO).mono ?_; rintro e wq ⟨rfl, q0, q1, q2, q3, q4, q5, q6, q7, q8, q9, q10, q11, qO⟩)
          | (go_at_call 10; (with_reducible show Calls _ _ #[Value.agg #[Value.int IntKind.i64 c.k, Value.string c.x, Value.string c.g, Value.string c.y]] _ _); refine (HRc.out _ qO).mono ?_; rintro e wr ⟨rfl, r0, r1, r2, r3, r4, r5, r6, r7, r8, r9, r10, r11, rO⟩))
        go_ret
        exact ⟨by rw [HF.out]; rfl, hid (HO0.out.trans pO.out)⟩
      | true =>
        cases rb with
        | false =>
          unfold trV
          go_enter Tryd.func21, Tryd.ntmps21
          go_upto_region 1 with fail
          rw [← hw1]
          clear hw1
          go_wp2_with (first
            | (go_at_call 10; (with_reducible show Calls _ _ #[Value.agg #[Value.int IntKind.i64 a.k, Value.string a.x, Value.string a.g, Value.string a.y]] _ _); refine (HRa.out _ HB0).mono ?_; rintro e wp ⟨rfl, p0, p1, p2, p3, p4, p5, p6, p7, p8, p9, p10, p11, pO⟩)
            | (go_at_call 10; (with_reducible show Calls _ _ #[Value.agg #[Value.int IntKind.i64 b.k, Value.string b.x, Value.string b.g, Value.string b.y]] _ _); refine (HRb.out _ pO).mono ?_; rintro e wq ⟨rfl, q0, q1, q2, q3, q4, q5, q6, q7, q8, q9, q10, q11, qO⟩)
            | (go_at_call 10; (with_reducible show Calls _ _ #[Value.agg #[Value.int IntKind.i64 c.k, Value.string c.x, Value.string c.g, Value.string c.y]] _ _); refine (HRc.out _ qO).mono ?_; rintro e wr ⟨rfl, r0, r1, r2, r3, r4, r5, r6, r7, r8, r9, r10, r11, rO⟩))
          go_ret
          exact ⟨by rw [HF.out]; rfl, hid (HO0.out.trans qO.out)⟩
        | true =>
          unfold trV
          go_enter Tryd.func21, Tryd.ntmps21
          go_upto_region 1 with fail
          rw [← hw1]
          clear hw1
          go_wp2_with (first
            | (go_at_call 10; (with_reducible show Calls _ _ #[Value.agg #[Value.int IntKind.i64 a.k, Value.string a.x, Value.string a.g, Value.string a.y]] _ _); refine (HRa.out _ HB0).mono ?_; rintro e wp ⟨rfl, p0, p1, p2, p3, p4, p5, p6, p7, p8, p9, p10, p11, pO⟩)
            | (go_at_call 10; (with_reducible show Calls _ _ #[Value.agg #[Value.int IntKind.i64 b.k, Value.string b.x, Value.string b.g, Value.string b.y]] _ _); refine (HRb.out _ pO).mono ?_; rintro e wq ⟨rfl, q0, q1, q2, q3, q4, q5, q6, q7, q8, q9, q10, q11, qO⟩)
            | (go_at_call 10; (with_reducible show Calls _ _ #[Value.agg #[Value.int IntKind.i64 c.k, Value.string c.x, Value.string c.g, Value.string c.y]] _ _); refine (HRc.out _ qO).mono ?_; rintro e wr ⟨rfl, r0, r1, r2, r3, r4, r5, r6, r7, r8, r9, r10, r11, rO⟩))
          go_ret
          exact ⟨by rw [HF.out]; rfl, hid (HO0.out.trans rO.out)⟩
    · skip
      cases ra with
      | false =>
        unfold trV
        go_enter Tryd.func21, Tryd.ntmps21
        go_upto_region 1 with fail
        rw [← hw1]
        clear hw1
        go_wp2_with (first
          | (go_at_call 10; (with_reducible show Calls _ _ #[Value.agg #[Value.int IntKind.i64 a.k, Value.string a.x, Value.string a.g, Value.string a.y]] _ _); refine (HRa.out _ HB0).mono ?_; rintro e wp ⟨rfl, p0, p1, p2, p3, p4, p5, p6, p7, p8, p9, p10, p11, pO⟩)
          | (go_at_call 10; (with_reducible show Calls _ _ #[Value.agg #[Value.int IntKind.i64 b.k, Value.string b.x, Value.string b.g, Value.string b.y]] _ _); refine (HRb.out _ pO).mono ?_; rintro e wq ⟨rfl, q0, q1, q2, q3, q4, q5, q6, q7, q8, q9, q10, q11, qO⟩)
          | (go_at_call 10; (with_reducible show Calls _ _ #[Value.agg #[Value.int IntKind.i64 c.k, Value.string c.x, Value.string c.g, Value.string c.y]] _ _); refine (HRc.out _ qO).mono ?_; rintro e wr ⟨rfl, r0, r1, r2, r3, r4, r5, r6, r7, r8, r9, r10, r11, rO⟩))
        go_ret
        exact ⟨by rw [HF.out]; rfl, hid (HO0.out.trans pO.out)⟩
      | true =>
        cases rb with
        | false =>
          unfold trV
          go_enter Tryd.func21, Tryd.ntmps21
          go_upto_region 1 with fail
          rw [← hw1]
          clear hw1
          go_wp2_with (first
            | (go_at_call 10; (with_reducible show Calls _ _ #[Value.agg #[Value.int IntKind.i64 a.k, Value.string a.x, Value.string a.g, Value.string a.y]] _ _); refine (HRa.out _ HB0).mono ?_; rintro e wp ⟨rfl, p0, p1, p2, p3, p4, p5, p6, p7, p8, p9, p10, p11, pO⟩)
            | (go_at_call 10; (with_reducible show Calls _ _ #[Value.agg #[Value.int IntKind.i64 b.k, Value.string b.x, Value.string b.g, Value.string b.y]] _ _); refine (HRb.out _ pO).mono ?_; rintro e wq ⟨rfl, q0, q1, q2, q3, q4, q5, q6, q7, q8, q9, q10, q11, qO⟩)
            | (go_at_call 10; (with_reducible show Calls _ _ #[Value.agg #[Value.int IntKind.i64 c.k, Value.string c.x, Value.string c.g, Value.string c.y]] _ _); refine (HRc.out _ qO).mono ?_; rintro e wr ⟨rfl, r0, r1, r2, r3, r4, r5, r6, r7, r8, r9, r10, r11, rO⟩))
          go_ret
          exact ⟨by rw [HF.out]; rfl, hid (HO0.out.trans qO.out)⟩
        | true =>
          unfold trV
          go_enter Tryd.func21, Tryd.ntmps21
          go_upto_region 1 with fail
          rw [← hw1]
          clear hw1
          go_wp2_with (first
            | (go_at_call 10; (with_reducible show Calls _ _ #[Value.agg #[Value.int IntKind.i64 a.k, Value.string a.x, Value.string a.g, Value.string a.y]] _ _); refine (HRa.out _ HB0).mono ?_; rintro e wp ⟨rfl, p0, p1, p2, p3, p4, p5, p6, p7, p8, p9, p10, p11, pO⟩)
            | (go_at_call 10; (with_reducible show Calls _ _ #[Value.agg #[Value.int IntKind.i64 b.k, Value.string b.x, Value.string b.g, Value.string b.y]] _ _); refine (HRb.out _ pO).mono ?_; rintro e wq ⟨rfl, q0, q1, q2, q3, q4, q5, q6, q7, q8, q9, q10, q11, qO⟩)
            | (go_at_call 10; (with_reducible show Calls _ _ #[Value.agg #[Value.int IntKind.i64 c.k, Value.string c.x, Value.string c.g, Value.string c.y]] _ _); refine (HRc.out _ qO).mono ?_; rintro e wr ⟨rfl, r0, r1, r2, r3, r4, r5, r6, r7, r8, r9, r10, r11, rO⟩))
          go_ret
          exact ⟨by rw [HF.out]; rfl, hid (HO0.out.trans rO.out)⟩
  · have HF : Hid (R = false) := hid (by
      rw [Hr.out]
      by_cases h1 : a.k = 1
      · have : b.k ≠ 1 := fun h => hk ⟨.inl h1, h⟩
        simp [this]
      · by_cases h2 : a.k = 2
        · have : b.k ≠ 1 := fun h => hk ⟨.inr h2, h⟩
          simp [this]
        · simp [h1, h2])
    have na : ((a.k != 1) = true ∧ (a.k != 2) = true) ∨ ((a.k != 1) = false ∧ (b.k != 1) = true) ∨ ((a.k != 1) = true ∧ (a.k != 2) = false ∧ (b.k != 1) = true) := by
      by_cases h1 : a.k = 1
      · have : b.k ≠ 1 := fun h => hk ⟨.inl h1, h⟩
        exact .inr (.inl ⟨by simp [h1], by simpa using this⟩)
      · by_cases h2 : a.k = 2
        · have : b.k ≠ 1 := fun h => hk ⟨.inr h2, h⟩
          exact .inr (.inr ⟨by simp [h1], by simp [h2], by simpa using this⟩)
        · exact .inl ⟨by simpa using h1, by simpa using h2⟩
    clear Hr hk HRa HRb HRc
    rcases na with ⟨na, na2⟩ | ⟨na, nb⟩ | ⟨na, na2, nb⟩
    · skip
      unfold trV
      go_enter Tryd.func21, Tryd.ntmps21
      go_upto_region 1 with fail
      rw [← hw1]
      clear hw1
      go_wp2_with fail
      go_ret
      exact ⟨by rw [HF.out]; rfl, HO0⟩
    · skip
      unfold trV
      go_enter Tryd.func21, Tryd.ntmps21
      go_upto_region 1 with fail
      rw [← hw1]
      clear hw1
      go_wp2_with fail
      go_ret
      exact ⟨by rw [HF.out]; rfl, HO0⟩
    · skip
      unfold trV
      go_enter Tryd.func21, Tryd.ntmps21
      go_upto_region 1 with fail
      rw [← hw1]
      clear hw1
      go_wp2_with fail
      go_ret
      exact ⟨by rw [HF.out]; rfl, HO0⟩
set_option maxHeartbeats 4000000 in
theorem refTriple_any {a b c : Tm} {w : World} (hsa : sizeT a ≤ 900000) (hsb : sizeT b ≤ 900000) (hsc : sizeT c ≤ 900000) :
    Calls Tryd.prog 22 #[trV a b c] w fun e w' => e = .returned (.bool (tripleB a b c)) ∧ StU w w' := by
  obtain ⟨w1, hw1⟩ : ∃ w1, w1 = w.alloc (trObj a b c) := ⟨_, rfl⟩
  have HO0 : StU w w1 := hid (by rw [hw1]; exact (Only.refl _ w).alloc _)
  have HA0 : Hid (TrAt w1 w.heap.size a b c) := hid (by rw [hw1]; exact tr_new w a b c)
  obtain ⟨d0, d1, d2, d3, d4, d5, d6, d7, d8, d9, d10, d11⟩ := HA0.out.cells
  have HB0 : StU w1 w1 := hid (Only.refl _ w1)
  have HRa : Hid (∀ W, StU w1 W → Calls Tryd.prog 11 #[.agg #[.int .i64 a.k, .string a.x, .string a.g, .string a.y]] W fun e w' => e = .returned (.bool (rightT a)) ∧ TrS w1 w.heap.size a b c w') := hid fun W hW => (refRight_any hsa).mono fun e w' h => ⟨h.1, trS_of HA0.out (hid (hW.out.trans h.2.out))⟩
  have HRb : Hid (∀ W, StU w1 W → Calls Tryd.prog 11 #[.agg #[.int .i64 b.k, .string b.x, .string b.g, .string b.y]] W fun e w' => e = .returned (.bool (rightT b)) ∧ TrS w1 w.heap.size a b c w') := hid fun W hW => (refRight_any hsb).mono fun e w' h => ⟨h.1, trS_of HA0.out (hid (hW.out.trans h.2.out))⟩
  have HRc : Hid (∀ W, StU w1 W → Calls Tryd.prog 11 #[.agg #[.int .i64 c.k, .string c.x, .string c.g, .string c.y]] W fun e w' => e = .returned (.bool (rightT c)) ∧ TrS w1 w.heap.size a b c w') := hid fun W hW => (refRight_any hsc).mono fun e w' h => ⟨h.1, trS_of HA0.out (hid (hW.out.trans h.2.out))⟩
  have Hr : Hid (tripleB a b c = (((decide (a.k = 1) || decide (a.k = 2)) && decide (b.k = 1)) && (rightT a && (rightT b && rightT c)))) := hid rfl
  generalize tripleB a b c = R at *
  generalize rightT a = ra at *
  generalize rightT b = rb at *
  generalize rightT c = rc at *
  clear hsa hsb hsc
  cases ra with
  | false =>
    have HF : Hid (R = false) := hid (by rw [Hr.out]; simp)
    clear Hr
    unfold trV
    go_enter Tryd.func22, Tryd.ntmps22
    go_upto_region 1 with fail
    rw [← hw1]
    clear hw1
    go_wp2_with (first
      | (go_at_call 11; (with_reducible show Calls _ _ #[Value.agg #[Value.int IntKind.i64 a.k, Value.string a.x, Value.string a.g, Value.string a.y]] _ _); refine (HRa.out _ HB0).mono ?_; rintro e wp ⟨rfl, p0, p1, p2, p3, p4, p5, p6, p7, p8, p9, p10, p11, pO⟩)
      | (go_at_call 11; (with_reducible show Calls _ _ #[Value.agg #[Value.int IntKind.i64 b.k, Value.string b.x, Value.string b.g, Value.string b.y]] _ _); refine (HRb.out _ pO).mono ?_; rintro e wq ⟨rfl, q0, q1, q2, q3, q4, q5, q6, q7, q8, q9, q10, q11, qO⟩)
      | (go_at_call 11; (with_reducible show Calls _ _ #[Value.agg #[Value.int IntKind.i64 c.k, Value.string c.x, Value.string c.g, Value.string c.y]] _ _); refine (HRc.out _ qO).mono ?_; rintro e wr ⟨rfl, r0, r1, r2, r3, r4, r5, r6, r7, r8, r9, r10, r11, rO⟩))
    go_ret
    exact ⟨by rw [HF.out]; rfl, hid (HO0.out.trans pO.out)⟩
  | true =>
    cases rb with
    | false =>
      have HF : Hid (R = false) := hid (by rw [Hr.out]; simp)
      clear Hr
      unfold trV
      go_enter Tryd.func22, Tryd.ntmps22
      go_upto_region 1 with fail
      rw [← hw1]
      clear hw1
      go_wp2_with (first
        | (go_at_call 11; (with_reducible show Calls _ _ #[Value.agg #[Value.int IntKind.i64 a.k, Value.string a.x, Value.string a.g, Value.string a.y]] _ _); refine (HRa.out _ HB0).mono ?_; rintro e wp ⟨rfl, p0, p1, p2, p3, p4, p5, p6, p7, p8, p9, p10, p11, pO⟩)
        | (go_at_call 11; (with_reducible show Calls _ _ #[Value.agg #[Value.int IntKind.i64 b.k, Value.string b.x, Value.string b.g, Value.string b.y]] _ _); refine (HRb.out _ pO).mono ?_; rintro e wq ⟨rfl, q0, q1, q2, q3, q4, q5, q6, q7, q8, q9, q10, q11, qO⟩)
        | (go_at_call 11; (with_reducible show Calls _ _ #[Value.agg #[Value.int IntKind.i64 c.k, Value.string c.x, Value.string c.g, Value.string c.y]] _ _); refine (HRc.out _ qO).mono ?_; rintro e wr ⟨rfl, r0, r1, r2, r3, r4, r5, r6, r7, r8, r9, r10, r11, rO⟩))
      go_ret
      exact ⟨by rw [HF.out]; rfl, hid (HO0.out.trans qO.out)⟩
    | true =>
      cases rc with
      | false =>
        have HF : Hid (R = false) := hid (by rw [Hr.out]; simp)
        clear Hr
        unfold trV
        go_enter Tryd.func22, Tryd.ntmps22
        go_upto_region 1 with fail
        rw [← hw1]
        clear hw1
        go_wp2_with (first
          | (go_at_call 11; (with_reducible show Calls _ _ #[Value.agg #[Value.int IntKind.i64 a.k, Value.string a.x, Value.string a.g, Value.string a.y]] _ _); refine (HRa.out _ HB0).mono ?_; rintro e wp ⟨rfl, p0, p1, p2, p3, p4, p5, p6, p7, p8, p9, p10, p11, pO⟩)
          | (go_at_call 11; (with_reducible show Calls _ _ #[Value.agg #[Value.int IntKind.i64 b.k, Value.string b.x, Value.string b.g, Value.string b.y]] _ _); refine (HRb.out _ pO).mono ?_; rintro e wq ⟨rfl, q0, q1, q2, q3, q4, q5, q6, q7, q8, q9, q10, q11, qO⟩)
          | (go_at_call 11; (with_reducible show Calls _ _ #[Value.agg #[Value.int IntKind.i64 c.k, Value.string c.x, Value.string c.g, Value.string c.y]] _ _); refine (HRc.out _ qO).mono ?_; rintro e wr ⟨rfl, r0, r1, r2, r3, r4, r5, r6, r7, r8, r9, r10, r11, rO⟩))
        go_ret
        exact ⟨by rw [HF.out]; rfl, hid (HO0.out.trans rO.out)⟩
      | true =>
        have HF : Hid (R = ((decide (a.k = 1) || decide (a.k = 2)) && decide (b.k = 1))) := hid (by rw [Hr.out]; simp)
        have nb : (b.k == 1) = decide (b.k = 1) := by rw [Bool.eq_iff_iff, beq_iff_eq, decide_eq_true_iff]
        have na1 : (a.k == 1) = decide (a.k = 1) := by rw [Bool.eq_iff_iff, beq_iff_eq, decide_eq_true_iff]
        have na2 : (a.k == 2) = decide (a.k = 2) := by rw [Bool.eq_iff_iff, beq_iff_eq, decide_eq_true_iff]
        clear Hr
        generalize decide (a.k = 1) = k1 at *
        generalize decide (a.k = 2) = k2 at *
        generalize decide (b.k = 1) = k3 at *
        cases k1 with
        | true =>
          unfold trV
          go_enter Tryd.func22, Tryd.ntmps22
          go_upto_region 1 with fail
          rw [← hw1]
          clear hw1
          go_wp2_with (first
            | (go_at_call 11; (with_reducible show Calls _ _ #[Value.agg #[Value.int IntKind.i64 a.k, Value.string a.x, Value.string a.g, Value.string a.y]] _ _); refine (HRa.out _ HB0).mono ?_; rintro e wp ⟨rfl, p0, p1, p2, p3, p4, p5, p6, p7, p8, p9, p10, p11, pO⟩)
            | (go_at_call 11; (with_reducible show Calls _ _ #[Value.agg #[Value.int IntKind.i64 b.k, Value.string b.x, Value.string b.g, Value.string b.y]] _ _); refine (HRb.out _ pO).mono ?_; rintro e wq ⟨rfl, q0, q1, q2, q3, q4, q5, q6, q7, q8, q9, q10, q11, qO⟩)
            | (go_at_call 11; (with_reducible show Calls _ _ #[Value.agg #[Value.int IntKind.i64 c.k, Value.string c.x, Value.string c.g, Value.string c.y]] _ _); refine (HRc.out _ qO).mono ?_; rintro e wr ⟨rfl, r0, r1, r2, r3, r4, r5, r6, r7, r8, r9, r10, r11, rO⟩))
          go_ret
          exact ⟨by rw [HF.out]; rfl, hid (HO0.out.trans rO.out)⟩
        | false =>
          cases k2 with
          | true =>
            unfold trV
            go_enter Tryd.func22, Tryd.ntmps22
            go_upto_region 1 with fail
            rw [← hw1]
            clear hw1
            go_wp2_with (first
              | (go_at_call 11; (with_reducible show Calls _ _ #[Value.agg #[Value.int IntKind.i64 a.k, Value.string a.x, Value.string a.g, Value.string a.y]] _ _); refine (HRa.out _ HB0).mono ?_; rintro e wp ⟨rfl, p0, p1, p2, p3, p4, p5, p6, p7, p8, p9, p10, p11, pO⟩)
              | (go_at_call 11; (with_reducible show Calls _ _ #[Value.agg #[Value.int IntKind.i64 b.k, Value.string b.x, Value.string b.g, Value.string b.y]] _ _); refine (HRb.out _ pO).mono ?_; rintro e wq ⟨rfl, q0, q1, q2, q3, q4, q5, q6, q7, q8, q9, q10, q11, qO⟩)
              | (go_at_call 11; (with_reducible show Calls _ _ #[Value.agg #[Value.int IntKind.i64 c.k, Value.string c.x, Value.string c.g, Value.string c.y]] _ _); refine (HRc.out _ qO).mono ?_; rintro e wr ⟨rfl, r0, r1, r2, r3, r4, r5, r6, r7, r8, r9, r10, r11, rO⟩))
            go_ret
            exact ⟨by rw [HF.out]; rfl, hid (HO0.out.trans rO.out)⟩
          | false =>
            unfold trV
            go_enter Tryd.func22, Tryd.ntmps22
            go_upto_region 1 with fail
            rw [← hw1]
            clear hw1
            go_wp2_with (first
              | (go_at_call 11; (with_reducible show Calls _ _ #[Value.agg #[Value.int IntKind.i64 a.k, Value.string a.x, Value.string a.g, Value.string a.y]] _ _); refine (HRa.out _ HB0).mono ?_; rintro e wp ⟨rfl, p0, p1, p2, p3, p4, p5, p6, p7, p8, p9, p10, p11, pO⟩)
              | (go_at_call 11; (with_reducible show Calls _ _ #[Value.agg #[Value.int IntKind.i64 b.k, Value.string b.x, Value.string b.g, Value.string b.y]] _ _); refine (HRb.out _ pO).mono ?_; rintro e wq ⟨rfl, q0, q1, q2, q3, q4, q5, q6, q7, q8, q9, q10, q11, qO⟩)
              | (go_at_call 11; (with_reducible show Calls _ _ #[Value.agg #[Value.int IntKind.i64 c.k, Value.string c.x, Value.string c.g, Value.string c.y]] _ _); refine (HRc.out _ qO).mono ?_; rintro e wr ⟨rfl, r0, r1, r2, r3, r4, r5, r6, r7, r8, r9, r10, r11, rO⟩))
            go_ret
            exact ⟨by rw [HF.out]; rfl, hid (HO0.out.trans rO.out)⟩
end Go.Proofs.YtefcnaccemefnaaDoor
