/- What every row of a great seat's laws wants: the library's tables and its errors, laid. -/
import Derived.Test.YtefcnaccemefnaaGreatDoorTeJ
import Derived.Test.YtefcnaccemefnaaGreatDoorQX
import Derived.Test.YtefcnaccemefnaaGreatDoorRowU
import Derived.Test.YtefcnaccemefnaaGreatDoorQR
import Derived.LaidLaws
namespace Go.Proofs.YtefcnaccemefnaaGreatDoor
open Go.RowKit U G

def trV (a b c : Tm) : Value := .agg #[.int .i64 a.k, .string a.x, .string a.g, .string a.y, .int .i64 b.k, .string b.x, .string b.g, .string b.y, .int .i64 c.k, .string c.x, .string c.g, .string c.y]
def trF (a b c : Tm) (i : Nat) : Value := if i < 4 then tmF a i else if i < 8 then tmF b (i - 4) else tmF c (i - 8)
abbrev TrAt (w : World) (g : Nat) (a b c : Tm) : Prop := w.rowIs g 34 12 (trF a b c)
abbrev trObj (a b c : Tm) : Obj := .cells #[.int .i64 a.k, .string a.x, .string a.g, .string a.y, .int .i64 b.k, .string b.x, .string b.g, .string b.y, .int .i64 c.k, .string c.x, .string c.g, .string c.y] 34
theorem tr_new (w : World) (a b c : Tm) : TrAt (w.alloc (trObj a b c)) w.heap.size a b c :=
  World.rowIs_alloc w #[.int .i64 a.k, .string a.x, .string a.g, .string a.y, .int .i64 b.k, .string b.x, .string b.g, .string b.y, .int .i64 c.k, .string c.x, .string c.g, .string c.y] 34 (trF a b c) (fun i hi => by
    match i, hi with
    | 0, _ => rfl
    | 1, _ => rfl
    | 2, _ => rfl
    | 3, _ => rfl
    | 4, _ => rfl
    | 5, _ => rfl
    | 6, _ => rfl
    | 7, _ => rfl
    | 8, _ => rfl
    | 9, _ => rfl
    | 10, _ => rfl
    | 11, _ => rfl
    | i + 12, hi => exact absurd (show i + 12 < 12 from hi) (by omega))
theorem TrAt.cells {w : World} {g : Nat} {a b c : Tm} (h : TrAt w g a b c) : w.cell? ⟨g, 0, none⟩ = some (.int .i64 a.k) ∧ w.cell? ⟨g, 1, none⟩ = some (.string a.x) ∧ w.cell? ⟨g, 2, none⟩ = some (.string a.g) ∧ w.cell? ⟨g, 3, none⟩ = some (.string a.y) ∧ w.cell? ⟨g, 4, none⟩ = some (.int .i64 b.k) ∧ w.cell? ⟨g, 5, none⟩ = some (.string b.x) ∧ w.cell? ⟨g, 6, none⟩ = some (.string b.g) ∧ w.cell? ⟨g, 7, none⟩ = some (.string b.y) ∧ w.cell? ⟨g, 8, none⟩ = some (.int .i64 c.k) ∧ w.cell? ⟨g, 9, none⟩ = some (.string c.x) ∧ w.cell? ⟨g, 10, none⟩ = some (.string c.g) ∧ w.cell? ⟨g, 11, none⟩ = some (.string c.y) :=
  ⟨h.cell (by omega), h.cell (by omega), h.cell (by omega), h.cell (by omega), h.cell (by omega), h.cell (by omega), h.cell (by omega), h.cell (by omega), h.cell (by omega), h.cell (by omega), h.cell (by omega), h.cell (by omega)⟩
/-- The worlds in which such a row stands as it stood. -/
def TrS (w1 : World) (g : Nat) (a b c : Tm) (u : World) : Prop := u.cell? ⟨g, 0, none⟩ = some (.int .i64 a.k) ∧ u.cell? ⟨g, 1, none⟩ = some (.string a.x) ∧ u.cell? ⟨g, 2, none⟩ = some (.string a.g) ∧ u.cell? ⟨g, 3, none⟩ = some (.string a.y) ∧ u.cell? ⟨g, 4, none⟩ = some (.int .i64 b.k) ∧ u.cell? ⟨g, 5, none⟩ = some (.string b.x) ∧ u.cell? ⟨g, 6, none⟩ = some (.string b.g) ∧ u.cell? ⟨g, 7, none⟩ = some (.string b.y) ∧ u.cell? ⟨g, 8, none⟩ = some (.int .i64 c.k) ∧ u.cell? ⟨g, 9, none⟩ = some (.string c.x) ∧ u.cell? ⟨g, 10, none⟩ = some (.string c.g) ∧ u.cell? ⟨g, 11, none⟩ = some (.string c.y) ∧ StU w1 u
theorem trS_of {w1 u : World} {g : Nat} {a b c : Tm} (h : TrAt w1 g a b c) (o : StU w1 u) : TrS w1 g a b c u := by
  obtain ⟨h0, h1, h2, h3, h4, h5, h6, h7, h8, h9, h10, h11⟩ := TrAt.cells (o.out.row h no_)
  exact ⟨h0, h1, h2, h3, h4, h5, h6, h7, h8, h9, h10, h11, o⟩
def tripleB (a b c : Tm) : Bool := ((decide (a.k = 1) || decide (a.k = 2)) && decide (b.k = 1)) && (rightT a && (rightT b && rightT c))
set_option maxHeartbeats 4000000 in
theorem triple_any {a b c : Tm} {w : World} (hT : Tb w) (hsa : sizeT a ≤ 1099511627776) (hsb : sizeT b ≤ 1099511627776) (hsc : sizeT c ≤ 1099511627776) :
    Calls Tryz.prog 27 #[trV a b c] w fun e w' => e = .returned (.bool (tripleB a b c)) ∧ StU w w' := by
  obtain ⟨w1, hw1⟩ : ∃ w1, w1 = w.alloc (trObj a b c) := ⟨_, rfl⟩
  have HO0 : StU w w1 := hid (by rw [hw1]; exact (Only.refl _ w).alloc _)
  have HA0 : Hid (TrAt w1 w.heap.size a b c) := hid (by rw [hw1]; exact tr_new w a b c)
  obtain ⟨d0, d1, d2, d3, d4, d5, d6, d7, d8, d9, d10, d11⟩ := HA0.out.cells
  have HB0 : StU w1 w1 := hid (Only.refl _ w1)
  have HRa : Hid (∀ W, StU w1 W → Calls Tryz.prog 18 #[.agg #[.int .i64 a.k, .string a.x, .string a.g, .string a.y]] W fun e w' => e = .returned (.bool (rightT a)) ∧ TrS w1 w.heap.size a b c w') := hid fun W hW => (right_any ((hT.stu HO0).stu hW) (by omega)).mono fun e w' h => ⟨h.1, trS_of HA0.out (hid (hW.out.trans h.2.out))⟩
  have HRb : Hid (∀ W, StU w1 W → Calls Tryz.prog 18 #[.agg #[.int .i64 b.k, .string b.x, .string b.g, .string b.y]] W fun e w' => e = .returned (.bool (rightT b)) ∧ TrS w1 w.heap.size a b c w') := hid fun W hW => (right_any ((hT.stu HO0).stu hW) (by omega)).mono fun e w' h => ⟨h.1, trS_of HA0.out (hid (hW.out.trans h.2.out))⟩
  have HRc : Hid (∀ W, StU w1 W → Calls Tryz.prog 18 #[.agg #[.int .i64 c.k, .string c.x, .string c.g, .string c.y]] W fun e w' => e = .returned (.bool (rightT c)) ∧ TrS w1 w.heap.size a b c w') := hid fun W hW => (right_any ((hT.stu HO0).stu hW) (by omega)).mono fun e w' h => ⟨h.1, trS_of HA0.out (hid (hW.out.trans h.2.out))⟩
  have Hr : Hid (tripleB a b c = (((decide (a.k = 1) || decide (a.k = 2)) && decide (b.k = 1)) && (rightT a && (rightT b && rightT c)))) := hid rfl
  generalize tripleB a b c = R at *
  generalize rightT a = ra at *
  generalize rightT b = rb at *
  generalize rightT c = rc at *
  clear hT hsa hsb hsc
  by_cases hk : (a.k = 1 ∨ a.k = 2) ∧ b.k = 1
  · have HF : Hid (R = (ra && (rb && rc))) := hid (by rw [Hr.out, decide_eq_true hk.2]; rcases hk.1 with h | h <;> simp [h])
    have nb : (b.k != 1) = false := by simp [hk.2]
    have na : (a.k != 1) = false ∨ ((a.k != 1) = true ∧ (a.k != 2) = false) := by
      rcases hk.1 with h | h
      · exact .inl (by simp [h])
      · exact .inr ⟨by simp [h], by simp [h]⟩
    clear Hr hk
    rcases na with na | ⟨na, na2⟩
    · skip
      cases ra with
      | false =>
        unfold trV
        go_enter Tryz.func27, Tryz.ntmps27
        go_upto_region 1 with fail
        rw [← hw1]
        clear hw1
        go_wp2_with (first
          | (go_at_call 18; (with_reducible show Calls _ _ #[Value.agg #[Value.int IntKind.i64 a.k, Value.string a.x, Value.string a.g, Value.string a.y]] _ _); refine (HRa.out _ HB0).mono ?_; rintro e wp ⟨rfl, p0, p1, p2, p3, p4, p5, p6, p7, p8, p9, p10, p11, pO⟩)
          | (go_at_call 18; (with_reducible show Calls _ _ #[Value.agg #[Value.int IntKind.i64 b.k, Value.string b.x, Value.string b.g, Value.string b.y]] _ _); refine (HRb.out _ pO).mono ?_; rintro e wq ⟨rfl, q0, q1, q2, q3, q4, q5, q6, q7, q8, q9, q10, q11, qO⟩)
          | (go_at_call 18; (with_reducible show Calls _ _ #[Value.agg #[Value.int IntKind.i64 c.k, Value.string c.x, Value.string c.g, Value.string c.y]] _ _); refine (HRc.out _ qO).mono ?_; rintro e wr ⟨rfl, r0, r1, r2, r3, r4, r5, r6, r7, r8, r9, r10, r11, rO⟩))
        go_ret
        exact ⟨by rw [HF.out]; rfl, hid (HO0.out.trans pO.out)⟩
      | true =>
        cases rb with
        | false =>
          unfold trV
          go_enter Tryz.func27, Tryz.ntmps27
          go_upto_region 1 with fail
          rw [← hw1]
          clear hw1
          go_wp2_with (first
            | (go_at_call 18; (with_reducible show Calls _ _ #[Value.agg #[Value.int IntKind.i64 a.k, Value.string a.x, Value.string a.g, Value.string a.y]] _ _); refine (HRa.out _ HB0).mono ?_; rintro e wp ⟨rfl, p0, p1, p2, p3, p4, p5, p6, p7, p8, p9, p10, p11, pO⟩)
            | (go_at_call 18; (with_reducible show Calls _ _ #[Value.agg #[Value.int IntKind.i64 b.k, Value.string b.x, Value.string b.g, Value.string b.y]] _ _); refine (HRb.out _ pO).mono ?_; rintro e wq ⟨rfl, q0, q1, q2, q3, q4, q5, q6, q7, q8, q9, q10, q11, qO⟩)
            | (go_at_call 18; (with_reducible show Calls _ _ #[Value.agg #[Value.int IntKind.i64 c.k, Value.string c.x, Value.string c.g, Value.string c.y]] _ _); refine (HRc.out _ qO).mono ?_; rintro e wr ⟨rfl, r0, r1, r2, r3, r4, r5, r6, r7, r8, r9, r10, r11, rO⟩))
          go_ret
          exact ⟨by rw [HF.out]; rfl, hid (HO0.out.trans qO.out)⟩
        | true =>
          unfold trV
          go_enter Tryz.func27, Tryz.ntmps27
          go_upto_region 1 with fail
          rw [← hw1]
          clear hw1
          go_wp2_with (first
            | (go_at_call 18; (with_reducible show Calls _ _ #[Value.agg #[Value.int IntKind.i64 a.k, Value.string a.x, Value.string a.g, Value.string a.y]] _ _); refine (HRa.out _ HB0).mono ?_; rintro e wp ⟨rfl, p0, p1, p2, p3, p4, p5, p6, p7, p8, p9, p10, p11, pO⟩)
            | (go_at_call 18; (with_reducible show Calls _ _ #[Value.agg #[Value.int IntKind.i64 b.k, Value.string b.x, Value.string b.g, Value.string b.y]] _ _); refine (HRb.out _ pO).mono ?_; rintro e wq ⟨rfl, q0, q1, q2, q3, q4, q5, q6, q7, q8, q9, q10, q11, qO⟩)
            | (go_at_call 18; (with_reducible show Calls _ _ #[Value.agg #[Value.int IntKind.i64 c.k, Value.string c.x, Value.string c.g, Value.string c.y]] _ _); refine (HRc.out _ qO).mono ?_; rintro e wr ⟨rfl, r0, r1, r2, r3, r4, r5, r6, r7, r8, r9, r10, r11, rO⟩))
          go_ret
          exact ⟨by rw [HF.out]; rfl, hid (HO0.out.trans rO.out)⟩
    · skip
      cases ra with
      | false =>
        unfold trV
        go_enter Tryz.func27, Tryz.ntmps27
        go_upto_region 1 with fail
        rw [← hw1]
        clear hw1
        go_wp2_with (first
          | (go_at_call 18; (with_reducible show Calls _ _ #[Value.agg #[Value.int IntKind.i64 a.k, Value.string a.x, Value.string a.g, Value.string a.y]] _ _); refine (HRa.out _ HB0).mono ?_; rintro e wp ⟨rfl, p0, p1, p2, p3, p4, p5, p6, p7, p8, p9, p10, p11, pO⟩)
          | (go_at_call 18; (with_reducible show Calls _ _ #[Value.agg #[Value.int IntKind.i64 b.k, Value.string b.x, Value.string b.g, Value.string b.y]] _ _); refine (HRb.out _ pO).mono ?_; rintro e wq ⟨rfl, q0, q1, q2, q3, q4, q5, q6, q7, q8, q9, q10, q11, qO⟩)
          | (go_at_call 18; (with_reducible show Calls _ _ #[Value.agg #[Value.int IntKind.i64 c.k, Value.string c.x, Value.string c.g, Value.string c.y]] _ _); refine (HRc.out _ qO).mono ?_; rintro e wr ⟨rfl, r0, r1, r2, r3, r4, r5, r6, r7, r8, r9, r10, r11, rO⟩))
        go_ret
        exact ⟨by rw [HF.out]; rfl, hid (HO0.out.trans pO.out)⟩
      | true =>
        cases rb with
        | false =>
          unfold trV
          go_enter Tryz.func27, Tryz.ntmps27
          go_upto_region 1 with fail
          rw [← hw1]
          clear hw1
          go_wp2_with (first
            | (go_at_call 18; (with_reducible show Calls _ _ #[Value.agg #[Value.int IntKind.i64 a.k, Value.string a.x, Value.string a.g, Value.string a.y]] _ _); refine (HRa.out _ HB0).mono ?_; rintro e wp ⟨rfl, p0, p1, p2, p3, p4, p5, p6, p7, p8, p9, p10, p11, pO⟩)
            | (go_at_call 18; (with_reducible show Calls _ _ #[Value.agg #[Value.int IntKind.i64 b.k, Value.string b.x, Value.string b.g, Value.string b.y]] _ _); refine (HRb.out _ pO).mono ?_; rintro e wq ⟨rfl, q0, q1, q2, q3, q4, q5, q6, q7, q8, q9, q10, q11, qO⟩)
            | (go_at_call 18; (with_reducible show Calls _ _ #[Value.agg #[Value.int IntKind.i64 c.k, Value.string c.x, Value.string c.g, Value.string c.y]] _ _); refine (HRc.out _ qO).mono ?_; rintro e wr ⟨rfl, r0, r1, r2, r3, r4, r5, r6, r7, r8, r9, r10, r11, rO⟩))
          go_ret
          exact ⟨by rw [HF.out]; rfl, hid (HO0.out.trans qO.out)⟩
        | true =>
          unfold trV
          go_enter Tryz.func27, Tryz.ntmps27
          go_upto_region 1 with fail
          rw [← hw1]
          clear hw1
          go_wp2_with (first
            | (go_at_call 18; (with_reducible show Calls _ _ #[Value.agg #[Value.int IntKind.i64 a.k, Value.string a.x, Value.string a.g, Value.string a.y]] _ _); refine (HRa.out _ HB0).mono ?_; rintro e wp ⟨rfl, p0, p1, p2, p3, p4, p5, p6, p7, p8, p9, p10, p11, pO⟩)
            | (go_at_call 18; (with_reducible show Calls _ _ #[Value.agg #[Value.int IntKind.i64 b.k, Value.string b.x, Value.string b.g, Value.string b.y]] _ _); refine (HRb.out _ pO).mono ?_; rintro e wq ⟨rfl, q0, q1, q2, q3, q4, q5, q6, q7, q8, q9, q10, q11, qO⟩)
            | (go_at_call 18; (with_reducible show Calls _ _ #[Value.agg #[Value.int IntKind.i64 c.k, Value.string c.x, Value.string c.g, Value.string c.y]] _ _); refine (HRc.out _ qO).mono ?_; rintro e wr ⟨rfl, r0, r1, r2, r3, r4, r5, r6, r7, r8, r9, r10, r11, rO⟩))
          go_ret
          exact ⟨by rw [HF.out]; rfl, hid (HO0.out.trans rO.out)⟩
  · have HF : Hid (R = false) := hid (by
      rw [Hr.out]
      by_cases h1 : a.k = 1
      · have : b.k ≠ 1 := fun h => hk ⟨.inl h1, h⟩
        simp [this]
      · by_cases h2 : a.k = 2
        · have : b.k ≠ 1 := fun h => hk ⟨.inr h2, h⟩
          simp [this]
        · simp [h1, h2])
    have na : ((a.k != 1) = true ∧ (a.k != 2) = true) ∨ ((a.k != 1) = false ∧ (b.k != 1) = true) ∨ ((a.k != 1) = true ∧ (a.k != 2) = false ∧ (b.k != 1) = true) := by
      by_cases h1 : a.k = 1
      · have : b.k ≠ 1 := fun h => hk ⟨.inl h1, h⟩
        exact .inr (.inl ⟨by simp [h1], by simpa using this⟩)
      · by_cases h2 : a.k = 2
        · have : b.k ≠ 1 := fun h => hk ⟨.inr h2, h⟩
          exact .inr (.inr ⟨by simp [h1], by simp [h2], by simpa using this⟩)
        · exact .inl ⟨by simpa using h1, by simpa using h2⟩
    clear Hr hk HRa HRb HRc
    rcases na with ⟨na, na2⟩ | ⟨na, nb⟩ | ⟨na, na2, nb⟩
    · skip
      unfold trV
      go_enter Tryz.func27, Tryz.ntmps27
      go_upto_region 1 with fail
      rw [← hw1]
      clear hw1
      go_wp2_with fail
      go_ret
      exact ⟨by rw [HF.out]; rfl, HO0⟩
    · skip
      unfold trV
      go_enter Tryz.func27, Tryz.ntmps27
      go_upto_region 1 with fail
      rw [← hw1]
      clear hw1
      go_wp2_with fail
      go_ret
      exact ⟨by rw [HF.out]; rfl, HO0⟩
    · skip
      unfold trV
      go_enter Tryz.func27, Tryz.ntmps27
      go_upto_region 1 with fail
      rw [← hw1]
      clear hw1
      go_wp2_with fail
      go_ret
      exact ⟨by rw [HF.out]; rfl, HO0⟩
set_option maxHeartbeats 4000000 in
theorem refTriple_any {a b c : Tm} {w : World} (hsa : sizeT a ≤ 900000) (hsb : sizeT b ≤ 900000) (hsc : sizeT c ≤ 900000) :
    Calls Tryz.prog 28 #[trV a b c] w fun e w' => e = .returned (.bool (tripleB a b c)) ∧ StU w w' := by
  obtain ⟨w1, hw1⟩ : ∃ w1, w1 = w.alloc (trObj a b c) := ⟨_, rfl⟩
  have HO0 : StU w w1 := hid (by rw [hw1]; exact (Only.refl _ w).alloc _)
  have HA0 : Hid (TrAt w1 w.heap.size a b c) := hid (by rw [hw1]; exact tr_new w a b c)
  obtain ⟨d0, d1, d2, d3, d4, d5, d6, d7, d8, d9, d10, d11⟩ := HA0.out.cells
  have HB0 : StU w1 w1 := hid (Only.refl _ w1)
  have HRa : Hid (∀ W, StU w1 W → Calls Tryz.prog 23 #[.agg #[.int .i64 a.k, .string a.x, .string a.g, .string a.y]] W fun e w' => e = .returned (.bool (rightT a)) ∧ TrS w1 w.heap.size a b c w') := hid fun W hW => (refRight_any hsa).mono fun e w' h => ⟨h.1, trS_of HA0.out (hid (hW.out.trans h.2.out))⟩
  have HRb : Hid (∀ W, StU w1 W → Calls Tryz.prog 23 #[.agg #[.int .i64 b.k, .string b.x, .string b.g, .string b.y]] W fun e w' => e = .returned (.bool (rightT b)) ∧ TrS w1 w.heap.size a b c w') := hid fun W hW => (refRight_any hsb).mono fun e w' h => ⟨h.1, trS_of HA0.out (hid (hW.out.trans h.2.out))⟩
  have HRc : Hid (∀ W, StU w1 W → Calls Tryz.prog 23 #[.agg #[.int .i64 c.k, .string c.x, .string c.g, .string c.y]] W fun e w' => e = .returned (.bool (rightT c)) ∧ TrS w1 w.heap.size a b c w') := hid fun W hW => (refRight_any hsc).mono fun e w' h => ⟨h.1, trS_of HA0.out (hid (hW.out.trans h.2.out))⟩
  have Hr : Hid (tripleB a b c = (((decide (a.k = 1) || decide (a.k = 2)) && decide (b.k = 1)) && (rightT a && (rightT b && rightT c)))) := hid rfl
  generalize tripleB a b c = R at *
  generalize rightT a = ra at *
  generalize rightT b = rb at *
  generalize rightT c = rc at *
  clear hsa hsb hsc
  cases ra with
  | false =>
    have HF : Hid (R = false) := hid (by rw [Hr.out]; simp)
    clear Hr
    unfold trV
    go_enter Tryz.func28, Tryz.ntmps28
    go_upto_region 1 with fail
    rw [← hw1]
    clear hw1
    go_wp2_with (first
      | (go_at_call 23; (with_reducible show Calls _ _ #[Value.agg #[Value.int IntKind.i64 a.k, Value.string a.x, Value.string a.g, Value.string a.y]] _ _); refine (HRa.out _ HB0).mono ?_; rintro e wp ⟨rfl, p0, p1, p2, p3, p4, p5, p6, p7, p8, p9, p10, p11, pO⟩)
      | (go_at_call 23; (with_reducible show Calls _ _ #[Value.agg #[Value.int IntKind.i64 b.k, Value.string b.x, Value.string b.g, Value.string b.y]] _ _); refine (HRb.out _ pO).mono ?_; rintro e wq ⟨rfl, q0, q1, q2, q3, q4, q5, q6, q7, q8, q9, q10, q11, qO⟩)
      | (go_at_call 23; (with_reducible show Calls _ _ #[Value.agg #[Value.int IntKind.i64 c.k, Value.string c.x, Value.string c.g, Value.string c.y]] _ _); refine (HRc.out _ qO).mono ?_; rintro e wr ⟨rfl, r0, r1, r2, r3, r4, r5, r6, r7, r8, r9, r10, r11, rO⟩))
    go_ret
    exact ⟨by rw [HF.out]; rfl, hid (HO0.out.trans pO.out)⟩
  | true =>
    cases rb with
    | false =>
      have HF : Hid (R = false) := hid (by rw [Hr.out]; simp)
      clear Hr
      unfold trV
      go_enter Tryz.func28, Tryz.ntmps28
      go_upto_region 1 with fail
      rw [← hw1]
      clear hw1
      go_wp2_with (first
        | (go_at_call 23; (with_reducible show Calls _ _ #[Value.agg #[Value.int IntKind.i64 a.k, Value.string a.x, Value.string a.g, Value.string a.y]] _ _); refine (HRa.out _ HB0).mono ?_; rintro e wp ⟨rfl, p0, p1, p2, p3, p4, p5, p6, p7, p8, p9, p10, p11, pO⟩)
        | (go_at_call 23; (with_reducible show Calls _ _ #[Value.agg #[Value.int IntKind.i64 b.k, Value.string b.x, Value.string b.g, Value.string b.y]] _ _); refine (HRb.out _ pO).mono ?_; rintro e wq ⟨rfl, q0, q1, q2, q3, q4, q5, q6, q7, q8, q9, q10, q11, qO⟩)
        | (go_at_call 23; (with_reducible show Calls _ _ #[Value.agg #[Value.int IntKind.i64 c.k, Value.string c.x, Value.string c.g, Value.string c.y]] _ _); refine (HRc.out _ qO).mono ?_; rintro e wr ⟨rfl, r0, r1, r2, r3, r4, r5, r6, r7, r8, r9, r10, r11, rO⟩))
      go_ret
      exact ⟨by rw [HF.out]; rfl, hid (HO0.out.trans qO.out)⟩
    | true =>
      cases rc with
      | false =>
        have HF : Hid (R = false) := hid (by rw [Hr.out]; simp)
        clear Hr
        unfold trV
        go_enter Tryz.func28, Tryz.ntmps28
        go_upto_region 1 with fail
        rw [← hw1]
        clear hw1
        go_wp2_with (first
          | (go_at_call 23; (with_reducible show Calls _ _ #[Value.agg #[Value.int IntKind.i64 a.k, Value.string a.x, Value.string a.g, Value.string a.y]] _ _); refine (HRa.out _ HB0).mono ?_; rintro e wp ⟨rfl, p0, p1, p2, p3, p4, p5, p6, p7, p8, p9, p10, p11, pO⟩)
          | (go_at_call 23; (with_reducible show Calls _ _ #[Value.agg #[Value.int IntKind.i64 b.k, Value.string b.x, Value.string b.g, Value.string b.y]] _ _); refine (HRb.out _ pO).mono ?_; rintro e wq ⟨rfl, q0, q1, q2, q3, q4, q5, q6, q7, q8, q9, q10, q11, qO⟩)
          | (go_at_call 23; (with_reducible show Calls _ _ #[Value.agg #[Value.int IntKind.i64 c.k, Value.string c.x, Value.string c.g, Value.string c.y]] _ _); refine (HRc.out _ qO).mono ?_; rintro e wr ⟨rfl, r0, r1, r2, r3, r4, r5, r6, r7, r8, r9, r10, r11, rO⟩))
        go_ret
        exact ⟨by rw [HF.out]; rfl, hid (HO0.out.trans rO.out)⟩
      | true =>
        have HF : Hid (R = ((decide (a.k = 1) || decide (a.k = 2)) && decide (b.k = 1))) := hid (by rw [Hr.out]; simp)
        have nb : (b.k == 1) = decide (b.k = 1) := by rw [Bool.eq_iff_iff, beq_iff_eq, decide_eq_true_iff]
        have na1 : (a.k == 1) = decide (a.k = 1) := by rw [Bool.eq_iff_iff, beq_iff_eq, decide_eq_true_iff]
        have na2 : (a.k == 2) = decide (a.k = 2) := by rw [Bool.eq_iff_iff, beq_iff_eq, decide_eq_true_iff]
        clear Hr
        generalize decide (a.k = 1) = k1 at *
        generalize decide (a.k = 2) = k2 at *
        generalize decide (b.k = 1) = k3 at *
        cases k1 with
        | true =>
          unfold trV
          go_enter Tryz.func28, Tryz.ntmps28
          go_upto_region 1 with fail
          rw [← hw1]
          clear hw1
          go_wp2_with (first
            | (go_at_call 23; (with_reducible show Calls _ _ #[Value.agg #[Value.int IntKind.i64 a.k, Value.string a.x, Value.string a.g, Value.string a.y]] _ _); refine (HRa.out _ HB0).mono ?_; rintro e wp ⟨rfl, p0, p1, p2, p3, p4, p5, p6, p7, p8, p9, p10, p11, pO⟩)
            | (go_at_call 23; (with_reducible show Calls _ _ #[Value.agg #[Value.int IntKind.i64 b.k, Value.string b.x, Value.string b.g, Value.string b.y]] _ _); refine (HRb.out _ pO).mono ?_; rintro e wq ⟨rfl, q0, q1, q2, q3, q4, q5, q6, q7, q8, q9, q10, q11, qO⟩)
            | (go_at_call 23; (with_reducible show Calls _ _ #[Value.agg #[Value.int IntKind.i64 c.k, Value.string c.x, Value.string c.g, Value.string c.y]] _ _); refine (HRc.out _ qO).mono ?_; rintro e wr ⟨rfl, r0, r1, r2, r3, r4, r5, r6, r7, r8, r9, r10, r11, rO⟩))
          go_ret
          exact ⟨by rw [HF.out]; rfl, hid (HO0.out.trans rO.out)⟩
        | false =>
          cases k2 with
          | true =>
            unfold trV
            go_enter Tryz.func28, Tryz.ntmps28
            go_upto_region 1 with fail
            rw [← hw1]
            clear hw1
            go_wp2_with (first
              | (go_at_call 23; (with_reducible show Calls _ _ #[Value.agg #[Value.int IntKind.i64 a.k, Value.string a.x, Value.string a.g, Value.string a.y]] _ _); refine (HRa.out _ HB0).mono ?_; rintro e wp ⟨rfl, p0, p1, p2, p3, p4, p5, p6, p7, p8, p9, p10, p11, pO⟩)
              | (go_at_call 23; (with_reducible show Calls _ _ #[Value.agg #[Value.int IntKind.i64 b.k, Value.string b.x, Value.string b.g, Value.string b.y]] _ _); refine (HRb.out _ pO).mono ?_; rintro e wq ⟨rfl, q0, q1, q2, q3, q4, q5, q6, q7, q8, q9, q10, q11, qO⟩)
              | (go_at_call 23; (with_reducible show Calls _ _ #[Value.agg #[Value.int IntKind.i64 c.k, Value.string c.x, Value.string c.g, Value.string c.y]] _ _); refine (HRc.out _ qO).mono ?_; rintro e wr ⟨rfl, r0, r1, r2, r3, r4, r5, r6, r7, r8, r9, r10, r11, rO⟩))
            go_ret
            exact ⟨by rw [HF.out]; rfl, hid (HO0.out.trans rO.out)⟩
          | false =>
            unfold trV
            go_enter Tryz.func28, Tryz.ntmps28
            go_upto_region 1 with fail
            rw [← hw1]
            clear hw1
            go_wp2_with (first
              | (go_at_call 23; (with_reducible show Calls _ _ #[Value.agg #[Value.int IntKind.i64 a.k, Value.string a.x, Value.string a.g, Value.string a.y]] _ _); refine (HRa.out _ HB0).mono ?_; rintro e wp ⟨rfl, p0, p1, p2, p3, p4, p5, p6, p7, p8, p9, p10, p11, pO⟩)
              | (go_at_call 23; (with_reducible show Calls _ _ #[Value.agg #[Value.int IntKind.i64 b.k, Value.string b.x, Value.string b.g, Value.string b.y]] _ _); refine (HRb.out _ pO).mono ?_; rintro e wq ⟨rfl, q0, q1, q2, q3, q4, q5, q6, q7, q8, q9, q10, q11, qO⟩)
              | (go_at_call 23; (with_reducible show Calls _ _ #[Value.agg #[Value.int IntKind.i64 c.k, Value.string c.x, Value.string c.g, Value.string c.y]] _ _); refine (HRc.out _ qO).mono ?_; rintro e wr ⟨rfl, r0, r1, r2, r3, r4, r5, r6, r7, r8, r9, r10, r11, rO⟩))
            go_ret
            exact ⟨by rw [HF.out]; rfl, hid (HO0.out.trans rO.out)⟩
end Go.Proofs.YtefcnaccemefnaaGreatDoor

namespace Go.Proofs.YtefcnaccemefnaaGreatDoor
open Go.RowKit U G

def triT (a b c d e f : Tm) : Int := if cmpT a d = 0 then (if cmpT b e = 0 then cmpT c f else cmpT b e) else cmpT a d
def Tr2 (w1 : World) (g1 g2 : Nat) (a b c d e f : Tm) (u : World) : Prop := u.cell? ⟨g1, 0, none⟩ = some (.int .i64 a.k) ∧ u.cell? ⟨g1, 1, none⟩ = some (.string a.x) ∧ u.cell? ⟨g1, 2, none⟩ = some (.string a.g) ∧ u.cell? ⟨g1, 3, none⟩ = some (.string a.y) ∧ u.cell? ⟨g1, 4, none⟩ = some (.int .i64 b.k) ∧ u.cell? ⟨g1, 5, none⟩ = some (.string b.x) ∧ u.cell? ⟨g1, 6, none⟩ = some (.string b.g) ∧ u.cell? ⟨g1, 7, none⟩ = some (.string b.y) ∧ u.cell? ⟨g1, 8, none⟩ = some (.int .i64 c.k) ∧ u.cell? ⟨g1, 9, none⟩ = some (.string c.x) ∧ u.cell? ⟨g1, 10, none⟩ = some (.string c.g) ∧ u.cell? ⟨g1, 11, none⟩ = some (.string c.y) ∧ u.cell? ⟨g2, 0, none⟩ = some (.int .i64 d.k) ∧ u.cell? ⟨g2, 1, none⟩ = some (.string d.x) ∧ u.cell? ⟨g2, 2, none⟩ = some (.string d.g) ∧ u.cell? ⟨g2, 3, none⟩ = some (.string d.y) ∧ u.cell? ⟨g2, 4, none⟩ = some (.int .i64 e.k) ∧ u.cell? ⟨g2, 5, none⟩ = some (.string e.x) ∧ u.cell? ⟨g2, 6, none⟩ = some (.string e.g) ∧ u.cell? ⟨g2, 7, none⟩ = some (.string e.y) ∧ u.cell? ⟨g2, 8, none⟩ = some (.int .i64 f.k) ∧ u.cell? ⟨g2, 9, none⟩ = some (.string f.x) ∧ u.cell? ⟨g2, 10, none⟩ = some (.string f.g) ∧ u.cell? ⟨g2, 11, none⟩ = some (.string f.y) ∧ StU w1 u
theorem tr2_of {w1 u : World} {g1 g2 : Nat} {a b c d e f : Tm} (hA : TrAt w1 g1 a b c) (hB : TrAt w1 g2 d e f) (o : StU w1 u) : Tr2 w1 g1 g2 a b c d e f u := by
  obtain ⟨h0, h1, h2, h3, h4, h5, h6, h7, h8, h9, h10, h11⟩ := TrAt.cells (o.out.row hA no_)
  obtain ⟨k0, k1, k2, k3, k4, k5, k6, k7, k8, k9, k10, k11⟩ := TrAt.cells (o.out.row hB no_)
  exact ⟨h0, h1, h2, h3, h4, h5, h6, h7, h8, h9, h10, h11, k0, k1, k2, k3, k4, k5, k6, k7, k8, k9, k10, k11, o⟩
theorem tr2_start (a b c d e f : Tm) (w : World) : ∃ w1, w1 = (w.alloc (trObj a b c)).alloc (trObj d e f) ∧ Hid (TrAt w1 w.heap.size a b c) ∧ Hid (TrAt w1 (w.heap.size + 1) d e f) ∧ StU w w1 := by
  refine ⟨_, rfl, hid ?_, hid ?_, hid (((Only.refl _ w).alloc _).alloc _)⟩
  · exact ((Only.refl (fun _ => False) (w.alloc (trObj a b c))).alloc (trObj d e f)).row (tr_new w a b c) no_
  · have := tr_new (w.alloc (trObj a b c)) d e f
    rwa [show (w.alloc (trObj a b c)).heap.size = w.heap.size + 1 by simp] at this
set_option maxHeartbeats 4000000 in
theorem triples_any {a b c d e f : Tm} {w : World} (hT : Tb w) (hsa : sizeT a ≤ 1099511627776) (hsb : sizeT b ≤ 1099511627776) (hsc : sizeT c ≤ 1099511627776) (hsd : sizeT d ≤ 1099511627776) (hse : sizeT e ≤ 1099511627776) (hsf : sizeT f ≤ 1099511627776) :
    Calls Tryz.prog 29 #[trV a b c, trV d e f] w fun e' w' => e' = .returned (.int .i64 (triT a b c d e f)) ∧ StU w w' := by
  obtain ⟨w1, hw1, HA0, HB0, HO0⟩ := tr2_start a b c d e f w
  have HS0 := tr2_of HA0.out HB0.out (hid (Only.refl _ w1))
  obtain ⟨p0, p1, p2, p3, p4, p5, p6, p7, p8, p9, p10, p11, q0, q1, q2, q3, q4, q5, q6, q7, q8, q9, q10, q11, z0⟩ := HS0
  have HC0 : Hid (∀ W, StU w1 W → Calls Tryz.prog 19 #[.agg #[.int .i64 a.k, .string a.x, .string a.g, .string a.y], .agg #[.int .i64 d.k, .string d.x, .string d.g, .string d.y]] W fun e' w' => e' = .returned (.int .i64 (cmpT a d)) ∧ Tr2 w1 w.heap.size (w.heap.size + 1) a b c d e f w') := hid fun W hW => (compare_any ((hT.stu HO0).stu hW) hsa hsd).mono fun e' w' h => ⟨h.1, tr2_of HA0.out HB0.out (hid (hW.out.trans h.2.out))⟩
  have HC1 : Hid (∀ W, StU w1 W → Calls Tryz.prog 19 #[.agg #[.int .i64 b.k, .string b.x, .string b.g, .string b.y], .agg #[.int .i64 e.k, .string e.x, .string e.g, .string e.y]] W fun e' w' => e' = .returned (.int .i64 (cmpT b e)) ∧ Tr2 w1 w.heap.size (w.heap.size + 1) a b c d e f w') := hid fun W hW => (compare_any ((hT.stu HO0).stu hW) hsb hse).mono fun e' w' h => ⟨h.1, tr2_of HA0.out HB0.out (hid (hW.out.trans h.2.out))⟩
  have HC2 : Hid (∀ W, StU w1 W → Calls Tryz.prog 19 #[.agg #[.int .i64 c.k, .string c.x, .string c.g, .string c.y], .agg #[.int .i64 f.k, .string f.x, .string f.g, .string f.y]] W fun e' w' => e' = .returned (.int .i64 (cmpT c f)) ∧ Tr2 w1 w.heap.size (w.heap.size + 1) a b c d e f w') := hid fun W hW => (compare_any ((hT.stu HO0).stu hW) hsc hsf).mono fun e' w' h => ⟨h.1, tr2_of HA0.out HB0.out (hid (hW.out.trans h.2.out))⟩
  have hc : triT a b c d e f = if cmpT a d = 0 then (if cmpT b e = 0 then cmpT c f else cmpT b e) else cmpT a d := rfl
  rw [hc]
  generalize cmpT a d = n1 at *
  generalize cmpT b e = n2 at *
  generalize cmpT c f = n3 at *
  clear hc hT hsa hsb hsc hsd hse hsf
  by_cases hn1 : n1 = 0
  · subst hn1
    rw [if_pos rfl]
    by_cases hn2 : n2 = 0
    · subst hn2
      rw [if_pos rfl]
      unfold trV
      go_enter Tryz.func29, Tryz.ntmps29
      go_upto_region 1 with fail
      rw [← hw1]
      clear hw1
      go_wp2_with (first
        | (go_at_call 19; (with_reducible show Calls _ _ #[Value.agg #[Value.int IntKind.i64 a.k, Value.string a.x, Value.string a.g, Value.string a.y], Value.agg #[Value.int IntKind.i64 d.k, Value.string d.x, Value.string d.g, Value.string d.y]] _ _); refine (HC0.out _ z0).mono ?_; rintro e' w2 ⟨rfl, p0, p1, p2, p3, p4, p5, p6, p7, p8, p9, p10, p11, q0, q1, q2, q3, q4, q5, q6, q7, q8, q9, q10, q11, z1⟩)
        | (go_at_call 19; (with_reducible show Calls _ _ #[Value.agg #[Value.int IntKind.i64 b.k, Value.string b.x, Value.string b.g, Value.string b.y], Value.agg #[Value.int IntKind.i64 e.k, Value.string e.x, Value.string e.g, Value.string e.y]] _ _); refine (HC1.out _ z1).mono ?_; rintro e' w3 ⟨rfl, p0, p1, p2, p3, p4, p5, p6, p7, p8, p9, p10, p11, q0, q1, q2, q3, q4, q5, q6, q7, q8, q9, q10, q11, z2⟩)
        | (go_at_call 19; (with_reducible show Calls _ _ #[Value.agg #[Value.int IntKind.i64 c.k, Value.string c.x, Value.string c.g, Value.string c.y], Value.agg #[Value.int IntKind.i64 f.k, Value.string f.x, Value.string f.g, Value.string f.y]] _ _); refine (HC2.out _ z2).mono ?_; rintro e' w4 ⟨rfl, p0, p1, p2, p3, p4, p5, p6, p7, p8, p9, p10, p11, q0, q1, q2, q3, q4, q5, q6, q7, q8, q9, q10, q11, z3⟩))
      go_ret
      exact ⟨rfl, hid (HO0.out.trans z3.out)⟩
    · rw [if_neg hn2]
      have gn2 : (n2 == 0) = false := by rw [beq_eq_false_iff_ne]; exact hn2
      have gn2' : (n2 != 0) = true := by rw [bne_iff_ne]; exact hn2
      clear hn2
      unfold trV
      go_enter Tryz.func29, Tryz.ntmps29
      go_upto_region 1 with fail
      rw [← hw1]
      clear hw1
      go_wp2_with (first
        | (go_at_call 19; (with_reducible show Calls _ _ #[Value.agg #[Value.int IntKind.i64 a.k, Value.string a.x, Value.string a.g, Value.string a.y], Value.agg #[Value.int IntKind.i64 d.k, Value.string d.x, Value.string d.g, Value.string d.y]] _ _); refine (HC0.out _ z0).mono ?_; rintro e' w2 ⟨rfl, p0, p1, p2, p3, p4, p5, p6, p7, p8, p9, p10, p11, q0, q1, q2, q3, q4, q5, q6, q7, q8, q9, q10, q11, z1⟩)
        | (go_at_call 19; (with_reducible show Calls _ _ #[Value.agg #[Value.int IntKind.i64 b.k, Value.string b.x, Value.string b.g, Value.string b.y], Value.agg #[Value.int IntKind.i64 e.k, Value.string e.x, Value.string e.g, Value.string e.y]] _ _); refine (HC1.out _ z1).mono ?_; rintro e' w3 ⟨rfl, p0, p1, p2, p3, p4, p5, p6, p7, p8, p9, p10, p11, q0, q1, q2, q3, q4, q5, q6, q7, q8, q9, q10, q11, z2⟩)
        | (go_at_call 19; (with_reducible show Calls _ _ #[Value.agg #[Value.int IntKind.i64 c.k, Value.string c.x, Value.string c.g, Value.string c.y], Value.agg #[Value.int IntKind.i64 f.k, Value.string f.x, Value.string f.g, Value.string f.y]] _ _); refine (HC2.out _ z2).mono ?_; rintro e' w4 ⟨rfl, p0, p1, p2, p3, p4, p5, p6, p7, p8, p9, p10, p11, q0, q1, q2, q3, q4, q5, q6, q7, q8, q9, q10, q11, z3⟩))
      go_ret
      exact ⟨rfl, hid (HO0.out.trans z2.out)⟩
  · rw [if_neg hn1]
    have gn1 : (n1 == 0) = false := by rw [beq_eq_false_iff_ne]; exact hn1
    have gn1' : (n1 != 0) = true := by rw [bne_iff_ne]; exact hn1
    clear hn1
    unfold trV
    go_enter Tryz.func29, Tryz.ntmps29
    go_upto_region 1 with fail
    rw [← hw1]
    clear hw1
    go_wp2_with (first
      | (go_at_call 19; (with_reducible show Calls _ _ #[Value.agg #[Value.int IntKind.i64 a.k, Value.string a.x, Value.string a.g, Value.string a.y], Value.agg #[Value.int IntKind.i64 d.k, Value.string d.x, Value.string d.g, Value.string d.y]] _ _); refine (HC0.out _ z0).mono ?_; rintro e' w2 ⟨rfl, p0, p1, p2, p3, p4, p5, p6, p7, p8, p9, p10, p11, q0, q1, q2, q3, q4, q5, q6, q7, q8, q9, q10, q11, z1⟩)
      | (go_at_call 19; (with_reducible show Calls _ _ #[Value.agg #[Value.int IntKind.i64 b.k, Value.string b.x, Value.string b.g, Value.string b.y], Value.agg #[Value.int IntKind.i64 e.k, Value.string e.x, Value.string e.g, Value.string e.y]] _ _); refine (HC1.out _ z1).mono ?_; rintro e' w3 ⟨rfl, p0, p1, p2, p3, p4, p5, p6, p7, p8, p9, p10, p11, q0, q1, q2, q3, q4, q5, q6, q7, q8, q9, q10, q11, z2⟩)
      | (go_at_call 19; (with_reducible show Calls _ _ #[Value.agg #[Value.int IntKind.i64 c.k, Value.string c.x, Value.string c.g, Value.string c.y], Value.agg #[Value.int IntKind.i64 f.k, Value.string f.x, Value.string f.g, Value.string f.y]] _ _); refine (HC2.out _ z2).mono ?_; rintro e' w4 ⟨rfl, p0, p1, p2, p3, p4, p5, p6, p7, p8, p9, p10, p11, q0, q1, q2, q3, q4, q5, q6, q7, q8, q9, q10, q11, z3⟩))
    go_ret
    exact ⟨rfl, hid (HO0.out.trans z1.out)⟩
set_option maxHeartbeats 4000000 in
theorem refTriples_any {a b c d e f : Tm} {w : World} (hsa : sizeT a ≤ 900000) (hsb : sizeT b ≤ 900000) (hsc : sizeT c ≤ 900000) (hsd : sizeT d ≤ 900000) (hse : sizeT e ≤ 900000) (hsf : sizeT f ≤ 900000) :
    Calls Tryz.prog 30 #[trV a b c, trV d e f] w fun e' w' => e' = .returned (.int .i64 (triT a b c d e f)) ∧ StU w w' := by
  obtain ⟨w1, hw1, HA0, HB0, HO0⟩ := tr2_start a b c d e f w
  have HS0 := tr2_of HA0.out HB0.out (hid (Only.refl _ w1))
  obtain ⟨p0, p1, p2, p3, p4, p5, p6, p7, p8, p9, p10, p11, q0, q1, q2, q3, q4, q5, q6, q7, q8, q9, q10, q11, z0⟩ := HS0
  have HC0 : Hid (∀ W, StU w1 W → Calls Tryz.prog 24 #[.agg #[.int .i64 a.k, .string a.x, .string a.g, .string a.y], .agg #[.int .i64 d.k, .string d.x, .string d.g, .string d.y]] W fun e' w' => e' = .returned (.int .i64 (cmpT a d)) ∧ Tr2 w1 w.heap.size (w.heap.size + 1) a b c d e f w') := hid fun W hW => (refCompare_any hsa hsd).mono fun e' w' h => ⟨h.1, tr2_of HA0.out HB0.out (hid (hW.out.trans h.2.out))⟩
  have HC1 : Hid (∀ W, StU w1 W → Calls Tryz.prog 24 #[.agg #[.int .i64 b.k, .string b.x, .string b.g, .string b.y], .agg #[.int .i64 e.k, .string e.x, .string e.g, .string e.y]] W fun e' w' => e' = .returned (.int .i64 (cmpT b e)) ∧ Tr2 w1 w.heap.size (w.heap.size + 1) a b c d e f w') := hid fun W hW => (refCompare_any hsb hse).mono fun e' w' h => ⟨h.1, tr2_of HA0.out HB0.out (hid (hW.out.trans h.2.out))⟩
  have HC2 : Hid (∀ W, StU w1 W → Calls Tryz.prog 24 #[.agg #[.int .i64 c.k, .string c.x, .string c.g, .string c.y], .agg #[.int .i64 f.k, .string f.x, .string f.g, .string f.y]] W fun e' w' => e' = .returned (.int .i64 (cmpT c f)) ∧ Tr2 w1 w.heap.size (w.heap.size + 1) a b c d e f w') := hid fun W hW => (refCompare_any hsc hsf).mono fun e' w' h => ⟨h.1, tr2_of HA0.out HB0.out (hid (hW.out.trans h.2.out))⟩
  have hc : triT a b c d e f = if cmpT a d = 0 then (if cmpT b e = 0 then cmpT c f else cmpT b e) else cmpT a d := rfl
  rw [hc]
  generalize cmpT a d = n1 at *
  generalize cmpT b e = n2 at *
  generalize cmpT c f = n3 at *
  clear hc hsa hsb hsc hsd hse hsf
  by_cases hn1 : n1 = 0
  · subst hn1
    rw [if_pos rfl]
    by_cases hn2 : n2 = 0
    · subst hn2
      rw [if_pos rfl]
      unfold trV
      go_enter Tryz.func30, Tryz.ntmps30
      go_upto_region 1 with fail
      rw [← hw1]
      clear hw1
      go_wp2_with (first
        | (go_at_call 24; (with_reducible show Calls _ _ #[Value.agg #[Value.int IntKind.i64 a.k, Value.string a.x, Value.string a.g, Value.string a.y], Value.agg #[Value.int IntKind.i64 d.k, Value.string d.x, Value.string d.g, Value.string d.y]] _ _); refine (HC0.out _ z0).mono ?_; rintro e' w2 ⟨rfl, p0, p1, p2, p3, p4, p5, p6, p7, p8, p9, p10, p11, q0, q1, q2, q3, q4, q5, q6, q7, q8, q9, q10, q11, z1⟩)
        | (go_at_call 24; (with_reducible show Calls _ _ #[Value.agg #[Value.int IntKind.i64 b.k, Value.string b.x, Value.string b.g, Value.string b.y], Value.agg #[Value.int IntKind.i64 e.k, Value.string e.x, Value.string e.g, Value.string e.y]] _ _); refine (HC1.out _ z1).mono ?_; rintro e' w3 ⟨rfl, p0, p1, p2, p3, p4, p5, p6, p7, p8, p9, p10, p11, q0, q1, q2, q3, q4, q5, q6, q7, q8, q9, q10, q11, z2⟩)
        | (go_at_call 24; (with_reducible show Calls _ _ #[Value.agg #[Value.int IntKind.i64 c.k, Value.string c.x, Value.string c.g, Value.string c.y], Value.agg #[Value.int IntKind.i64 f.k, Value.string f.x, Value.string f.g, Value.string f.y]] _ _); refine (HC2.out _ z2).mono ?_; rintro e' w4 ⟨rfl, p0, p1, p2, p3, p4, p5, p6, p7, p8, p9, p10, p11, q0, q1, q2, q3, q4, q5, q6, q7, q8, q9, q10, q11, z3⟩))
      go_ret
      exact ⟨rfl, hid (HO0.out.trans z3.out)⟩
    · rw [if_neg hn2]
      have gn2 : (n2 == 0) = false := by rw [beq_eq_false_iff_ne]; exact hn2
      have gn2' : (n2 != 0) = true := by rw [bne_iff_ne]; exact hn2
      clear hn2
      unfold trV
      go_enter Tryz.func30, Tryz.ntmps30
      go_upto_region 1 with fail
      rw [← hw1]
      clear hw1
      go_wp2_with (first
        | (go_at_call 24; (with_reducible show Calls _ _ #[Value.agg #[Value.int IntKind.i64 a.k, Value.string a.x, Value.string a.g, Value.string a.y], Value.agg #[Value.int IntKind.i64 d.k, Value.string d.x, Value.string d.g, Value.string d.y]] _ _); refine (HC0.out _ z0).mono ?_; rintro e' w2 ⟨rfl, p0, p1, p2, p3, p4, p5, p6, p7, p8, p9, p10, p11, q0, q1, q2, q3, q4, q5, q6, q7, q8, q9, q10, q11, z1⟩)
        | (go_at_call 24; (with_reducible show Calls _ _ #[Value.agg #[Value.int IntKind.i64 b.k, Value.string b.x, Value.string b.g, Value.string b.y], Value.agg #[Value.int IntKind.i64 e.k, Value.string e.x, Value.string e.g, Value.string e.y]] _ _); refine (HC1.out _ z1).mono ?_; rintro e' w3 ⟨rfl, p0, p1, p2, p3, p4, p5, p6, p7, p8, p9, p10, p11, q0, q1, q2, q3, q4, q5, q6, q7, q8, q9, q10, q11, z2⟩)
        | (go_at_call 24; (with_reducible show Calls _ _ #[Value.agg #[Value.int IntKind.i64 c.k, Value.string c.x, Value.string c.g, Value.string c.y], Value.agg #[Value.int IntKind.i64 f.k, Value.string f.x, Value.string f.g, Value.string f.y]] _ _); refine (HC2.out _ z2).mono ?_; rintro e' w4 ⟨rfl, p0, p1, p2, p3, p4, p5, p6, p7, p8, p9, p10, p11, q0, q1, q2, q3, q4, q5, q6, q7, q8, q9, q10, q11, z3⟩))
      go_ret
      exact ⟨rfl, hid (HO0.out.trans z2.out)⟩
  · rw [if_neg hn1]
    have gn1 : (n1 == 0) = false := by rw [beq_eq_false_iff_ne]; exact hn1
    have gn1' : (n1 != 0) = true := by rw [bne_iff_ne]; exact hn1
    clear hn1
    unfold trV
    go_enter Tryz.func30, Tryz.ntmps30
    go_upto_region 1 with fail
    rw [← hw1]
    clear hw1
    go_wp2_with (first
      | (go_at_call 24; (with_reducible show Calls _ _ #[Value.agg #[Value.int IntKind.i64 a.k, Value.string a.x, Value.string a.g, Value.string a.y], Value.agg #[Value.int IntKind.i64 d.k, Value.string d.x, Value.string d.g, Value.string d.y]] _ _); refine (HC0.out _ z0).mono ?_; rintro e' w2 ⟨rfl, p0, p1, p2, p3, p4, p5, p6, p7, p8, p9, p10, p11, q0, q1, q2, q3, q4, q5, q6, q7, q8, q9, q10, q11, z1⟩)
      | (go_at_call 24; (with_reducible show Calls _ _ #[Value.agg #[Value.int IntKind.i64 b.k, Value.string b.x, Value.string b.g, Value.string b.y], Value.agg #[Value.int IntKind.i64 e.k, Value.string e.x, Value.string e.g, Value.string e.y]] _ _); refine (HC1.out _ z1).mono ?_; rintro e' w3 ⟨rfl, p0, p1, p2, p3, p4, p5, p6, p7, p8, p9, p10, p11, q0, q1, q2, q3, q4, q5, q6, q7, q8, q9, q10, q11, z2⟩)
      | (go_at_call 24; (with_reducible show Calls _ _ #[Value.agg #[Value.int IntKind.i64 c.k, Value.string c.x, Value.string c.g, Value.string c.y], Value.agg #[Value.int IntKind.i64 f.k, Value.string f.x, Value.string f.g, Value.string f.y]] _ _); refine (HC2.out _ z2).mono ?_; rintro e' w4 ⟨rfl, p0, p1, p2, p3, p4, p5, p6, p7, p8, p9, p10, p11, q0, q1, q2, q3, q4, q5, q6, q7, q8, q9, q10, q11, z3⟩))
    go_ret
    exact ⟨rfl, hid (HO0.out.trans z1.out)⟩
end Go.Proofs.YtefcnaccemefnaaGreatDoor

namespace Go.Proofs.YtefcnaccemefnaaGreatDoor
open Go.RowKit U G

def sumT (ts : List Tm) : Nat := (ts.map sizeT).sum
def tmD : Tm := ⟨0, ByteArray.empty, ByteArray.empty, ByteArray.empty⟩
/-- Terms in a row. -/
structure TmsAt (w : World) (g : Nat) (ts : List Tm) : Prop where
  lt : g < w.heap.size
  at_ : ∀ k, k < ts.length → w.cell? ⟨g, k * 4 + 1, none⟩ = some (.string (ts.getD k tmD).x) ∧ w.cell? ⟨g, k * 4 + 2, none⟩ = some (.string (ts.getD k tmD).g) ∧ w.cell? ⟨g, k * 4 + 3, none⟩ = some (.string (ts.getD k tmD).y)
theorem TmsAt.only {w w' : World} {g : Nat} {ts : List Tm} (h : TmsAt w g ts) (o : Only (fun _ => False) w w') : TmsAt w' g ts :=
  ⟨Nat.lt_of_lt_of_le h.lt o.size, fun k hk => by
    obtain ⟨h1, h2, h3⟩ := h.at_ k hk
    exact ⟨(o.cell (p := ⟨g, _, none⟩) h.lt no_).trans h1, (o.cell (p := ⟨g, _, none⟩) h.lt no_).trans h2, (o.cell (p := ⟨g, _, none⟩) h.lt no_).trans h3⟩⟩
theorem sum_step {ts : List Tm} {k : Nat} (h : k < ts.length) : sumT (ts.take (k + 1)) = sumT (ts.take k) + ((ts.getD k tmD).x.size + (ts.getD k tmD).g.size + (ts.getD k tmD).y.size) := by
  unfold sumT
  rw [List.take_add_one, List.getElem?_eq_getElem h, List.map_append, List.sum_append]
  simp [sizeT, List.getD, h]
theorem sum_le {ts : List Tm} {M : Nat} (hs : ∀ t ∈ ts, sizeT t ≤ M) (k : Nat) : sumT (ts.take k) ≤ k * M := by
  induction k with
  | zero => simp [sumT]
  | succ k ih =>
    by_cases h : k < ts.length
    · have h2 := hs (ts.getD k tmD) (by rw [List.getD_eq_getElem?_getD, List.getElem?_eq_getElem h]; exact List.getElem_mem h)
      have h3 : sizeT (ts.getD k tmD) = (ts.getD k tmD).x.size + (ts.getD k tmD).g.size + (ts.getD k tmD).y.size := rfl
      rw [sum_step h, Nat.succ_mul]
      omega
    · rw [List.take_of_length_le (by omega)] at ih ⊢
      rw [Nat.succ_mul]
      omega
set_option maxHeartbeats 2000000 in
theorem size_any {g n : Nat} {ts : List Tm} {w : World} (hg : TmsAt w g ts) (hn : n = ts.length) (hn2 : n ≤ 100) (hs : ∀ t ∈ ts, sizeT t ≤ 422212465065984) :
    Calls Tryz.prog 15 #[.slice (some ⟨g, 0, none⟩) n n] w fun e w' => e = .returned (.int .i64 (sumT ts : Nat)) ∧ StU w w' := by
  have HC : Hid (∀ W, StU w W → ∀ k, k < n → W.cell? ⟨g, k * 4 + 1, none⟩ = some (.string (ts.getD k tmD).x) ∧ W.cell? ⟨g, k * 4 + 2, none⟩ = some (.string (ts.getD k tmD).g) ∧ W.cell? ⟨g, k * 4 + 3, none⟩ = some (.string (ts.getD k tmD).y)) := hid fun W hW k hk => (hg.only hW.out).at_ k (by omega)
  have HT : Hid (∀ k, k < n → sumT (ts.take (k + 1)) = sumT (ts.take k) + ((ts.getD k tmD).x.size + (ts.getD k tmD).g.size + (ts.getD k tmD).y.size) ∧ sumT (ts.take (k + 1)) ≤ (k + 1) * 422212465065984) := hid fun k hk => ⟨sum_step (by omega), sum_le hs (k + 1)⟩
  have HE : Hid (ts.take n = ts) := hid (by rw [hn, List.take_length])
  clear hg hn hs
  go_enter Tryz.func15, Tryz.ntmps15
  go_wp2_with fail
  go_loopw [3, 4] (fun v i wr => ∃ (k m : Nat), k ≤ n ∧ v = .int .i64 (m : Int) ∧ i = .int .i64 (k : Int) ∧ StU w wr ∧ Hid (m = sumT (ts.take k))) (fun _ i _ => n - (intOf i).toNat)
  case atStart => exact ⟨0, 0, by omega, rfl, rfl, hid (Only.refl _ w), hid (by simp [sumT])⟩
  case round =>
    obtain ⟨k, m, hk, rfl, rfl, HO, HM⟩ := hrel
    by_cases hp : k < n
    · have hp' : (k : Int) < (n : Int) := by omega
      obtain ⟨c1, c2, c3⟩ := HC.out wr HO k hp
      have hT := HT.out k hp
      rw [← HM.out] at hT
      generalize (ts.getD k tmD).x = x at *
      generalize (ts.getD k tmD).g = gg at *
      generalize (ts.getD k tmD).y = y at *
      obtain ⟨hT1, hT2⟩ := hT
      have HM2 := hid hT1
      have hb : m + (x.size + gg.size + y.size) ≤ 42221246506598400 := by
        have : (k + 1) * 422212465065984 ≤ 100 * 422212465065984 := Nat.mul_le_mul_right _ (by omega)
        omega
      have hq1 : IntKind.i64.wrap ((m : Int) + (x.size : Int)) = (m : Int) + (x.size : Int) := by rw [IntKind.wrap_i64]; omega
      have hq2 : IntKind.i64.wrap ((m : Int) + (x.size : Int) + (gg.size : Int)) = (m : Int) + (x.size : Int) + (gg.size : Int) := by rw [IntKind.wrap_i64]; omega
      have hq3 : IntKind.i64.wrap ((m : Int) + (x.size : Int) + (gg.size : Int) + (y.size : Int)) = ((m + (x.size + gg.size + y.size) : Nat) : Int) := by rw [IntKind.wrap_i64]; omega
      clear hT1 hT2 HM
      go_wp2_with fail
      go_quiet (fail)
      have HO2 : StU w (wr.drewN nq) := hid (HO.out.drewN _)
      generalize wr.drewN nq = w2 at HO2 ⊢
      clear c1 c2 c3
      go_wp2_with fail
      go_roundw
      case rel => exact ⟨k + 1, _, by omega, by go_num, by go_num, HO2, hid HM2.out.symm⟩
      case measure => simp [intOf]; omega
    · obtain rfl : k = n := by omega
      have hF : m = sumT ts := by rw [HM.out, HE.out]
      subst hF
      go_wp2_with fail
      go_ret
      exact ⟨rfl, HO⟩
end Go.Proofs.YtefcnaccemefnaaGreatDoor

namespace Go.Proofs.YtefcnaccemefnaaGreatDoor
open Go.RowKit U G

abbrev ex1S : ByteArray := { data := #[97, 32, 98] }
abbrev ex1T : ByteArray := { data := #[60, 97, 92, 117, 48, 48, 50, 48, 98, 62] }
abbrev ex2S : ByteArray := { data := #[97, 34, 98] }
abbrev ex2G : ByteArray := { data := #[69, 110] }
abbrev ex2L : ByteArray := { data := #[101, 110] }
abbrev ex2T : ByteArray := { data := #[34, 97, 92, 34, 98, 34, 64, 101, 110] }
theorem exr1 : rightT (iriT ex1S) = true := by decide +kernel
theorem exr2 : rightT ⟨3, ex2S, ex2L, ByteArray.empty⟩ = true := by decide +kernel
theorem exl1 : strB (textL (iriT ex1S)) = ex1T := by decide +kernel
theorem exl2 : strB (textL ⟨3, ex2S, ex2L, ByteArray.empty⟩) = ex2T := by decide +kernel
theorem exn1 : (textL (iriT ex1S)).length = 10 := by decide +kernel
theorem exn2 : (textL ⟨3, ex2S, ex2L, ByteArray.empty⟩).length = 9 := by decide +kernel
theorem exw : low ex2G = ex2L := by decide +kernel
theorem exs1 : showV (iriT ex1S) = .tuple #[.string ex1T, .int .i64 0] := by unfold showV; rw [exr1, exn1, exl1]; rfl
theorem exs2 : showV ⟨3, ex2S, ex2L, ByteArray.empty⟩ = .tuple #[.string ex2T, .int .i64 0] := by unfold showV; rw [exr2, exn2, exl2]; rfl
set_option maxHeartbeats 1000000 in
theorem awake8_any {w : World} (hT : Tb w) : Calls Tryz.prog 6 #[] w fun e w' => e = .returned (.bool true) ∧ StU w w' := by
  have HT : Hid (∀ W, StU w W → Tb W) := hid fun W hW => hT.stu hW
  have H1 : Hid (Calls Tryz.prog 8 #[.string ex1S] w fun e w' => e = .returned (.agg #[.int .i64 1, .string ex1S, .string ByteArray.empty, .string ByteArray.empty]) ∧ StU w w') := hid (iriT_any ex1S w)
  have H2 : Hid (∀ W, StU w W → Calls Tryz.prog 16 #[.agg #[.int .i64 1, .string ex1S, .string ByteArray.empty, .string ByteArray.empty]] W fun e w' => e = .returned (.tuple #[.string ex1T, .int .i64 0]) ∧ StU w w') := hid fun W hW => (show_any (t := iriT ex1S) (HT.out W hW) (by decide)).mono fun e w' h => ⟨by rw [h.1, exs1], hid (hW.out.trans h.2.out)⟩
  have H3 : Hid (∀ W, StU w W → Calls Tryz.prog 11 #[.string ex2S, .string ex2G] W fun e w' => e = .returned (.agg #[.int .i64 3, .string ex2S, .string ex2L, .string ByteArray.empty]) ∧ StU w w') := hid fun W hW => (tagT_any ex2S ex2G W (by decide)).mono fun e w' h => ⟨by rw [h.1]; unfold tagT; rw [exw]; rfl, hid (hW.out.trans h.2.out)⟩
  have H4 : Hid (∀ W, StU w W → Calls Tryz.prog 16 #[.agg #[.int .i64 3, .string ex2S, .string ex2L, .string ByteArray.empty]] W fun e w' => e = .returned (.tuple #[.string ex2T, .int .i64 0]) ∧ StU w w') := hid fun W hW => (show_any (t := ⟨3, ex2S, ex2L, ByteArray.empty⟩) (HT.out W hW) (by decide)).mono fun e w' h => ⟨by rw [h.1, exs2], hid (hW.out.trans h.2.out)⟩
  clear hT HT
  go_enter Tryz.func6, Tryz.ntmps6
  go_wp2_with (first
    | (go_at_call 8; refine H1.out.mono ?_; rintro e w1 ⟨rfl, HO1⟩)
    | (go_at_call 11; refine (H3.out _ HO2).mono ?_; rintro e w3 ⟨rfl, HO3⟩)
    | (go_at_call 16; first
        | (with_reducible refine (H2.out _ HO1).mono ?_; rintro e w2 ⟨rfl, HO2⟩)
        | (with_reducible refine (H4.out _ HO3).mono ?_; rintro e w4 ⟨rfl, HO4⟩)))
  go_ret
  exact ⟨rfl, HO4⟩
theorem terms2_new (W : World) (a b : Tm) : TmsAt (W.alloc (.cells #[.int .i64 a.k, .string a.x, .string a.g, .string a.y, .int .i64 b.k, .string b.x, .string b.g, .string b.y] 27)) W.heap.size [a, b] :=
  ⟨by simp, fun k hk => by
    match k, hk with
    | 0, _ => exact ⟨by simp, by simp, by simp⟩
    | 1, _ => exact ⟨by simp, by simp, by simp⟩
    | k + 2, hk => exact absurd (show k + 2 < 2 from hk) (by omega)⟩
theorem size2_any (a b : Tm) (W : World) (ha : sizeT a ≤ 422212465065984) (hb : sizeT b ≤ 422212465065984) :
    Calls Tryz.prog 15 #[.slice (some ⟨W.heap.size, 0, none⟩) 2 2] (W.alloc (.cells #[.int .i64 a.k, .string a.x, .string a.g, .string a.y, .int .i64 b.k, .string b.x, .string b.g, .string b.y] 27)) fun e w' => e = .returned (.int .i64 ((sizeT a + sizeT b : Nat) : Int)) ∧ StU W w' :=
  (size_any (terms2_new W a b) rfl (by simp) (by intro t ht; rcases List.mem_cons.1 ht with rfl | ht; exact ha; rcases List.mem_cons.1 ht with rfl | ht; exact hb; cases ht)).mono fun e w' h => ⟨by rw [h.1]; simp [sumT], hid (((Only.refl _ W).alloc _).trans h.2.out)⟩
set_option maxHeartbeats 2000000 in
theorem tells_far {a b : Tm} {w : World} (hT : Tb w) (ha : sizeT a ≤ 422212465065984) (hb : sizeT b ≤ 422212465065984) (h : 6000 < sizeT a + sizeT b) :
    Calls Tryz.prog 13 #[tmV a, tmV b] w fun e w' => e = .returned (.bool true) ∧ StU w w' := by
  obtain ⟨w1, ga, gb, hw1, hga, hgb, HA0, HB0, HO0⟩ := two_start a b w
  subst hga
  subst hgb
  obtain ⟨q0, q1, q2, q3, p0, p1, p2, p3, qO⟩ := both_of HA0.out HB0.out (hid (Only.refl _ w1))
  have HZ : Hid (∀ W, StU w1 W → Calls Tryz.prog 15 #[.slice (some ⟨W.heap.size, 0, none⟩) 2 2] (W.alloc (.cells #[.int .i64 a.k, .string a.x, .string a.g, .string a.y, .int .i64 b.k, .string b.x, .string b.g, .string b.y] 27)) fun e w' => e = .returned (.int .i64 ((sizeT a + sizeT b : Nat) : Int)) ∧ StU w1 w') := hid fun W hW => (size2_any a b W ha hb).mono fun e w' h2 => ⟨h2.1, hid (hW.out.trans h2.2.out)⟩
  have HA : Hid (∀ W, StU w1 W → Calls Tryz.prog 6 #[] W fun e w' => e = .returned (.bool true) ∧ StU w1 w') := hid fun W hW => (awake8_any ((hT.stu HO0).stu hW)).mono fun e w' h2 => ⟨h2.1, hid (hW.out.trans h2.2.out)⟩
  have HR0 : StU w1 w1 := hid (Only.refl _ w1)
  generalize sizeT a + sizeT b = z at *
  have h' : (6000 : Int) < (z : Int) := by omega
  clear hT ha hb h
  unfold tmV
  go_enter Tryz.func13, Tryz.ntmps13
  go_upto_region 1 with fail
  rw [← hw1]
  clear hw1
  go_wp2_with (first
    | (go_at_call 15; refine (HZ.out _ HR0).mono ?_; rintro e w2 ⟨rfl, HO2⟩)
    | (go_at_call 6; refine (HA.out _ HO2).mono ?_; rintro e w3 ⟨rfl, HO3⟩))
  go_ret
  exact ⟨rfl, hid (HO0.out.trans HO3.out)⟩
set_option maxHeartbeats 4000000 in
theorem tells_near {a b : Tm} {w : World} (hT : Tb w) (h : sizeT a + sizeT b ≤ 6000) :
    Calls Tryz.prog 13 #[tmV a, tmV b] w fun e w' => e = .returned (.bool true) ∧ StU w w' := by
  obtain ⟨w1, ga, gb, hw1, hga, hgb, HA0, HB0, HO0⟩ := two_start a b w
  subst hga
  subst hgb
  obtain ⟨q0, q1, q2, q3, p0, p1, p2, p3, qO⟩ := both_of HA0.out HB0.out (hid (Only.refl _ w1))
  replace hT : Tb w1 := hT.stu HO0
  have hza : a.x.size ≤ 6000 ∧ b.x.size ≤ 6000 := by
    have e1 : sizeT a = a.x.size + a.g.size + a.y.size := rfl
    have e2 : sizeT b = b.x.size + b.g.size + b.y.size := rfl
    omega
  obtain ⟨S, E, hSE⟩ : ∃ (S : ByteArray) (E : Int), showV a = .tuple #[.string S, .int .i64 E] := by
    unfold showV
    split
    · split
      · exact ⟨_, _, rfl⟩
      · exact ⟨_, _, rfl⟩
    · exact ⟨_, _, rfl⟩
  have HZ : Hid (∀ W, StU w1 W → Calls Tryz.prog 15 #[.slice (some ⟨W.heap.size, 0, none⟩) 2 2] (W.alloc (.cells #[.int .i64 a.k, .string a.x, .string a.g, .string a.y, .int .i64 b.k, .string b.x, .string b.g, .string b.y] 27)) fun e w' => e = .returned (.int .i64 ((sizeT a + sizeT b : Nat) : Int)) ∧ StU w1 w') := hid fun W hW => (size2_any a b W (by omega) (by omega)).mono fun e w' h2 => ⟨h2.1, hid (hW.out.trans h2.2.out)⟩
  have HA : Hid (∀ W, StU w1 W → Calls Tryz.prog 6 #[] W fun e w' => e = .returned (.bool true) ∧ StU w1 w') := hid fun W hW => (awake8_any (hT.stu hW)).mono fun e w' h2 => ⟨h2.1, hid (hW.out.trans h2.2.out)⟩
  have HS1 : Hid (∀ W, StU w1 W → Calls Tryz.prog 16 #[.agg #[.int .i64 a.k, .string a.x, .string a.g, .string a.y]] W fun e w' => e = .returned (.tuple #[.string S, .int .i64 E]) ∧ StU w1 w') := hid fun W hW => (show_any (t := a) (hT.stu hW) (by omega)).mono fun e w' h2 => ⟨by rw [h2.1, hSE], hid (hW.out.trans h2.2.out)⟩
  have HS2 : Hid (∀ W, StU w1 W → Calls Tryz.prog 22 #[.agg #[.int .i64 a.k, .string a.x, .string a.g, .string a.y]] W fun e w' => e = .returned (.tuple #[.string S, .int .i64 E]) ∧ StU w1 w') := hid fun W hW => (refShow_any (t := a) (by omega)).mono fun e w' h2 => ⟨by rw [h2.1, hSE], hid (hW.out.trans h2.2.out)⟩
  have HR1 : Hid (∀ W, StU w1 W → Calls Tryz.prog 18 #[.agg #[.int .i64 a.k, .string a.x, .string a.g, .string a.y]] W fun e w' => e = .returned (.bool (rightT a)) ∧ StU w1 w') := hid fun W hW => (right_any (t := a) (hT.stu hW) (by omega)).mono fun e w' h2 => ⟨h2.1, hid (hW.out.trans h2.2.out)⟩
  have HR2 : Hid (∀ W, StU w1 W → Calls Tryz.prog 23 #[.agg #[.int .i64 a.k, .string a.x, .string a.g, .string a.y]] W fun e w' => e = .returned (.bool (rightT a)) ∧ StU w1 w') := hid fun W hW => (refRight_any (t := a) (by omega)).mono fun e w' h2 => ⟨h2.1, hid (hW.out.trans h2.2.out)⟩
  have HC1 : Hid (∀ W, StU w1 W → Calls Tryz.prog 19 #[.agg #[.int .i64 a.k, .string a.x, .string a.g, .string a.y], .agg #[.int .i64 b.k, .string b.x, .string b.g, .string b.y]] W fun e w' => e = .returned (.int .i64 (cmpT a b)) ∧ StU w1 w') := hid fun W hW => (compare_any (a := a) (b := b) (hT.stu hW) (by omega) (by omega)).mono fun e w' h2 => ⟨h2.1, hid (hW.out.trans h2.2.out)⟩
  have HC2 : Hid (∀ W, StU w1 W → Calls Tryz.prog 24 #[.agg #[.int .i64 a.k, .string a.x, .string a.g, .string a.y], .agg #[.int .i64 b.k, .string b.x, .string b.g, .string b.y]] W fun e w' => e = .returned (.int .i64 (cmpT a b)) ∧ StU w1 w') := hid fun W hW => (refCompare_any (a := a) (b := b) (by omega) (by omega)).mono fun e w' h2 => ⟨h2.1, hid (hW.out.trans h2.2.out)⟩
  obtain ⟨T1, hT1⟩ : ∃ T1, tagT a.x b.x = T1 := ⟨_, rfl⟩
  obtain ⟨T2, hT2⟩ : ∃ T2, typT a.x b.x = T2 := ⟨_, rfl⟩
  have HG1 : Hid (∀ W, StU w1 W → Calls Tryz.prog 11 #[.string a.x, .string b.x] W fun e w' => e = .returned (.agg #[.int .i64 T1.k, .string T1.x, .string T1.g, .string T1.y]) ∧ StU w1 w') := hid fun W hW => (tagT_any a.x b.x W (by omega)).mono fun e w' h2 => ⟨by rw [h2.1, hT1]; rfl, hid (hW.out.trans h2.2.out)⟩
  have HG2 : Hid (∀ W, StU w1 W → Calls Tryz.prog 25 #[.string a.x, .string b.x] W fun e w' => e = .returned (.agg #[.int .i64 T1.k, .string T1.x, .string T1.g, .string T1.y]) ∧ StU w1 w') := hid fun W hW => (refTagT_any a.x b.x W (by omega)).mono fun e w' h2 => ⟨by rw [h2.1, hT1]; rfl, hid (hW.out.trans h2.2.out)⟩
  have HY1 : Hid (∀ W, StU w1 W → Calls Tryz.prog 12 #[.string a.x, .string b.x] W fun e w' => e = .returned (.agg #[.int .i64 T2.k, .string T2.x, .string T2.g, .string T2.y]) ∧ StU w1 w') := hid fun W hW => (typT_any a.x b.x W).mono fun e w' h2 => ⟨by rw [h2.1, hT2]; rfl, hid (hW.out.trans h2.2.out)⟩
  have HY2 : Hid (∀ W, StU w1 W → Calls Tryz.prog 26 #[.string a.x, .string b.x] W fun e w' => e = .returned (.agg #[.int .i64 T2.k, .string T2.x, .string T2.g, .string T2.y]) ∧ StU w1 w') := hid fun W hW => (refTyp_any a.x b.x W).mono fun e w' h2 => ⟨by rw [h2.1, hT2]; rfl, hid (hW.out.trans h2.2.out)⟩
  have HK1 : Hid (∀ W, StU w1 W → Calls Tryz.prog 8 #[.string a.x] W fun e w' => e = .returned (.agg #[.int .i64 1, .string a.x, .string { data := #[] }, .string { data := #[] }]) ∧ StU w1 w') := hid fun W hW => (iriT_any a.x W).mono fun e w' h2 => ⟨h2.1, hid (hW.out.trans h2.2.out)⟩
  have hE1 : ∀ W, (binOp .eql 27 (.agg #[.int .i64 1, .string a.x, .string { data := #[] }, .string { data := #[] }]) (.agg #[.int .i64 1, .string a.x, .string { data := #[] }, .string { data := #[] }])).run Tryz.prog W = .ok (.bool true) W := fun W => by
    have := eql_tm ⟨1, a.x, { data := #[] }, { data := #[] }⟩ ⟨1, a.x, { data := #[] }, { data := #[] }⟩ W
    rwa [decide_eq_true rfl] at this
  have HK2 : Hid (∀ W, StU w1 W → Calls Tryz.prog 9 #[.string a.x] W fun e w' => e = .returned (.agg #[.int .i64 2, .string a.x, .string { data := #[] }, .string { data := #[] }]) ∧ StU w1 w') := hid fun W hW => (blankT_any a.x W).mono fun e w' h2 => ⟨h2.1, hid (hW.out.trans h2.2.out)⟩
  have hE2 : ∀ W, (binOp .eql 27 (.agg #[.int .i64 2, .string a.x, .string { data := #[] }, .string { data := #[] }]) (.agg #[.int .i64 2, .string a.x, .string { data := #[] }, .string { data := #[] }])).run Tryz.prog W = .ok (.bool true) W := fun W => by
    have := eql_tm ⟨2, a.x, { data := #[] }, { data := #[] }⟩ ⟨2, a.x, { data := #[] }, { data := #[] }⟩ W
    rwa [decide_eq_true rfl] at this
  have HK3 : Hid (∀ W, StU w1 W → Calls Tryz.prog 10 #[.string a.x] W fun e w' => e = .returned (.agg #[.int .i64 3, .string a.x, .string { data := #[] }, .string { data := #[] }]) ∧ StU w1 w') := hid fun W hW => (litT_any a.x W).mono fun e w' h2 => ⟨h2.1, hid (hW.out.trans h2.2.out)⟩
  have hE3 : ∀ W, (binOp .eql 27 (.agg #[.int .i64 3, .string a.x, .string { data := #[] }, .string { data := #[] }]) (.agg #[.int .i64 3, .string a.x, .string { data := #[] }, .string { data := #[] }])).run Tryz.prog W = .ok (.bool true) W := fun W => by
    have := eql_tm ⟨3, a.x, { data := #[] }, { data := #[] }⟩ ⟨3, a.x, { data := #[] }, { data := #[] }⟩ W
    rwa [decide_eq_true rfl] at this
  have hET1 : ∀ W, (binOp .eql 27 (.agg #[.int .i64 T1.k, .string T1.x, .string T1.g, .string T1.y]) (.agg #[.int .i64 T1.k, .string T1.x, .string T1.g, .string T1.y])).run Tryz.prog W = .ok (.bool true) W := fun W => by
    have := eql_tm T1 T1 W
    rwa [decide_eq_true rfl] at this
  have hET2 : ∀ W, (binOp .eql 27 (.agg #[.int .i64 T2.k, .string T2.x, .string T2.g, .string T2.y]) (.agg #[.int .i64 T2.k, .string T2.x, .string T2.g, .string T2.y])).run Tryz.prog W = .ok (.bool true) W := fun W => by
    have := eql_tm T2 T2 W
    rwa [decide_eq_true rfl] at this
  have hqs : (S.toList == S.toList) = true := beq_self_eq_true _
  have hqe : (E == E) = true := beq_self_eq_true _
  have hqr : (rightT a == rightT a) = true := beq_self_eq_true _
  have hqc : (cmpT a b == cmpT a b) = true := beq_self_eq_true _
  have HR0 : StU w1 w1 := hid (Only.refl _ w1)
  have h' : ¬ (6000 : Int) < ((sizeT a + sizeT b : Nat) : Int) := by omega
  generalize sizeT a + sizeT b = z at *
  generalize rightT a = R at *
  generalize cmpT a b = C at *
  clear hT h hza hSE hT1 hT2
  unfold tmV
  go_enter Tryz.func13, Tryz.ntmps13
  go_upto_region 1 with fail
  rw [← hw1]
  clear hw1
  go_wp2_with (first
    | (go_at_call 15; refine (HZ.out _ HR0).mono ?_; rintro e w2 ⟨rfl, HO2⟩; have hq2 := both_of HA0.out HB0.out HO2; obtain ⟨x0, x1, x2, x3, y0, y1, y2, y3, -⟩ := hq2)
    | (go_at_call 16; refine (HS1.out _ HO2).mono ?_; rintro e w3 ⟨rfl, HO3⟩; have hq3 := both_of HA0.out HB0.out HO3; obtain ⟨u0, u1, u2, u3, v0, v1, v2, v3, -⟩ := hq3)
    | (go_at_call 22; refine (HS2.out _ HO3).mono ?_; rintro e w4 ⟨rfl, HO⟩))
  refine wp_region_noPanic ?_
  refine wp_region_held_drew (S := (fun u => u.cell? ⟨w.heap.size, 0, none⟩ = some (.int .i64 a.k) ∧ u.cell? ⟨w.heap.size, 1, none⟩ = some (.string a.x) ∧ u.cell? ⟨w.heap.size, 2, none⟩ = some (.string a.g) ∧ u.cell? ⟨w.heap.size, 3, none⟩ = some (.string a.y) ∧ u.cell? ⟨w.heap.size + 1, 0, none⟩ = some (.int .i64 b.k) ∧ u.cell? ⟨w.heap.size + 1, 1, none⟩ = some (.string b.x) ∧ u.cell? ⟨w.heap.size + 1, 2, none⟩ = some (.string b.g) ∧ u.cell? ⟨w.heap.size + 1, 3, none⟩ = some (.string b.y) ∧ StU w1 u)) (by kernel_rfl) (both_of HA0.out HB0.out (hid (HO.out.drew))) (fun hHeld => ?_)
  refine wpAnyH_take (i := 0) (oi := { dst := some 26, op := Op.move (Operand.tmp 5), type := 9, pos := "law.go:36", after := #[], guard := none }) (v := ?_) rfl (by kernel_rfl) (by kernel_rfl) (by kernel_rfl) (fun _ _ _ h => h) (Or.inl ⟨by rfl, ?_⟩) (by with_reducible assumption) ?_
  rotate_left
  · (intro w' hSw; (try dsimp only at hSw); first | (go_simp; done) | (go_simp; with_reducible rfl))
  (try simp only [Act.put, List.setIfInBounds_toArray, List.set_cons_zero, List.set_cons_succ])
  refine wpAnyH_take (i := 1) (oi := { dst := some 27, op := Op.move (Operand.tmp 7), type := 9, pos := "law.go:36", after := #[], guard := none }) (v := ?_) rfl (by kernel_rfl) (by kernel_rfl) (by kernel_rfl) (fun _ _ _ h => h) (Or.inl ⟨by rfl, ?_⟩) (by with_reducible assumption) ?_
  rotate_left
  · (intro w' hSw; (try dsimp only at hSw); first | (go_simp; done) | (go_simp; with_reducible rfl))
  (try simp only [Act.put, List.setIfInBounds_toArray, List.set_cons_zero, List.set_cons_succ])
  refine wpAnyH_take (i := 2) (oi := { dst := some 28, op := Op.binOp BinOp.eql 9 (Operand.tmp 26) (Operand.tmp 27) 9, type := 4, pos := "law.go:36", after := #[{ on := 0, ground := Ground.data }, { on := 1, ground := Ground.data }], guard := none }) (v := ?_) rfl (by kernel_rfl) (by kernel_rfl) (by kernel_rfl) (fun _ _ _ h => h) (Or.inl ⟨by rfl, ?_⟩) (by with_reducible assumption) ?_
  rotate_left
  · (intro w' hSw; (try dsimp only at hSw); first | (go_simp; done) | (go_simp; with_reducible rfl))
  (try simp only [Act.put, List.setIfInBounds_toArray, List.set_cons_zero, List.set_cons_succ])
  refine wpAnyH_take (i := 3) (oi := { dst := some 29, op := Op.move (Operand.tmp 28), type := 4, pos := "law.go:36", after := #[{ on := 2, ground := Ground.data }], guard := none }) (v := ?_) rfl (by kernel_rfl) (by kernel_rfl) (by kernel_rfl) (fun _ _ _ h => h) (Or.inl ⟨by rfl, ?_⟩) (by with_reducible assumption) ?_
  rotate_left
  · (intro w' hSw; (try dsimp only at hSw); first | (go_simp; done) | (go_simp; with_reducible rfl))
  (try simp only [Act.put, List.setIfInBounds_toArray, List.set_cons_zero, List.set_cons_succ])
  refine wpAnyH_take (i := 4) (oi := { dst := some 30, op := Op.move (Operand.tmp 6), type := 37, pos := "law.go:36", after := #[{ on := 3, ground := Ground.guard }], guard := some (3, true) }) (v := ?_) rfl (by kernel_rfl) (by kernel_rfl) (by kernel_rfl) (fun _ _ _ h => h) (Or.inl ⟨by rfl, ?_⟩) (by with_reducible assumption) ?_
  rotate_left
  · (intro w' hSw; (try dsimp only at hSw); first | (go_simp; done) | (go_simp; with_reducible rfl))
  (try simp only [Act.put, List.setIfInBounds_toArray, List.set_cons_zero, List.set_cons_succ])
  refine wpAnyH_take (i := 5) (oi := { dst := some 31, op := Op.move (Operand.tmp 8), type := 37, pos := "law.go:36", after := #[{ on := 3, ground := Ground.guard }], guard := some (3, true) }) (v := ?_) rfl (by kernel_rfl) (by kernel_rfl) (by kernel_rfl) (fun _ _ _ h => h) (Or.inl ⟨by rfl, ?_⟩) (by with_reducible assumption) ?_
  rotate_left
  · (intro w' hSw; (try dsimp only at hSw); first | (go_simp; done) | (go_simp; with_reducible rfl))
  (try simp only [Act.put, List.setIfInBounds_toArray, List.set_cons_zero, List.set_cons_succ])
  refine wpAnyH_take (i := 6) (oi := { dst := some 32, op := Op.binOp BinOp.eql 37 (Operand.tmp 30) (Operand.tmp 31) 37, type := 4, pos := "law.go:36", after := #[{ on := 4, ground := Ground.data }, { on := 5, ground := Ground.data }, { on := 3, ground := Ground.guard }], guard := some (3, true) }) (v := ?_) rfl (by kernel_rfl) (by kernel_rfl) (by kernel_rfl) (fun _ _ _ h => h) (Or.inl ⟨by rfl, ?_⟩) (by with_reducible assumption) ?_
  rotate_left
  · (intro w' hSw; (try dsimp only at hSw); first | (go_simp; done) | (go_simp; with_reducible rfl))
  (try simp only [Act.put, List.setIfInBounds_toArray, List.set_cons_zero, List.set_cons_succ])
  refine wpAnyH_take (i := 7) (oi := { dst := some 33, op := Op.pick (Operand.tmp 29) (Operand.tmp 32) (Operand.const (Value.bool false)), type := 4, pos := "law.go:36", after := #[{ on := 3, ground := Ground.data }, { on := 6, ground := Ground.data }], guard := none }) (v := ?_) rfl (by kernel_rfl) (by kernel_rfl) (by kernel_rfl) (fun _ _ _ h => h) (Or.inl ⟨by rfl, ?_⟩) (by with_reducible assumption) ?_
  rotate_left
  · (intro w' hSw; (try dsimp only at hSw); first | (go_simp; done) | (go_simp; with_reducible rfl))
  (try simp only [Act.put, List.setIfInBounds_toArray, List.set_cons_zero, List.set_cons_succ])
  refine wpAnyH_take (i := 8) (oi := { dst := some 34, op := Op.move (Operand.tmp 33), type := 4, pos := "law.go:36", after := #[{ on := 7, ground := Ground.data }, { on := 3, ground := Ground.chain }], guard := none }) (v := ?_) rfl (by kernel_rfl) (by kernel_rfl) (by kernel_rfl) (fun _ _ _ h => h) (Or.inl ⟨by rfl, ?_⟩) (by with_reducible assumption) ?_
  rotate_left
  · (intro w' hSw; (try dsimp only at hSw); first | (go_simp; done) | (go_simp; with_reducible rfl))
  (try simp only [Act.put, List.setIfInBounds_toArray, List.set_cons_zero, List.set_cons_succ])
  refine wpAnyH_take (i := 9) (oi := { dst := some 35, op := Op.load 27 (Operand.tmp 2), type := 27, pos := "law.go:36", after := #[{ on := 8, ground := Ground.guard }], guard := some (8, true) }) (v := ?_) rfl (by kernel_rfl) (by kernel_rfl) (by kernel_rfl) (fun _ _ _ h => h) (Or.inl ⟨by rfl, ?_⟩) (by with_reducible assumption) ?_
  rotate_left
  · (intro w' hSw; (try dsimp only at hSw); first | (go_simp; done) | (go_simp; with_reducible rfl))
  (try simp only [Act.put, List.setIfInBounds_toArray, List.set_cons_zero, List.set_cons_succ])
  refine wpAnyH_take (i := 11) (oi := { dst := some 37, op := Op.load 27 (Operand.tmp 2), type := 27, pos := "law.go:36", after := #[{ on := 8, ground := Ground.guard }], guard := some (8, true) }) (v := ?_) rfl (by kernel_rfl) (by kernel_rfl) (by kernel_rfl) (fun _ _ _ h => h) (Or.inl ⟨by rfl, ?_⟩) (by with_reducible assumption) ?_
  rotate_left
  · (intro w' hSw; (try dsimp only at hSw); first | (go_simp; done) | (go_simp; with_reducible rfl))
  (try simp only [Act.put, List.setIfInBounds_toArray, List.set_cons_zero, List.set_cons_succ])
  refine wpAnyH_ready (rs := [10]) (by kernel_rfl) (by simp) ?_
  refine AllReadyH.cons (o := { dst := some 36, op := Op.call { callee := Callee.value (Operand.func 18), args := #[Operand.tmp 35], argTypes := #[27] }, type := 4, pos := "law.go:36", after := #[{ on := 9, ground := Ground.data }, { on := 8, ground := Ground.chain }, { on := 8, ground := Ground.guard }], guard := some (8, true) }) rfl (fun K hK => ?_) AllReadyH.nil
  go_simp
  (refine (HR1.out _ hHeld.2.2.2.2.2.2.2.2).mono ?_)
  rintro e wa ⟨rfl, HOa⟩
  go_wp2_with fail
  refine hK.out _ _ (both_of HA0.out HB0.out (HOa)) (fun hHeld => ?_)
  clear hK K
  (try simp only [Act.put, List.setIfInBounds_toArray, List.set_cons_zero, List.set_cons_succ])
  refine wpAnyH_ready (rs := [12]) (by kernel_rfl) (by simp) ?_
  refine AllReadyH.cons (o := { dst := some 38, op := Op.call { callee := Callee.value (Operand.func 23), args := #[Operand.tmp 37], argTypes := #[27] }, type := 4, pos := "law.go:36", after := #[{ on := 11, ground := Ground.data }, { on := 10, ground := Ground.chain }, { on := 8, ground := Ground.guard }], guard := some (8, true) }) rfl (fun K hK => ?_) AllReadyH.nil
  go_simp
  (refine (HR2.out _ hHeld.2.2.2.2.2.2.2.2).mono ?_)
  rintro e wa ⟨rfl, HOa⟩
  go_wp2_with fail
  refine hK.out _ _ (both_of HA0.out HB0.out (HOa)) (fun hHeld => ?_)
  clear hK K
  (try simp only [Act.put, List.setIfInBounds_toArray, List.set_cons_zero, List.set_cons_succ])
  refine wpAnyH_take (i := 13) (oi := { dst := some 39, op := Op.binOp BinOp.eql 4 (Operand.tmp 36) (Operand.tmp 38) 4, type := 4, pos := "law.go:36", after := #[{ on := 10, ground := Ground.data }, { on := 12, ground := Ground.data }, { on := 8, ground := Ground.guard }], guard := some (8, true) }) (v := ?_) rfl (by kernel_rfl) (by kernel_rfl) (by kernel_rfl) (fun _ _ _ h => h) (Or.inl ⟨by rfl, ?_⟩) (by with_reducible assumption) ?_
  rotate_left
  · (intro w' hSw; (try dsimp only at hSw); first | (go_simp; done) | (go_simp; with_reducible rfl))
  (try simp only [Act.put, List.setIfInBounds_toArray, List.set_cons_zero, List.set_cons_succ])
  refine wpAnyH_take (i := 14) (oi := { dst := some 40, op := Op.pick (Operand.tmp 34) (Operand.tmp 39) (Operand.const (Value.bool false)), type := 4, pos := "law.go:36", after := #[{ on := 8, ground := Ground.data }, { on := 13, ground := Ground.data }], guard := none }) (v := ?_) rfl (by kernel_rfl) (by kernel_rfl) (by kernel_rfl) (fun _ _ _ h => h) (Or.inl ⟨by rfl, ?_⟩) (by with_reducible assumption) ?_
  rotate_left
  · (intro w' hSw; (try dsimp only at hSw); first | (go_simp; done) | (go_simp; with_reducible rfl))
  (try simp only [Act.put, List.setIfInBounds_toArray, List.set_cons_zero, List.set_cons_succ])
  refine wpAnyH_take (i := 15) (oi := { dst := some 41, op := Op.move (Operand.tmp 40), type := 4, pos := "law.go:36", after := #[{ on := 14, ground := Ground.data }, { on := 12, ground := Ground.chain }], guard := none }) (v := ?_) rfl (by kernel_rfl) (by kernel_rfl) (by kernel_rfl) (fun _ _ _ h => h) (Or.inl ⟨by rfl, ?_⟩) (by with_reducible assumption) ?_
  rotate_left
  · (intro w' hSw; (try dsimp only at hSw); first | (go_simp; done) | (go_simp; with_reducible rfl))
  (try simp only [Act.put, List.setIfInBounds_toArray, List.set_cons_zero, List.set_cons_succ])
  refine wpAnyH_take (i := 16) (oi := { dst := some 42, op := Op.load 27 (Operand.tmp 2), type := 27, pos := "law.go:36", after := #[{ on := 15, ground := Ground.guard }], guard := some (15, true) }) (v := ?_) rfl (by kernel_rfl) (by kernel_rfl) (by kernel_rfl) (fun _ _ _ h => h) (Or.inl ⟨by rfl, ?_⟩) (by with_reducible assumption) ?_
  rotate_left
  · (intro w' hSw; (try dsimp only at hSw); first | (go_simp; done) | (go_simp; with_reducible rfl))
  (try simp only [Act.put, List.setIfInBounds_toArray, List.set_cons_zero, List.set_cons_succ])
  refine wpAnyH_take (i := 17) (oi := { dst := some 43, op := Op.load 27 (Operand.tmp 3), type := 27, pos := "law.go:36", after := #[{ on := 15, ground := Ground.guard }], guard := some (15, true) }) (v := ?_) rfl (by kernel_rfl) (by kernel_rfl) (by kernel_rfl) (fun _ _ _ h => h) (Or.inl ⟨by rfl, ?_⟩) (by with_reducible assumption) ?_
  rotate_left
  · (intro w' hSw; (try dsimp only at hSw); first | (go_simp; done) | (go_simp; with_reducible rfl))
  (try simp only [Act.put, List.setIfInBounds_toArray, List.set_cons_zero, List.set_cons_succ])
  refine wpAnyH_take (i := 19) (oi := { dst := some 45, op := Op.load 27 (Operand.tmp 2), type := 27, pos := "law.go:36", after := #[{ on := 15, ground := Ground.guard }], guard := some (15, true) }) (v := ?_) rfl (by kernel_rfl) (by kernel_rfl) (by kernel_rfl) (fun _ _ _ h => h) (Or.inl ⟨by rfl, ?_⟩) (by with_reducible assumption) ?_
  rotate_left
  · (intro w' hSw; (try dsimp only at hSw); first | (go_simp; done) | (go_simp; with_reducible rfl))
  (try simp only [Act.put, List.setIfInBounds_toArray, List.set_cons_zero, List.set_cons_succ])
  refine wpAnyH_take (i := 20) (oi := { dst := some 46, op := Op.load 27 (Operand.tmp 3), type := 27, pos := "law.go:36", after := #[{ on := 15, ground := Ground.guard }], guard := some (15, true) }) (v := ?_) rfl (by kernel_rfl) (by kernel_rfl) (by kernel_rfl) (fun _ _ _ h => h) (Or.inl ⟨by rfl, ?_⟩) (by with_reducible assumption) ?_
  rotate_left
  · (intro w' hSw; (try dsimp only at hSw); first | (go_simp; done) | (go_simp; with_reducible rfl))
  (try simp only [Act.put, List.setIfInBounds_toArray, List.set_cons_zero, List.set_cons_succ])
  refine wpAnyH_ready (rs := [18]) (by kernel_rfl) (by simp) ?_
  refine AllReadyH.cons (o := { dst := some 44, op := Op.call { callee := Callee.value (Operand.func 19), args := #[Operand.tmp 42, Operand.tmp 43], argTypes := #[27, 27] }, type := 3, pos := "law.go:36", after := #[{ on := 16, ground := Ground.data }, { on := 17, ground := Ground.data }, { on := 15, ground := Ground.chain }, { on := 15, ground := Ground.guard }], guard := some (15, true) }) rfl (fun K hK => ?_) AllReadyH.nil
  go_simp
  (refine (HC1.out _ hHeld.2.2.2.2.2.2.2.2).mono ?_)
  rintro e wa ⟨rfl, HOa⟩
  go_wp2_with fail
  refine hK.out _ _ (both_of HA0.out HB0.out (HOa)) (fun hHeld => ?_)
  clear hK K
  (try simp only [Act.put, List.setIfInBounds_toArray, List.set_cons_zero, List.set_cons_succ])
  refine wpAnyH_ready (rs := [21]) (by kernel_rfl) (by simp) ?_
  refine AllReadyH.cons (o := { dst := some 47, op := Op.call { callee := Callee.value (Operand.func 24), args := #[Operand.tmp 45, Operand.tmp 46], argTypes := #[27, 27] }, type := 3, pos := "law.go:36", after := #[{ on := 19, ground := Ground.data }, { on := 20, ground := Ground.data }, { on := 18, ground := Ground.chain }, { on := 15, ground := Ground.guard }], guard := some (15, true) }) rfl (fun K hK => ?_) AllReadyH.nil
  go_simp
  (refine (HC2.out _ hHeld.2.2.2.2.2.2.2.2).mono ?_)
  rintro e wa ⟨rfl, HOa⟩
  go_wp2_with fail
  refine hK.out _ _ (both_of HA0.out HB0.out (HOa)) (fun hHeld => ?_)
  clear hK K
  (try simp only [Act.put, List.setIfInBounds_toArray, List.set_cons_zero, List.set_cons_succ])
  refine wpAnyH_take (i := 22) (oi := { dst := some 48, op := Op.binOp BinOp.eql 3 (Operand.tmp 44) (Operand.tmp 47) 3, type := 4, pos := "law.go:36", after := #[{ on := 18, ground := Ground.data }, { on := 21, ground := Ground.data }, { on := 15, ground := Ground.guard }], guard := some (15, true) }) (v := ?_) rfl (by kernel_rfl) (by kernel_rfl) (by kernel_rfl) (fun _ _ _ h => h) (Or.inl ⟨by rfl, ?_⟩) (by with_reducible assumption) ?_
  rotate_left
  · (intro w' hSw; (try dsimp only at hSw); first | (go_simp; done) | (go_simp; with_reducible rfl))
  (try simp only [Act.put, List.setIfInBounds_toArray, List.set_cons_zero, List.set_cons_succ])
  refine wpAnyH_take (i := 23) (oi := { dst := some 49, op := Op.pick (Operand.tmp 41) (Operand.tmp 48) (Operand.const (Value.bool false)), type := 4, pos := "law.go:36", after := #[{ on := 15, ground := Ground.data }, { on := 22, ground := Ground.data }], guard := none }) (v := ?_) rfl (by kernel_rfl) (by kernel_rfl) (by kernel_rfl) (fun _ _ _ h => h) (Or.inl ⟨by rfl, ?_⟩) (by with_reducible assumption) ?_
  rotate_left
  · (intro w' hSw; (try dsimp only at hSw); first | (go_simp; done) | (go_simp; with_reducible rfl))
  (try simp only [Act.put, List.setIfInBounds_toArray, List.set_cons_zero, List.set_cons_succ])
  refine wpAnyH_take (i := 24) (oi := { dst := some 9, op := Op.assign (Operand.tmp 49), type := 4, pos := "law.go:36", after := #[{ on := 23, ground := Ground.data }, { on := 21, ground := Ground.chain }, { on := 0, ground := Ground.phase }, { on := 1, ground := Ground.phase }, { on := 2, ground := Ground.phase }, { on := 3, ground := Ground.phase }, { on := 4, ground := Ground.phase }, { on := 5, ground := Ground.phase }, { on := 6, ground := Ground.phase }, { on := 7, ground := Ground.phase }, { on := 8, ground := Ground.phase }, { on := 9, ground := Ground.phase }, { on := 10, ground := Ground.phase }, { on := 11, ground := Ground.phase }, { on := 12, ground := Ground.phase }, { on := 13, ground := Ground.phase }, { on := 14, ground := Ground.phase }, { on := 15, ground := Ground.phase }, { on := 16, ground := Ground.phase }, { on := 17, ground := Ground.phase }, { on := 18, ground := Ground.phase }, { on := 19, ground := Ground.phase }, { on := 20, ground := Ground.phase }, { on := 21, ground := Ground.phase }, { on := 22, ground := Ground.phase }, { on := 23, ground := Ground.phase }], guard := none }) (v := ?_) rfl (by kernel_rfl) (by kernel_rfl) (by kernel_rfl) (fun _ _ _ h => h) (Or.inl ⟨by rfl, ?_⟩) (by with_reducible assumption) ?_
  rotate_left
  · (intro w' hSw; (try dsimp only at hSw); first | (go_simp; done) | (go_simp; with_reducible rfl))
  (try simp only [Act.put, List.setIfInBounds_toArray, List.set_cons_zero, List.set_cons_succ])
  refine wpAnyH_done (by kernel_rfl) ?_ _
  refine NoPanic.normal ?_
  have HN5 := hHeld.2.2.2.2.2.2.2.2
  clear hHeld
  go_wp2_with fail
  refine wp_region_noPanic ?_
  refine wp_region_held_drew (S := (fun u => u.cell? ⟨w.heap.size, 0, none⟩ = some (.int .i64 a.k) ∧ u.cell? ⟨w.heap.size, 1, none⟩ = some (.string a.x) ∧ u.cell? ⟨w.heap.size, 2, none⟩ = some (.string a.g) ∧ u.cell? ⟨w.heap.size, 3, none⟩ = some (.string a.y) ∧ u.cell? ⟨w.heap.size + 1, 0, none⟩ = some (.int .i64 b.k) ∧ u.cell? ⟨w.heap.size + 1, 1, none⟩ = some (.string b.x) ∧ u.cell? ⟨w.heap.size + 1, 2, none⟩ = some (.string b.g) ∧ u.cell? ⟨w.heap.size + 1, 3, none⟩ = some (.string b.y) ∧ StU w1 u)) (by kernel_rfl) (both_of HA0.out HB0.out (hid (HN5.out.drew))) (fun hHeld => ?_)
  refine wpAnyH_take (i := 0) (oi := { dst := some 50, op := Op.move (Operand.tmp 9), type := 4, pos := "law.go:37", after := #[], guard := none }) (v := ?_) rfl (by kernel_rfl) (by kernel_rfl) (by kernel_rfl) (fun _ _ _ h => h) (Or.inl ⟨by rfl, ?_⟩) (by with_reducible assumption) ?_
  rotate_left
  · (intro w' hSw; (try dsimp only at hSw); first | (go_simp; done) | (go_simp; with_reducible rfl))
  (try simp only [Act.put, List.setIfInBounds_toArray, List.set_cons_zero, List.set_cons_succ])
  refine wpAnyH_take (i := 1) (oi := { dst := some 51, op := Op.move (Operand.tmp 50), type := 4, pos := "law.go:37", after := #[{ on := 0, ground := Ground.data }], guard := none }) (v := ?_) rfl (by kernel_rfl) (by kernel_rfl) (by kernel_rfl) (fun _ _ _ h => h) (Or.inl ⟨by rfl, ?_⟩) (by with_reducible assumption) ?_
  rotate_left
  · (intro w' hSw; (try dsimp only at hSw); first | (go_simp; done) | (go_simp; with_reducible rfl))
  (try simp only [Act.put, List.setIfInBounds_toArray, List.set_cons_zero, List.set_cons_succ])
  refine wpAnyH_take (i := 2) (oi := { dst := some 52, op := Op.fieldAddr 27 (Operand.tmp 2) 1, type := 0, pos := "law.go:37", after := #[{ on := 1, ground := Ground.guard }], guard := some (1, true) }) (v := ?_) rfl (by kernel_rfl) (by kernel_rfl) (by kernel_rfl) (fun _ _ _ h => h) (Or.inl ⟨by rfl, ?_⟩) (by with_reducible assumption) ?_
  rotate_left
  · (intro w' hSw; (try dsimp only at hSw); first | (go_simp; done) | (go_simp; with_reducible rfl))
  (try simp only [Act.put, List.setIfInBounds_toArray, List.set_cons_zero, List.set_cons_succ])
  refine wpAnyH_take (i := 3) (oi := { dst := some 53, op := Op.load 9 (Operand.tmp 52), type := 9, pos := "law.go:37", after := #[{ on := 2, ground := Ground.data }, { on := 1, ground := Ground.guard }], guard := some (1, true) }) (v := ?_) rfl (by kernel_rfl) (by kernel_rfl) (by kernel_rfl) (fun _ _ _ h => h) (Or.inl ⟨by rfl, ?_⟩) (by with_reducible assumption) ?_
  rotate_left
  · (intro w' hSw; (try dsimp only at hSw); first | (go_simp; done) | (go_simp; with_reducible rfl))
  (try simp only [Act.put, List.setIfInBounds_toArray, List.set_cons_zero, List.set_cons_succ])
  refine wpAnyH_take (i := 4) (oi := { dst := some 54, op := Op.fieldAddr 27 (Operand.tmp 3) 1, type := 0, pos := "law.go:37", after := #[{ on := 1, ground := Ground.guard }], guard := some (1, true) }) (v := ?_) rfl (by kernel_rfl) (by kernel_rfl) (by kernel_rfl) (fun _ _ _ h => h) (Or.inl ⟨by rfl, ?_⟩) (by with_reducible assumption) ?_
  rotate_left
  · (intro w' hSw; (try dsimp only at hSw); first | (go_simp; done) | (go_simp; with_reducible rfl))
  (try simp only [Act.put, List.setIfInBounds_toArray, List.set_cons_zero, List.set_cons_succ])
  refine wpAnyH_take (i := 5) (oi := { dst := some 55, op := Op.load 9 (Operand.tmp 54), type := 9, pos := "law.go:37", after := #[{ on := 4, ground := Ground.data }, { on := 1, ground := Ground.guard }], guard := some (1, true) }) (v := ?_) rfl (by kernel_rfl) (by kernel_rfl) (by kernel_rfl) (fun _ _ _ h => h) (Or.inl ⟨by rfl, ?_⟩) (by with_reducible assumption) ?_
  rotate_left
  · (intro w' hSw; (try dsimp only at hSw); first | (go_simp; done) | (go_simp; with_reducible rfl))
  (try simp only [Act.put, List.setIfInBounds_toArray, List.set_cons_zero, List.set_cons_succ])
  refine wpAnyH_take (i := 7) (oi := { dst := some 57, op := Op.fieldAddr 27 (Operand.tmp 2) 1, type := 0, pos := "law.go:37", after := #[{ on := 1, ground := Ground.guard }], guard := some (1, true) }) (v := ?_) rfl (by kernel_rfl) (by kernel_rfl) (by kernel_rfl) (fun _ _ _ h => h) (Or.inl ⟨by rfl, ?_⟩) (by with_reducible assumption) ?_
  rotate_left
  · (intro w' hSw; (try dsimp only at hSw); first | (go_simp; done) | (go_simp; with_reducible rfl))
  (try simp only [Act.put, List.setIfInBounds_toArray, List.set_cons_zero, List.set_cons_succ])
  refine wpAnyH_take (i := 8) (oi := { dst := some 58, op := Op.load 9 (Operand.tmp 57), type := 9, pos := "law.go:37", after := #[{ on := 7, ground := Ground.data }, { on := 1, ground := Ground.guard }], guard := some (1, true) }) (v := ?_) rfl (by kernel_rfl) (by kernel_rfl) (by kernel_rfl) (fun _ _ _ h => h) (Or.inl ⟨by rfl, ?_⟩) (by with_reducible assumption) ?_
  rotate_left
  · (intro w' hSw; (try dsimp only at hSw); first | (go_simp; done) | (go_simp; with_reducible rfl))
  (try simp only [Act.put, List.setIfInBounds_toArray, List.set_cons_zero, List.set_cons_succ])
  refine wpAnyH_take (i := 9) (oi := { dst := some 59, op := Op.fieldAddr 27 (Operand.tmp 3) 1, type := 0, pos := "law.go:37", after := #[{ on := 1, ground := Ground.guard }], guard := some (1, true) }) (v := ?_) rfl (by kernel_rfl) (by kernel_rfl) (by kernel_rfl) (fun _ _ _ h => h) (Or.inl ⟨by rfl, ?_⟩) (by with_reducible assumption) ?_
  rotate_left
  · (intro w' hSw; (try dsimp only at hSw); first | (go_simp; done) | (go_simp; with_reducible rfl))
  (try simp only [Act.put, List.setIfInBounds_toArray, List.set_cons_zero, List.set_cons_succ])
  refine wpAnyH_take (i := 10) (oi := { dst := some 60, op := Op.load 9 (Operand.tmp 59), type := 9, pos := "law.go:37", after := #[{ on := 9, ground := Ground.data }, { on := 1, ground := Ground.guard }], guard := some (1, true) }) (v := ?_) rfl (by kernel_rfl) (by kernel_rfl) (by kernel_rfl) (fun _ _ _ h => h) (Or.inl ⟨by rfl, ?_⟩) (by with_reducible assumption) ?_
  rotate_left
  · (intro w' hSw; (try dsimp only at hSw); first | (go_simp; done) | (go_simp; with_reducible rfl))
  (try simp only [Act.put, List.setIfInBounds_toArray, List.set_cons_zero, List.set_cons_succ])
  refine wpAnyH_ready (rs := [6]) (by kernel_rfl) (by simp) ?_
  refine AllReadyH.cons (o := { dst := some 56, op := Op.call { callee := Callee.value (Operand.func 11), args := #[Operand.tmp 53, Operand.tmp 55], argTypes := #[9, 9] }, type := 27, pos := "law.go:37", after := #[{ on := 3, ground := Ground.data }, { on := 5, ground := Ground.data }, { on := 1, ground := Ground.chain }, { on := 1, ground := Ground.guard }], guard := some (1, true) }) rfl (fun K hK => ?_) AllReadyH.nil
  go_simp
  (refine (HG1.out _ hHeld.2.2.2.2.2.2.2.2).mono ?_)
  rintro e wa ⟨rfl, HOa⟩
  go_wp2_with fail
  refine hK.out _ _ (both_of HA0.out HB0.out (HOa)) (fun hHeld => ?_)
  clear hK K
  (try simp only [Act.put, List.setIfInBounds_toArray, List.set_cons_zero, List.set_cons_succ])
  refine wpAnyH_ready (rs := [11]) (by kernel_rfl) (by simp) ?_
  refine AllReadyH.cons (o := { dst := some 61, op := Op.call { callee := Callee.value (Operand.func 25), args := #[Operand.tmp 58, Operand.tmp 60], argTypes := #[9, 9] }, type := 27, pos := "law.go:37", after := #[{ on := 8, ground := Ground.data }, { on := 10, ground := Ground.data }, { on := 6, ground := Ground.chain }, { on := 1, ground := Ground.guard }], guard := some (1, true) }) rfl (fun K hK => ?_) AllReadyH.nil
  go_simp
  (refine (HG2.out _ hHeld.2.2.2.2.2.2.2.2).mono ?_)
  rintro e wa ⟨rfl, HOa⟩
  go_wp2_with fail
  refine hK.out _ _ (both_of HA0.out HB0.out (HOa)) (fun hHeld => ?_)
  clear hK K
  (try simp only [Act.put, List.setIfInBounds_toArray, List.set_cons_zero, List.set_cons_succ])
  refine wpAnyH_take (i := 12) (oi := { dst := some 62, op := Op.binOp BinOp.eql 27 (Operand.tmp 56) (Operand.tmp 61) 27, type := 4, pos := "law.go:37", after := #[{ on := 6, ground := Ground.data }, { on := 11, ground := Ground.data }, { on := 1, ground := Ground.guard }], guard := some (1, true) }) (v := ?_) rfl (by kernel_rfl) (by kernel_rfl) (by kernel_rfl) (fun _ _ _ h => h) (Or.inl ⟨by rfl, ?_⟩) (by with_reducible assumption) ?_
  rotate_left
  · (intro w' hSw; (try dsimp only at hSw); first | (go_simp; done) | (go_simp; with_reducible rfl))
  (try simp only [Act.put, List.setIfInBounds_toArray, List.set_cons_zero, List.set_cons_succ])
  refine wpAnyH_take (i := 13) (oi := { dst := some 63, op := Op.pick (Operand.tmp 51) (Operand.tmp 62) (Operand.const (Value.bool false)), type := 4, pos := "law.go:37", after := #[{ on := 1, ground := Ground.data }, { on := 12, ground := Ground.data }], guard := none }) (v := ?_) rfl (by kernel_rfl) (by kernel_rfl) (by kernel_rfl) (fun _ _ _ h => h) (Or.inl ⟨by rfl, ?_⟩) (by with_reducible assumption) ?_
  rotate_left
  · (intro w' hSw; (try dsimp only at hSw); first | (go_simp; done) | (go_simp; with_reducible rfl))
  (try simp only [Act.put, List.setIfInBounds_toArray, List.set_cons_zero, List.set_cons_succ])
  refine wpAnyH_take (i := 14) (oi := { dst := some 64, op := Op.move (Operand.tmp 63), type := 4, pos := "law.go:37", after := #[{ on := 13, ground := Ground.data }, { on := 11, ground := Ground.chain }], guard := none }) (v := ?_) rfl (by kernel_rfl) (by kernel_rfl) (by kernel_rfl) (fun _ _ _ h => h) (Or.inl ⟨by rfl, ?_⟩) (by with_reducible assumption) ?_
  rotate_left
  · (intro w' hSw; (try dsimp only at hSw); first | (go_simp; done) | (go_simp; with_reducible rfl))
  (try simp only [Act.put, List.setIfInBounds_toArray, List.set_cons_zero, List.set_cons_succ])
  refine wpAnyH_take (i := 15) (oi := { dst := some 65, op := Op.fieldAddr 27 (Operand.tmp 2) 1, type := 0, pos := "law.go:37", after := #[{ on := 14, ground := Ground.guard }], guard := some (14, true) }) (v := ?_) rfl (by kernel_rfl) (by kernel_rfl) (by kernel_rfl) (fun _ _ _ h => h) (Or.inl ⟨by rfl, ?_⟩) (by with_reducible assumption) ?_
  rotate_left
  · (intro w' hSw; (try dsimp only at hSw); first | (go_simp; done) | (go_simp; with_reducible rfl))
  (try simp only [Act.put, List.setIfInBounds_toArray, List.set_cons_zero, List.set_cons_succ])
  refine wpAnyH_take (i := 16) (oi := { dst := some 66, op := Op.load 9 (Operand.tmp 65), type := 9, pos := "law.go:37", after := #[{ on := 15, ground := Ground.data }, { on := 14, ground := Ground.guard }], guard := some (14, true) }) (v := ?_) rfl (by kernel_rfl) (by kernel_rfl) (by kernel_rfl) (fun _ _ _ h => h) (Or.inl ⟨by rfl, ?_⟩) (by with_reducible assumption) ?_
  rotate_left
  · (intro w' hSw; (try dsimp only at hSw); first | (go_simp; done) | (go_simp; with_reducible rfl))
  (try simp only [Act.put, List.setIfInBounds_toArray, List.set_cons_zero, List.set_cons_succ])
  refine wpAnyH_take (i := 17) (oi := { dst := some 67, op := Op.fieldAddr 27 (Operand.tmp 3) 1, type := 0, pos := "law.go:37", after := #[{ on := 14, ground := Ground.guard }], guard := some (14, true) }) (v := ?_) rfl (by kernel_rfl) (by kernel_rfl) (by kernel_rfl) (fun _ _ _ h => h) (Or.inl ⟨by rfl, ?_⟩) (by with_reducible assumption) ?_
  rotate_left
  · (intro w' hSw; (try dsimp only at hSw); first | (go_simp; done) | (go_simp; with_reducible rfl))
  (try simp only [Act.put, List.setIfInBounds_toArray, List.set_cons_zero, List.set_cons_succ])
  refine wpAnyH_take (i := 18) (oi := { dst := some 68, op := Op.load 9 (Operand.tmp 67), type := 9, pos := "law.go:37", after := #[{ on := 17, ground := Ground.data }, { on := 14, ground := Ground.guard }], guard := some (14, true) }) (v := ?_) rfl (by kernel_rfl) (by kernel_rfl) (by kernel_rfl) (fun _ _ _ h => h) (Or.inl ⟨by rfl, ?_⟩) (by with_reducible assumption) ?_
  rotate_left
  · (intro w' hSw; (try dsimp only at hSw); first | (go_simp; done) | (go_simp; with_reducible rfl))
  (try simp only [Act.put, List.setIfInBounds_toArray, List.set_cons_zero, List.set_cons_succ])
  refine wpAnyH_take (i := 20) (oi := { dst := some 70, op := Op.fieldAddr 27 (Operand.tmp 2) 1, type := 0, pos := "law.go:37", after := #[{ on := 14, ground := Ground.guard }], guard := some (14, true) }) (v := ?_) rfl (by kernel_rfl) (by kernel_rfl) (by kernel_rfl) (fun _ _ _ h => h) (Or.inl ⟨by rfl, ?_⟩) (by with_reducible assumption) ?_
  rotate_left
  · (intro w' hSw; (try dsimp only at hSw); first | (go_simp; done) | (go_simp; with_reducible rfl))
  (try simp only [Act.put, List.setIfInBounds_toArray, List.set_cons_zero, List.set_cons_succ])
  refine wpAnyH_take (i := 21) (oi := { dst := some 71, op := Op.load 9 (Operand.tmp 70), type := 9, pos := "law.go:37", after := #[{ on := 20, ground := Ground.data }, { on := 14, ground := Ground.guard }], guard := some (14, true) }) (v := ?_) rfl (by kernel_rfl) (by kernel_rfl) (by kernel_rfl) (fun _ _ _ h => h) (Or.inl ⟨by rfl, ?_⟩) (by with_reducible assumption) ?_
  rotate_left
  · (intro w' hSw; (try dsimp only at hSw); first | (go_simp; done) | (go_simp; with_reducible rfl))
  (try simp only [Act.put, List.setIfInBounds_toArray, List.set_cons_zero, List.set_cons_succ])
  refine wpAnyH_take (i := 22) (oi := { dst := some 72, op := Op.fieldAddr 27 (Operand.tmp 3) 1, type := 0, pos := "law.go:37", after := #[{ on := 14, ground := Ground.guard }], guard := some (14, true) }) (v := ?_) rfl (by kernel_rfl) (by kernel_rfl) (by kernel_rfl) (fun _ _ _ h => h) (Or.inl ⟨by rfl, ?_⟩) (by with_reducible assumption) ?_
  rotate_left
  · (intro w' hSw; (try dsimp only at hSw); first | (go_simp; done) | (go_simp; with_reducible rfl))
  (try simp only [Act.put, List.setIfInBounds_toArray, List.set_cons_zero, List.set_cons_succ])
  refine wpAnyH_take (i := 23) (oi := { dst := some 73, op := Op.load 9 (Operand.tmp 72), type := 9, pos := "law.go:37", after := #[{ on := 22, ground := Ground.data }, { on := 14, ground := Ground.guard }], guard := some (14, true) }) (v := ?_) rfl (by kernel_rfl) (by kernel_rfl) (by kernel_rfl) (fun _ _ _ h => h) (Or.inl ⟨by rfl, ?_⟩) (by with_reducible assumption) ?_
  rotate_left
  · (intro w' hSw; (try dsimp only at hSw); first | (go_simp; done) | (go_simp; with_reducible rfl))
  (try simp only [Act.put, List.setIfInBounds_toArray, List.set_cons_zero, List.set_cons_succ])
  refine wpAnyH_ready (rs := [19]) (by kernel_rfl) (by simp) ?_
  refine AllReadyH.cons (o := { dst := some 69, op := Op.call { callee := Callee.value (Operand.func 12), args := #[Operand.tmp 66, Operand.tmp 68], argTypes := #[9, 9] }, type := 27, pos := "law.go:37", after := #[{ on := 16, ground := Ground.data }, { on := 18, ground := Ground.data }, { on := 14, ground := Ground.chain }, { on := 14, ground := Ground.guard }], guard := some (14, true) }) rfl (fun K hK => ?_) AllReadyH.nil
  go_simp
  (refine (HY1.out _ hHeld.2.2.2.2.2.2.2.2).mono ?_)
  rintro e wa ⟨rfl, HOa⟩
  go_wp2_with fail
  refine hK.out _ _ (both_of HA0.out HB0.out (HOa)) (fun hHeld => ?_)
  clear hK K
  (try simp only [Act.put, List.setIfInBounds_toArray, List.set_cons_zero, List.set_cons_succ])
  refine wpAnyH_ready (rs := [24]) (by kernel_rfl) (by simp) ?_
  refine AllReadyH.cons (o := { dst := some 74, op := Op.call { callee := Callee.value (Operand.func 26), args := #[Operand.tmp 71, Operand.tmp 73], argTypes := #[9, 9] }, type := 27, pos := "law.go:37", after := #[{ on := 21, ground := Ground.data }, { on := 23, ground := Ground.data }, { on := 19, ground := Ground.chain }, { on := 14, ground := Ground.guard }], guard := some (14, true) }) rfl (fun K hK => ?_) AllReadyH.nil
  go_simp
  (refine (HY2.out _ hHeld.2.2.2.2.2.2.2.2).mono ?_)
  rintro e wa ⟨rfl, HOa⟩
  go_wp2_with fail
  refine hK.out _ _ (both_of HA0.out HB0.out (HOa)) (fun hHeld => ?_)
  clear hK K
  (try simp only [Act.put, List.setIfInBounds_toArray, List.set_cons_zero, List.set_cons_succ])
  refine wpAnyH_take (i := 25) (oi := { dst := some 75, op := Op.binOp BinOp.eql 27 (Operand.tmp 69) (Operand.tmp 74) 27, type := 4, pos := "law.go:37", after := #[{ on := 19, ground := Ground.data }, { on := 24, ground := Ground.data }, { on := 14, ground := Ground.guard }], guard := some (14, true) }) (v := ?_) rfl (by kernel_rfl) (by kernel_rfl) (by kernel_rfl) (fun _ _ _ h => h) (Or.inl ⟨by rfl, ?_⟩) (by with_reducible assumption) ?_
  rotate_left
  · (intro w' hSw; (try dsimp only at hSw); first | (go_simp; done) | (go_simp; with_reducible rfl))
  (try simp only [Act.put, List.setIfInBounds_toArray, List.set_cons_zero, List.set_cons_succ])
  refine wpAnyH_take (i := 26) (oi := { dst := some 76, op := Op.pick (Operand.tmp 64) (Operand.tmp 75) (Operand.const (Value.bool false)), type := 4, pos := "law.go:37", after := #[{ on := 14, ground := Ground.data }, { on := 25, ground := Ground.data }], guard := none }) (v := ?_) rfl (by kernel_rfl) (by kernel_rfl) (by kernel_rfl) (fun _ _ _ h => h) (Or.inl ⟨by rfl, ?_⟩) (by with_reducible assumption) ?_
  rotate_left
  · (intro w' hSw; (try dsimp only at hSw); first | (go_simp; done) | (go_simp; with_reducible rfl))
  (try simp only [Act.put, List.setIfInBounds_toArray, List.set_cons_zero, List.set_cons_succ])
  refine wpAnyH_take (i := 27) (oi := { dst := some 9, op := Op.assign (Operand.tmp 76), type := 4, pos := "law.go:37", after := #[{ on := 26, ground := Ground.data }, { on := 24, ground := Ground.chain }, { on := 0, ground := Ground.phase }, { on := 1, ground := Ground.phase }, { on := 2, ground := Ground.phase }, { on := 3, ground := Ground.phase }, { on := 4, ground := Ground.phase }, { on := 5, ground := Ground.phase }, { on := 6, ground := Ground.phase }, { on := 7, ground := Ground.phase }, { on := 8, ground := Ground.phase }, { on := 9, ground := Ground.phase }, { on := 10, ground := Ground.phase }, { on := 11, ground := Ground.phase }, { on := 12, ground := Ground.phase }, { on := 13, ground := Ground.phase }, { on := 14, ground := Ground.phase }, { on := 15, ground := Ground.phase }, { on := 16, ground := Ground.phase }, { on := 17, ground := Ground.phase }, { on := 18, ground := Ground.phase }, { on := 19, ground := Ground.phase }, { on := 20, ground := Ground.phase }, { on := 21, ground := Ground.phase }, { on := 22, ground := Ground.phase }, { on := 23, ground := Ground.phase }, { on := 24, ground := Ground.phase }, { on := 25, ground := Ground.phase }, { on := 26, ground := Ground.phase }], guard := none }) (v := ?_) rfl (by kernel_rfl) (by kernel_rfl) (by kernel_rfl) (fun _ _ _ h => h) (Or.inl ⟨by rfl, ?_⟩) (by with_reducible assumption) ?_
  rotate_left
  · (intro w' hSw; (try dsimp only at hSw); first | (go_simp; done) | (go_simp; with_reducible rfl))
  (try simp only [Act.put, List.setIfInBounds_toArray, List.set_cons_zero, List.set_cons_succ])
  refine wpAnyH_done (by kernel_rfl) ?_ _
  refine NoPanic.normal ?_
  have HN6 := hHeld.2.2.2.2.2.2.2.2
  clear hHeld
  go_wp2_with fail
  refine wp_region_noPanic ?_
  refine wp_region_held_drew (S := (fun u => u.cell? ⟨w.heap.size, 0, none⟩ = some (.int .i64 a.k) ∧ u.cell? ⟨w.heap.size, 1, none⟩ = some (.string a.x) ∧ u.cell? ⟨w.heap.size, 2, none⟩ = some (.string a.g) ∧ u.cell? ⟨w.heap.size, 3, none⟩ = some (.string a.y) ∧ u.cell? ⟨w.heap.size + 1, 0, none⟩ = some (.int .i64 b.k) ∧ u.cell? ⟨w.heap.size + 1, 1, none⟩ = some (.string b.x) ∧ u.cell? ⟨w.heap.size + 1, 2, none⟩ = some (.string b.g) ∧ u.cell? ⟨w.heap.size + 1, 3, none⟩ = some (.string b.y) ∧ StU w1 u)) (by kernel_rfl) (both_of HA0.out HB0.out (hid (HN6.out.drew))) (fun hHeld => ?_)
  refine wpAnyH_take (i := 0) (oi := { dst := some 77, op := Op.move (Operand.tmp 9), type := 4, pos := "law.go:38", after := #[], guard := none }) (v := ?_) rfl (by kernel_rfl) (by kernel_rfl) (by kernel_rfl) (fun _ _ _ h => h) (Or.inl ⟨by rfl, ?_⟩) (by with_reducible assumption) ?_
  rotate_left
  · (intro w' hSw; (try dsimp only at hSw); first | (go_simp; done) | (go_simp; with_reducible rfl))
  (try simp only [Act.put, List.setIfInBounds_toArray, List.set_cons_zero, List.set_cons_succ])
  refine wpAnyH_take (i := 1) (oi := { dst := some 78, op := Op.move (Operand.tmp 77), type := 4, pos := "law.go:38", after := #[{ on := 0, ground := Ground.data }], guard := none }) (v := ?_) rfl (by kernel_rfl) (by kernel_rfl) (by kernel_rfl) (fun _ _ _ h => h) (Or.inl ⟨by rfl, ?_⟩) (by with_reducible assumption) ?_
  rotate_left
  · (intro w' hSw; (try dsimp only at hSw); first | (go_simp; done) | (go_simp; with_reducible rfl))
  (try simp only [Act.put, List.setIfInBounds_toArray, List.set_cons_zero, List.set_cons_succ])
  refine wpAnyH_take (i := 2) (oi := { dst := some 79, op := Op.fieldAddr 27 (Operand.tmp 2) 1, type := 0, pos := "law.go:38", after := #[{ on := 1, ground := Ground.guard }], guard := some (1, true) }) (v := ?_) rfl (by kernel_rfl) (by kernel_rfl) (by kernel_rfl) (fun _ _ _ h => h) (Or.inl ⟨by rfl, ?_⟩) (by with_reducible assumption) ?_
  rotate_left
  · (intro w' hSw; (try dsimp only at hSw); first | (go_simp; done) | (go_simp; with_reducible rfl))
  (try simp only [Act.put, List.setIfInBounds_toArray, List.set_cons_zero, List.set_cons_succ])
  refine wpAnyH_take (i := 3) (oi := { dst := some 80, op := Op.load 9 (Operand.tmp 79), type := 9, pos := "law.go:38", after := #[{ on := 2, ground := Ground.data }, { on := 1, ground := Ground.guard }], guard := some (1, true) }) (v := ?_) rfl (by kernel_rfl) (by kernel_rfl) (by kernel_rfl) (fun _ _ _ h => h) (Or.inl ⟨by rfl, ?_⟩) (by with_reducible assumption) ?_
  rotate_left
  · (intro w' hSw; (try dsimp only at hSw); first | (go_simp; done) | (go_simp; with_reducible rfl))
  (try simp only [Act.put, List.setIfInBounds_toArray, List.set_cons_zero, List.set_cons_succ])
  refine wpAnyH_take (i := 5) (oi := { dst := some 82, op := Op.fieldAddr 27 (Operand.tmp 2) 1, type := 0, pos := "law.go:38", after := #[{ on := 1, ground := Ground.guard }], guard := some (1, true) }) (v := ?_) rfl (by kernel_rfl) (by kernel_rfl) (by kernel_rfl) (fun _ _ _ h => h) (Or.inl ⟨by rfl, ?_⟩) (by with_reducible assumption) ?_
  rotate_left
  · (intro w' hSw; (try dsimp only at hSw); first | (go_simp; done) | (go_simp; with_reducible rfl))
  (try simp only [Act.put, List.setIfInBounds_toArray, List.set_cons_zero, List.set_cons_succ])
  refine wpAnyH_take (i := 6) (oi := { dst := some 83, op := Op.load 9 (Operand.tmp 82), type := 9, pos := "law.go:38", after := #[{ on := 5, ground := Ground.data }, { on := 1, ground := Ground.guard }], guard := some (1, true) }) (v := ?_) rfl (by kernel_rfl) (by kernel_rfl) (by kernel_rfl) (fun _ _ _ h => h) (Or.inl ⟨by rfl, ?_⟩) (by with_reducible assumption) ?_
  rotate_left
  · (intro w' hSw; (try dsimp only at hSw); first | (go_simp; done) | (go_simp; with_reducible rfl))
  (try simp only [Act.put, List.setIfInBounds_toArray, List.set_cons_zero, List.set_cons_succ])
  refine wpAnyH_take (i := 7) (oi := { dst := some 84, op := Op.build 27 #[(0, Operand.const (Value.int IntKind.i64 1)), (1, Operand.tmp 83)], type := 27, pos := "law.go:38", after := #[{ on := 6, ground := Ground.data }, { on := 1, ground := Ground.guard }], guard := some (1, true) }) (v := ?_) rfl (by kernel_rfl) (by kernel_rfl) (by kernel_rfl) (fun _ _ _ h => h) (Or.inl ⟨by rfl, ?_⟩) (by with_reducible assumption) ?_
  rotate_left
  · (intro w' hSw; (try dsimp only at hSw); first | (go_simp; done) | (go_simp; with_reducible rfl))
  (try simp only [Act.put, List.setIfInBounds_toArray, List.set_cons_zero, List.set_cons_succ])
  refine wpAnyH_ready (rs := [4]) (by kernel_rfl) (by simp) ?_
  refine AllReadyH.cons (o := { dst := some 81, op := Op.call { callee := Callee.value (Operand.func 8), args := #[Operand.tmp 80], argTypes := #[9] }, type := 27, pos := "law.go:38", after := #[{ on := 3, ground := Ground.data }, { on := 1, ground := Ground.chain }, { on := 1, ground := Ground.guard }], guard := some (1, true) }) rfl (fun K hK => ?_) AllReadyH.nil
  go_simp
  (refine (HK1.out _ hHeld.2.2.2.2.2.2.2.2).mono ?_)
  rintro e wa ⟨rfl, HOa⟩
  go_wp2_with fail
  refine hK.out _ _ (both_of HA0.out HB0.out (HOa)) (fun hHeld => ?_)
  clear hK K
  (try simp only [Act.put, List.setIfInBounds_toArray, List.set_cons_zero, List.set_cons_succ])
  refine wpAnyH_take (i := 8) (oi := { dst := some 85, op := Op.binOp BinOp.eql 27 (Operand.tmp 81) (Operand.tmp 84) 27, type := 4, pos := "law.go:38", after := #[{ on := 4, ground := Ground.data }, { on := 7, ground := Ground.data }, { on := 1, ground := Ground.guard }], guard := some (1, true) }) (v := ?_) rfl (by kernel_rfl) (by kernel_rfl) (by kernel_rfl) (fun _ _ _ h => h) (Or.inl ⟨by rfl, ?_⟩) (by with_reducible assumption) ?_
  rotate_left
  · (intro w' hSw; (try dsimp only at hSw); first | (go_simp; done) | (go_simp; with_reducible rfl))
  (try simp only [Act.put, List.setIfInBounds_toArray, List.set_cons_zero, List.set_cons_succ])
  refine wpAnyH_take (i := 9) (oi := { dst := some 86, op := Op.pick (Operand.tmp 78) (Operand.tmp 85) (Operand.const (Value.bool false)), type := 4, pos := "law.go:38", after := #[{ on := 1, ground := Ground.data }, { on := 8, ground := Ground.data }], guard := none }) (v := ?_) rfl (by kernel_rfl) (by kernel_rfl) (by kernel_rfl) (fun _ _ _ h => h) (Or.inl ⟨by rfl, ?_⟩) (by with_reducible assumption) ?_
  rotate_left
  · (intro w' hSw; (try dsimp only at hSw); first | (go_simp; done) | (go_simp; with_reducible rfl))
  (try simp only [Act.put, List.setIfInBounds_toArray, List.set_cons_zero, List.set_cons_succ])
  refine wpAnyH_take (i := 10) (oi := { dst := some 87, op := Op.move (Operand.tmp 86), type := 4, pos := "law.go:38", after := #[{ on := 9, ground := Ground.data }, { on := 4, ground := Ground.chain }], guard := none }) (v := ?_) rfl (by kernel_rfl) (by kernel_rfl) (by kernel_rfl) (fun _ _ _ h => h) (Or.inl ⟨by rfl, ?_⟩) (by with_reducible assumption) ?_
  rotate_left
  · (intro w' hSw; (try dsimp only at hSw); first | (go_simp; done) | (go_simp; with_reducible rfl))
  (try simp only [Act.put, List.setIfInBounds_toArray, List.set_cons_zero, List.set_cons_succ])
  refine wpAnyH_take (i := 11) (oi := { dst := some 88, op := Op.fieldAddr 27 (Operand.tmp 2) 1, type := 0, pos := "law.go:38", after := #[{ on := 10, ground := Ground.guard }], guard := some (10, true) }) (v := ?_) rfl (by kernel_rfl) (by kernel_rfl) (by kernel_rfl) (fun _ _ _ h => h) (Or.inl ⟨by rfl, ?_⟩) (by with_reducible assumption) ?_
  rotate_left
  · (intro w' hSw; (try dsimp only at hSw); first | (go_simp; done) | (go_simp; with_reducible rfl))
  (try simp only [Act.put, List.setIfInBounds_toArray, List.set_cons_zero, List.set_cons_succ])
  refine wpAnyH_take (i := 12) (oi := { dst := some 89, op := Op.load 9 (Operand.tmp 88), type := 9, pos := "law.go:38", after := #[{ on := 11, ground := Ground.data }, { on := 10, ground := Ground.guard }], guard := some (10, true) }) (v := ?_) rfl (by kernel_rfl) (by kernel_rfl) (by kernel_rfl) (fun _ _ _ h => h) (Or.inl ⟨by rfl, ?_⟩) (by with_reducible assumption) ?_
  rotate_left
  · (intro w' hSw; (try dsimp only at hSw); first | (go_simp; done) | (go_simp; with_reducible rfl))
  (try simp only [Act.put, List.setIfInBounds_toArray, List.set_cons_zero, List.set_cons_succ])
  refine wpAnyH_take (i := 14) (oi := { dst := some 91, op := Op.fieldAddr 27 (Operand.tmp 2) 1, type := 0, pos := "law.go:38", after := #[{ on := 10, ground := Ground.guard }], guard := some (10, true) }) (v := ?_) rfl (by kernel_rfl) (by kernel_rfl) (by kernel_rfl) (fun _ _ _ h => h) (Or.inl ⟨by rfl, ?_⟩) (by with_reducible assumption) ?_
  rotate_left
  · (intro w' hSw; (try dsimp only at hSw); first | (go_simp; done) | (go_simp; with_reducible rfl))
  (try simp only [Act.put, List.setIfInBounds_toArray, List.set_cons_zero, List.set_cons_succ])
  refine wpAnyH_take (i := 15) (oi := { dst := some 92, op := Op.load 9 (Operand.tmp 91), type := 9, pos := "law.go:38", after := #[{ on := 14, ground := Ground.data }, { on := 10, ground := Ground.guard }], guard := some (10, true) }) (v := ?_) rfl (by kernel_rfl) (by kernel_rfl) (by kernel_rfl) (fun _ _ _ h => h) (Or.inl ⟨by rfl, ?_⟩) (by with_reducible assumption) ?_
  rotate_left
  · (intro w' hSw; (try dsimp only at hSw); first | (go_simp; done) | (go_simp; with_reducible rfl))
  (try simp only [Act.put, List.setIfInBounds_toArray, List.set_cons_zero, List.set_cons_succ])
  refine wpAnyH_take (i := 16) (oi := { dst := some 93, op := Op.build 27 #[(0, Operand.const (Value.int IntKind.i64 2)), (1, Operand.tmp 92)], type := 27, pos := "law.go:38", after := #[{ on := 15, ground := Ground.data }, { on := 10, ground := Ground.guard }], guard := some (10, true) }) (v := ?_) rfl (by kernel_rfl) (by kernel_rfl) (by kernel_rfl) (fun _ _ _ h => h) (Or.inl ⟨by rfl, ?_⟩) (by with_reducible assumption) ?_
  rotate_left
  · (intro w' hSw; (try dsimp only at hSw); first | (go_simp; done) | (go_simp; with_reducible rfl))
  (try simp only [Act.put, List.setIfInBounds_toArray, List.set_cons_zero, List.set_cons_succ])
  refine wpAnyH_ready (rs := [13]) (by kernel_rfl) (by simp) ?_
  refine AllReadyH.cons (o := { dst := some 90, op := Op.call { callee := Callee.value (Operand.func 9), args := #[Operand.tmp 89], argTypes := #[9] }, type := 27, pos := "law.go:38", after := #[{ on := 12, ground := Ground.data }, { on := 10, ground := Ground.chain }, { on := 10, ground := Ground.guard }], guard := some (10, true) }) rfl (fun K hK => ?_) AllReadyH.nil
  go_simp
  (refine (HK2.out _ hHeld.2.2.2.2.2.2.2.2).mono ?_)
  rintro e wa ⟨rfl, HOa⟩
  go_wp2_with fail
  refine hK.out _ _ (both_of HA0.out HB0.out (HOa)) (fun hHeld => ?_)
  clear hK K
  (try simp only [Act.put, List.setIfInBounds_toArray, List.set_cons_zero, List.set_cons_succ])
  refine wpAnyH_take (i := 17) (oi := { dst := some 94, op := Op.binOp BinOp.eql 27 (Operand.tmp 90) (Operand.tmp 93) 27, type := 4, pos := "law.go:38", after := #[{ on := 13, ground := Ground.data }, { on := 16, ground := Ground.data }, { on := 10, ground := Ground.guard }], guard := some (10, true) }) (v := ?_) rfl (by kernel_rfl) (by kernel_rfl) (by kernel_rfl) (fun _ _ _ h => h) (Or.inl ⟨by rfl, ?_⟩) (by with_reducible assumption) ?_
  rotate_left
  · (intro w' hSw; (try dsimp only at hSw); first | (go_simp; done) | (go_simp; with_reducible rfl))
  (try simp only [Act.put, List.setIfInBounds_toArray, List.set_cons_zero, List.set_cons_succ])
  refine wpAnyH_take (i := 18) (oi := { dst := some 95, op := Op.pick (Operand.tmp 87) (Operand.tmp 94) (Operand.const (Value.bool false)), type := 4, pos := "law.go:38", after := #[{ on := 10, ground := Ground.data }, { on := 17, ground := Ground.data }], guard := none }) (v := ?_) rfl (by kernel_rfl) (by kernel_rfl) (by kernel_rfl) (fun _ _ _ h => h) (Or.inl ⟨by rfl, ?_⟩) (by with_reducible assumption) ?_
  rotate_left
  · (intro w' hSw; (try dsimp only at hSw); first | (go_simp; done) | (go_simp; with_reducible rfl))
  (try simp only [Act.put, List.setIfInBounds_toArray, List.set_cons_zero, List.set_cons_succ])
  refine wpAnyH_take (i := 19) (oi := { dst := some 9, op := Op.assign (Operand.tmp 95), type := 4, pos := "law.go:38", after := #[{ on := 18, ground := Ground.data }, { on := 13, ground := Ground.chain }, { on := 0, ground := Ground.phase }, { on := 1, ground := Ground.phase }, { on := 2, ground := Ground.phase }, { on := 3, ground := Ground.phase }, { on := 4, ground := Ground.phase }, { on := 5, ground := Ground.phase }, { on := 6, ground := Ground.phase }, { on := 7, ground := Ground.phase }, { on := 8, ground := Ground.phase }, { on := 9, ground := Ground.phase }, { on := 10, ground := Ground.phase }, { on := 11, ground := Ground.phase }, { on := 12, ground := Ground.phase }, { on := 13, ground := Ground.phase }, { on := 14, ground := Ground.phase }, { on := 15, ground := Ground.phase }, { on := 16, ground := Ground.phase }, { on := 17, ground := Ground.phase }, { on := 18, ground := Ground.phase }], guard := none }) (v := ?_) rfl (by kernel_rfl) (by kernel_rfl) (by kernel_rfl) (fun _ _ _ h => h) (Or.inl ⟨by rfl, ?_⟩) (by with_reducible assumption) ?_
  rotate_left
  · (intro w' hSw; (try dsimp only at hSw); first | (go_simp; done) | (go_simp; with_reducible rfl))
  (try simp only [Act.put, List.setIfInBounds_toArray, List.set_cons_zero, List.set_cons_succ])
  refine wpAnyH_done (by kernel_rfl) ?_ _
  refine NoPanic.normal ?_
  have HN7 := hHeld.2.2.2.2.2.2.2.2
  clear hHeld
  go_wp2_with fail
  refine wp_region_noPanic ?_
  refine wp_region_held_drew (S := (fun u => u.cell? ⟨w.heap.size, 0, none⟩ = some (.int .i64 a.k) ∧ u.cell? ⟨w.heap.size, 1, none⟩ = some (.string a.x) ∧ u.cell? ⟨w.heap.size, 2, none⟩ = some (.string a.g) ∧ u.cell? ⟨w.heap.size, 3, none⟩ = some (.string a.y) ∧ u.cell? ⟨w.heap.size + 1, 0, none⟩ = some (.int .i64 b.k) ∧ u.cell? ⟨w.heap.size + 1, 1, none⟩ = some (.string b.x) ∧ u.cell? ⟨w.heap.size + 1, 2, none⟩ = some (.string b.g) ∧ u.cell? ⟨w.heap.size + 1, 3, none⟩ = some (.string b.y) ∧ StU w1 u)) (by kernel_rfl) (both_of HA0.out HB0.out (hid (HN7.out.drew))) (fun hHeld => ?_)
  refine wpAnyH_take (i := 0) (oi := { dst := some 96, op := Op.move (Operand.tmp 9), type := 4, pos := "law.go:39", after := #[], guard := none }) (v := ?_) rfl (by kernel_rfl) (by kernel_rfl) (by kernel_rfl) (fun _ _ _ h => h) (Or.inl ⟨by rfl, ?_⟩) (by with_reducible assumption) ?_
  rotate_left
  · (intro w' hSw; (try dsimp only at hSw); first | (go_simp; done) | (go_simp; with_reducible rfl))
  (try simp only [Act.put, List.setIfInBounds_toArray, List.set_cons_zero, List.set_cons_succ])
  refine wpAnyH_take (i := 1) (oi := { dst := some 97, op := Op.move (Operand.tmp 96), type := 4, pos := "law.go:39", after := #[{ on := 0, ground := Ground.data }], guard := none }) (v := ?_) rfl (by kernel_rfl) (by kernel_rfl) (by kernel_rfl) (fun _ _ _ h => h) (Or.inl ⟨by rfl, ?_⟩) (by with_reducible assumption) ?_
  rotate_left
  · (intro w' hSw; (try dsimp only at hSw); first | (go_simp; done) | (go_simp; with_reducible rfl))
  (try simp only [Act.put, List.setIfInBounds_toArray, List.set_cons_zero, List.set_cons_succ])
  refine wpAnyH_take (i := 2) (oi := { dst := some 98, op := Op.fieldAddr 27 (Operand.tmp 2) 1, type := 0, pos := "law.go:39", after := #[{ on := 1, ground := Ground.guard }], guard := some (1, true) }) (v := ?_) rfl (by kernel_rfl) (by kernel_rfl) (by kernel_rfl) (fun _ _ _ h => h) (Or.inl ⟨by rfl, ?_⟩) (by with_reducible assumption) ?_
  rotate_left
  · (intro w' hSw; (try dsimp only at hSw); first | (go_simp; done) | (go_simp; with_reducible rfl))
  (try simp only [Act.put, List.setIfInBounds_toArray, List.set_cons_zero, List.set_cons_succ])
  refine wpAnyH_take (i := 3) (oi := { dst := some 99, op := Op.load 9 (Operand.tmp 98), type := 9, pos := "law.go:39", after := #[{ on := 2, ground := Ground.data }, { on := 1, ground := Ground.guard }], guard := some (1, true) }) (v := ?_) rfl (by kernel_rfl) (by kernel_rfl) (by kernel_rfl) (fun _ _ _ h => h) (Or.inl ⟨by rfl, ?_⟩) (by with_reducible assumption) ?_
  rotate_left
  · (intro w' hSw; (try dsimp only at hSw); first | (go_simp; done) | (go_simp; with_reducible rfl))
  (try simp only [Act.put, List.setIfInBounds_toArray, List.set_cons_zero, List.set_cons_succ])
  refine wpAnyH_take (i := 5) (oi := { dst := some 101, op := Op.fieldAddr 27 (Operand.tmp 2) 1, type := 0, pos := "law.go:39", after := #[{ on := 1, ground := Ground.guard }], guard := some (1, true) }) (v := ?_) rfl (by kernel_rfl) (by kernel_rfl) (by kernel_rfl) (fun _ _ _ h => h) (Or.inl ⟨by rfl, ?_⟩) (by with_reducible assumption) ?_
  rotate_left
  · (intro w' hSw; (try dsimp only at hSw); first | (go_simp; done) | (go_simp; with_reducible rfl))
  (try simp only [Act.put, List.setIfInBounds_toArray, List.set_cons_zero, List.set_cons_succ])
  refine wpAnyH_take (i := 6) (oi := { dst := some 102, op := Op.load 9 (Operand.tmp 101), type := 9, pos := "law.go:39", after := #[{ on := 5, ground := Ground.data }, { on := 1, ground := Ground.guard }], guard := some (1, true) }) (v := ?_) rfl (by kernel_rfl) (by kernel_rfl) (by kernel_rfl) (fun _ _ _ h => h) (Or.inl ⟨by rfl, ?_⟩) (by with_reducible assumption) ?_
  rotate_left
  · (intro w' hSw; (try dsimp only at hSw); first | (go_simp; done) | (go_simp; with_reducible rfl))
  (try simp only [Act.put, List.setIfInBounds_toArray, List.set_cons_zero, List.set_cons_succ])
  refine wpAnyH_take (i := 7) (oi := { dst := some 103, op := Op.build 27 #[(0, Operand.const (Value.int IntKind.i64 3)), (1, Operand.tmp 102)], type := 27, pos := "law.go:39", after := #[{ on := 6, ground := Ground.data }, { on := 1, ground := Ground.guard }], guard := some (1, true) }) (v := ?_) rfl (by kernel_rfl) (by kernel_rfl) (by kernel_rfl) (fun _ _ _ h => h) (Or.inl ⟨by rfl, ?_⟩) (by with_reducible assumption) ?_
  rotate_left
  · (intro w' hSw; (try dsimp only at hSw); first | (go_simp; done) | (go_simp; with_reducible rfl))
  (try simp only [Act.put, List.setIfInBounds_toArray, List.set_cons_zero, List.set_cons_succ])
  refine wpAnyH_ready (rs := [4]) (by kernel_rfl) (by simp) ?_
  refine AllReadyH.cons (o := { dst := some 100, op := Op.call { callee := Callee.value (Operand.func 10), args := #[Operand.tmp 99], argTypes := #[9] }, type := 27, pos := "law.go:39", after := #[{ on := 3, ground := Ground.data }, { on := 1, ground := Ground.chain }, { on := 1, ground := Ground.guard }], guard := some (1, true) }) rfl (fun K hK => ?_) AllReadyH.nil
  go_simp
  (refine (HK3.out _ hHeld.2.2.2.2.2.2.2.2).mono ?_)
  rintro e wa ⟨rfl, HOa⟩
  go_wp2_with fail
  refine hK.out _ _ (both_of HA0.out HB0.out (HOa)) (fun hHeld => ?_)
  clear hK K
  (try simp only [Act.put, List.setIfInBounds_toArray, List.set_cons_zero, List.set_cons_succ])
  refine wpAnyH_take (i := 8) (oi := { dst := some 104, op := Op.binOp BinOp.eql 27 (Operand.tmp 100) (Operand.tmp 103) 27, type := 4, pos := "law.go:39", after := #[{ on := 4, ground := Ground.data }, { on := 7, ground := Ground.data }, { on := 1, ground := Ground.guard }], guard := some (1, true) }) (v := ?_) rfl (by kernel_rfl) (by kernel_rfl) (by kernel_rfl) (fun _ _ _ h => h) (Or.inl ⟨by rfl, ?_⟩) (by with_reducible assumption) ?_
  rotate_left
  · (intro w' hSw; (try dsimp only at hSw); first | (go_simp; done) | (go_simp; with_reducible rfl))
  (try simp only [Act.put, List.setIfInBounds_toArray, List.set_cons_zero, List.set_cons_succ])
  refine wpAnyH_take (i := 9) (oi := { dst := some 105, op := Op.pick (Operand.tmp 97) (Operand.tmp 104) (Operand.const (Value.bool false)), type := 4, pos := "law.go:39", after := #[{ on := 1, ground := Ground.data }, { on := 8, ground := Ground.data }], guard := none }) (v := ?_) rfl (by kernel_rfl) (by kernel_rfl) (by kernel_rfl) (fun _ _ _ h => h) (Or.inl ⟨by rfl, ?_⟩) (by with_reducible assumption) ?_
  rotate_left
  · (intro w' hSw; (try dsimp only at hSw); first | (go_simp; done) | (go_simp; with_reducible rfl))
  (try simp only [Act.put, List.setIfInBounds_toArray, List.set_cons_zero, List.set_cons_succ])
  refine wpAnyH_take (i := 10) (oi := { dst := some 106, op := Op.move (Operand.tmp 105), type := 4, pos := "law.go:39", after := #[{ on := 9, ground := Ground.data }, { on := 4, ground := Ground.chain }], guard := none }) (v := ?_) rfl (by kernel_rfl) (by kernel_rfl) (by kernel_rfl) (fun _ _ _ h => h) (Or.inl ⟨by rfl, ?_⟩) (by with_reducible assumption) ?_
  rotate_left
  · (intro w' hSw; (try dsimp only at hSw); first | (go_simp; done) | (go_simp; with_reducible rfl))
  (try simp only [Act.put, List.setIfInBounds_toArray, List.set_cons_zero, List.set_cons_succ])
  refine wpAnyH_ready (rs := [11]) (by kernel_rfl) (by simp) ?_
  refine AllReadyH.cons (o := { dst := some 107, op := Op.call { callee := Callee.value (Operand.func 6), args := #[], argTypes := #[] }, type := 4, pos := "law.go:39", after := #[{ on := 10, ground := Ground.chain }, { on := 10, ground := Ground.guard }], guard := some (10, true) }) rfl (fun K hK => ?_) AllReadyH.nil
  go_simp
  (refine (HA.out _ hHeld.2.2.2.2.2.2.2.2).mono ?_)
  rintro e wa ⟨rfl, HOa⟩
  go_wp2_with fail
  refine hK.out _ _ (both_of HA0.out HB0.out (HOa)) (fun hHeld => ?_)
  clear hK K
  (try simp only [Act.put, List.setIfInBounds_toArray, List.set_cons_zero, List.set_cons_succ])
  refine wpAnyH_take (i := 12) (oi := { dst := some 108, op := Op.pick (Operand.tmp 106) (Operand.tmp 107) (Operand.const (Value.bool false)), type := 4, pos := "law.go:39", after := #[{ on := 10, ground := Ground.data }, { on := 11, ground := Ground.data }], guard := none }) (v := ?_) rfl (by kernel_rfl) (by kernel_rfl) (by kernel_rfl) (fun _ _ _ h => h) (Or.inl ⟨by rfl, ?_⟩) (by with_reducible assumption) ?_
  rotate_left
  · (intro w' hSw; (try dsimp only at hSw); first | (go_simp; done) | (go_simp; with_reducible rfl))
  (try simp only [Act.put, List.setIfInBounds_toArray, List.set_cons_zero, List.set_cons_succ])
  refine wpAnyH_take (i := 13) (oi := { dst := some 4, op := Op.assign (Operand.tmp 108), type := 4, pos := "law.go:39", after := #[{ on := 12, ground := Ground.data }, { on := 11, ground := Ground.chain }, { on := 0, ground := Ground.phase }, { on := 1, ground := Ground.phase }, { on := 2, ground := Ground.phase }, { on := 3, ground := Ground.phase }, { on := 4, ground := Ground.phase }, { on := 5, ground := Ground.phase }, { on := 6, ground := Ground.phase }, { on := 7, ground := Ground.phase }, { on := 8, ground := Ground.phase }, { on := 9, ground := Ground.phase }, { on := 10, ground := Ground.phase }, { on := 11, ground := Ground.phase }, { on := 12, ground := Ground.phase }], guard := none }) (v := ?_) rfl (by kernel_rfl) (by kernel_rfl) (by kernel_rfl) (fun _ _ _ h => h) (Or.inl ⟨by rfl, ?_⟩) (by with_reducible assumption) ?_
  rotate_left
  · (intro w' hSw; (try dsimp only at hSw); first | (go_simp; done) | (go_simp; with_reducible rfl))
  (try simp only [Act.put, List.setIfInBounds_toArray, List.set_cons_zero, List.set_cons_succ])
  refine wpAnyH_done (by kernel_rfl) ?_ _
  refine NoPanic.normal ?_
  have HN8 := hHeld.2.2.2.2.2.2.2.2
  clear hHeld
  go_wp2_with fail
  go_ret
  exact ⟨rfl, hid (HO0.out.trans HN8.out)⟩
end Go.Proofs.YtefcnaccemefnaaGreatDoor

namespace Go.Proofs.YtefcnaccemefnaaGreatDoor
open Go.RowKit U G

theorem tm_block (m : Tm) (W : World) : ∃ W2 g, W2 = W.alloc (.cells #[.int .i64 m.k, .string m.x, .string m.g, .string m.y] 27) ∧ g = W.heap.size ∧ Hid (TmAt W2 g m) ∧ StU W W2 := ⟨_, _, rfl, rfl, hid (tm_new W m), hid ((Only.refl _ W).alloc _)⟩
set_option maxHeartbeats 2000000 in
theorem reads8_any {s : ByteArray} {w : World} (hT : Tb w) (hE : ErrAt w) (hs : s.size ≤ 10000) :
    Calls Tryz.prog 7 #[.string s] w fun e w' => e = .returned (.bool true) ∧ StU w w' := by
  have HP0 := parse_any hT hE hs
  have HQ0 : ∀ W, Calls Tryz.prog 20 #[.string s] W fun e w' => e = .returned (.tuple #[tmV (parsT s).1, .int .i64 (parsT s).2]) ∧ StU W w' := fun W => refParse_any
  obtain ⟨m, hm⟩ : ∃ m, (parsT s).1 = m := ⟨_, rfl⟩
  obtain ⟨er, her⟩ : ∃ er, (parsT s).2 = er := ⟨_, rfl⟩
  rw [hm, her] at HP0 HQ0
  have HP : Hid (Calls Tryz.prog 17 #[.string s] w fun e w' => e = .returned (.tuple #[.agg #[.int .i64 m.k, .string m.x, .string m.g, .string m.y], .int .i64 er]) ∧ StU w w') := hid HP0
  have HQ : Hid (∀ W, Calls Tryz.prog 20 #[.string s] W fun e w' => e = .returned (.tuple #[.agg #[.int .i64 m.k, .string m.x, .string m.g, .string m.y], .int .i64 er]) ∧ StU W w') := hid HQ0
  have heq : ∀ W, (binOp .eql 27 (.agg #[.int .i64 m.k, .string m.x, .string m.g, .string m.y]) (.agg #[.int .i64 m.k, .string m.x, .string m.g, .string m.y])).run Tryz.prog W = .ok (.bool true) W := fun W => by
    have := eql_tm m m W
    rwa [decide_eq_true rfl] at this
  have HB := hid (tm_block m)
  have HTS := hid (fun (W : World) (g : Nat) (W' : World) (h : TmAt W g m) (o : StU W W') => tmS_of h o)
  clear HP0 HQ0 hT hE hm her
  go_enter Tryz.func7, Tryz.ntmps7
  go_upto_region 2 with (go_at_call 17; refine HP.out.mono ?_; rintro e w2 ⟨rfl, HO2⟩)
  obtain ⟨w3, g3, hw3, hg3, HA3, HO3⟩ := HB.out w2
  rw [← hw3, ← hg3]
  clear hw3 hg3
  go_upto_region 3 with (go_at_call 20; refine (HQ.out _).mono ?_; rintro e w4 ⟨rfl, HO4⟩)
  obtain ⟨w5, g5, hw5, hg5, HA5, HO5⟩ := HB.out w4
  rw [← hw5, ← hg5]
  clear hw5 hg5
  obtain ⟨d0, d1, d2, d3⟩ := TmAt.cells HA5.out
  obtain ⟨c0, c1, c2, c3, _⟩ := HTS.out _ _ _ HA3.out (hid (HO4.out.trans HO5.out))
  clear HP HQ HB HTS
  go_wp2_with fail
  go_ret
  exact ⟨rfl, hid (HO2.out.trans (HO3.out.trans (HO4.out.trans HO5.out)))⟩
theorem termReads_any {s : ByteArray} {w : World} (hT : Tb w) (hE : ErrAt w) :
    Calls Tryz.prog 3 #[.string s] w fun e w' => e = .returned (.bool true) ∧ StU w w' := by
  have HA : Hid (∀ W, StU w W → Calls Tryz.prog 6 #[] W fun e w' => e = .returned (.bool true) ∧ StU w w') := hid fun W hW => (awake8_any (hT.stu hW)).mono fun e w' h => ⟨h.1, hid (hW.out.trans h.2.out)⟩
  have HO0 : StU w w := hid (Only.refl _ w)
  by_cases h : 6000 < s.size
  · have h' : (6000 : Int) < (s.size : Int) := by omega
    clear hT hE h
    go_enter Tryz.func3, Tryz.ntmps3
    go_wp2_with (go_at_call 6; refine (HA.out _ HO0).mono ?_; rintro e w2 ⟨rfl, HO2⟩)
    go_ret
    exact ⟨rfl, HO2⟩
  · have h' : ¬ (6000 : Int) < (s.size : Int) := by omega
    have HR := hid (reads8_any (s := s) hT hE (by omega))
    clear hT hE h
    go_enter Tryz.func3, Tryz.ntmps3
    go_wp2_with (first
      | (go_at_call 7; refine HR.out.mono ?_; rintro e w1 ⟨rfl, HO1⟩)
      | (go_at_call 6; refine (HA.out _ HO1).mono ?_; rintro e w2 ⟨rfl, HO2⟩))
    go_ret
    exact ⟨rfl, HO2⟩
end Go.Proofs.YtefcnaccemefnaaGreatDoor

namespace Go.Proofs.YtefcnaccemefnaaGreatDoor
open Go.ChangeShapes Go.WideShapes Go.ChangeAt Go.RowKit Go.Deep

theorem tabZ {W : World} {l : List (String × DataW Unit)} (h : laidMet Tryz.prog l W) (h1 : ("unicode/utf8.first", Rows.laid_unicode_utf8_first) ∈ l) (h2 : ("unicode/utf8.acceptRanges", Rows.laid_unicode_utf8_acceptRanges) ∈ l) : Tb W := by
  have e : Rows.laid_unicode_utf8_acceptRanges (H := Unit) = Lib.acceptData := by kernel_rfl
  exact utf8Tabs_of_reads (ρ := Tryz.lays260_ren) Tryz.lays260 ⟨by kernel_rfl, by kernel_rfl, by kernel_rfl, by kernel_rfl, by kernel_rfl, by kernel_rfl, by kernel_rfl⟩ (Pinned.utf8First_eq ▸ Lib.laidMet.reads h h1) (e ▸ Lib.laidMet.reads h h2)
theorem errZ {W : World} {l : List (String × DataW Unit)} (h : laidMet Tryz.prog l W) (h1 : ("strconv.ErrSyntax", Rows.laid_strconv_ErrSyntax) ∈ l) : ErrAt W := by
  obtain ⟨g, t, cs, fuel, p, hg, hty, hvar, hd⟩ := Lib.laidMet.reads h h1
  obtain rfl := Option.some.inj ((show Tryz.prog.globalNamed "strconv.ErrSyntax" = some 3 by kernel_rfl).symm.trans hg)
  obtain rfl := Option.some.inj ((show (Tryz.prog.globals[3]?).map (·.type) = some 82 by kernel_rfl).symm.trans hty)
  obtain ⟨f1, u, v, e, _, _⟩ := iface_of_trod Tryz.underlying82 hd
  refine ⟨.iface u v, ?_, .inr ⟨u, v, rfl⟩⟩
  rw [World.var?_cell hg hvar 0]
  obtain ⟨l⟩ := cs
  have e2 : l = [.iface u v] := e
  subst e2
  rfl
/-- The cells of a table that is listed. -/
def tabCells : DataW Unit → Array Value
  | .agg ds => (ds.map fun
    | .lit (.int k z) => Value.int k z
    | _ => .bool false).toArray
  | _ => #[]
/-- A world for the witness: tables and errors laid. -/
noncomputable def laidWorldZ (os : Os) : World :=
  let w0 := World.holding Tryz.prog os ⟨#[], #[], []⟩
  let n := w0.heap.size
  let put (h : Array Obj) (g : Nat) (cs : Array Value) : Array Obj := h.modify g fun
    | .cells _ t frozen => .cells cs t frozen
    | o => o
  let h1 := put w0.heap 0 (Lib.firstTab.map fun z => Value.int .u8 z).toArray
  let h2 := put h1 1 ((List.range 16).flatMap fun i => [Value.int .u8 (Lib.accLo i), Value.int .u8 (Lib.accHi i)]).toArray
  let h3 := put h2 6 (tabCells Rows.laid_math_bits_deBruijn32tab)
  let h4 := put h3 7 (tabCells Rows.laid_math_bits_deBruijn64tab)
  let h5 := put h4 5 (tabCells Rows.laid_internal_strconv_uint64pow10)
  let h6 := put h5 4 #[.iface 135 (.pointer (some ⟨n, 0, none⟩))]
  let h7 := put h6 3 #[.iface 135 (.pointer (some ⟨n + 1, 0, none⟩))]
  let h8 := h7.push (.cells #[.string ⟨#[118, 97, 108, 117, 101, 32, 111, 117, 116, 32, 111, 102, 32, 114, 97, 110, 103, 101]⟩] 137 (0, 0))
  let h9 := h8.push (.cells #[.string ⟨#[105, 110, 118, 97, 108, 105, 100, 32, 115, 121, 110, 116, 97, 120]⟩] 137 (0, 0))
  { w0 with heap := h9 }
theorem laid_metZ (os : Os) (args : Array Value) : laidMet Tryz.prog Rows.termReadsRow.laid ((laidWorldZ os).forCall (fun _ _ => 0) ⟨#[], args, []⟩).memory :=
  laidMet_of_run' 8 (by kernel_rfl) (by kernel_rfl)
end Go.Proofs.YtefcnaccemefnaaGreatDoor
