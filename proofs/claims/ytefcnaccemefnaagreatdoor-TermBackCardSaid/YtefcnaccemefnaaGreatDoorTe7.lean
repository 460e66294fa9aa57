/- Terms are made; equality of terms. -/
import Derived.Test.YtefcnaccemefnaaGreatDoorTe6
import Derived.Laws.BytesArg
namespace Go.Proofs.YtefcnaccemefnaaGreatDoor
open Go.RowKit U G

theorem toList_iff (s t : ByteArray) : s.toList = t.toList ↔ s = t := by
  rw [ByteArray.toList_eq, ByteArray.toList_eq]
  constructor
  · intro h
    cases s; cases t
    simp at h
    simp [h]
  · rintro rfl
    rfl
theorem eql_tm (a b : Tm) (W : World) : (binOp .eql 27 (tmV a) (tmV b)).run Tryz.prog W = .ok (.bool (decide (a = b))) W := by
  unfold tmV
  simp only [binOp]
  simp [Op.equal, Op.maxDepth, go_sem]
  simp only [toList_iff, Tm.eq_iff]
  (repeat' split) <;> simp_all
theorem toList_beq (s t : ByteArray) : (s.toList == t.toList) = decide (s = t) := by
  rw [Bool.eq_iff_iff, beq_iff_eq, decide_eq_true_iff, toList_iff]
theorem xsd_list : xsd.toList = [104, 116, 116, 112, 58, 47, 47, 119, 119, 119, 46, 119, 51, 46, 111, 114, 103, 47, 50, 48, 48, 49, 47, 88, 77, 76, 83, 99, 104, 101, 109, 97, 35, 115, 116, 114, 105, 110, 103] := by rw [ByteArray.toList_eq]; rfl
theorem xsd_beq (s : ByteArray) : (s.toList == [104, 116, 116, 112, 58, 47, 47, 119, 119, 119, 46, 119, 51, 46, 111, 114, 103, 47, 50, 48, 48, 49, 47, 88, 77, 76, 83, 99, 104, 101, 109, 97, 35, 115, 116, 114, 105, 110, 103]) = decide (s = xsd) := by rw [← toList_beq, xsd_list]
theorem emp_beq (s : ByteArray) : (s.toList == []) = decide (s = ByteArray.empty) := by
  rw [← toList_beq, ByteArray.toList_eq, ByteArray.toList_eq]; rfl
set_option maxHeartbeats 1000000 in
theorem iriT_any (s : ByteArray) (w : World) : Calls Tryz.prog 8 #[.string s] w fun e w' => e = .returned (tmV (iriT s)) ∧ StU w w' := by
  go_enter Tryz.func8, Tryz.ntmps8
  go_wp2
  exact bodyPost_ret (v := tmV (iriT s)) (by simp [results, Tryz.results8, go_sem, tmV, iriT]; rfl) rfl ⟨rfl, hid ((Only.refl _ w).alloc _)⟩
set_option maxHeartbeats 1000000 in
theorem blankT_any (s : ByteArray) (w : World) : Calls Tryz.prog 9 #[.string s] w fun e w' => e = .returned (tmV (blankT s)) ∧ StU w w' := by
  go_enter Tryz.func9, Tryz.ntmps9
  go_wp2
  exact bodyPost_ret (v := tmV (blankT s)) (by simp [results, Tryz.results9, go_sem, tmV, blankT]; rfl) rfl ⟨rfl, hid ((Only.refl _ w).alloc _)⟩
set_option maxHeartbeats 1000000 in
theorem litT_any (s : ByteArray) (w : World) : Calls Tryz.prog 10 #[.string s] w fun e w' => e = .returned (tmV (litT s)) ∧ StU w w' := by
  go_enter Tryz.func10, Tryz.ntmps10
  go_wp2
  exact bodyPost_ret (v := tmV (litT s)) (by simp [results, Tryz.results10, go_sem, tmV, litT]; rfl) rfl ⟨rfl, hid ((Only.refl _ w).alloc _)⟩
/-- A term's cells. -/
def tmF (t : Tm) (i : Nat) : Value := if i = 0 then .int .i64 t.k else if i = 1 then .string t.x else if i = 2 then .string t.g else .string t.y
theorem tm_new (w : World) (t : Tm) : (w.alloc (.cells #[.int .i64 t.k, .string t.x, .string t.g, .string t.y] 27)).rowIs w.heap.size 27 4 (tmF t) :=
  World.rowIs_alloc w #[.int .i64 t.k, .string t.x, .string t.g, .string t.y] 27 (tmF t) (fun i hi => by
    match i, hi with
    | 0, _ => rfl
    | 1, _ => rfl
    | 2, _ => rfl
    | 3, _ => rfl
    | i + 4, hi => exact absurd (show i + 4 < 4 from hi) (by omega))
abbrev zeroObj : Obj := .cells #[.int .i64 0, .string { data := #[] }, .string { data := #[] }, .string { data := #[] }] 27
theorem tm_set {w : World} {g : Nat} {t : TypeId} {f : Nat → Value} (h : w.rowIs g t 4 f) (a b c d : Value) :
    ((((w.setCell ⟨g, 0, none⟩ a).setCell ⟨g, 1, none⟩ b).setCell ⟨g, 2, none⟩ c).setCell ⟨g, 3, none⟩ d).cell? ⟨g, 0, none⟩ = some a ∧
    ((((w.setCell ⟨g, 0, none⟩ a).setCell ⟨g, 1, none⟩ b).setCell ⟨g, 2, none⟩ c).setCell ⟨g, 3, none⟩ d).cell? ⟨g, 1, none⟩ = some b ∧
    ((((w.setCell ⟨g, 0, none⟩ a).setCell ⟨g, 1, none⟩ b).setCell ⟨g, 2, none⟩ c).setCell ⟨g, 3, none⟩ d).cell? ⟨g, 2, none⟩ = some c ∧
    ((((w.setCell ⟨g, 0, none⟩ a).setCell ⟨g, 1, none⟩ b).setCell ⟨g, 2, none⟩ c).setCell ⟨g, 3, none⟩ d).cell? ⟨g, 3, none⟩ = some d := by
  have h2 := (((h.set 0 a).set 1 b).set 2 c).set 3 d
  exact ⟨by rw [h2.cell (by omega)]; rfl, by rw [h2.cell (by omega)]; rfl, by rw [h2.cell (by omega)]; rfl, by rw [h2.cell (by omega)]; rfl⟩
/-- What a result's variable is good for, behind a call that makes memory alone. -/
structure Res (w w1 : World) (g : Nat) : Prop where
  row : w1.rowIs g 27 4 (tmF ⟨0, { data := #[] }, { data := #[] }, { data := #[] }⟩)
  ge : w.heap.size ≤ g
  only : Only (fun _ => False) w w1
theorem Res.new (w : World) : Res w (w.alloc zeroObj) w.heap.size := ⟨tm_new w ⟨0, { data := #[] }, { data := #[] }, { data := #[] }⟩, Nat.le_refl _, (Only.refl _ w).alloc _⟩
theorem Res.more {w w1 w2 : World} {g : Nat} (h : Res w w1 g) (o : Only (fun _ => False) w1 w2) : Res w w2 g := ⟨o.row h.row no_, h.ge, h.only.trans o⟩
theorem Res.set {w w1 : World} {g : Nat} (h : Res w w1 g) (a b c d : Value) : StU w ((((w1.setCell ⟨g, 0, none⟩ a).setCell ⟨g, 1, none⟩ b).setCell ⟨g, 2, none⟩ c).setCell ⟨g, 3, none⟩ d) :=
  hid ((((h.only.setCell (p := ⟨g, 0, none⟩) (.inr h.ge) a).setCell (p := ⟨g, 1, none⟩) (.inr h.ge) b).setCell (p := ⟨g, 2, none⟩) (.inr h.ge) c).setCell (p := ⟨g, 3, none⟩) (.inr h.ge) d)
set_option maxHeartbeats 1000000 in
theorem typT_any (s y : ByteArray) (w : World) : Calls Tryz.prog 12 #[.string s, .string y] w fun e w' => e = .returned (tmV (typT s y)) ∧ StU w w' := by
  have HL : Hid (∀ W, Calls Tryz.prog 10 #[.string s] W fun e w' => e = .returned (.agg #[.int .i64 3, .string s, .string ByteArray.empty, .string ByteArray.empty]) ∧ StU W w') := hid (litT_any s)
  have HR0 := hid (Res.new w)
  by_cases h : y = xsd
  · have he : typT s y = litT s := by unfold typT; rw [if_pos h]
    rw [he]
    have hq := xsd_beq y
    rw [decide_eq_true h] at hq
    clear he h
    go_enter Tryz.func12, Tryz.ntmps12
    go_wp2_with (go_at_call 10; refine (HL.out _).mono ?_; rintro e w1 ⟨rfl, HO⟩; have HR := hid (HR0.out.more HO.out); clear HR0; have cx0 := HR.out.row.cell (i := 0) (by omega); have cx1 := HR.out.row.cell (i := 1) (by omega); have cx2 := HR.out.row.cell (i := 2) (by omega); have cx3 := HR.out.row.cell (i := 3) (by omega); have fx0 := HR.out.row.frozen 0; have fx1 := HR.out.row.frozen 1; have fx2 := HR.out.row.frozen 2; have fx3 := HR.out.row.frozen 3; have hlt2 := HR.out.row.lt; have HQ := hid fun a b c d => tm_set HR.out.row a b c d)
    obtain ⟨q0, q1, q2, q3⟩ := HQ.out (.int .i64 3) (.string s) (.string ByteArray.empty) (.string ByteArray.empty)
    exact bodyPost_ret (v := tmV (litT s)) (by simp [results, Tryz.results12, go_sem, q0, q1, q2, q3, tmV, litT]) rfl ⟨rfl, HR.out.set _ _ _ _⟩
  · have he : typT s y = ⟨4, s, ByteArray.empty, y⟩ := by unfold typT; rw [if_neg h]
    rw [he]
    have hq := xsd_beq y
    rw [decide_eq_false h] at hq
    clear he h
    go_enter Tryz.func12, Tryz.ntmps12
    go_wp2_with fail
    exact bodyPost_ret (v := tmV ⟨4, s, ByteArray.empty, y⟩) (by simp [results, Tryz.results12, go_sem, tmV]; rfl) rfl ⟨rfl, hid ((Only.refl _ w).alloc _)⟩
end Go.Proofs.YtefcnaccemefnaaGreatDoor
