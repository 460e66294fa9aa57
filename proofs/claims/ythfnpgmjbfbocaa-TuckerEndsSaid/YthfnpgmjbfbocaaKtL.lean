/- What the laws' kit answers: the words for lists lent; marks. -/
import Derived.Test.YthfnpgmjbfbocaaKt
import Derived.Test.YthfnpgmjbfbocaaOwn
namespace Go.Proofs.Ythfnpgmjbfbocaa
open Go.RowKit

theorem quiet_step {a w : World} (h : ∃ d, w = a.drewN d) (n : Nat) : ∃ d, w.drewN n = a.drewN d := by obtain ⟨d, rfl⟩ := h; exact ⟨d + n, World.drewN_drewN ..⟩
def mk_ (k i : Nat) : Nat := 1000003 * (k + 7) + i
def mkb (k i : Nat) : Nat := mk_ k i * 11400714819323198485 % 18446744073709551616 / 72057594037927936
theorem mkb_lt (k i : Nat) : mkb k i < 256 := by unfold mkb; omega
def mI (i : Nat) : Value := .int .i64 ((mk_ 1 i : Nat) : Int)
def mY (i : Nat) : Value := .int .u8 ((mkb 1 i : Nat) : Int)
set_option maxHeartbeats 400000 in
theorem mark_any (k i : Nat) (w : World) (hk : k ≤ 1000000) (hi : i ≤ 1000000000) :
    Calls Try.prog 49 #[.int .i64 (k : Int), .int .i64 (i : Int)] w fun e w' => e = .returned (.int .i64 ((mk_ k i : Nat) : Int)) ∧ w = w' := by
  go_enter Try.func49, Try.ntmps49
  go_wp2
  go_ret
  exact ⟨ret_int (by unfold mk_; simp), rfl⟩

def lentV (n : Nat) (V M : Nat → Value) (j : Nat) : Value := if j < n then V j else M (j - n)
/-- What was lent: the values, twelve marks behind them. -/
def LentE (w : World) (t : TypeId) (n : Nat) (V M : Nat → Value) (e : Ending) (w' : World) : Prop :=
  ∃ g : Nat, e = .returned (.slice (some ⟨g, 0, none⟩) n (n + 12)) ∧ Hid (w.heap.size ≤ g ∧ w'.rowIs g t (n + 12) (lentV n V M) ∧ Below w.heap.size w w')
def LentS (w w' : World) (t : TypeId) (n : Nat) (V M : Nat → Value) (i : Nat) : Prop :=
  w'.ownsRow 0 t 1 (.slice (some ⟨w.heap.size, 0, none⟩) (n + i) (n + 12)) (n + i) (valsL V n ++ valsL M i) ∧ Only (fun _ => False) w w'
theorem LentS.done {w w' : World} {t : TypeId} {n : Nat} {V M : Nat → Value} (h : LentS w w' t n V M 12) : w.heap.size ≤ w.heap.size ∧ w'.rowIs w.heap.size t (n + 12) (lentV n V M) ∧ Below w.heap.size w w' := by
  obtain ⟨⟨h1, h2⟩, ho⟩ := h
  refine ⟨Nat.le_refl _, ?_, ho.to_below (fun _ h => h.elim) (Nat.le_refl _)⟩
  rcases h2 with ⟨h2, _⟩ | ⟨g, cap, cur, hv, _, hh, hle, hcm, hsz, ht⟩
  · cases h2
  · injection hv with e1 _ e3
    injection e1 with e1
    injection e1 with e1
    subst e1
    subst e3
    refine ⟨cur, hh, by omega, fun i hi => ?_⟩
    have h3 : cur.toList.take ((n + 12) * 1) = cur.toList := List.take_of_length_le (by rw [Array.length_toList]; omega)
    rw [h3] at ht
    have : cur[i]? = cur.toList[i]? := by simp
    rw [this, ht]
    unfold lentV
    by_cases hl : i < n
    · rw [List.getElem?_append_left (by rw [valsL_len]; exact hl), valsL_get hl, if_pos hl]
    · rw [List.getElem?_append_right (by rw [valsL_len]; omega), valsL_len, valsL_get (by omega), if_neg hl]
theorem LentS.step {w wr w2 : World} {o : Obj} {t : TypeId} {n : Nat} {V M : Nat → Value} {k : Nat} (h : LentS w wr t n V M k)
    (h2 : w2.ownsRow 0 t 1 (.slice (some ⟨w.heap.size, 0, none⟩) (n + k + 1) (n + 12)) (n + k + 1) (valsL V n ++ valsL M k ++ [M k])) (hg : (wr.alloc o).grownBy w2 (some w.heap.size)) : LentS w w2 t n V M (k + 1) := by
  refine ⟨?_, (h.2.alloc o).grown hg (fun j e => .inr (by injection e with e; omega))⟩
  have e : valsL M (k + 1) = valsL M k ++ [M k] := by unfold valsL; rw [List.range_succ, List.map_append]; rfl
  rw [e, ← List.append_assoc]
  exact h2
theorem own_alloc0 (w : World) (t : TypeId) (z : Value) (n : Nat) (hn : n ≤ maxLen) :
    (w.alloc (.cells (madeCells #[z] n) t)).ownsRow 0 t 1 (.slice (some ⟨w.heap.size, 0, none⟩) 0 n) 0 [] :=
  World.ownsRow_made w _ n (Nat.zero_le _) hn (by rw [size_madeCells, Nat.mul_one])
theorem cell_one_new (w : World) (v : Value) (t : TypeId) : ∀ j u, [v][j]? = some u → (w.alloc (.cells #[v] t)).cell? ((⟨w.heap.size, 0, none⟩ : Addr).add j) = some u := by
  intro j u hu
  cases j with
  | zero =>
    simp at hu
    subst hu
    simp [Addr.add]
  | succ j => simp at hu
/-- A block of one-cell elements, whatever they are. -/
def AnyRow (w : World) (t : TypeId) (g c : Nat) : Prop := ∃ F, w.rowIs g t c F
def OverS (w w' : World) (t : TypeId) (g c : Nat) : Prop := AnyRow w' t g c ∧ Only (fun k => k = g) w w'
end Go.Proofs.Ythfnpgmjbfbocaa
