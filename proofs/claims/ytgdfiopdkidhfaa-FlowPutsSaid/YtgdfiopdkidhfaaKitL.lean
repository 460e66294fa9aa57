/- What the laws' kit answers: marks, lists lent. -/
import Derived.Test.YtgdfiopdkidhfaaKitB
import Derived.Test.YtgdfiopdkidhfaaVecSet
namespace Go.Proofs.Ytgdfiopdkidhfaa.V1
open Go.RowKit
open Fen

theorem quiet_step {a w : World} (h : ∃ d, w = a.drewN d) (n : Nat) : ∃ d, w.drewN n = a.drewN d := by obtain ⟨d, rfl⟩ := h; exact ⟨d + n, World.drewN_drewN ..⟩
theorem intInfo : (Try.prog.info? 3).map (fun i => (i.zero, i.size, i.bytes)) = some (some (.int .i64 0), 1, 8) := by kernel_rfl

def mk_ (k i : Nat) : Nat := 1000003 * (k + 7) + i
def mkb (k i : Nat) : Nat := mk_ k i * 11400714819323198485 % 18446744073709551616 / 72057594037927936
theorem mkb_lt (k i : Nat) : mkb k i < 256 := by unfold mkb; omega

set_option maxHeartbeats 400000 in
theorem mark_any (k i : Nat) (w : World) (hk : k ≤ 1000000) (hi : i ≤ 1000000000) :
    Calls Try.prog 30 #[.int .i64 (k : Int), .int .i64 (i : Int)] w fun e w' => e = .returned (.int .i64 ((mk_ k i : Nat) : Int)) ∧ w = w' := by
  go_enter Try.func30, Try.ntmps30
  go_wp2
  go_ret
  exact ⟨ret_int (by unfold mk_; simp), rfl⟩
theorem mkb_int (m : Nat) (_h : m < 9223372036854775808) : IntKind.u64.wrap ((m : Int) * 11400714819323198485) / 72057594037927936 = ((m * 11400714819323198485 % 18446744073709551616 / 72057594037927936 : Nat) : Int) := by
  rw [IntKind.wrap_u64]; omega
/-- A slice that reads as values of one cell each. -/
def RdV (w : World) (A : Option Addr) (vs : List Value) : Prop := ∀ j, j < vs.length → ∃ b off, A = some ⟨b, off, none⟩ ∧ ∀ j, j < vs.length → w.cell? ⟨b, off + j, none⟩ = some (vs.getD j undef)
theorem RdV.only {S : Nat → Prop} {w w' : World} {A : Option Addr} {vs : List Value} (h : RdV w A vs) (ho : Only S w w') (hS : ∀ b off, A = some ⟨b, off, none⟩ → b < w.heap.size → ¬ S b) : RdV w' A vs := by
  intro j hj
  obtain ⟨b, off, hA, hc⟩ := h j hj
  refine ⟨b, off, hA, fun i hi => ?_⟩
  have hci := hc i hi
  rw [ho.cell (cell_lt hci) (hS b off hA (cell_lt hci)), hci]
theorem RdV.news {w : World} {A : Option Addr} {vs : List Value} (h : RdV w A vs) : ∀ ad, A = some ad → ∀ j u, vs[j]? = some u → w.cell? (ad.add j) = some u := by
  intro ad hA j u hu
  have hj : j < vs.length := by
    rcases Nat.lt_or_ge j vs.length with a | a
    · exact a
    · rw [List.getElem?_eq_none a] at hu; cases hu
  obtain ⟨b, off, hA', hc⟩ := h j hj
  rw [hA'] at hA
  injection hA with hA
  subst hA
  have ha : (⟨b, off, none⟩ : Addr).add j = ⟨b, off + j, none⟩ := by
    unfold Addr.add
    by_cases e : j = 0 <;> simp [e]
  rw [ha, hc j hj]
  simp [List.getD, hu]
def intsV (zs : List Int) : List Value := zs.map (Value.int .i64)
def bytesV (bs : List Nat) : List Value := bs.map fun (b : Nat) => Value.int .u8 (b : Int)
theorem intsV_one (zs : List Int) : ∀ u ∈ intsV zs, u.oneCell' = true := by
  intro u hu
  obtain ⟨z, _, rfl⟩ := List.mem_map.1 hu
  rfl
theorem bytesV_one (bs : List Nat) : ∀ u ∈ bytesV bs, u.oneCell' = true := by
  intro u hu
  obtain ⟨z, _, rfl⟩ := List.mem_map.1 hu
  rfl
theorem RdI.vals {w : World} {A : Option Addr} {zs : List Int} (h : RdI w A zs) : RdV w A (intsV zs) := by
  intro j hj
  have hl : (intsV zs).length = zs.length := by simp [intsV]
  rw [hl] at hj
  obtain ⟨b, off, hA, hc⟩ := h j hj
  refine ⟨b, off, hA, fun i hi => ?_⟩
  rw [hl] at hi
  rw [hc i hi]
  simp [intsV, List.getD, hi]
theorem RdY.vals {w : World} {A : Option Addr} {bs : List Nat} (h : RdY w A bs) : RdV w A (bytesV bs) := by
  intro j hj
  have hl : (bytesV bs).length = bs.length := by simp [bytesV]
  rw [hl] at hj
  obtain ⟨b, off, hA, hc⟩ := h.2 j hj
  refine ⟨b, off, hA, fun i hi => ?_⟩
  rw [hl] at hi
  rw [hc i hi]
  simp [bytesV, List.getD, hi]
def marksI : List Value := (List.range 12).map fun (i : Nat) => Value.int .i64 ((mk_ 1 i : Nat) : Int)
theorem marksI_get {k : Nat} (h : k < 12) : marksI[k]? = some (.int .i64 ((mk_ 1 k : Nat) : Int)) := by simp [marksI, h]
def marksB : List Value := (List.range 12).map fun (i : Nat) => Value.int .u8 ((mkb 1 i : Nat) : Int)

theorem marksB_get {k : Nat} (h : k < 12) : marksB[k]? = some (.int .u8 ((mkb 1 k : Nat) : Int)) := by simp [marksB, h]

/-- What was lent: the values, twelve marks behind them. -/
def LentR (w w' : World) (t : TypeId) (vs marks : List Value) : Prop :=
  w'.rowIs w.heap.size t (vs.length + 12) (fun j => (vs ++ marks).getD j undef) ∧ Only (fun _ => False) w w'
def LentS (w w' : World) (t : TypeId) (vs marks : List Value) (i : Nat) : Prop :=
  w'.ownsRow 0 t 1 (.slice (some ⟨w.heap.size, 0, none⟩) (vs.length + i) (vs.length + 12)) (vs.length + i) (vs ++ marks.take i) ∧ Only (fun _ => False) w w'
theorem LentS.done {w w' : World} {t : TypeId} {vs marks : List Value} (h : LentS w w' t vs marks 12) (hm : marks.length = 12) : LentR w w' t vs marks := by
  obtain ⟨⟨h1, h2⟩, ho⟩ := h
  refine ⟨?_, ho⟩
  rcases h2 with ⟨h2, _⟩ | ⟨g, cap, cur, hv, _, hh, hle, hcm, hsz, ht⟩
  · cases h2
  · injection hv with e1 _ e3
    injection e1 with e1
    injection e1 with e1
    subst e1
    subst e3
    rw [List.take_of_length_le (by omega : marks.length ≤ 12)] at ht
    refine ⟨cur, hh, by omega, fun i hi => ?_⟩
    have h3 : cur.toList.take ((vs.length + 12) * 1) = cur.toList := List.take_of_length_le (by rw [Array.length_toList]; omega)
    rw [h3] at ht
    have : cur[i]? = cur.toList[i]? := by simp
    rw [this, ht]
    have hlen : i < (vs ++ marks).length := by simp; omega
    simp only [List.getD, List.getElem?_eq_getElem hlen, Option.getD_some]

theorem LentS.step {w wr w2 : World} {o : Obj} {t : TypeId} {vs marks : List Value} {k n : Nat} {v : Value} (h : LentS w wr t vs marks k) (hn : vs.length = n) (hv : marks[k]? = some v)
    (h2 : w2.ownsRow 0 t 1 (.slice (some ⟨w.heap.size, 0, none⟩) (n + k + 1) (n + 12)) (n + k + 1) (vs ++ marks.take k ++ [v])) (hg : (wr.alloc o).grownBy w2 (some w.heap.size)) : LentS w w2 t vs marks (k + 1) := by
  refine ⟨?_, (h.2.alloc o).grown hg (fun j e => .inr (by injection e with e; omega))⟩
  have hlt : k < marks.length := by
    rcases Nat.lt_or_ge k marks.length with a | a
    · exact a
    · rw [List.getElem?_eq_none a] at hv; cases hv
  have e : marks.take (k + 1) = marks.take k ++ [v] := by
    rw [List.take_succ_eq_append_getElem hlt]
    rw [List.getElem?_eq_getElem hlt] at hv
    injection hv with hv
    rw [hv]
  rw [e, ← List.append_assoc, hn]
  exact h2
theorem own_alloc0 (w : World) (t : TypeId) (z : Value) (n : Nat) (hn : n ≤ maxLen) :
    (w.alloc (.cells (madeCells #[z] n) t)).ownsRow 0 t 1 (.slice (some ⟨w.heap.size, 0, none⟩) 0 n) 0 [] :=
  World.ownsRow_made w _ n (Nat.zero_le _) hn (by rw [size_madeCells, Nat.mul_one])
end Go.Proofs.Ytgdfiopdkidhfaa.V1
