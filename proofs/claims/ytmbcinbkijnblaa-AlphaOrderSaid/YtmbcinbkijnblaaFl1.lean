/- A writer in memory; what its small calls answer. -/
import Derived.Test.YtmbcinbkijnblaaFl0
import Derived.Test.YtmbcinbkijnblaaFr
import Derived.Test.YtmbcinbkijnblaaShelf
import Derived.Test.YtmbcinbkijnblaaPop
import Derived.LaidEqlPtr
import Derived.Maps.AppendAt
import Derived.WalkSpells
namespace Go.Proofs.Ytmbcinbkijnblaa
open Go.RowKit

def wcl (g : Nat) (e : Int) (v : Value) (n : Nat) : Nat → Value
  | 0 => .pointer (some ⟨g, 0, none⟩)
  | 1 => .int .i64 e
  | 2 => v
  | _ => .int .i64 ((n : Nat) : Int)
def bv (xs : List Bool) (j : Nat) : Value := .int .u8 ((V1.byteOf (bf xs) j : Nat) : Int)
def nby (n : Nat) : Nat := (n + 7) / 8
/-- A writer that the package answered: its error, its bits. -/
structure WrS (B : Nat) (w : World) (g : Nat) (e : Int) (v : Value) (xs : List Bool) : Prop where
  small : xs.length ≤ 16777216
  self : w.rowIs g 96 4 (wcl g e v xs.length)
  own : w.ownsRow B 5 1 v (nby xs.length) (valsL (bv xs) (nby xs.length))
  ge : B ≤ g
def IsWr (B : Nat) (w : World) (g : Nat) (e : Int) (xs : List Bool) : Prop := ∃ v, WrS B w g e v xs
def TW (t : TypeId) : Prop := t = 96 ∨ t = 5
theorem WrS.ty {B : Nat} {w a : World} {g : Nat} {e : Int} {v : Value} {xs : List Bool} {T : TypeId → Prop} {B' : Nat} (h : WrS B a g e v xs) (o : FrT T B' a w) (h1 : ¬ T 96) (h2 : ¬ T 5) : WrS B w g e v xs :=
  ⟨h.small, o.row h.self h1, own_ty h.own o h2, h.ge⟩
theorem WrS.same {B : Nat} {w a : World} {g : Nat} {e : Int} {v : Value} {xs : List Bool} (h : WrS B a g e v xs) (o : Only (fun _ => False) a w) : WrS B w g e v xs :=
  h.ty (T := fun _ => False) (B' := 0) (FrT.of_only o) (fun h => h) (fun h => h)
theorem IsWr.same {B : Nat} {w a : World} {g : Nat} {e : Int} {xs : List Bool} (h : IsWr B a g e xs) (o : Only (fun _ => False) a w) : IsWr B w g e xs := by
  obtain ⟨v, h⟩ := h
  exact ⟨v, h.same o⟩
theorem IsWr.below {B : Nat} {w a : World} {g : Nat} {e : Int} {xs : List Bool} (h : IsWr B a g e xs) (o : Below a.heap.size a w) : IsWr B w g e xs := h.same (Only.of_below o _)
theorem IsWr.ty {B : Nat} {w a : World} {g : Nat} {e : Int} {xs : List Bool} {T : TypeId → Prop} {B' : Nat} (h : IsWr B a g e xs) (o : FrT T B' a w) (h1 : ¬ T 96) (h2 : ¬ T 5) : IsWr B w g e xs := by
  obtain ⟨v, h⟩ := h
  exact ⟨v, h.ty o h1 h2⟩

theorem neq_ptr_same {P : Program} (w : World) {tp te : TypeId} {j : TypeInfo} (a : Addr) (hp : P.underlying tp = some (.pointer te)) (hte : P.info? te = some j) :
    (binOp .neq tp (.pointer (some a)) (.pointer (some a))).run P w = .ok (.bool false) w := by
  have h : ∀ d : Nat, (Op.equalIn (d + 1) tp (.pointer (some a)) (.pointer (some a))).run P w = .ok true w := fun d => by
    simp [Op.equalIn, run_underlying hp, sizeOf, typeInfo, hte, run_sameAddr_same]
  simp only [binOp]
  simp [Op.equal, Op.maxDepth, h 9999]
theorem spoilInfo : (Try.prog.info? 93).map (fun i => i.size) = some 2 := by kernel_rfl

set_option maxHeartbeats 400000 in
theorem state_any {g : Nat} {e : Int} {w : World} (h : w.cell? ⟨g, 0, none⟩ = some (.pointer (some ⟨g, 0, none⟩))) (h1 : w.cell? ⟨g, 1, none⟩ = some (.int .i64 e)) :
    Calls Try.prog 72 #[.pointer (some ⟨g, 0, none⟩)] w fun e' w' => e' = .returned (.int .i64 e) ∧ w = w' := by
  obtain ⟨j, hj, _⟩ := Option.map_eq_some_iff.1 spoilInfo
  have heq := neq_ptr_same (P := Try.prog) w (tp := 91) (te := 93) (j := j) ⟨g, 0, none⟩ Try.underlying91 hj
  go_enter Try.func72, Try.ntmps72
  go_wp2
  go_ret
  exact ⟨rfl, rfl⟩
set_option maxHeartbeats 400000 in
theorem spoilBy_any {g n : Nat} {t : TypeId} {f : Nat → Value} {w : World} (h : w.rowIs g t n f) (hn : 1 < n) (e : Int) :
    Calls Try.prog 112 #[.pointer (some ⟨g, 0, none⟩), .int .i64 e] w fun e' w' => e' = .returned (.int .i64 e) ∧ w.setCell ⟨g, 1, none⟩ (.int .i64 e) = w' := by
  have c1 := h.cell (i := 1) hn
  have fz := h.frozen 1
  have hlt := h.lt
  clear h
  go_enter Try.func112, Try.ntmps112
  go_wp2
  go_ret
  exact ⟨rfl, rfl⟩
set_option maxHeartbeats 400000 in
theorem werr_any {g : Nat} {e : Int} {w : World} (h : Hid (w.cell? ⟨g, 0, none⟩ = some (.pointer (some ⟨g, 0, none⟩)))) (h1 : Hid (w.cell? ⟨g, 1, none⟩ = some (.int .i64 e))) :
    Calls Try.prog 64 #[.pointer (some ⟨g, 0, none⟩)] w fun e' w' => e' = .returned (.int .i64 e) ∧ w = w' := by
  go_enter Try.func64, Try.ntmps64
  go_wp2_with fail
  refine (state_any h.out h1.out).mono ?_
  rintro e' w' ⟨rfl, rfl⟩
  go_wp2_with fail
  go_ret
  exact ⟨rfl, rfl⟩
set_option maxHeartbeats 400000 in
theorem isWidth_any (z : Int) (w : World) :
    Calls Try.prog 121 #[.int .i64 z] w fun e' w' => e' = .returned (.bool (okW z)) ∧ w = w' := by
  by_cases h0 : 0 ≤ z
  · go_enter Try.func121, Try.ntmps121
    go_wp2
    go_ret
    exact ⟨ret_bool (by simp [okW, h0]), rfl⟩
  · go_enter Try.func121, Try.ntmps121
    go_wp2
    go_ret
    exact ⟨ret_bool (by simp [okW]; omega), rfl⟩
end Go.Proofs.Ytmbcinbkijnblaa
