/- No vector: nil, or one that no call answered. -/
import Derived.Test.YtneipjocimcmnaaDoorLawD
namespace Go.Proofs.YtneipjocimcmnaaDoor
open Go.RowKit
open Fen

/-- A pointer to what no call answered. -/
def NoVec (w : World) (p : Option Addr) : Prop := p = none ∨ ∃ g, p = some ⟨g, 0, none⟩ ∧ w.cell? ⟨g, 2, none⟩ = some (.pointer none)
theorem NoVec.only {S : Nat → Prop} {w w' : World} {p : Option Addr} (h : NoVec w p) (o : Only S w w') (hS : ∀ b, b < w.heap.size → ¬ S b) : NoVec w' p := by
  rcases h with h | ⟨g, h, hc⟩
  · exact .inl h
  · exact .inr ⟨g, h, by rw [o.cell (cell_lt hc) (hS _ (cell_lt hc)), hc]⟩

theorem eql_ptr_none (w : World) (a : Addr) : (binOp .eql 26 (.pointer none) (.pointer (some a))).run Tryd.prog w = .ok (.bool false) w := by
  have h : ∀ d : Nat, (Op.equalIn (d + 1) 26 (.pointer none) (.pointer (some a))).run Tryd.prog w = .ok false w := fun d => by
    simp [Op.equalIn, run_underlying Tryd.underlying26]
  simp only [binOp]
  simp [Op.equal, Op.maxDepth, h 9999]

set_option maxHeartbeats 400000 in
theorem no_answered {p : Option Addr} {w : World} (h : NoVec w p) :
    Calls Tryd.prog 41 #[.pointer p] w fun e w' => e = .returned (.bool false) ∧ w = w' := by
  rcases h with rfl | ⟨g, rfl, hc⟩
  · go_enter Tryd.func41, Tryd.ntmps41
    go_wp2
    go_ret
    exact ⟨rfl, rfl⟩
  · have heq := eql_ptr_none w ⟨g, 0, none⟩
    go_enter Tryd.func41, Tryd.ntmps41
    go_wp2
    go_ret
    exact ⟨rfl, rfl⟩
set_option maxHeartbeats 400000 in
theorem no_len {p : Option Addr} {w : World} (h : NoVec w p) :
    Calls Tryd.prog 19 #[.pointer p] w fun e w' => e = .returned (.int .i64 0) ∧ w = w' := by
  have H := hid h
  clear h
  go_enter Tryd.func19, Tryd.ntmps19
  go_wp2_with (go_at_call 41; refine (no_answered H.out).mono ?_; rintro e w' ⟨rfl, rfl⟩)
  go_ret
  exact ⟨rfl, rfl⟩
set_option maxHeartbeats 400000 in
theorem no_ones {p : Option Addr} {w : World} (h : NoVec w p) :
    Calls Tryd.prog 28 #[.pointer p] w fun e w' => e = .returned (.int .i64 0) ∧ w = w' := by
  have H := hid h
  clear h
  go_enter Tryd.func28, Tryd.ntmps28
  go_wp2_with (go_at_call 41; refine (no_answered H.out).mono ?_; rintro e w' ⟨rfl, rfl⟩)
  go_ret
  exact ⟨rfl, rfl⟩
set_option maxHeartbeats 400000 in
theorem no_bytes {p : Option Addr} {w : World} (h : NoVec w p) :
    Calls Tryd.prog 17 #[.pointer p] w fun e w' => e = .returned (.slice none 0 0) ∧ w = w' := by
  have H := hid h
  clear h
  go_enter Tryd.func17, Tryd.ntmps17
  go_wp2_with (go_at_call 41; refine (no_answered H.out).mono ?_; rintro e w' ⟨rfl, rfl⟩)
  go_ret
  exact ⟨rfl, rfl⟩
set_option maxHeartbeats 400000 in
theorem no_set {p : Option Addr} {w : World} (h : NoVec w p) (one : Bool) (v : Value) :
    Calls Tryd.prog 14 #[.pointer p, .bool one, v] w fun e w' => e = .returned (.int .i64 1) ∧ Hid (Only (fun _ => False) w w') := by
  have H := hid (h.only ((Only.refl (fun _ => False) w).alloc (.cells #[.pointer p] 26)) (fun _ _ => no_))
  clear h
  go_enter Tryd.func14, Tryd.ntmps14
  go_wp2_with (go_at_call 41; refine (no_answered H.out).mono ?_; rintro e w' ⟨rfl, rfl⟩)
  go_ret
  exact ⟨rfl, hid ((Only.refl _ w).alloc _)⟩
set_option maxHeartbeats 400000 in
theorem no_get {p : Option Addr} {w : World} (h : NoVec w p) (i : Int) :
    Calls Tryd.prog 29 #[.pointer p, .int .i64 i] w fun e w' => e = .returned (.bool false) ∧ w = w' := by
  have H := hid h
  clear h
  go_enter Tryd.func29, Tryd.ntmps29
  go_wp2_with (go_at_call 41; refine (no_answered H.out).mono ?_; rintro e w' ⟨rfl, rfl⟩)
  go_ret
  exact ⟨rfl, rfl⟩
set_option maxHeartbeats 400000 in
theorem no_rank {p : Option Addr} {w : World} (h : NoVec w p) (i : Int) :
    Calls Tryd.prog 26 #[.pointer p, .int .i64 i] w fun e w' => e = .returned (.int .i64 0) ∧ w = w' := by
  have H := hid h
  clear h
  go_enter Tryd.func26, Tryd.ntmps26
  go_wp2_with (go_at_call 41; refine (no_answered H.out).mono ?_; rintro e w' ⟨rfl, rfl⟩)
  go_ret
  exact ⟨rfl, rfl⟩
set_option maxHeartbeats 400000 in
theorem no_select {p : Option Addr} {w : World} (h : NoVec w p) (i : Int) :
    Calls Tryd.prog 30 #[.pointer p, .int .i64 i] w fun e w' => e = .returned (.tuple #[.int .i64 0, .bool false]) ∧ w = w' := by
  have H := hid h
  clear h
  go_enter Tryd.func30, Tryd.ntmps30
  go_wp2_with (go_at_call 41; refine (no_answered H.out).mono ?_; rintro e w' ⟨rfl, rfl⟩)
  go_ret2
  exact ⟨rfl, rfl⟩
end Go.Proofs.YtneipjocimcmnaaDoor
