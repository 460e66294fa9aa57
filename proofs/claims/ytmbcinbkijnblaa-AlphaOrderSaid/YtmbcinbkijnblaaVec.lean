/- A vector in memory, and what its calls answer that only look. -/
import Derived.Test.YtmbcinbkijnblaaOnes
import Derived.Test.YtmbcinbkijnblaaVecM
import Derived.LaidEqlPtr
import Derived.Deep.QuietTactic
import Derived.BigQuiet
namespace Go.Proofs.Ytmbcinbkijnblaa.V1
open Go.RowKit
open Fen

def nw (n : Nat) : Nat := (n + 63) / 64
def nb (n : Nat) : Nat := (nw n + 7) / 8
def vcell (g gs gw n : Nat) (f : Nat → Bool) : Nat → Value
  | 0 => .slice (some ⟨gs, 0, none⟩) (nb n + 1) (nb n + 1)
  | 1 => .int .i64 ((C (cf f) n : Nat) : Int)
  | 2 => .pointer (some ⟨g, 0, none⟩)
  | 3 => .slice (some ⟨gw, 0, none⟩) (nw n) (nw n)
  | _ => .int .i64 ((n : Nat) : Int)
/-- A vector that the package answered: of n bits, f. -/
structure IsVec (w : World) (g gs gw n : Nat) (f : Nat → Bool) : Prop where
  small : n ≤ 16777216
  out : ∀ i, n ≤ i → f i = false
  self : w.rowIs g 120 5 (vcell g gs gw n f)
  words : w.rowIs gw 134 (nw n) fun j => .int .u64 ((wordOf f j : Nat) : Int)
  sums : w.rowIs gs 21 (nb n + 1) fun j => .int .i32 ((fen (blk f) j : Nat) : Int)

theorem IsVec.of_heap {w w' : World} {g gs gw n : Nat} {f : Nat → Bool} (h : IsVec w g gs gw n f) (hg : w'.heap[g]? = w.heap[g]?) (hs : w'.heap[gs]? = w.heap[gs]?) (hw : w'.heap[gw]? = w.heap[gw]?) : IsVec w' g gs gw n f :=
  ⟨h.small, h.out, h.self.of_block hg, h.words.of_block hw, h.sums.of_block hs⟩
theorem IsVec.drewN {w : World} {g gs gw n : Nat} {f : Nat → Bool} (h : IsVec w g gs gw n f) (k : Nat) : IsVec (w.drewN k) g gs gw n f := h.of_heap rfl rfl rfl
theorem IsVec.below {w w' : World} {B g gs gw n : Nat} {f : Nat → Bool} (h : IsVec w g gs gw n f) (hb : Below B w w') (h1 : g < B) (h2 : gs < B) (h3 : gw < B) : IsVec w' g gs gw n f :=
  h.of_heap (hb.block g h1) (hb.block gs h2) (hb.block gw h3)
theorem IsVec.below' {w w' : World} {g gs gw n : Nat} {f : Nat → Bool} (h : IsVec w g gs gw n f) (hb : Below w.heap.size w w') : IsVec w' g gs gw n f :=
  h.below hb h.self.lt h.sums.lt h.words.lt

theorem vecInfo : (Try.prog.info? 120).map (fun i => i.size) = some 5 := by kernel_rfl

set_option maxHeartbeats 400000 in
theorem answered_core (g : Nat) (w : World) (h : w.cell? ⟨g, 2, none⟩ = some (.pointer (some ⟨g, 0, none⟩))) :
    Calls Try.prog 71 #[.pointer (some ⟨g, 0, none⟩)] w fun e w' => e = .returned (.bool true) ∧ w = w' := by
  obtain ⟨j, hj, _⟩ := Option.map_eq_some_iff.1 vecInfo
  have heq := run_eql_ptr_same (P := Try.prog) w (tp := 50) (te := 120) (j := j) ⟨g, 0, none⟩ Try.underlying50 hj
  go_enter Try.func71, Try.ntmps71
  go_wp2
  go_ret
  exact ⟨rfl, rfl⟩
theorem answered_ok {g gs gw n : Nat} {f : Nat → Bool} {w : World} (h : IsVec w g gs gw n f) :
    Calls Try.prog 71 #[.pointer (some ⟨g, 0, none⟩)] w fun e w' => e = .returned (.bool true) ∧ w = w' :=
  answered_core g w (h.self.cell (i := 2) (by omega))

set_option maxHeartbeats 400000 in
theorem len_core (g : Nat) (n : Int) (w : World) (h : Hid (w.cell? ⟨g, 2, none⟩ = some (.pointer (some ⟨g, 0, none⟩)))) (h4 : w.cell? ⟨g, 4, none⟩ = some (.int .i64 n)) :
    Calls Try.prog 30 #[.pointer (some ⟨g, 0, none⟩)] w fun e w' => e = .returned (.int .i64 n) ∧ w = w' := by
  go_enter Try.func30, Try.ntmps30
  go_wp2_with (go_at_call 71; refine (answered_core _ _ h.out).mono ?_; rintro e w' ⟨rfl, rfl⟩)
  go_ret
  exact ⟨rfl, rfl⟩
theorem len_any {g gs gw n : Nat} {f : Nat → Bool} {w : World} (h : IsVec w g gs gw n f) :
    Calls Try.prog 30 #[.pointer (some ⟨g, 0, none⟩)] w fun e w' => e = .returned (.int .i64 ((n : Nat) : Int)) ∧ w = w' :=
  len_core g n w (hid (h.self.cell (i := 2) (by omega))) (h.self.cell (i := 4) (by omega))

theorem bit_at (x m : Nat) (hx : x < 18446744073709551616) : (bits .and .u64 ((x : Int) / 2 ^ m) 1 == 1) = x.testBit m := by
  have e : (x : Int) / 2 ^ m = ((x / 2 ^ m : Nat) : Int) := by simp
  have h := Nat.div_le_self x (2 ^ m)
  rw [e, and_lit (x / 2 ^ m) 1 1 (by omega) (by omega) (by omega), Nat.and_one_is_mod, Nat.testBit_eq_decide_div_mod_eq, Bool.eq_iff_iff]
  simp
  omega
set_option maxHeartbeats 400000 in
theorem get_in_core (g gw n W i x : Nat) (w : World) (h : Hid (w.cell? ⟨g, 2, none⟩ = some (.pointer (some ⟨g, 0, none⟩)))) (h4 : w.cell? ⟨g, 4, none⟩ = some (.int .i64 n))
    (h3 : w.cell? ⟨g, 3, none⟩ = some (.slice (some ⟨gw, 0, none⟩) W W)) (hi : i < n) (hn : n ≤ 16777216) (hW : i / 64 < W) (hx : w.cell? ⟨gw, i / 64, none⟩ = some (.int .u64 x)) (hx' : x < 18446744073709551616) :
    Calls Try.prog 56 #[.pointer (some ⟨g, 0, none⟩), .int .i64 i] w fun e w' => e = .returned (.bool (x.testBit (i % 64))) ∧ w = w' := by
  have hi' : (i : Int) < (n : Int) := by omega
  go_enter Try.func56, Try.ntmps56
  go_wp2_with (go_at_call 71; refine (answered_core _ _ h.out).mono ?_; rintro e w' ⟨rfl, rfl⟩)
  go_ret
  exact ⟨congrArg (fun z => Ending.returned (.bool z)) (bit_at x (i % 64) hx'), rfl⟩
set_option maxHeartbeats 400000 in
theorem get_out_core (g n : Nat) (i : Int) (w : World) (h : Hid (w.cell? ⟨g, 2, none⟩ = some (.pointer (some ⟨g, 0, none⟩)))) (h4 : w.cell? ⟨g, 4, none⟩ = some (.int .i64 n)) (hi : i < 0 ∨ (n : Int) ≤ i) :
    Calls Try.prog 56 #[.pointer (some ⟨g, 0, none⟩), .int .i64 i] w fun e w' => e = .returned (.bool false) ∧ w = w' := by
  by_cases h0 : i < 0
  · clear hi
    go_enter Try.func56, Try.ntmps56
    go_wp2_with (go_at_call 71; refine (answered_core _ _ h.out).mono ?_; rintro e w' ⟨rfl, rfl⟩)
    go_ret
    exact ⟨rfl, rfl⟩
  · have h1 : (n : Int) ≤ i := by omega
    have h2 : 0 ≤ i := by omega
    clear hi h0
    go_enter Try.func56, Try.ntmps56
    go_wp2_with (go_at_call 71; refine (answered_core _ _ h.out).mono ?_; rintro e w' ⟨rfl, rfl⟩)
    go_ret
    exact ⟨rfl, rfl⟩
/-- The bit at a place, of any number. -/
def at_ (f : Nat → Bool) (i : Int) : Bool := decide (0 ≤ i) && f i.toNat
theorem get_any {g gs gw n : Nat} {f : Nat → Bool} {w : World} (h : IsVec w g gs gw n f) (i : Int) :
    Calls Try.prog 56 #[.pointer (some ⟨g, 0, none⟩), .int .i64 i] w fun e w' => e = .returned (.bool (at_ f i)) ∧ w = w' := by
  have c2 := h.self.cell (i := 2) (by omega)
  have c3 := h.self.cell (i := 3) (by omega)
  have c4 := h.self.cell (i := 4) (by omega)
  by_cases hi : i < 0 ∨ (n : Int) ≤ i
  · have e : at_ f i = false := by
      unfold at_
      rcases hi with hi | hi
      · simp; omega
      · rw [h.out i.toNat (by omega)]; simp
    rw [e]
    exact get_out_core g n i w (hid c2) c4 hi
  · obtain ⟨k, rfl⟩ := Int.eq_ofNat_of_zero_le (a := i) (by omega)
    have e : at_ f (k : Int) = (wordOf f (k / 64)).testBit (k % 64) := by
      unfold at_
      rw [testBit_wordOf, show 64 * (k / 64) + k % 64 = k by omega]
      simp; omega
    have hs := h.small
    have hW : k / 64 < nw n := by unfold nw; omega
    rw [e]
    exact get_in_core g gw n (nw n) k _ w (hid c2) c4 c3 (by omega) hs hW (h.words.cell hW) (wordOf_lt _ _)

end Go.Proofs.Ytmbcinbkijnblaa.V1
