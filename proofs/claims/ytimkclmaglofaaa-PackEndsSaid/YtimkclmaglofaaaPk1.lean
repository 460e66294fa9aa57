/- pack: what its small calls answer. -/
import Derived.Test.YtimkclmaglofaaaRows
import Derived.Test.YtimkclmaglofaaaRd
import Derived.LaidEqlPtr
namespace Go.Proofs.Ytimkclmaglofaaa
open Go.RowKit
open Bit

theorem shr_zero {w : Nat} {n : Nat} : (((n : Int) / 2 ^ w) == 0) = decide (n < 2 ^ w) := by
  rw [divU, Bool.eq_iff_iff, decide_eq_true_eq, beq_iff_eq]
  have := Nat.div_eq_zero_iff (a := n) (b := 2 ^ w)
  have h2 := Nat.two_pow_pos w
  omega
set_option maxHeartbeats 400000 in
theorem fits_any (z : Int) (wd : Nat) (w : World) (hwd : wd ≤ 62) (hz : z ≤ 9223372036854775807) :
    Calls Try.prog 38 #[.int .i64 z, .int .i64 (wd : Int)] w fun e w' => e = .returned (.bool (good wd z)) ∧ w = w' := by
  by_cases h0 : 0 ≤ z
  · obtain ⟨n, rfl⟩ := Int.eq_ofNat_of_zero_le h0
    have e : good wd (n : Int) = ((((n : Int) / 2 ^ wd)) == 0) := by
      have e2 : ((2 ^ wd : Nat) : Int) = (2 : Int) ^ wd := by simp
      rw [shr_zero, Bool.eq_iff_iff, good_nat, decide_eq_true_eq]
      simp
    rw [e]
    clear e h0
    go_enter Try.func38, Try.ntmps38
    go_wp2
    go_ret
    exact ⟨rfl, rfl⟩
  · have e : good wd z = false := by unfold good; simp [h0]
    rw [e]
    clear e
    have h1 : z < 0 := by omega
    clear h0
    go_enter Try.func38, Try.ntmps38
    go_wp2
    go_ret
    exact ⟨rfl, rfl⟩

def isWd (z : Int) : Bool := decide (1 ≤ z) && decide (z ≤ 60)
theorem isWd_iff {z : Int} : isWd z = true ↔ 1 ≤ z ∧ z ≤ 60 := by unfold isWd; simp
set_option maxHeartbeats 400000 in
theorem isWidth_any (z : Int) (w : World) :
    Calls Try.prog 41 #[.int .i64 z] w fun e w' => e = .returned (.bool (isWd z)) ∧ w = w' := by
  by_cases h0 : 1 ≤ z
  · have e : isWd z = decide (z ≤ 60) := by unfold isWd; simp [h0]
    rw [e]
    clear e
    go_enter Try.func41, Try.ntmps41
    go_wp2
    go_ret
    exact ⟨rfl, rfl⟩
  · have e : isWd z = false := by unfold isWd; simp [h0]
    rw [e]
    clear e
    have h1 : z < 1 := by omega
    clear h0
    go_enter Try.func41, Try.ntmps41
    go_wp2
    go_ret
    exact ⟨rfl, rfl⟩

set_option maxHeartbeats 400000 in
theorem tooMany_any (wd n : Int) (w : World) (h1 : 1 ≤ wd) (h2 : wd ≤ 60) :
    Calls Try.prog 44 #[.int .i64 wd, .int .i64 n] w fun e w' => e = .returned (.bool (decide (16777216 / wd < n))) ∧ w = w' := by
  go_enter Try.func44, Try.ntmps44
  go_wp2
  go_ret
  exact ⟨rfl, rfl⟩
theorem many_iff {wd n : Nat} (h1 : 1 ≤ wd) : ¬ (16777216 : Int) / (wd : Int) < (n : Int) ↔ wd * n ≤ 16777216 := by
  have e : (16777216 : Int) / (wd : Int) = ((16777216 / wd : Nat) : Int) := by simp
  rw [e, Nat.mul_comm wd n, ← Nat.le_div_iff_mul_le (by omega)]
  omega

set_option maxHeartbeats 400000 in
theorem pieces_any (n s : Int) (w : World) (h0 : 0 ≤ n) (h1 : n ≤ 16777216) (h2 : 1 ≤ s) (h3 : s ≤ 64) :
    Calls Try.prog 56 #[.int .i64 n, .int .i64 s] w fun e w' => e = .returned (.int .i64 ((n + s - 1) / s)) ∧ w = w' := by
  go_enter Try.func56, Try.ntmps56
  go_wp2
  go_ret
  exact ⟨rfl, rfl⟩

def nw (n : Nat) : Nat := (n + 63) / 64
theorem uint64Info : (Try.prog.info? 79).map (fun i => (i.zero, i.size, i.bytes)) = some (some (.int .u64 0), 1, 8) := by kernel_rfl
theorem uint8Info : (Try.prog.info? 5).map (fun i => (i.zero, i.size, i.bytes)) = some (some (.int .u8 0), 1, 1) := by kernel_rfl
theorem intInfo : (Try.prog.info? 3).map (fun i => (i.zero, i.size, i.bytes)) = some (some (.int .i64 0), 1, 8) := by kernel_rfl
set_option maxHeartbeats 400000 in
theorem room_any (n : Nat) (w : World) (hn : n ≤ 16777216) :
    Calls Try.prog 60 #[.int .i64 (n : Int)] w fun e w' => e = .returned (.slice (some ⟨w.heap.size, 0, none⟩) (nw n) (nw n)) ∧ w' = w.alloc (.cells (madeCells #[.int .u64 0] (nw n)) 79) := by
  have hN : nw n ≤ 262144 := by unfold nw; omega
  have hKe : Hid ((((n : Nat) : Int) + 64 - 1) / 64 = ((nw n : Nat) : Int)) := hid (by unfold nw; omega)
  have hmk := fun W => run_make_row' (P := Try.prog) 65 79 (.int .u64 0) 8 Try.underlying65 uint64Info rfl .i64 .i64 (nw n) (by omega) (by omega) W
  go_enter Try.func60, Try.ntmps60
  go_wp2_with (go_at_call 56; refine (pieces_any _ _ _ (by omega) (by omega) (by omega) (by omega)).mono ?_; rintro e w' ⟨rfl, rfl⟩; rw [hKe.out])
  go_ret
  exact ⟨rfl, rfl⟩

def rcell (g gw wd n : Nat) : Nat → Value
  | 0 => .slice (some ⟨gw, 0, none⟩) (nw (wd * n)) (nw (wd * n))
  | 1 => .pointer (some ⟨g, 0, none⟩)
  | 2 => .int .i64 ((wd : Nat) : Int)
  | _ => .int .i64 ((n : Nat) : Int)
/-- A row that the package answered: n numbers of width wd, whose bits are f. -/
structure IsRow (w : World) (g gw wd n : Nat) (f : Nat → Bool) : Prop where
  one : 1 ≤ wd
  most : wd ≤ 60
  small : wd * n ≤ 16777216
  out : ∀ i, wd * n ≤ i → f i = false
  self : w.rowIs g 67 4 (rcell g gw wd n)
  words : w.rowIs gw 79 (nw (wd * n)) fun j => .int .u64 ((word f j : Nat) : Int)
theorem IsRow.of_heap {w w' : World} {g gw wd n : Nat} {f : Nat → Bool} (h : IsRow w g gw wd n f) (hg : w'.heap[g]? = w.heap[g]?) (hw : w'.heap[gw]? = w.heap[gw]?) : IsRow w' g gw wd n f :=
  ⟨h.one, h.most, h.small, h.out, h.self.of_block hg, h.words.of_block hw⟩
theorem IsRow.drewN {w : World} {g gw wd n : Nat} {f : Nat → Bool} (h : IsRow w g gw wd n f) (k : Nat) : IsRow (w.drewN k) g gw wd n f := h.of_heap rfl rfl
theorem IsRow.below {w w' : World} {g gw wd n : Nat} {f : Nat → Bool} (h : IsRow w g gw wd n f) (hb : Below w.heap.size w w') : IsRow w' g gw wd n f :=
  h.of_heap (hb.block g h.self.lt) (hb.block gw h.words.lt)
theorem IsRow.only {S : Nat → Prop} {w w' : World} {g gw wd n : Nat} {f : Nat → Bool} (h : IsRow w g gw wd n f) (hb : Only S w w') (h1 : ¬ S g) (h2 : ¬ S gw) : IsRow w' g gw wd n f :=
  h.of_heap (hb.block g h.self.lt h1) (hb.block gw h.words.lt h2)
theorem IsRow.few {w : World} {g gw wd n : Nat} {f : Nat → Bool} (h : IsRow w g gw wd n f) : n ≤ 16777216 :=
  Nat.le_trans (Nat.le_mul_of_pos_left n h.one) h.small

theorem rowInfo : (Try.prog.info? 67).map (fun i => i.size) = some 4 := by kernel_rfl
set_option maxHeartbeats 400000 in
theorem answered_core (g : Nat) (w : World) (h : w.cell? ⟨g, 1, none⟩ = some (.pointer (some ⟨g, 0, none⟩))) :
    Calls Try.prog 51 #[.pointer (some ⟨g, 0, none⟩)] w fun e w' => e = .returned (.bool true) ∧ w = w' := by
  obtain ⟨j, hj, _⟩ := Option.map_eq_some_iff.1 rowInfo
  have heq := run_eql_ptr_same (P := Try.prog) w (tp := 29) (te := 67) (j := j) ⟨g, 0, none⟩ Try.underlying29 hj
  go_enter Try.func51, Try.ntmps51
  go_wp2
  go_ret
  exact ⟨rfl, rfl⟩
theorem answered_ok {g gw wd n : Nat} {f : Nat → Bool} {w : World} (h : IsRow w g gw wd n f) :
    Calls Try.prog 51 #[.pointer (some ⟨g, 0, none⟩)] w fun e w' => e = .returned (.bool true) ∧ w = w' :=
  answered_core g w (h.self.cell (i := 1) (by omega))
set_option maxHeartbeats 400000 in
theorem len_core (g : Nat) (n : Int) (w : World) (h : Hid (w.cell? ⟨g, 1, none⟩ = some (.pointer (some ⟨g, 0, none⟩)))) (h4 : w.cell? ⟨g, 3, none⟩ = some (.int .i64 n)) :
    Calls Try.prog 31 #[.pointer (some ⟨g, 0, none⟩)] w fun e w' => e = .returned (.int .i64 n) ∧ w = w' := by
  go_enter Try.func31, Try.ntmps31
  go_wp2_with (go_at_call 51; refine (answered_core _ _ h.out).mono ?_; rintro e w' ⟨rfl, rfl⟩)
  go_ret
  exact ⟨rfl, rfl⟩
theorem len_any {g gw wd n : Nat} {f : Nat → Bool} {w : World} (h : IsRow w g gw wd n f) :
    Calls Try.prog 31 #[.pointer (some ⟨g, 0, none⟩)] w fun e w' => e = .returned (.int .i64 ((n : Nat) : Int)) ∧ w = w' :=
  len_core g n w (hid (h.self.cell (i := 1) (by omega))) (h.self.cell (i := 3) (by omega))
set_option maxHeartbeats 400000 in
theorem width_core (g : Nat) (n : Int) (w : World) (h : Hid (w.cell? ⟨g, 1, none⟩ = some (.pointer (some ⟨g, 0, none⟩)))) (h4 : w.cell? ⟨g, 2, none⟩ = some (.int .i64 n)) :
    Calls Try.prog 32 #[.pointer (some ⟨g, 0, none⟩)] w fun e w' => e = .returned (.int .i64 n) ∧ w = w' := by
  go_enter Try.func32, Try.ntmps32
  go_wp2_with (go_at_call 51; refine (answered_core _ _ h.out).mono ?_; rintro e w' ⟨rfl, rfl⟩)
  go_ret
  exact ⟨rfl, rfl⟩
theorem width_any {g gw wd n : Nat} {f : Nat → Bool} {w : World} (h : IsRow w g gw wd n f) :
    Calls Try.prog 32 #[.pointer (some ⟨g, 0, none⟩)] w fun e w' => e = .returned (.int .i64 ((wd : Nat) : Int)) ∧ w = w' :=
  width_core g wd w (hid (h.self.cell (i := 1) (by omega))) (h.self.cell (i := 2) (by omega))

end Go.Proofs.Ytimkclmaglofaaa
