/- New and Of. -/
import Derived.Test.YtgdfiopdkidhfaaVecC
namespace Go.Proofs.Ytgdfiopdkidhfaa.V1
open Go.RowKit
open Fen

def bcell (g gw n : Nat) : Nat → Value
  | 0 => .slice none 0 0
  | 1 => .int .i64 0
  | 2 => .pointer (some ⟨g, 0, none⟩)
  | 3 => .slice (some ⟨gw, 0, none⟩) (nw n) (nw n)
  | _ => .int .i64 ((n : Nat) : Int)

/-- A vector without counts: of n bits, f. -/
structure IsBlank (w w' : World) (n : Nat) (f : Nat → Bool) : Prop where
  size : w'.heap.size = w.heap.size + 2
  words : w'.rowIs w.heap.size 84 (nw n) fun j => .int .u64 ((wordOf f j : Nat) : Int)
  self : w'.rowIs (w.heap.size + 1) 83 5 (bcell (w.heap.size + 1) w.heap.size n)
  only : Only (fun _ => False) w w'

theorem wordOf_none (j : Nat) : wordOf (fun _ => false) j = 0 := by
  apply Nat.eq_of_testBit_eq
  intro i
  rw [testBit_wordOf]; simp

set_option maxHeartbeats 1000000 in
theorem blank_any (n : Nat) (w : World) (hn : n ≤ 16777216) :
    Calls Try.prog 61 #[.int .i64 n] w fun e w' => e = .returned (.pointer (some ⟨w.heap.size + 1, 0, none⟩)) ∧ Hid (IsBlank w w' n (fun _ => false)) := by
  have hN : nw n ≤ 262144 := by unfold nw; omega
  have hKe : Hid ((((n : Nat) : Int) + 64 - 1) / 64 = ((nw n : Nat) : Int)) := hid (by unfold nw; omega)
  have hmk := fun W => run_make_row' (P := Try.prog) 81 84 (.int .u64 0) 8 Try.underlying81 uint64Info rfl .i64 .i64 (nw n) (by omega) (by omega) W
  go_enter Try.func61, Try.ntmps61
  go_wp2_with (go_at_call 52; refine (pieces_any _ _ _ (by omega) (by omega) (by omega) (by omega)).mono ?_; rintro e w' ⟨rfl, rfl⟩; rw [hKe.out])
  go_ret
  refine ⟨rfl, hid ⟨by simp, ?_, ?_, ?_⟩⟩
  · exact ((World.rowIs_made w _ _ _).alloc _).congr fun i _ => by rw [wordOf_none]; rfl
  · have h := World.rowIs_alloc (w.alloc (Obj.cells (madeCells #[Value.int IntKind.u64 0] (nw n)) 84)) #[Value.slice none 0 0, Value.int IntKind.i64 0, Value.pointer (some ⟨w.heap.size + 1, 0, none⟩), Value.slice (some ⟨w.heap.size, 0, none⟩) (nw n) (nw n), Value.int IntKind.i64 n] 83
      (bcell (w.heap.size + 1) w.heap.size n) (fun i hi => by
        match i, hi with
        | 0, _ => rfl
        | 1, _ => rfl
        | 2, _ => rfl
        | 3, _ => rfl
        | 4, _ => rfl
        | i + 5, hi => exact absurd (show i + 5 < 5 from hi) (by omega))
    simpa using h
  · exact ((Only.refl _ w).alloc _).alloc _

/-- What New, Of, Read answer where there is no error. -/
def Made (w : World) (n : Nat) (f : Nat → Bool) (e : Ending) (w' : World) : Prop :=
  ∃ g gs gw : Nat, e = .returned (.tuple #[.pointer (some ⟨g, 0, none⟩), .int .i64 0]) ∧ IsVec w' g gs gw n f ∧ w.heap.size ≤ g ∧ w.heap.size ≤ gs ∧ w.heap.size ≤ gw ∧ Below w.heap.size w w'

theorem IsBlank.made {w w1 w2 : World} {n : Nat} {f : Nat → Bool} (hn : n ≤ 16777216) (hf : ∀ i, n ≤ i → f i = false) (h : IsBlank w w1 n f) (_h1 : w2.heap.size = w1.heap.size + 2)
    (h2 : w2.rowIs (w1.heap.size + 1) 21 (nb n + 1) (fun j => .int .i32 ((fen (blk f) j : Nat) : Int))) (h3 : w2.rowIs (w.heap.size + 1) 83 5 (layCells (w1.heap.size + 1) (nb n) (C (cf f) n) (bcell (w.heap.size + 1) w.heap.size n)))
    (h4 : Only (· = w.heap.size + 1) w1 w2) : Made w n f (.returned (.tuple #[.pointer (some ⟨w.heap.size + 1, 0, none⟩), .int .i64 0])) w2 := by
  refine ⟨w.heap.size + 1, w1.heap.size + 1, w.heap.size, rfl, ⟨hn, hf, h3.congr fun i _ => ?_, h4.row h.words (by simp), h2⟩, by omega, by have := h.size; omega, Nat.le_refl _, ?_⟩
  · match i with
    | 0 => rfl
    | 1 => rfl
    | 2 => rfl
    | 3 => rfl
    | i + 4 => rfl
  · refine ((h.only.mono (S' := fun k => w.heap.size ≤ k) (fun _ _ h => h.elim)).trans (h4.mono (fun k _ e => by omega))).to_below (fun _ h => h) (Nat.le_refl _)

/-- A slice that reads as bits. -/
def RdB (w : World) (A : Option Addr) (xs : List Bool) : Prop := ∀ j, j < xs.length → ∃ b off, A = some ⟨b, off, none⟩ ∧ ∀ j, j < xs.length → w.cell? ⟨b, off + j, none⟩ = some (.bool (xs.getD j false))
theorem RdB.below {w w' : World} {A : Option Addr} {xs : List Bool} (h : RdB w A xs) (hb : Below w.heap.size w w') : RdB w' A xs := by
  intro j hj
  obtain ⟨b, off, hA, hc⟩ := h j hj
  refine ⟨b, off, hA, fun i hi => ?_⟩
  have hci := hc i hi
  rw [hb.cell, hci]
  unfold World.cell? at hci
  rcases Nat.lt_or_ge b w.heap.size with h2 | h2
  · exact h2
  · rw [Array.getElem?_eq_none h2] at hci
    cases hci

theorem getD_far (xs : List Bool) (i : Nat) (h : xs.length ≤ i) : xs.getD i false = false := by simp [List.getD, List.getElem?_eq_none h]
theorem or_int (x m : Nat) (hx : x < 18446744073709551616) (hm : m < 64) : bits .or .u64 (x : Int) (IntKind.u64.wrap ((2 : Int) ^ m)) = ((x ||| 2 ^ m : Nat) : Int) := by
  have h64 : 2 ^ m ≤ 2 ^ 63 := Nat.pow_le_pow_right (by decide) (by omega)
  have e : (2 : Int) ^ m = ((2 ^ m : Nat) : Int) := by simp
  rw [e, wrap_fit _ (by omega)]
  exact u64_or_nat x (2 ^ m) hx (by omega)
/-- The first k of some bits. -/
def fk (xs : List Bool) (k i : Nat) : Bool := decide (i < k) && xs.getD i false
theorem fk_step_no (xs : List Bool) (k : Nat) (h : xs.getD k false = false) : fk xs (k + 1) = fk xs k := by
  funext i
  unfold fk
  by_cases e : i = k
  · subst e; simp only [h]; simp
  · rw [show decide (i < k + 1) = decide (i < k) by rw [decide_eq_decide]; omega]
theorem wordOf_step (xs : List Bool) (k : Nat) (h : xs.getD k false = true) (j : Nat) : wordOf (fk xs (k + 1)) j = if j = k / 64 then wordOf (fk xs k) j ||| 2 ^ (k % 64) else wordOf (fk xs k) j := by
  apply Nat.eq_of_testBit_eq
  intro i
  have hf : ∀ m, fk xs (k + 1) m = (fk xs k m || decide (m = k)) := by
    intro m
    unfold fk
    by_cases e : m = k
    · subst e; simp only [h]; simp
    · rw [show decide (m < k + 1) = decide (m < k) by rw [decide_eq_decide]; omega]; simp [e]
  rw [testBit_wordOf, hf]
  by_cases e : j = k / 64
  · rw [if_pos e, Nat.testBit_or, testBit_wordOf, Nat.testBit_two_pow]
    by_cases hi : i < 64
    · have : decide (64 * j + i = k) = decide (k % 64 = i) := by rw [decide_eq_decide]; omega
      rw [this]; simp [hi]
    · have : ¬ k % 64 = i := by omega
      simp [hi, this]
  · rw [if_neg e, testBit_wordOf]
    by_cases hi : i < 64
    · have : ¬ 64 * j + i = k := by omega
      simp [this]
    · simp [hi]

theorem cell_lt {w : World} {p : Addr} {v : Value} (h : w.cell? p = some v) : p.block < w.heap.size := by
  unfold World.cell? at h
  rcases Nat.lt_or_ge p.block w.heap.size with h2 | h2
  · exact h2
  · rw [Array.getElem?_eq_none h2] at h
    cases h
theorem IsBlank.drew {w wr : World} {n : Nat} {f : Nat → Bool} (h : IsBlank w wr n f) : IsBlank w wr.drew n f := ⟨h.size, h.words, h.self, h.only.drew⟩
theorem IsBlank.store {w wr : World} {n : Nat} {xs : List Bool} (k : Nat) (hv : xs.getD k false = true) (h : IsBlank w wr n (fk xs k)) {z : Int} (hz : z = ((wordOf (fk xs k) (k / 64) ||| 2 ^ (k % 64) : Nat) : Int)) :
    IsBlank w (wr.setCell ⟨w.heap.size, k / 64, none⟩ (.int .u64 z)) n (fk xs (k + 1)) := by
  subst hz
  refine ⟨by simpa [World.setCell] using h.size, (h.words.set (k / 64) _).congr fun i _ => ?_, h.self.setOther (by simp) _, h.only.setCell (.inr (Nat.le_refl _)) _⟩
  rw [wordOf_step xs k hv]
  by_cases e : i = k / 64
  · subst e; rw [if_pos rfl, if_pos rfl]
  · rw [if_neg e, if_neg e]

end Go.Proofs.Ytgdfiopdkidhfaa.V1
