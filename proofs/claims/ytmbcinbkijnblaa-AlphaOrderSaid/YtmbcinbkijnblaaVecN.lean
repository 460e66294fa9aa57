/- New and Of. -/
import Derived.Test.YtmbcinbkijnblaaVecC
namespace Go.Proofs.Ytmbcinbkijnblaa.V1
open Go.RowKit
open Fen

def bcell (g gw n : Nat) : Nat → Value
  | 0 => .slice none 0 0
  | 1 => .int .i64 0
  | 2 => .pointer (some ⟨g, 0, none⟩)
  | 3 => .slice (some ⟨gw, 0, none⟩) (nw n) (nw n)
  | _ => .int .i64 ((n : Nat) : Int)

/-- A vector without counts: of n bits, f. -/
structure IsBlank (w w' : World) (n : Nat) (f : Nat → Bool) : Prop where
  size : w'.heap.size = w.heap.size + 2
  words : w'.rowIs w.heap.size 134 (nw n) fun j => .int .u64 ((wordOf f j : Nat) : Int)
  self : w'.rowIs (w.heap.size + 1) 120 5 (bcell (w.heap.size + 1) w.heap.size n)
  only : Only (fun _ => False) w w'

theorem wordOf_none (j : Nat) : wordOf (fun _ => false) j = 0 := by
  apply Nat.eq_of_testBit_eq
  intro i
  rw [testBit_wordOf]; simp

set_option maxHeartbeats 1000000 in
theorem blank_any (n : Nat) (w : World) (hn : n ≤ 16777216) :
    Calls Try.prog 97 #[.int .i64 n] w fun e w' => e = .returned (.pointer (some ⟨w.heap.size + 1, 0, none⟩)) ∧ Hid (IsBlank w w' n (fun _ => false)) := by
  have hN : nw n ≤ 262144 := by unfold nw; omega
  have hKe : Hid ((((n : Nat) : Int) + 64 - 1) / 64 = ((nw n : Nat) : Int)) := hid (by unfold nw; omega)
  have hmk := fun W => run_make_row' (P := Try.prog) 118 134 (.int .u64 0) 8 Try.underlying118 uint64Info rfl .i64 .i64 (nw n) (by omega) (by omega) W
  go_enter Try.func97, Try.ntmps97
  go_wp2_with (go_at_call 96; refine (pieces_any _ _ _ (by omega) (by omega) (by omega) (by omega)).mono ?_; rintro e w' ⟨rfl, rfl⟩; rw [hKe.out])
  go_ret
  refine ⟨rfl, hid ⟨by simp, ?_, ?_, ?_⟩⟩
  · exact ((World.rowIs_made w _ _ _).alloc _).congr fun i _ => by rw [wordOf_none]; rfl
  · have h := World.rowIs_alloc (w.alloc (Obj.cells (madeCells #[Value.int IntKind.u64 0] (nw n)) 134)) #[Value.slice none 0 0, Value.int IntKind.i64 0, Value.pointer (some ⟨w.heap.size + 1, 0, none⟩), Value.slice (some ⟨w.heap.size, 0, none⟩) (nw n) (nw n), Value.int IntKind.i64 n] 120
      (bcell (w.heap.size + 1) w.heap.size n) (fun i hi => by
        match i, hi with
        | 0, _ => rfl
        | 1, _ => rfl
        | 2, _ => rfl
        | 3, _ => rfl
        | 4, _ => rfl
        | i + 5, hi => exact absurd (show i + 5 < 5 from hi) (by omega))
    simpa using h
  · exact ((Only.refl _ w).alloc _).alloc _

/-- What New, Of, Read answer where there is no error. -/
def Made (w : World) (n : Nat) (f : Nat → Bool) (e : Ending) (w' : World) : Prop :=
  ∃ g gs gw : Nat, e = .returned (.tuple #[.pointer (some ⟨g, 0, none⟩), .int .i64 0]) ∧ IsVec w' g gs gw n f ∧ w.heap.size ≤ g ∧ w.heap.size ≤ gs ∧ w.heap.size ≤ gw ∧ Below w.heap.size w w'

theorem IsBlank.made {w w1 w2 : World} {n : Nat} {f : Nat → Bool} (hn : n ≤ 16777216) (hf : ∀ i, n ≤ i → f i = false) (h : IsBlank w w1 n f) (_h1 : w2.heap.size = w1.heap.size + 2)
    (h2 : w2.rowIs (w1.heap.size + 1) 21 (nb n + 1) (fun j => .int .i32 ((fen (blk f) j : Nat) : Int))) (h3 : w2.rowIs (w.heap.size + 1) 120 5 (layCells (w1.heap.size + 1) (nb n) (C (cf f) n) (bcell (w.heap.size + 1) w.heap.size n)))
    (h4 : Only (· = w.heap.size + 1) w1 w2) : Made w n f (.returned (.tuple #[.pointer (some ⟨w.heap.size + 1, 0, none⟩), .int .i64 0])) w2 := by
  refine ⟨w.heap.size + 1, w1.heap.size + 1, w.heap.size, rfl, ⟨hn, hf, h3.congr fun i _ => ?_, h4.row h.words (by simp), h2⟩, by omega, by have := h.size; omega, Nat.le_refl _, ?_⟩
  · match i with
    | 0 => rfl
    | 1 => rfl
    | 2 => rfl
    | 3 => rfl
    | i + 4 => rfl
  · refine ((h.only.mono (S' := fun k => w.heap.size ≤ k) (fun _ _ h => h.elim)).trans (h4.mono (fun k _ e => by omega))).to_below (fun _ h => h) (Nat.le_refl _)

/-- A slice that reads as bits. -/
def RdB (w : World) (A : Option Addr) (xs : List Bool) : Prop := ∀ j, j < xs.length → ∃ b off, A = some ⟨b, off, none⟩ ∧ ∀ j, j < xs.length → w.cell? ⟨b, off + j, none⟩ = some (.bool (xs.getD j false))
theorem RdB.below {w w' : World} {A : Option Addr} {xs : List Bool} (h : RdB w A xs) (hb : Below w.heap.size w w') : RdB w' A xs := by
  intro j hj
  obtain ⟨b, off, hA, hc⟩ := h j hj
  refine ⟨b, off, hA, fun i hi => ?_⟩
  have hci := hc i hi
  rw [hb.cell, hci]
  unfold World.cell? at hci
  rcases Nat.lt_or_ge b w.heap.size with h2 | h2
  · exact h2
  · rw [Array.getElem?_eq_none h2] at hci
    cases hci

theorem getD_far (xs : List Bool) (i : Nat) (h : xs.length ≤ i) : xs.getD i false = false := by simp [List.getD, List.getElem?_eq_none h]
theorem or_int (x m : Nat) (hx : x < 18446744073709551616) (hm : m < 64) : bits .or .u64 (x : Int) (IntKind.u64.wrap ((2 : Int) ^ m)) = ((x ||| 2 ^ m : Nat) : Int) := by
  have h64 : 2 ^ m ≤ 2 ^ 63 := Nat.pow_le_pow_right (by decide) (by omega)
  have e : (2 : Int) ^ m = ((2 ^ m : Nat) : Int) := by simp
  rw [e, wrap_fit _ (by omega)]
  exact u64_or_nat x (2 ^ m) hx (by omega)
/-- The first k of some bits. -/
def fk (xs : List Bool) (k i : Nat) : Bool := decide (i < k) && xs.getD i false
theorem fk_step_no (xs : List Bool) (k : Nat) (h : xs.getD k false = false) : fk xs (k + 1) = fk xs k := by
  funext i
  unfold fk
  by_cases e : i = k
  · subst e; simp only [h]; simp
  · rw [show decide (i < k + 1) = decide (i < k) by rw [decide_eq_decide]; omega]
theorem wordOf_step (xs : List Bool) (k : Nat) (h : xs.getD k false = true) (j : Nat) : wordOf (fk xs (k + 1)) j = if j = k / 64 then wordOf (fk xs k) j ||| 2 ^ (k % 64) else wordOf (fk xs k) j := by
  apply Nat.eq_of_testBit_eq
  intro i
  have hf : ∀ m, fk xs (k + 1) m = (fk xs k m || decide (m = k)) := by
    intro m
    unfold fk
    by_cases e : m = k
    · subst e; simp only [h]; simp
    · rw [show decide (m < k + 1) = decide (m < k) by rw [decide_eq_decide]; omega]; simp [e]
  rw [testBit_wordOf, hf]
  by_cases e : j = k / 64
  · rw [if_pos e, Nat.testBit_or, testBit_wordOf, Nat.testBit_two_pow]
    by_cases hi : i < 64
    · have : decide (64 * j + i = k) = decide (k % 64 = i) := by rw [decide_eq_decide]; omega
      rw [this]; simp [hi]
    · have : ¬ k % 64 = i := by omega
      simp [hi, this]
  · rw [if_neg e, testBit_wordOf]
    by_cases hi : i < 64
    · have : ¬ 64 * j + i = k := by omega
      simp [this]
    · simp [hi]

theorem cell_lt {w : World} {p : Addr} {v : Value} (h : w.cell? p = some v) : p.block < w.heap.size := by
  unfold World.cell? at h
  rcases Nat.lt_or_ge p.block w.heap.size with h2 | h2
  · exact h2
  · rw [Array.getElem?_eq_none h2] at h
    cases h
theorem IsBlank.drew {w wr : World} {n : Nat} {f : Nat → Bool} (h : IsBlank w wr n f) : IsBlank w wr.drew n f := ⟨h.size, h.words, h.self, h.only.drew⟩
theorem IsBlank.store {w wr : World} {n : Nat} {xs : List Bool} (k : Nat) (hv : xs.getD k false = true) (h : IsBlank w wr n (fk xs k)) {z : Int} (hz : z = ((wordOf (fk xs k) (k / 64) ||| 2 ^ (k % 64) : Nat) : Int)) :
    IsBlank w (wr.setCell ⟨w.heap.size, k / 64, none⟩ (.int .u64 z)) n (fk xs (k + 1)) := by
  subst hz
  refine ⟨by simpa [World.setCell] using h.size, (h.words.set (k / 64) _).congr fun i _ => ?_, h.self.setOther (by simp) _, h.only.setCell (.inr (Nat.le_refl _)) _⟩
  rw [wordOf_step xs k hv]
  by_cases e : i = k / 64
  · subst e; rw [if_pos rfl, if_pos rfl]
  · rw [if_neg e, if_neg e]

set_option maxHeartbeats 400000 in
theorem of_ok (A : Option Addr) (cap : Nat) (xs : List Bool) (w : World) (hx : RdB w A xs) (hn : xs.length ≤ 16777216) :
    Calls Try.prog 87 #[.slice A xs.length cap] w (Made w xs.length (fun i => xs.getD i false)) := by
  have e1 : (if ((xs.length : Nat) : Int) < 0 then 2 else if 16777216 < ((xs.length : Nat) : Int) then 3 else 0 : Int) = 0 := by rw [if_neg (by omega), if_neg (by omega)]
  have E1 := hid e1
  have Hx := hid hx
  clear e1 hx
  obtain ⟨n, hnn⟩ : ∃ n, n = xs.length := ⟨_, rfl⟩
  rw [← hnn] at hn E1 ⊢
  have Hn := hid hnn
  clear hnn
  go_enter Try.func87, Try.ntmps87
  go_wp2_with (first | (go_at_call 95; refine (allowed_any n w).mono ?_; rintro e w' ⟨rfl, rfl⟩; rw [E1.out]) | (go_at_call 97; refine (blank_any n w hn).mono ?_; rintro e w1 ⟨rfl, hb⟩))
  go_loopw [19] (fun s wr => ∃ k : Nat, k ≤ n ∧ s = .int .i64 k ∧ Hid (IsBlank w wr n (fk xs k))) (fun s _ => n - (intOf s).toNat)
  case atStart => exact ⟨0, by omega, rfl, by have e : fk xs 0 = fun _ => false := (by funext i; simp [fk]); rw [e]; exact hb⟩
  case round =>
    obtain ⟨k, hk, rfl, HR⟩ := hrel
    clear hb
    by_cases hp : k < n
    · obtain ⟨b, off, hA, hcw⟩ := Hx.out k (by rw [← Hn.out]; exact hp)
      have hc0 := hcw k (by rw [← Hn.out]; exact hp)
      have hc := (HR.out.only.cell (p := ⟨b, off + k, none⟩) (cell_lt hc0) (fun h => h)).trans hc0
      clear hcw hc0
      subst hA
      by_cases hv : xs.getD k false = true
      · rw [hv] at hc
        have hkW : k / 64 < nw n := by unfold nw; omega
        have c3 := HR.out.self.cell (i := 3) (by omega)
        simp only [bcell] at c3
        have dk := HR.out.words.cell hkW
        have fz := HR.out.words.frozen (k / 64)
        have hlt := wordOf_lt (fk xs k) (k / 64)
        have HN : Hid (∀ z : Int, z = ((wordOf (fk xs k) (k / 64) ||| 2 ^ (k % 64) : Nat) : Int) → IsBlank w (wr.setCell ⟨w.heap.size, k / 64, none⟩ (.int .u64 z)) n (fk xs (k + 1))) := hid fun z hz => HR.out.store k hv hz
        clear HR
        generalize wordOf (fk xs k) (k / 64) = x at dk hlt HN
        have hwk : IntKind.i64.wrap ((k : Int) / 64) = (k : Int) / 64 := by rw [IntKind.wrap_i64]; omega
        have hk0 : 0 ≤ (k : Int) / 64 := by omega
        have hkW' : (k : Int) / 64 < ((nw n : Nat) : Int) := by omega
        have hkn : ((k : Int) / 64).toNat = k / 64 := by omega
        go_wp2
        go_region
        all_goals go_wp2
        go_roundw
        case rel => exact ⟨k + 1, by omega, by go_num, hid (HN.out _ (or_int x (k % 64) hlt (by omega))).drew⟩
        case measure => simp [intOf]; omega
      · have hv' : xs.getD k false = false := by simpa using hv
        rw [hv'] at hc
        have HN : Hid (IsBlank w wr n (fk xs (k + 1))) := hid (by rw [fk_step_no xs k hv']; exact HR.out)
        clear HR hv hv'
        go_wp2
        go_roundw
        case rel => exact ⟨k + 1, by omega, by go_num, HN⟩
        case measure => simp [intOf]; omega
    · obtain rfl : k = n := by omega
      have e : fk xs k = fun i => xs.getD i false := by
        funext i
        unfold fk
        by_cases h : i < k
        · simp [h]
        · rw [Hn.out] at h
          rw [getD_far xs i (by omega)]; simp
      have HR2 : Hid (IsBlank w wr k (fun i => xs.getD i false)) := hid (by rw [← e]; exact HR.out)
      have HF : Hid (∀ i, k ≤ i → xs.getD i false = false) := hid fun i hi => by rw [Hn.out] at hi; exact getD_far xs i hi
      clear HR e
      go_wp2_with fail
      refine (count_any (w.heap.size + 1) w.heap.size k (fun i => xs.getD i false) _ wr hn HF.out HR2.out.self rfl HR2.out.words).mono ?_
      rintro e w2 ⟨rfl, c1, c2, c3, c4⟩
      have HM := hid (HR2.out.made hn HF.out c1 c2 c3 c4)
      clear c1 c2 c3 c4
      go_wp2_with fail
      go_ret2
      exact HM.out
end Go.Proofs.Ytmbcinbkijnblaa.V1
