/- The document's vector: New and Read. -/
import Derived.Test.YtgdfiopdkidhfaaRefA
import Derived.Test.YtgdfiopdkidhfaaVecRd
namespace Go.Proofs.Ytgdfiopdkidhfaa.V1
open Go.RowKit
open Fen

theorem boolInfo : (Try.prog.info? 4).map (fun i => (i.zero, i.size, i.bytes)) = some (some (.bool false), 1, 1) := by kernel_rfl

/-- What the document's calls answer that make a vector. -/
def RMade (w : World) (n : Nat) (f : Nat → Bool) (e : Ending) (w' : World) : Prop :=
  ∃ r gl cap : Nat, e = .returned (.tuple #[.pointer (some ⟨r, 0, none⟩), .int .i64 0]) ∧ IsRef w' r gl n cap f ∧ w.heap.size ≤ r ∧ w.heap.size ≤ gl ∧ r ≠ gl ∧ Below w.heap.size w w'

set_option maxHeartbeats 400000 in
theorem refNew_bad (n : Int) (w : World) (h : n < 0 ∨ 16777216 < n) :
    Calls Try.prog 50 #[.int .i64 n] w fun e w' => e = .returned (.tuple #[.pointer none, .int .i64 (if n < 0 then 2 else 3)]) ∧ w = w' := by
  by_cases h0 : n < 0
  · rw [if_pos h0]
    clear h
    go_enter Try.func50, Try.ntmps50
    go_wp2
    go_ret2
    exact ⟨rfl, rfl⟩
  · rw [if_neg h0]
    have h1 : 16777216 < n := by omega
    clear h
    go_enter Try.func50, Try.ntmps50
    go_wp2
    go_ret2
    exact ⟨rfl, rfl⟩

/-- Just made. -/
structure RNew (w w' : World) (n : Nat) (f : Nat → Bool) : Prop where
  size : w'.heap.size = w.heap.size + 2
  self : w'.rowIs (w.heap.size + 1) 77 1 (fun _ => .slice (some ⟨w.heap.size, 0, none⟩) n n)
  row : w'.rowIs w.heap.size 4 n fun j => .bool (f j)
  only : Only (fun _ => False) w w'
theorem RNew.made {w w' : World} {n : Nat} {f : Nat → Bool} (h : RNew w w' n f) (hn : n ≤ 16777216) (hf : ∀ i, n ≤ i → f i = false) : RMade w n f (.returned (.tuple #[.pointer (some ⟨w.heap.size + 1, 0, none⟩), .int .i64 0])) w' :=
  ⟨w.heap.size + 1, w.heap.size, n, rfl, ⟨hn, hf, h.self, ⟨_, h.row, fun _ _ => rfl⟩, Nat.le_refl _⟩, by omega, Nat.le_refl _, by omega, h.only.to_below (fun _ h => h.elim) (Nat.le_refl _)⟩

set_option maxHeartbeats 1000000 in
theorem refNew_new (n : Nat) (w : World) (hn : n ≤ 16777216) :
    Calls Try.prog 50 #[.int .i64 n] w fun e w' => e = .returned (.tuple #[.pointer (some ⟨w.heap.size + 1, 0, none⟩), .int .i64 0]) ∧ Hid (RNew w w' n (fun _ => false)) := by
  have hmk := fun W => run_make_row' (P := Try.prog) 28 4 (.bool false) 1 Try.underlying28 boolInfo rfl .i64 .i64 n (by omega) (by omega) W
  go_enter Try.func50, Try.ntmps50
  go_wp2_with fail
  go_ret2
  refine ⟨rfl, hid ⟨by simp, ?_, ?_, ?_⟩⟩
  · have h := World.rowIs_alloc (w.alloc (Obj.cells (madeCells #[Value.bool false] n) 4)) #[Value.slice (some ⟨w.heap.size, 0, none⟩) n n] 77 (fun _ => .slice (some ⟨w.heap.size, 0, none⟩) n n) (fun i hi => by
        match i, hi with
        | 0, _ => rfl
        | i + 1, hi => exact absurd (show i + 1 < 1 from hi) (by omega))
    simpa using h
  · exact (World.rowIs_made w _ _ _).alloc _
  · exact ((Only.refl _ w).alloc _).alloc _

/-- What Read has laid ahead of bit i. -/
def fRd (n : Nat) (bs : List Nat) (i j : Nat) : Bool := decide (j < i) && (decide (j < n) && fB bs j)
theorem fRd_zero (n : Nat) (bs : List Nat) : fRd n bs 0 = fun _ => false := by funext j; simp [fRd]
theorem fRd_far (n : Nat) (bs : List Nat) (i j : Nat) (h : n ≤ j) : fRd n bs i j = false := by
  have : decide (j < n) = false := by rw [decide_eq_false_iff_not]; omega
  simp [fRd, this]
theorem fRd_step_far {n : Nat} (bs : List Nat) {i : Nat} (h : n ≤ i) : fRd n bs (i + 1) = fRd n bs i := by
  funext j
  by_cases e : n ≤ j
  · rw [fRd_far _ _ _ _ e, fRd_far _ _ _ _ e]
  · unfold fRd
    rw [show decide (j < i + 1) = decide (j < i) by rw [decide_eq_decide]; omega]
theorem fRd_step {n : Nat} (bs : List Nat) {i : Nat} (h : i < n) (j : Nat) : fRd n bs (i + 1) j = if j = i then fB bs i else fRd n bs i j := by
  unfold fRd
  by_cases e : j = i
  · subst e; rw [if_pos rfl]; simp [h]
  · rw [if_neg e, show decide (j < i + 1) = decide (j < i) by rw [decide_eq_decide]; omega]
theorem shape_of_far {n : Nat} {bs : List Nat} (h1 : bs.length = (n + 7) / 8) (h8 : ∀ j, bs.getD j 0 < 256) (h : ∀ j, j < 8 * bs.length → n ≤ j → fB bs j = false) : shapeOk n bs := by
  refine ⟨h1, ?_⟩
  by_cases hm : n % 8 = 0
  · exact .inl hm
  · refine .inr ?_
    apply Nat.eq_of_testBit_eq
    intro i
    rw [Nat.zero_testBit, Nat.testBit_div_two_pow]
    by_cases hi : n % 8 + i < 8
    · have h2 := h (8 * (bs.length - 1) + (n % 8 + i)) (by omega) (by omega)
      unfold fB at h2
      rw [show (8 * (bs.length - 1) + (n % 8 + i)) / 8 = bs.length - 1 by omega, show (8 * (bs.length - 1) + (n % 8 + i)) % 8 = n % 8 + i by omega] at h2
      rw [← h2]
      congr 1
      omega
    · apply Nat.testBit_lt_two_pow
      have := h8 (bs.length - 1)
      have h3 : 2 ^ 8 ≤ 2 ^ (i + n % 8) := Nat.pow_le_pow_right (by decide) (by omega)
      omega
theorem fRd_all {n : Nat} {bs : List Nat} (h : shapeOk n bs) : fRd n bs (8 * bs.length) = fB bs := by
  funext j
  by_cases hj : n ≤ j
  · rw [fRd_far _ _ _ _ hj, fB_far h j hj]
  · have h1 : j < 8 * bs.length := by have := h.1; omega
    have h2 : j < n := by omega
    simp [fRd, h1, h2]

def RRead (w : World) (n : Nat) (bs : List Nat) (e : Ending) (w' : World) : Prop :=
  (shapeOk n bs ∧ RMade w n (fB bs) e w') ∨ (¬ shapeOk n bs ∧ e = .returned (.tuple #[.pointer none, .int .i64 4]) ∧ Below w.heap.size w w')

theorem RNew.store {w wr : World} {n i : Nat} {bs : List Nat} {b : Bool} (h : RNew w wr n (fRd n bs i)) (hi : i < n) (hf : fB bs i = b) : RNew w (wr.setCell ⟨w.heap.size, i, none⟩ (.bool b)) n (fRd n bs (i + 1)) := by
  refine ⟨by simpa [World.setCell] using h.size, h.self.setOther (by simp) _, (h.row.set i _).congr fun j _ => ?_, h.only.setCell (.inr (Nat.le_refl _)) _⟩
  rw [fRd_step bs hi]
  by_cases e : j = i
  · subst e; rw [if_pos rfl, if_pos rfl, hf]
  · rw [if_neg e, if_neg e]
theorem wrap_div_u8 (y m : Nat) (hy : y < 256) : IntKind.u8.wrap ((y : Int) / 2 ^ m) = (y : Int) / 2 ^ m := by
  have e : (y : Int) / 2 ^ m = ((y / 2 ^ m : Nat) : Int) := by simp
  have := Nat.div_le_self y (2 ^ m)
  rw [e]
  generalize y / 2 ^ m = q at this ⊢
  rw [IntKind.wrap_u8]; omega

theorem bit_eq (y m : Nat) : ((((y : Int) / 2 ^ m).tmod 2) = 1) ↔ y.testBit m = true := by
  have e : (y : Int) / 2 ^ m = ((y / 2 ^ m : Nat) : Int) := by simp
  rw [e, Nat.testBit_eq_decide_div_mod_eq, decide_eq_true_eq]
  generalize y / 2 ^ m = q
  rw [Int.tmod_eq_emod_of_nonneg (by omega)]
  omega

end Go.Proofs.Ytgdfiopdkidhfaa.V1
