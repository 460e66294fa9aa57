/- BitsEnds: parts. -/
import Derived.Test.YtneipjocimcmnaaDoorNone
import Derived.Test.YtneipjocimcmnaaDoorLawE
namespace Go.Proofs.YtneipjocimcmnaaDoor
open Go.RowKit
open Fen

theorem C_nought {c : Nat → Nat} : ∀ {n : Nat}, (∀ i, i < n → c i = 0) → C c n = 0
  | 0, _ => rfl
  | n + 1, h => by
    simp only [C]
    rw [C_nought fun i hi => h i (by omega), h n (by omega)]
/-- One bit alone, counted. -/
theorem one_bit (m : Nat) : C (cf (fset (fun _ => false) true [(m : Int)])) m = 0 ∧ C (cf (fset (fun _ => false) true [(m : Int)])) (m + 1) = 1 := by
  have hf : fset (fun _ => false) true [(m : Int)] = fun j => decide (j = m) := by
    funext j
    simp [fset, setf]
  rw [hf]
  have h0 : C (cf fun j => decide (j = m)) m = 0 := C_nought fun i hi => by
    unfold cf
    have : decide (i = m) = false := by rw [decide_eq_false_iff_not]; omega
    simp [this]
  refine ⟨h0, ?_⟩
  simp only [C]
  rw [h0, cf_one.2 (by simp)]

/-- A list of bits of the call's own, read. -/
theorem own_rdb {w : World} {base n : Nat} {v : Value} {xs : List Bool} (h : w.ownsRow base 4 1 v n (xs.map Value.bool)) (hn : n = xs.length) : ∃ A cap, v = .slice A n cap ∧ RdB w A xs ∧ (A = none → n = 0 ∧ cap = 0) := by
  rcases h.2 with ⟨rfl, h0⟩ | ⟨g, cap, cur, rfl, _, hh, hle, _, hsz, ht⟩
  · exact ⟨none, 0, by rw [h0], fun j hj => absurd hj (by omega), fun _ => ⟨h0, rfl⟩⟩
  · obtain ⟨F, h1, h2⟩ := own_row hh hsz ht hn
    exact ⟨some ⟨g, 0, none⟩, cap, rfl, fun j hj => ⟨g, 0, rfl, fun i hi => by rw [Nat.zero_add, h1.cell (i := i) (by omega), h2 i hi]⟩, fun h => by cases h⟩
/-- One byte, read. -/
theorem rdy_one {w : World} {b x : Nat} (h : w.cell? ⟨b, 0, none⟩ = some (.int .u8 (x : Int))) (hx : x < 256) : RdY w (some ⟨b, 0, none⟩) [x] := by
  refine ⟨fun j => ?_, fun j _ => ⟨b, 0, rfl, fun i hi => ?_⟩⟩
  · match j with
    | 0 => exact hx
    | j + 1 => simp
  · have : i = 0 := by simp at hi; omega
    subst this
    exact h
theorem rdy_none (w : World) : RdY w none [] := ⟨fun j => by simp, fun j hj => absurd hj (by simp)⟩

/-- Just so many bytes, all nought. -/
theorem rdy_row {w : World} {b m cap : Nat} {F : Nat → Value} (h : w.rowIs b 5 cap F) (hm : m ≤ cap) (hF : ∀ j, j < m → F j = .int .u8 0) : RdY w (some ⟨b, 0, none⟩) (List.replicate m 0) := by
  refine ⟨fun j => ?_, fun j _ => ⟨b, 0, rfl, fun i hi => ?_⟩⟩
  · by_cases hj : j < m
    · simp [List.getD, hj]
    · simp [List.getD, hj]
  · have hi' : i < m := by simpa using hi
    rw [Nat.zero_add, h.cell (i := i) (by omega), hF i hi']
    simp [List.getD, hi']
end Go.Proofs.YtneipjocimcmnaaDoor
