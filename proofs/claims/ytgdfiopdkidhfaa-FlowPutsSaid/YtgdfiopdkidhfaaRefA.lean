/- The document's vector: what its calls answer that only look. -/
import Derived.Test.YtgdfiopdkidhfaaKitK
namespace Go.Proofs.Ytgdfiopdkidhfaa.V1
open Go.RowKit
open Fen

structure IsRef (w : World) (r gl n cap : Nat) (f : Nat → Bool) : Prop where
  small : n ≤ 16777216
  out : ∀ i, n ≤ i → f i = false
  self : w.rowIs r 77 1 (fun _ => .slice (some ⟨gl, 0, none⟩) n cap)
  row : ∃ F, w.rowIs gl 4 cap F ∧ ∀ j, j < n → F j = .bool (f j)
  le : n ≤ cap
theorem IsRef.only {S : Nat → Prop} {a w : World} {r gl n cap : Nat} {f : Nat → Bool} (h : IsRef a r gl n cap f) (o : Only S a w) (h1 : ¬ S r) (h2 : ¬ S gl) : IsRef w r gl n cap f := by
  obtain ⟨a1, a2, a3, ⟨F, a4, a5⟩, a6⟩ := h
  exact ⟨a1, a2, o.row a3 h1, ⟨F, o.row a4 h2, a5⟩, a6⟩
theorem IsRef.same {a w : World} {r gl n cap : Nat} {f : Nat → Bool} (h : IsRef a r gl n cap f) (o : Only (fun _ => False) a w) : IsRef w r gl n cap f := h.only o no_ no_
theorem IsRef.cell {w : World} {r gl n cap : Nat} {f : Nat → Bool} (h : IsRef w r gl n cap f) {j : Nat} (hj : j < n) : w.cell? ⟨gl, j, none⟩ = some (.bool (f j)) := by
  obtain ⟨F, h1, h2⟩ := h.row
  rw [h1.cell (by have := h.le; omega), h2 j hj]
theorem IsRef.head {w : World} {r gl n cap : Nat} {f : Nat → Bool} (h : IsRef w r gl n cap f) : w.cell? ⟨r, 0, none⟩ = some (.slice (some ⟨gl, 0, none⟩) n cap) := h.self.cell (i := 0) (by omega)
theorem IsRef.lt {w : World} {r gl n cap : Nat} {f : Nat → Bool} (h : IsRef w r gl n cap f) : r < w.heap.size ∧ gl < w.heap.size := by
  obtain ⟨F, h1, _⟩ := h.row
  exact ⟨h.self.lt, h1.lt⟩

/-- Which one stands behind k ones. -/
def sel (f : Nat → Bool) (n : Nat) (k : Int) : Nat × Bool := match (List.range n).find? (fun i => f i && decide (((C (cf f) i : Nat) : Int) = k)) with
  | some i => (i, true)
  | none => (0, false)
theorem sel_hit {f : Nat → Bool} {n i : Nat} {k : Int} (hi : i < n) (hf : f i = true) (hk : ((C (cf f) i : Nat) : Int) = k) : sel f n k = (i, true) := by
  unfold sel
  cases h : (List.range n).find? (fun i => f i && decide (((C (cf f) i : Nat) : Int) = k)) with
  | none =>
    have := List.find?_eq_none.1 h i (List.mem_range.2 hi)
    simp [hf, hk] at this
  | some j =>
    have h1 := List.find?_some h
    simp only [Bool.and_eq_true, decide_eq_true_eq] at h1
    have : j = i := C_one (c := cf f) (cf_one.2 h1.1) (cf_one.2 hf) (by omega)
    rw [this]
theorem sel_miss {f : Nat → Bool} {n : Nat} {k : Int} (h : ∀ i, i < n → f i = true → ((C (cf f) i : Nat) : Int) ≠ k) : sel f n k = (0, false) := by
  unfold sel
  cases h1 : (List.range n).find? (fun i => f i && decide (((C (cf f) i : Nat) : Int) = k)) with
  | none => rfl
  | some j =>
    have h2 := List.find?_some h1
    simp only [Bool.and_eq_true, decide_eq_true_eq] at h2
    exact absurd h2.2 (h j (List.mem_range.1 (List.mem_of_find?_eq_some h1)) h2.1)

end Go.Proofs.Ytgdfiopdkidhfaa.V1
