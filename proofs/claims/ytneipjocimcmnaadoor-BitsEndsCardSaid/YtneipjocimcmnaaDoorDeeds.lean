/- A list of deeds in memory; how many there are. -/
import Derived.Test.YtneipjocimcmnaaDoorOwnB
namespace Go.Proofs.YtneipjocimcmnaaDoor
open Go.RowKit
open Fen

/-- N deeds lie at A: a bit, and places. -/
structure DeedsIn (w : World) (A : Option Addr) (N : Nat) (one : Nat → Bool) (pa : Nat → Option Addr) (pc : Nat → Nat) (pz : Nat → List Int) : Prop where
  row : ∀ j, j < N → ∃ b off, A = some ⟨b, off, none⟩ ∧ w.cell? ⟨b, off + j * 2, none⟩ = some (.bool (one j)) ∧ w.cell? ⟨b, off + j * 2 + 1, none⟩ = some (.slice (pa j) (pz j).length (pc j))
  ints : ∀ j, j < N → RdI w (pa j) (pz j)
  nil : ∀ j, j < N → pa j = none → (pz j).length = 0 ∧ pc j = 0
  len : ∀ j, j < N → (pz j).length ≤ 140737488355328
theorem DeedsIn.only {S : Nat → Prop} {w w' : World} {A : Option Addr} {N : Nat} {one : Nat → Bool} {pa : Nat → Option Addr} {pc : Nat → Nat} {pz : Nat → List Int} (h : DeedsIn w A N one pa pc pz) (ho : Only S w w') (hS : ∀ b, b < w.heap.size → ¬ S b) : DeedsIn w' A N one pa pc pz := by
  refine ⟨fun j hj => ?_, fun j hj => ?_, h.nil, h.len⟩
  · obtain ⟨b, off, hA, h1, h2⟩ := h.row j hj
    exact ⟨b, off, hA, by rw [ho.cell (cell_lt h1) (hS b (cell_lt h1)), h1], by rw [ho.cell (cell_lt h2) (hS b (cell_lt h2)), h2]⟩
  · intro i hi
    obtain ⟨b, off, hA, hc⟩ := h.ints j hj i hi
    exact ⟨b, off, hA, fun k hk => by rw [ho.cell (cell_lt (hc k hk)) (hS b (cell_lt (hc k hk))), hc k hk]⟩

/-- How many deeds and places there are, as far as they are counted. -/
def SizeR (N : Nat) (pz : Nat → List Int) (w : World) (e : Ending) (w' : World) : Prop :=
  ∃ s : Nat, e = .returned (.int .i64 (s : Int)) ∧ w = w' ∧ s ≤ 300000000000000 ∧ (s ≤ 3000 → N ≤ 3000 ∧ ∀ j, j < N → (pz j).length ≤ 3000)

set_option maxHeartbeats 1000000 in
theorem size_any (A : Option Addr) (N cap : Nat) (one : Nat → Bool) (pa : Nat → Option Addr) (pc : Nat → Nat) (pz : Nat → List Int) (w : World) (h : DeedsIn w A N one pa pc pz) (hN : N ≤ 140737488355328) :
    Calls Tryd.prog 8 #[.slice A N cap] w (SizeR N pz w) := by
  have HD := hid h
  clear h
  go_enter Tryd.func8, Tryd.ntmps8
  go_wp2
  go_loop [3, 4] (fun s i => ∃ k x : Nat, k ≤ N ∧ i = .int .i64 k ∧ s = .int .i64 x ∧ N ≤ x ∧ x ≤ 300000000000000 ∧ Hid (∀ j, j < k → (pz j).length ≤ x)) (fun _ i => N - (intOf i).toNat)
  case atStart => exact ⟨0, N, by omega, rfl, rfl, by omega, by omega, hid fun j hj => absurd hj (by omega)⟩
  case round =>
    obtain ⟨k, x, hk, rfl, rfl, hx, hx2, HL⟩ := hrel
    by_cases hp : k < N
    · by_cases h3 : x ≤ 3000
      · obtain ⟨b, off, hA, h1, h2⟩ := HD.out.row k hp
        have hl := HD.out.len k hp
        have HL2 : Hid (∀ j, j < k + 1 → (pz j).length ≤ x + (pz k).length) := hid fun j hj => by
          by_cases e : j = k
          · subst e; omega
          · have := HL.out j (by omega); omega
        subst hA
        generalize (pz k).length = m at h2 hl HL2
        have hkN : (k : Int) < (N : Int) := by omega
        have h3' : (x : Int) ≤ 3000 := by omega
        clear HL h1
        go_wp2
        go_round
        case rel => exact ⟨k + 1, x + m, by omega, by go_num, by go_num, by omega, by omega, HL2⟩
        case measure => simp [intOf]; omega
      · have h3' : decide ((x : Int) ≤ 3000) = false := by rw [decide_eq_false_iff_not]; omega
        have HX : Hid (x ≤ 3000 → N ≤ 3000 ∧ ∀ j, j < N → (pz j).length ≤ 3000) := hid fun h => absurd h h3
        clear HL
        go_wp2
        go_ret
        exact ⟨x, rfl, rfl, hx2, HX.out⟩
    · obtain rfl : k = N := by omega
      have HX : Hid (x ≤ 3000 → k ≤ 3000 ∧ ∀ j, j < k → (pz j).length ≤ 3000) := hid fun h => ⟨by omega, fun j hj => by have := HL.out j hj; omega⟩
      clear HL
      go_wp2
      go_ret
      exact ⟨x, rfl, rfl, hx2, HX.out⟩
end Go.Proofs.YtneipjocimcmnaaDoor
