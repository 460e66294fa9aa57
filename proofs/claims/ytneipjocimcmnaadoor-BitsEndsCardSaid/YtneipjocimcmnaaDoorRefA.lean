/- The document's vector: what its calls answer that only look. -/
import Derived.Test.YtneipjocimcmnaaDoorKitK
namespace Go.Proofs.YtneipjocimcmnaaDoor
open Go.RowKit
open Fen

structure IsRef (w : World) (r gl n cap : Nat) (f : Nat → Bool) : Prop where
  small : n ≤ 16777216
  out : ∀ i, n ≤ i → f i = false
  self : w.rowIs r 70 1 (fun _ => .slice (some ⟨gl, 0, none⟩) n cap)
  row : ∃ F, w.rowIs gl 4 cap F ∧ ∀ j, j < n → F j = .bool (f j)
  le : n ≤ cap
theorem IsRef.only {S : Nat → Prop} {a w : World} {r gl n cap : Nat} {f : Nat → Bool} (h : IsRef a r gl n cap f) (o : Only S a w) (h1 : ¬ S r) (h2 : ¬ S gl) : IsRef w r gl n cap f := by
  obtain ⟨a1, a2, a3, ⟨F, a4, a5⟩, a6⟩ := h
  exact ⟨a1, a2, o.row a3 h1, ⟨F, o.row a4 h2, a5⟩, a6⟩
theorem IsRef.same {a w : World} {r gl n cap : Nat} {f : Nat → Bool} (h : IsRef a r gl n cap f) (o : Only (fun _ => False) a w) : IsRef w r gl n cap f := h.only o no_ no_
theorem IsRef.cell {w : World} {r gl n cap : Nat} {f : Nat → Bool} (h : IsRef w r gl n cap f) {j : Nat} (hj : j < n) : w.cell? ⟨gl, j, none⟩ = some (.bool (f j)) := by
  obtain ⟨F, h1, h2⟩ := h.row
  rw [h1.cell (by have := h.le; omega), h2 j hj]
theorem IsRef.head {w : World} {r gl n cap : Nat} {f : Nat → Bool} (h : IsRef w r gl n cap f) : w.cell? ⟨r, 0, none⟩ = some (.slice (some ⟨gl, 0, none⟩) n cap) := h.self.cell (i := 0) (by omega)
theorem IsRef.lt {w : World} {r gl n cap : Nat} {f : Nat → Bool} (h : IsRef w r gl n cap f) : r < w.heap.size ∧ gl < w.heap.size := by
  obtain ⟨F, h1, _⟩ := h.row
  exact ⟨h.self.lt, h1.lt⟩

set_option maxHeartbeats 400000 in
theorem refGet_any {r gl n cap : Nat} {f : Nat → Bool} {w : World} (h : IsRef w r gl n cap f) (i : Int) :
    Calls Tryd.prog 39 #[.pointer (some ⟨r, 0, none⟩), .int .i64 i] w fun e w' => e = .returned (.bool (at_ f i)) ∧ w = w' := by
  have c0 := h.head
  by_cases h0 : i < 0
  · have e : at_ f i = false := by unfold at_; simp; omega
    rw [e]
    clear e h
    go_enter Tryd.func39, Tryd.ntmps39
    go_wp2
    go_ret
    exact ⟨rfl, rfl⟩
  · obtain ⟨k, rfl⟩ := Int.eq_ofNat_of_zero_le (a := i) (by omega)
    have e : at_ f (k : Int) = f k := by unfold at_; simp
    rw [e]
    by_cases h1 : k < n
    · have ck := h.cell h1
      clear e h h0
      generalize f k = b at ck ⊢
      have h1' : (k : Int) < (n : Int) := by omega
      go_enter Tryd.func39, Tryd.ntmps39
      go_wp2
      go_ret
      exact ⟨rfl, rfl⟩
    · rw [h.out k (by omega)]
      clear e h h0
      have h1' : ¬ (k : Int) < (n : Int) := by omega
      have h2 : decide (k < n) = false := by rw [decide_eq_false_iff_not]; exact h1
      go_enter Tryd.func39, Tryd.ntmps39
      go_wp2
      go_ret
      exact ⟨rfl, rfl⟩

set_option maxHeartbeats 1000000 in
theorem refRank_any {r gl n cap : Nat} {f : Nat → Bool} {w : World} (h : IsRef w r gl n cap f) (i : Int) :
    Calls Tryd.prog 37 #[.pointer (some ⟨r, 0, none⟩), .int .i64 i] w fun e w' => e = .returned (.int .i64 ((C (cf f) i.toNat : Nat) : Int)) ∧ w = w' := by
  have c0 := h.head
  have hn := h.small
  have HR := hid h
  clear h
  go_enter Tryd.func37, Tryd.ntmps37
  go_wp2
  go_loop [5, 6] (fun s j => ∃ k x : Nat, k ≤ n ∧ j = .int .i64 k ∧ s = .int .i64 x ∧ x ≤ k ∧ (k = 0 ∨ (k : Int) ≤ i) ∧ Hid (C (cf f) k = x)) (fun _ j => n - (intOf j).toNat)
  case atStart => exact ⟨0, 0, by omega, rfl, rfl, by omega, .inl rfl, hid rfl⟩
  case round =>
    obtain ⟨k, x, hk, rfl, rfl, hx, hki, HC⟩ := hrel
    by_cases h1 : (k : Int) < i
    · by_cases h2 : k < n
      · have ck := HR.out.cell h2
        have HC2 : Hid (C (cf f) (k + 1) = x + cf f k) := hid (by simp only [C]; rw [HC.out])
        have hcf : Hid (cf f k = if f k then 1 else 0) := hid rfl
        clear HC hki
        generalize hcv : cf f k = u at HC2 hcf
        generalize f k = b at ck hcf
        clear hcv
        have h2' : (k : Int) < (n : Int) := by omega
        cases b with
        | true =>
          obtain rfl : u = 1 := hcf.out
          go_wp2
          go_round
          case rel => exact ⟨k + 1, x + 1, by omega, by go_num, by go_num, by omega, .inr (by omega), HC2⟩
          case measure => simp [intOf]; omega
        | false =>
          obtain rfl : u = 0 := hcf.out
          go_wp2
          go_round
          case rel => exact ⟨k + 1, x, by omega, by go_num, by go_num, by omega, .inr (by omega), HC2⟩
          case measure => simp [intOf]; omega
      · obtain rfl : k = n := by omega
        have hres : Hid (C (cf f) i.toNat = x) := hid (by rw [← HC.out]; exact C_stop (by omega) fun j hj => by unfold cf; rw [HR.out.out j hj]; rfl)
        clear HC hki
        go_wp2
        go_ret
        exact ⟨ret_int (by rw [hres.out]), rfl⟩
    · have hres : Hid (C (cf f) i.toNat = x) := hid (by
        rcases hki with h0 | h0
        · subst h0
          rw [← HC.out, show i.toNat = 0 by omega]
        · rw [← HC.out, show i.toNat = k by omega])
      clear HC hki
      go_wp2
      go_ret
      exact ⟨ret_int (by rw [hres.out]), rfl⟩

/-- Which one stands behind k ones. -/
def sel (f : Nat → Bool) (n : Nat) (k : Int) : Nat × Bool := match (List.range n).find? (fun i => f i && decide (((C (cf f) i : Nat) : Int) = k)) with
  | some i => (i, true)
  | none => (0, false)
theorem sel_hit {f : Nat → Bool} {n i : Nat} {k : Int} (hi : i < n) (hf : f i = true) (hk : ((C (cf f) i : Nat) : Int) = k) : sel f n k = (i, true) := by
  unfold sel
  cases h : (List.range n).find? (fun i => f i && decide (((C (cf f) i : Nat) : Int) = k)) with
  | none =>
    have := List.find?_eq_none.1 h i (List.mem_range.2 hi)
    simp [hf, hk] at this
  | some j =>
    have h1 := List.find?_some h
    simp only [Bool.and_eq_true, decide_eq_true_eq] at h1
    have : j = i := C_one (c := cf f) (cf_one.2 h1.1) (cf_one.2 hf) (by omega)
    rw [this]
theorem sel_miss {f : Nat → Bool} {n : Nat} {k : Int} (h : ∀ i, i < n → f i = true → ((C (cf f) i : Nat) : Int) ≠ k) : sel f n k = (0, false) := by
  unfold sel
  cases h1 : (List.range n).find? (fun i => f i && decide (((C (cf f) i : Nat) : Int) = k)) with
  | none => rfl
  | some j =>
    have h2 := List.find?_some h1
    simp only [Bool.and_eq_true, decide_eq_true_eq] at h2
    exact absurd h2.2 (h j (List.mem_range.1 (List.mem_of_find?_eq_some h1)) h2.1)

theorem select_sel {g gs gw n : Nat} {f : Nat → Bool} {w : World} (h : IsVec w g gs gw n f) (hT : Tab w) (k : Int) :
    Calls Tryd.prog 30 #[.pointer (some ⟨g, 0, none⟩), .int .i64 k] w fun e w' => e = .returned (.tuple #[.int .i64 (((sel f n k).1 : Nat) : Int), .bool (sel f n k).2]) ∧ w = w' := by
  refine (select_any h hT k).mono fun e w' ⟨hw, h1, h2⟩ => ⟨?_, hw⟩
  by_cases hk : k < 0 ∨ ((C (cf f) n : Nat) : Int) ≤ k
  · have : sel f n k = (0, false) := sel_miss fun i hi hf hc => by
      have h3 := C_mono (cf f) (show i + 1 ≤ n by omega)
      simp only [C] at h3
      rw [cf_one.2 hf] at h3
      omega
    rw [this]
    exact h1 hk
  · obtain ⟨i, he, hf, hc⟩ := h2 (by omega)
    have hi : i < n := by
      rcases Nat.lt_or_ge i n with a | a
      · exact a
      · rw [h.out i a] at hf; cases hf
    rw [sel_hit hi hf (by rw [hc]; omega)]
    exact he

set_option maxHeartbeats 1000000 in
theorem refSelect_any {r gl n cap : Nat} {f : Nat → Bool} {w : World} (h : IsRef w r gl n cap f) (k : Int) :
    Calls Tryd.prog 38 #[.pointer (some ⟨r, 0, none⟩), .int .i64 k] w fun e w' => e = .returned (.tuple #[.int .i64 (((sel f n k).1 : Nat) : Int), .bool (sel f n k).2]) ∧ w = w' := by
  have c0 := h.head
  have hn := h.small
  have HR := hid h
  clear h
  go_enter Tryd.func38, Tryd.ntmps38
  go_wp2
  go_loop [6, 7] (fun s j => ∃ i x : Nat, i ≤ n ∧ j = .int .i64 i ∧ s = .int .i64 x ∧ x ≤ i ∧ Hid (C (cf f) i = x) ∧ Hid (∀ j, j < i → f j = true → ((C (cf f) j : Nat) : Int) ≠ k)) (fun _ j => n - (intOf j).toNat)
  case atStart => exact ⟨0, 0, by omega, rfl, rfl, by omega, hid rfl, hid fun j hj => absurd hj (by omega)⟩
  case round =>
    obtain ⟨i, x, hi, rfl, rfl, hx, HC, HN⟩ := hrel
    by_cases h2 : i < n
    · have ck := HR.out.cell h2
      cases hfi : f i with
      | true =>
        rw [hfi] at ck
        by_cases hk : (x : Int) = k
        · have hs := hid (sel_hit (k := k) h2 hfi (by rw [HC.out]; exact hk))
          have hk' : ((x : Int) == k) = true := by rw [beq_iff_eq]; exact hk
          clear hk HC HN hfi
          go_wp2
          go_ret2
          exact ⟨by rw [hs.out]; rfl, rfl⟩
        · have hk' : ((x : Int) == k) = false := by rw [beq_eq_false_iff_ne]; exact hk
          have HC2 : Hid (C (cf f) (i + 1) = x + 1) := hid (by simp only [C]; rw [HC.out, cf_one.2 hfi])
          have HN2 : Hid (∀ j, j < i + 1 → f j = true → ((C (cf f) j : Nat) : Int) ≠ k) := hid fun j hj hf => by
            by_cases e : j = i
            · subst e; rw [HC.out]; exact hk
            · exact HN.out j (by omega) hf
          clear hk HC HN hfi
          go_wp2
          go_round
          case rel => exact ⟨i + 1, x + 1, by omega, by go_num, by go_num, by omega, HC2, HN2⟩
          case measure => simp [intOf]; omega
      | false =>
        rw [hfi] at ck
        have HC2 : Hid (C (cf f) (i + 1) = x) := hid (by simp only [C]; rw [HC.out]; unfold cf; rw [hfi]; rfl)
        have HN2 : Hid (∀ j, j < i + 1 → f j = true → ((C (cf f) j : Nat) : Int) ≠ k) := hid fun j hj hf => by
          by_cases e : j = i
          · subst e; rw [hfi] at hf; cases hf
          · exact HN.out j (by omega) hf
        clear HC HN hfi
        go_wp2
        go_round
        case rel => exact ⟨i + 1, x, by omega, by go_num, by go_num, by omega, HC2, HN2⟩
        case measure => simp [intOf]; omega
    · obtain rfl : i = n := by omega
      have hs := hid (sel_miss HN.out)
      clear HC HN
      go_wp2
      go_ret2
      exact ⟨by rw [hs.out]; rfl, rfl⟩
end Go.Proofs.YtneipjocimcmnaaDoor
