/- Words of a code in order: the leaves of a tree. -/
import Derived.Test.YtmbcinbkijnblaaTk1
namespace Go.Proofs.Ytmbcinbkijnblaa
open Go.RowKit

/-- The leaves of a tree, below a beginning. -/
inductive Lv : List Bool → List (List Bool) → Prop
  | one (p : List Bool) : Lv p [p]
  | two {p : List Bool} {us vs : List (List Bool)} : Lv (p ++ [false]) us → Lv (p ++ [true]) vs → Lv p (us ++ vs)
/-- v stands right behind u. -/
def Nx (u v : List Bool) : Prop := ∃ (p : List Bool) (i j : Nat), u = p ++ false :: List.replicate j true ∧ v = p ++ true :: List.replicate i false
/-- u stands ahead of v, and neither begins the other. -/
def Ahd (u v : List Bool) : Prop := ∃ q s t : List Bool, u = q ++ false :: s ∧ v = q ++ true :: t
theorem Lv.pos {p : List Bool} {ws : List (List Bool)} (h : Lv p ws) : 1 ≤ ws.length := by
  induction h with
  | one => simp
  | two _ _ a b => simp; omega
theorem Lv.ext {p : List Bool} {ws : List (List Bool)} (h : Lv p ws) : ∀ u ∈ ws, ∃ s, u = p ++ s := by
  induction h with
  | one p => intro u hu; simp at hu; exact ⟨[], by simp [hu]⟩
  | @two p us vs _ _ a b =>
    intro u hu
    rcases List.mem_append.1 hu with hu | hu
    · obtain ⟨s, rfl⟩ := a u hu; exact ⟨false :: s, by simp⟩
    · obtain ⟨s, rfl⟩ := b u hu; exact ⟨true :: s, by simp⟩
theorem Lv.first {p : List Bool} {ws : List (List Bool)} (h : Lv p ws) : ∃ i, ws.getD 0 [] = p ++ List.replicate i false := by
  induction h with
  | one p => exact ⟨0, by simp⟩
  | @two p us vs ha _ a _ =>
    obtain ⟨i, hi⟩ := a
    have := ha.pos
    refine ⟨i + 1, ?_⟩
    have e : (us ++ vs).getD 0 [] = us.getD 0 [] := by simp [List.getD, List.getElem?_append_left (show 0 < us.length by omega)]
    rw [e, hi]
    simp [List.replicate_succ]
theorem Lv.last {p : List Bool} {ws : List (List Bool)} (h : Lv p ws) : ∃ j, ws.getD (ws.length - 1) [] = p ++ List.replicate j true := by
  induction h with
  | one p => exact ⟨0, by simp⟩
  | @two p us vs ha hb _ b =>
    obtain ⟨j, hj⟩ := b
    have := hb.pos
    refine ⟨j + 1, ?_⟩
    have e : (us ++ vs).getD ((us ++ vs).length - 1) [] = vs.getD (vs.length - 1) [] := by
      simp only [List.getD, List.length_append]
      rw [List.getElem?_append_right (by omega), show us.length + vs.length - 1 - us.length = vs.length - 1 by omega]
    rw [e, hj]
    simp [List.replicate_succ]
theorem getD_left {us vs : List (List Bool)} {k : Nat} (h : k < us.length) : (us ++ vs).getD k [] = us.getD k [] := by simp [List.getD, List.getElem?_append_left h]
theorem getD_right {us vs : List (List Bool)} {k : Nat} (h : us.length ≤ k) : (us ++ vs).getD k [] = vs.getD (k - us.length) [] := by simp [List.getD, List.getElem?_append_right h]
theorem Lv.next {p : List Bool} {ws : List (List Bool)} (h : Lv p ws) : ∀ k, k + 1 < ws.length → Nx (ws.getD k []) (ws.getD (k + 1) []) := by
  induction h with
  | one p => intro k hk; simp at hk
  | @two p us vs ha hb a b =>
    intro k hk
    rw [List.length_append] at hk
    by_cases h1 : k + 1 < us.length
    · rw [getD_left (by omega), getD_left h1]; exact a k h1
    · by_cases h2 : us.length ≤ k
      · rw [getD_right h2, getD_right (by omega), show k + 1 - us.length = k - us.length + 1 by omega]
        exact b _ (by omega)
      · have hu := ha.pos
        have e : k = us.length - 1 := by omega
        rw [getD_left (by omega), getD_right (by omega), show k + 1 - us.length = 0 by omega, e]
        obtain ⟨j, hj⟩ := ha.last
        obtain ⟨i, hi⟩ := hb.first
        exact ⟨p, i, j, by rw [hj]; simp, by rw [hi]; simp⟩
theorem Lv.apart {p : List Bool} {ws : List (List Bool)} (h : Lv p ws) : ∀ i j, i < j → j < ws.length → Ahd (ws.getD i []) (ws.getD j []) := by
  induction h with
  | one p => intro i j hi hj; simp at hj; omega
  | @two p us vs ha hb a b =>
    intro i j hij hj
    rw [List.length_append] at hj
    by_cases h1 : j < us.length
    · rw [getD_left (by omega), getD_left h1]; exact a i j hij h1
    · by_cases h2 : us.length ≤ i
      · rw [getD_right h2, getD_right (by omega)]
        exact b _ _ (by omega) (by omega)
      · rw [getD_left (by omega), getD_right (by omega)]
        obtain ⟨s, hs⟩ := ha.ext (us.getD i []) (getD_mem' (by omega))
        obtain ⟨t, ht⟩ := hb.ext (vs.getD (j - us.length) []) (getD_mem' (by omega))
        exact ⟨p, s, t, by rw [hs]; simp, by rw [ht]; simp⟩
where
  getD_mem' {l : List (List Bool)} {k : Nat} (h : k < l.length) : l.getD k [] ∈ l := by
    simp [List.getD, h]
theorem Lv.full {p : List Bool} {ws : List (List Bool)} (h : Lv p ws) : ∀ s : List Bool, (∃ u ∈ ws, ∃ t, p ++ s = u ++ t) ∨ ∃ u ∈ ws, ∃ b t, u = p ++ s ++ b :: t := by
  induction h with
  | one p => intro s; exact .inl ⟨p, by simp, s, rfl⟩
  | @two p us vs ha hb a b =>
    intro s
    cases s with
    | nil =>
      have h1 := ha.pos
      obtain ⟨t, ht⟩ := ha.ext (us.getD 0 []) (by simp [List.getD, show 0 < us.length by omega])
      exact .inr ⟨us.getD 0 [], by simp [List.getD, show 0 < us.length by omega], false, t, by rw [ht]; simp⟩
    | cons x s =>
      cases x with
      | false =>
        rcases a s with ⟨u, hu, t, ht⟩ | ⟨u, hu, y, t, ht⟩
        · exact .inl ⟨u, List.mem_append_left _ hu, t, by rw [← ht]; simp⟩
        · exact .inr ⟨u, List.mem_append_left _ hu, y, t, by rw [ht]; simp⟩
      | true =>
        rcases b s with ⟨u, hu, t, ht⟩ | ⟨u, hu, y, t, ht⟩
        · exact .inl ⟨u, List.mem_append_right _ hu, t, by rw [← ht]; simp⟩
        · exact .inr ⟨u, List.mem_append_right _ hu, y, t, by rw [ht]; simp⟩
theorem Lv.longer {p : List Bool} {ws : List (List Bool)} (h : Lv p ws) (h2 : 2 ≤ ws.length) : ∀ u ∈ ws, p.length < u.length := by
  cases h with
  | one => simp at h2
  | two ha hb =>
    intro u hu
    rcases List.mem_append.1 hu with hu | hu
    · obtain ⟨s, rfl⟩ := ha.ext u hu; simp
    · obtain ⟨s, rfl⟩ := hb.ext u hu; simp
def lens (ws : List (List Bool)) : List Int := ws.map fun u => ((u.length : Nat) : Int)
theorem Tr.lv {d : Int} {l : List Int} (h : Tr d l) : ∀ p : List Bool, ((p.length : Nat) : Int) = d → ∃ ws, Lv p ws ∧ lens ws = l := by
  induction h with
  | one d => intro p hp; exact ⟨[p], .one p, by simp [lens, hp]⟩
  | two _ _ a b =>
    intro p hp
    obtain ⟨us, hu, hu2⟩ := a (p ++ [false]) (by simp; omega)
    obtain ⟨vs, hv, hv2⟩ := b (p ++ [true]) (by simp; omega)
    exact ⟨us ++ vs, .two hu hv, by rw [← hu2, ← hv2]; simp [lens]⟩
/-- The words of lengths that fit. -/
def WordsOf (ls : List Int) (ws : List (List Bool)) : Prop := (ls = [1] ∧ ws = [[false]]) ∨ (2 ≤ ws.length ∧ Lv [] ws ∧ lens ws = ls)
theorem Fit.words {ls : List Int} (h : Fit ls) : ∃ ws, WordsOf ls ws := by
  rcases h with ⟨_, rfl⟩ | ⟨h2, _, ht⟩
  · exact ⟨[[false]], .inl ⟨rfl, rfl⟩⟩
  · obtain ⟨ws, hw, hl⟩ := ht.lv [] (by simp)
    refine ⟨ws, .inr ⟨?_, hw, hl⟩⟩
    rw [← hl, lens, List.length_map] at h2
    exact h2
section
variable {ls : List Int} {ws : List (List Bool)} (h : WordsOf ls ws)
include h
theorem WordsOf.lens : lens ws = ls := by
  rcases h with ⟨rfl, rfl⟩ | ⟨_, _, h⟩
  · rfl
  · exact h
theorem WordsOf.len : ws.length = ls.length := by rw [← h.lens, Go.Proofs.Ytmbcinbkijnblaa.lens, List.length_map]
theorem WordsOf.pos : 1 ≤ ws.length := by
  rcases h with ⟨rfl, rfl⟩ | ⟨h, _⟩
  · simp
  · omega
theorem WordsOf.first : ws.getD 0 [] = List.replicate (ls.getD 0 0).toNat false := by
  rcases h with ⟨rfl, rfl⟩ | ⟨h2, hw, rfl⟩
  · rfl
  · obtain ⟨i, hi⟩ := hw.first
    rw [List.nil_append] at hi
    have e : (Go.Proofs.Ytmbcinbkijnblaa.lens ws).getD 0 0 = ((ws.getD 0 []).length : Int) := by
      simp [Go.Proofs.Ytmbcinbkijnblaa.lens, List.getD, show 0 < ws.length by omega]
    rw [e, hi]
    simp
theorem WordsOf.next : ∀ k, k + 1 < ws.length → Nx (ws.getD k []) (ws.getD (k + 1) []) := by
  rcases h with ⟨rfl, rfl⟩ | ⟨_, hw, _⟩
  · intro k hk; simp at hk
  · exact hw.next
theorem WordsOf.apart : ∀ i j, i < j → j < ws.length → Ahd (ws.getD i []) (ws.getD j []) := by
  rcases h with ⟨rfl, rfl⟩ | ⟨_, hw, _⟩
  · intro i j hi hj; simp at hj; omega
  · exact hw.apart
theorem WordsOf.long {k : Nat} (hk : k < ws.length) : 1 ≤ (ws.getD k []).length := by
  rcases h with ⟨rfl, rfl⟩ | ⟨h2, hw, _⟩
  · simp at hk; subst hk; simp
  · have := hw.longer h2 (ws.getD k []) (by simp [List.getD, hk])
    exact Nat.succ_le_of_lt (by simpa using this)
theorem WordsOf.length {k : Nat} (hk : k < ws.length) : (((ws.getD k []).length : Nat) : Int) = ls.getD k 0 := by
  rw [← h.lens]
  simp [Go.Proofs.Ytmbcinbkijnblaa.lens, List.getD, hk]
end
theorem Ahd.ne {u v : List Bool} (h : Ahd u v) : u ≠ v := by
  obtain ⟨q, s, t, rfl, rfl⟩ := h
  intro e
  have := List.append_cancel_left e
  simp at this
/-- Neither is the beginning of the other. -/
theorem Ahd.no_begin {u v : List Bool} (h : Ahd u v) : (∀ t, v ≠ u ++ t) ∧ ∀ t, u ≠ v ++ t := by
  obtain ⟨q, s, t, rfl, rfl⟩ := h
  constructor
  · intro r e
    rw [List.append_assoc] at e
    have := List.append_cancel_left e
    simp at this
  · intro r e
    rw [List.append_assoc] at e
    have := List.append_cancel_left e
    simp at this
theorem WordsOf.no_begin {ls : List Int} {ws : List (List Bool)} (h : WordsOf ls ws) {i j : Nat} (hi : i < ws.length) (hj : j < ws.length) (hne : i ≠ j) (t : List Bool) : ws.getD j [] ≠ ws.getD i [] ++ t := by
  rcases Nat.lt_or_gt_of_ne hne with a | a
  · exact (h.apart i j a hj).no_begin.1 t
  · exact (h.apart j i a hi).no_begin.2 t
end Go.Proofs.Ytmbcinbkijnblaa
