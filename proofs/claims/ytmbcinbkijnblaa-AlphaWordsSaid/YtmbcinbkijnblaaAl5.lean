/- The tree of a code: forks by their places, and where their ways lead. -/
import Derived.Test.YtmbcinbkijnblaaAl4
namespace Go.Proofs.Ytmbcinbkijnblaa
open Go.RowKit

abbrev DL := List (Nat × List Bool)
/-- Where a row of bits leads: to a fork, to a sign, nowhere. -/
def wayOf (P : List (List Bool)) (D : DL) (l : List Bool) : Int := if l ∈ P then (P.idxOf l : Nat) else match D.find? (fun d => d.2 == l) with | some d => -1 - (d.1 : Int) | none => 0
def waysL (P : List (List Bool)) (D : DL) : List Int := P.flatMap fun p => [wayOf P D (p ++ [false]), wayOf P D (p ++ [true])]
structure Ts (P : List (List Bool)) (D : DL) (X : List (List Bool)) : Prop where
  root : P[0]? = some []
  nodup : P.Nodup
  par : ∀ l b, l ++ [b] ∈ P → l ∈ P
  dpar : ∀ d ∈ D, ∃ l b, d.2 = l ++ [b] ∧ l ∈ P
  pref : ∀ l ∈ P, ∃ x ∈ X, ∃ b t, x = l ++ b :: t
theorem flat2_len {α β : Type} (f g : α → β) : ∀ P : List α, (P.flatMap fun p => [f p, g p]).length = 2 * P.length
  | [] => rfl
  | p :: P => by simp only [List.flatMap_cons, List.length_append, List.length_cons, List.length_nil, flat2_len f g P]; omega
theorem flat2_get {α β : Type} (f g : α → β) : ∀ (P : List α) (k : Nat) (p : α), P[k]? = some p → (P.flatMap fun p => [f p, g p])[2 * k]? = some (f p) ∧ (P.flatMap fun p => [f p, g p])[2 * k + 1]? = some (g p)
  | [], k, p, h => by simp at h
  | q :: P, 0, p, h => by simp at h; subst h; simp
  | q :: P, k + 1, p, h => by
    have := flat2_get f g P k p (by simpa using h)
    simp only [List.flatMap_cons, List.cons_append, List.nil_append]
    rw [show 2 * (k + 1) = 2 * k + 1 + 1 by omega]
    simpa using this
theorem waysL_len (P : List (List Bool)) (D : DL) : (waysL P D).length = 2 * P.length := flat2_len _ _ P
theorem waysL_get {P : List (List Bool)} {D : DL} {k : Nat} {p : List Bool} (h : P[k]? = some p) (b : Bool) : (waysL P D)[2 * k + b.toNat]? = some (wayOf P D (p ++ [b])) := by
  have := flat2_get (fun p => wayOf P D (p ++ [false])) (fun p => wayOf P D (p ++ [true])) P k p h
  cases b
  · exact this.1
  · exact this.2
theorem ways_ext {P : List (List Bool)} {xs : List Int} {D : DL} (hl : xs.length = 2 * P.length) (h : ∀ k p b, P[k]? = some p → xs[2 * k + b.toNat]? = some (wayOf P D (p ++ [b]))) : xs = waysL P D := by
  apply List.ext_getElem?
  intro i
  by_cases hi : i < 2 * P.length
  · obtain ⟨k, b, rfl⟩ : ∃ (k : Nat) (b : Bool), i = 2 * k + b.toNat := by
      rcases Nat.mod_two_eq_zero_or_one i with e | e
      · exact ⟨i / 2, false, by simp; omega⟩
      · exact ⟨i / 2, true, by simp; omega⟩
    have hk : k < P.length := by omega
    rw [h k P[k] b (List.getElem?_eq_getElem hk), waysL_get (List.getElem?_eq_getElem hk)]
  · rw [List.getElem?_eq_none (by omega), List.getElem?_eq_none (by rw [waysL_len]; omega)]
theorem snoc_inj {l l' : List Bool} {b b' : Bool} (h : l ++ [b] = l' ++ [b']) : l = l' ∧ b = b' := by
  have := List.append_inj' h rfl
  exact ⟨this.1, by simpa using this.2⟩
theorem idx_at {P : List (List Bool)} (hn : P.Nodup) {k : Nat} {p : List Bool} (h : P[k]? = some p) : P.idxOf p = k := by
  obtain ⟨hk, rfl⟩ := List.getElem?_eq_some_iff.1 h
  exact hn.idxOf_getElem k hk
theorem toNat_inj {b b' : Bool} (h : b.toNat = b'.toNat) : b = b' := by cases b <;> cases b' <;> simp_all
theorem pair_at {k k' : Nat} {b b' : Bool} (h : 2 * k + b.toNat = 2 * k' + b'.toNat) : k = k' ∧ b = b' := by
  have h1 : b.toNat ≤ 1 := by cases b <;> simp
  have h2 : b'.toNat ≤ 1 := by cases b' <;> simp
  have : k = k' := by omega
  subst this
  exact ⟨rfl, toNat_inj (by omega)⟩
/-- A new fork. -/
theorem ways_fork {P : List (List Bool)} {D : DL} {X : List (List Bool)} (h : Ts P D X) {k : Nat} {p : List Bool} {b : Bool} (hk : P[k]? = some p) (hp : p ++ [b] ∉ P) (hD : ∀ d ∈ D, d.2 ≠ p ++ [b]) :
    ((waysL P D).set (2 * k + b.toNat) (P.length : Nat)) ++ [0, 0] = waysL (P ++ [p ++ [b]]) D := by
  have hwo : ∀ l, l ≠ p ++ [b] → wayOf (P ++ [p ++ [b]]) D l = wayOf P D l := fun l hl => by
    unfold wayOf
    by_cases hm : l ∈ P
    · rw [if_pos hm, if_pos (List.mem_append_left _ hm), List.idxOf_append, if_pos hm]
    · rw [if_neg hm, if_neg (by simp [hm, hl])]
  have hnew : ∀ b', wayOf (P ++ [p ++ [b]]) D (p ++ [b] ++ [b']) = 0 := fun b' => by
    unfold wayOf
    rw [if_neg]
    · rw [List.find?_eq_none.2]
      intro d hd e
      obtain ⟨l, b2, e2, hl⟩ := h.dpar d hd
      have e : d.2 = p ++ [b] ++ [b'] := by simpa using e
      rw [e2] at e
      obtain ⟨rfl, _⟩ := snoc_inj e
      exact hp hl
    · intro hm
      rcases List.mem_append.1 hm with hm | hm
      · exact hp (h.par _ _ hm)
      · simp at hm
  refine ways_ext (by simp [waysL_len]; omega) fun i q c hi => ?_
  have hc1 : c.toNat ≤ 1 := by cases c <;> simp
  by_cases hiP : i < P.length
  · rw [List.getElem?_append_left hiP] at hi
    rw [List.getElem?_append_left (by rw [List.length_set, waysL_len]; omega)]
    by_cases e : 2 * i + c.toNat = 2 * k + b.toNat
    · obtain ⟨rfl, rfl⟩ := pair_at e
      rw [hi] at hk
      injection hk with hk
      subst hk
      have hlt : 2 * i + c.toNat < (waysL P D).length := by rw [waysL_len]; omega
      rw [List.getElem?_set_self hlt]
      unfold wayOf
      rw [if_pos (by simp), List.idxOf_append, if_neg hp]
      simp
    · rw [List.getElem?_set_ne (fun e2 => e e2.symm), waysL_get hi, hwo]
      intro e2
      obtain ⟨rfl, rfl⟩ := snoc_inj e2
      have h1 := idx_at h.nodup hi
      have h2 := idx_at h.nodup hk
      rw [h1] at h2
      exact e (by rw [h2])
  · have hi2 : i = P.length := by
      have := (List.getElem?_eq_some_iff.1 hi).1
      simp at this
      omega
    subst hi2
    rw [List.getElem?_append_right (Nat.le_refl _)] at hi
    simp at hi
    subst hi
    rw [List.getElem?_append_right (by rw [List.length_set, waysL_len]; omega), List.length_set, waysL_len, hnew, show 2 * P.length + c.toNat - 2 * P.length = c.toNat by omega]
    cases c <;> simp
theorem Ts.fork {P : List (List Bool)} {D : DL} {X : List (List Bool)} (h : Ts P D X) {k : Nat} {p : List Bool} {b : Bool} (hk : P[k]? = some p) (hp : p ++ [b] ∉ P) (hx : ∃ x ∈ X, ∃ c t, x = p ++ [b] ++ c :: t) : Ts (P ++ [p ++ [b]]) D X := by
  have hkl := (List.getElem?_eq_some_iff.1 hk).1
  have hpm : p ∈ P := List.mem_of_getElem? hk
  refine ⟨by rw [List.getElem?_append_left (by omega)]; exact h.root, ?_, fun l c hm => ?_, fun d hd => ?_, fun l hm => ?_⟩
  · rw [List.nodup_append]
    refine ⟨h.nodup, by simp, fun a ha c hc => ?_⟩
    simp at hc
    subst hc
    intro e
    subst e
    exact hp ha
  · rcases List.mem_append.1 hm with hm | hm
    · exact List.mem_append_left _ (h.par l c hm)
    · have : l ++ [c] = p ++ [b] := by simpa using hm
      obtain ⟨rfl, _⟩ := snoc_inj this
      exact List.mem_append_left _ hpm
  · obtain ⟨l, c, e, hl⟩ := h.dpar d hd
    exact ⟨l, c, e, List.mem_append_left _ hl⟩
  · rcases List.mem_append.1 hm with hm | hm
    · exact h.pref l hm
    · have : l = p ++ [b] := by simpa using hm
      subst this
      exact hx
/-- A new sign. -/
theorem ways_leaf {P : List (List Bool)} {D : DL} {X : List (List Bool)} (h : Ts P D X) {k s : Nat} {p : List Bool} {b : Bool} (hk : P[k]? = some p) (hp : p ++ [b] ∉ P) (hD : ∀ d ∈ D, d.2 ≠ p ++ [b]) :
    (waysL P D).set (2 * k + b.toNat) (-1 - (s : Int)) = waysL P (D ++ [(s, p ++ [b])]) := by
  have hnone : D.find? (fun d => d.2 == p ++ [b]) = none := List.find?_eq_none.2 fun d hd e => hD d hd (by simpa using e)
  refine ways_ext (by rw [List.length_set, waysL_len]) fun i q c hi => ?_
  by_cases e : 2 * i + c.toNat = 2 * k + b.toNat
  · obtain ⟨rfl, rfl⟩ := pair_at e
    rw [hi] at hk
    injection hk with hk
    subst hk
    have hil := (List.getElem?_eq_some_iff.1 hi).1
    have hc1 : c.toNat ≤ 1 := by cases c <;> simp
    have hlt : 2 * i + c.toNat < (waysL P D).length := by rw [waysL_len]; omega
    rw [List.getElem?_set_self hlt]
    unfold wayOf
    rw [if_neg hp, List.find?_append, hnone]
    simp
  · rw [List.getElem?_set_ne (fun e2 => e e2.symm), waysL_get hi]
    have hne : q ++ [c] ≠ p ++ [b] := by
      intro e2
      obtain ⟨rfl, rfl⟩ := snoc_inj e2
      have h1 := idx_at h.nodup hi
      have h2 := idx_at h.nodup hk
      rw [h1] at h2
      exact e (by rw [h2])
    unfold wayOf
    by_cases hm : q ++ [c] ∈ P
    · rw [if_pos hm, if_pos hm]
    · rw [if_neg hm, if_neg hm, List.find?_append]
      cases hf : D.find? (fun d => d.2 == q ++ [c]) with
      | some d => rfl
      | none =>
        have : ((p ++ [b]) == (q ++ [c])) = false := by
          rw [beq_eq_false_iff_ne]
          exact fun e => hne e.symm
        simp [this]
theorem Ts.leaf {P : List (List Bool)} {D : DL} {X : List (List Bool)} (h : Ts P D X) {k s : Nat} {p : List Bool} {b : Bool} (hk : P[k]? = some p) : Ts P (D ++ [(s, p ++ [b])]) X := by
  refine ⟨h.root, h.nodup, h.par, fun d hd => ?_, h.pref⟩
  rcases List.mem_append.1 hd with hd | hd
  · exact h.dpar d hd
  · have : d = (s, p ++ [b]) := by simpa using hd
    subst this
    exact ⟨p, b, rfl, List.mem_of_getElem? hk⟩
theorem Ts.more {P : List (List Bool)} {D : DL} {X Y : List (List Bool)} (h : Ts P D X) (hs : ∀ x ∈ X, x ∈ Y) : Ts P D Y := ⟨h.root, h.nodup, h.par, h.dpar, fun l hl => by
  obtain ⟨x, hx, hr⟩ := h.pref l hl
  exact ⟨x, hs x hx, hr⟩⟩
theorem Ts.start {x : List Bool} (hx : x ≠ []) : Ts [[]] [] [x] := by
  refine ⟨rfl, by simp, fun l b h => by simp at h, fun d hd => (by cases hd), fun l hl => ?_⟩
  have : l = [] := by simpa using hl
  subst this
  cases x with
  | nil => exact absurd rfl hx
  | cons b t => exact ⟨b :: t, by simp, b, t, rfl⟩
theorem wayOf_fork {P : List (List Bool)} {D : DL} {l : List Bool} (h : l ∈ P) : wayOf P D l = (P.idxOf l : Nat) := by unfold wayOf; rw [if_pos h]
theorem wayOf_none {P : List (List Bool)} {D : DL} {l : List Bool} (h : l ∉ P) (hD : ∀ d ∈ D, d.2 ≠ l) : wayOf P D l = 0 := by
  unfold wayOf
  rw [if_neg h, List.find?_eq_none.2 fun d hd e => hD d hd (by simpa using e)]
theorem wayOf_sign {P : List (List Bool)} {D : DL} {l : List Bool} {s : Nat} (h : l ∉ P) (hD : (s, l) ∈ D) (hu : ∀ d ∈ D, d.2 = l → d.1 = s) : wayOf P D l = -1 - (s : Int) := by
  unfold wayOf
  rw [if_neg h]
  cases hf : D.find? (fun d => d.2 == l) with
  | none => exact absurd (List.find?_eq_none.1 hf _ hD) (by simp)
  | some d =>
    have h1 := List.find?_some hf
    have h2 := List.mem_of_find?_eq_some hf
    show -1 - (d.1 : Int) = _
    rw [hu d h2 (by simpa using h1)]
theorem Ts.idx_pos {P : List (List Bool)} {D : DL} {X : List (List Bool)} (h : Ts P D X) {l : List Bool} (hl : l ∈ P) (hne : l ≠ []) : 0 < P.idxOf l := by
  rcases Nat.eq_zero_or_pos (P.idxOf l) with e | e
  · have h1 : P[P.idxOf l]? = some l := by
      rw [List.getElem?_eq_getElem (List.idxOf_lt_length_of_mem hl)]
      simp
    rw [e, h.root] at h1
    injection h1 with h1
    exact absurd h1.symm hne
  · exact e
end Go.Proofs.Ytmbcinbkijnblaa
