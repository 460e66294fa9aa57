/- The order of terms; TermOrder. -/
import Derived.Test.YtefcnaccemefnaaDoorTeO
namespace Go.Proofs.YtefcnaccemefnaaDoor
open Go.RowKit U G

structure TO {α : Type} (c : α → α → Int) : Prop where
  anti : ∀ a b, c a b = -c b a
  zero : ∀ a b, c a b = 0 → a = b
  trans : ∀ a b d, c a b ≤ 0 → c b d ≤ 0 → c a d ≤ 0
  low : ∀ a b, -1 ≤ c a b
theorem TO.self {α : Type} {c : α → α → Int} (h : TO c) (a : α) : c a a = 0 := by have := h.anti a a; omega
theorem TO.neg {α : Type} {c : α → α → Int} (h : TO c) {a b d : α} (h1 : c a b < 0) (h2 : c b d ≤ 0) : c a d < 0 := by
  have h3 := h.trans a b d (by omega) h2
  rcases Int.lt_or_eq_of_le h3 with h4 | h4
  · exact h4
  · have e := h.zero _ _ h4
    subst e
    have := h.anti a b
    omega
theorem TO.neg' {α : Type} {c : α → α → Int} (h : TO c) {a b d : α} (h1 : c a b ≤ 0) (h2 : c b d < 0) : c a d < 0 := by
  have h3 := h.trans a b d h1 (by omega)
  rcases Int.lt_or_eq_of_le h3 with h4 | h4
  · exact h4
  · have e := h.zero _ _ h4
    subst e
    have := h.anti a b
    omega
def lexC {α β : Type} (c : α → α → Int) (d : β → β → Int) (p q : α × β) : Int := if c p.1 q.1 = 0 then d p.2 q.2 else c p.1 q.1
theorem TO.lex {α β : Type} {c : α → α → Int} {d : β → β → Int} (hc : TO c) (hd : TO d) : TO (lexC c d) where
  anti p q := by
    unfold lexC
    have := hc.anti p.1 q.1
    by_cases h : c p.1 q.1 = 0
    · rw [if_pos h, if_pos (by omega)]
      exact hd.anti _ _
    · rw [if_neg h, if_neg (by omega)]
      exact this
  zero p q h := by
    unfold lexC at h
    by_cases h0 : c p.1 q.1 = 0
    · rw [if_pos h0] at h
      exact Prod.ext (hc.zero _ _ h0) (hd.zero _ _ h)
    · rw [if_neg h0] at h
      exact absurd h h0
  trans p q r h1 h2 := by
    unfold lexC at *
    by_cases e1 : c p.1 q.1 = 0
    · rw [if_pos e1] at h1
      have e := hc.zero _ _ e1
      rw [e]
      by_cases e2 : c q.1 r.1 = 0
      · rw [if_pos e2] at h2 ⊢
        exact hd.trans _ _ _ h1 h2
      · rw [if_neg e2] at h2 ⊢
        exact h2
    · rw [if_neg e1] at h1
      have h3 : c q.1 r.1 ≤ 0 := by
        by_cases e2 : c q.1 r.1 = 0
        · omega
        · rw [if_neg e2] at h2; exact h2
      have h4 := hc.neg (show c p.1 q.1 < 0 by omega) h3
      rw [if_neg (by omega)]
      omega
  low p q := by
    unfold lexC
    split
    · exact hd.low _ _
    · exact hc.low _ _
def sumC {α β : Type} (c : α → α → Int) (d : β → β → Int) : α ⊕ β → α ⊕ β → Int
  | .inl a, .inl b => c a b
  | .inl _, .inr _ => -1
  | .inr _, .inl _ => 1
  | .inr a, .inr b => d a b
theorem TO.sum {α β : Type} {c : α → α → Int} {d : β → β → Int} (hc : TO c) (hd : TO d) : TO (sumC c d) where
  anti p q := by
    cases p <;> cases q
    · exact hc.anti _ _
    · rfl
    · rfl
    · exact hd.anti _ _
  zero p q h := by
    cases p <;> cases q
    · rw [hc.zero _ _ h]
    · exact absurd h (by show ¬ (-1 : Int) = 0; decide)
    · exact absurd h (by show ¬ (1 : Int) = 0; decide)
    · rw [hd.zero _ _ h]
  trans p q r h1 h2 := by
    cases p <;> cases q <;> cases r
    · exact hc.trans _ _ _ h1 h2
    · show (-1 : Int) ≤ 0; decide
    · exact absurd h2 (by show ¬ (1 : Int) ≤ 0; decide)
    · show (-1 : Int) ≤ 0; decide
    · exact absurd h1 (by show ¬ (1 : Int) ≤ 0; decide)
    · exact absurd h1 (by show ¬ (1 : Int) ≤ 0; decide)
    · exact absurd h2 (by show ¬ (1 : Int) ≤ 0; decide)
    · exact hd.trans _ _ _ h1 h2
  low p q := by
    cases p <;> cases q
    · exact hc.low _ _
    · show (-1 : Int) ≤ -1; decide
    · show (-1 : Int) ≤ 1; decide
    · exact hd.low _ _
theorem lessL_trans : ∀ {a b c : List Nat}, lessL a b = true → lessL b c = true → lessL a c = true
  | [], _, [], _, h2 => by rename_i b _; cases b <;> cases h2
  | [], _, _ :: _, _, _ => rfl
  | a :: x, [], _, h1, _ => by cases h1
  | a :: x, b :: y, [], _, h2 => by cases h2
  | a :: x, b :: y, c :: z, h1, h2 => by
    rcases Nat.lt_trichotomy a b with g1 | g1 | g1
    · rcases Nat.lt_trichotomy b c with g2 | g2 | g2
      · exact lessL_lt (by omega)
      · subst g2; exact lessL_lt g1
      · rw [lessL_gt g2] at h2; cases h2
    · subst g1
      rcases Nat.lt_trichotomy a c with g2 | g2 | g2
      · exact lessL_lt g2
      · subst g2
        rw [lessL_eq] at h1 h2 ⊢
        exact lessL_trans h1 h2
      · rw [lessL_gt g2] at h2; cases h2
    · rw [lessL_gt g1] at h1; cases h1
theorem cmpL_neg {a b : List Nat} : cmpL a b < 0 ↔ lessL a b = true := by
  unfold cmpL
  constructor
  · intro h
    cases e : lessL a b with
    | true => rfl
    | false =>
      rw [e, if_neg (by simp)] at h
      split at h <;> exact absurd h (by decide)
  · intro h
    rw [if_pos h]
    decide
theorem to_cmpL : TO cmpL where
  anti a b := by
    rcases lessL_tri a b with h | h | h
    · subst h; rw [cmpL_self]; rfl
    · unfold cmpL; rw [if_pos h, lessL_asymm h, if_neg (by simp), if_pos h]
    · unfold cmpL; rw [lessL_asymm h, if_neg (by simp), if_pos h, if_pos h]; rfl
  zero a b h := by
    by_cases e : a = b
    · exact e
    · exact absurd h (cmpL_zero e)
  trans a b c h1 h2 := by
    by_cases e1 : a = b
    · subst e1; exact h2
    · by_cases e2 : b = c
      · subst e2; exact h1
      · have g1 := cmpL_neg.1 (show cmpL a b < 0 by have := cmpL_zero e1; omega)
        have g2 := cmpL_neg.1 (show cmpL b c < 0 by have := cmpL_zero e2; omega)
        have := cmpL_neg.2 (lessL_trans g1 g2)
        omega
  low a b := by unfold cmpL; (repeat' split) <;> decide
theorem to_cmpZ : TO cmpZ where
  anti a b := by unfold cmpZ; (repeat' split) <;> omega
  zero a b h := by unfold cmpZ at h; (repeat' split at h) <;> omega
  trans a b c h1 h2 := by unfold cmpZ at *; (repeat' split at h1) <;> (repeat' split at h2) <;> (repeat' split) <;> omega
  low a b := by unfold cmpZ; (repeat' split) <;> omega
/-- How a term stands. -/
abbrev Ky := List Nat ⊕ (Int × (List Nat × (List Nat × List Nat)))
def keyT (t : Tm) : Ky := if rightT t then .inl (textL t) else .inr (t.k, (bl t.x, (bl t.g, bl t.y)))
abbrev cmpK : Ky → Ky → Int := sumC cmpL (lexC cmpZ (lexC cmpL (lexC cmpL cmpL)))
theorem to_cmpK : TO cmpK := to_cmpL.sum (to_cmpZ.lex (to_cmpL.lex (to_cmpL.lex to_cmpL)))
theorem cmpT_key (a b : Tm) : cmpT a b = cmpK (keyT a) (keyT b) := by
  rw [cmpT_ref]
  unfold keyT
  cases ra : rightT a with
  | true =>
    cases rb : rightT b with
    | true => rfl
    | false => rfl
  | false =>
    cases rb : rightT b with
    | true => rfl
    | false =>
      simp only [Bool.false_eq_true, if_false]
      rw [noneT_or]
      show orI _ = lexC cmpZ (lexC cmpL (lexC cmpL cmpL)) _ _
      unfold lexC
      simp only [orI]
      split
      · split
        · split
          · split
            · rename_i h; rw [h]
            · rfl
          · rfl
        · rfl
      · rfl
/-! Unlike right terms have unlike texts. -/
theorem hexD_inj {a b : Nat} (ha : a < 16) (hb : b < 16) (h : hexD a = hexD b) : a = b := by unfold hexD at h; (repeat' split at h) <;> omega
theorem raw92 : rawZ ((92 : Nat) : Int) = false := by decide +kernel
theorem iriC_cancel {c d : Nat} {r s : List Nat} (h : iriC c ++ r = iriC d ++ s) : c = d ∧ r = s := by
  unfold iriC at h
  by_cases h1 : c < 128 ∧ rawZ (c : Int) = false
  · rw [if_pos h1] at h
    by_cases h2 : d < 128 ∧ rawZ (d : Int) = false
    · rw [if_pos h2] at h
      simp only [List.cons_append, List.nil_append, List.cons.injEq, true_and] at h
      obtain ⟨e1, e2, e3⟩ := h
      have g1 := hexD_inj (by omega) (by omega) e1
      have g2 := hexD_inj (by omega) (by omega) e2
      exact ⟨by omega, e3⟩
    · rw [if_neg h2] at h
      simp only [List.cons_append, List.nil_append, List.cons.injEq] at h
      obtain ⟨e1, _⟩ := h
      subst e1
      exact absurd ⟨by omega, raw92⟩ h2
  · rw [if_neg h1] at h
    by_cases h2 : d < 128 ∧ rawZ (d : Int) = false
    · rw [if_pos h2] at h
      simp only [List.cons_append, List.nil_append, List.cons.injEq] at h
      obtain ⟨e1, _⟩ := h
      subst e1
      exact absurd ⟨by omega, raw92⟩ h1
    · rw [if_neg h2] at h
      simpa using h
theorem iriB_inj : ∀ {a b : List Nat}, iriB a = iriB b → a = b
  | [], [], _ => rfl
  | [], c :: b, h => by
    have h2 := congrArg List.length h
    have e : iriB (c :: b) = iriC c ++ iriB b := by simp [iriB]
    have := (iriC_len c).1
    rw [e, List.length_append] at h2
    have e0 : (iriB ([] : List Nat)).length = 0 := rfl
    omega
  | c :: b, [], h => by
    have h2 := congrArg List.length h
    have e : iriB (c :: b) = iriC c ++ iriB b := by simp [iriB]
    have := (iriC_len c).1
    rw [e, List.length_append] at h2
    have e0 : (iriB ([] : List Nat)).length = 0 := rfl
    omega
  | c :: a, d :: b, h => by
    have e1 : iriB (c :: a) = iriC c ++ iriB a := by simp [iriB]
    have e2 : iriB (d :: b) = iriC d ++ iriB b := by simp [iriB]
    rw [e1, e2] at h
    obtain ⟨h1, h2⟩ := iriC_cancel h
    rw [h1, iriB_inj h2]
theorem litC_head (c : Nat) : ∃ x t, litC c = x :: t ∧ x ≠ 34 := by
  unfold litC
  by_cases h1 : c = 34
  · exact ⟨92, _, by rw [if_pos h1], by decide⟩
  · rw [if_neg h1]
    by_cases h2 : c = 92
    · exact ⟨92, _, by rw [if_pos h2], by decide⟩
    · rw [if_neg h2]
      by_cases h3 : c = 10
      · exact ⟨92, _, by rw [if_pos h3], by decide⟩
      · rw [if_neg h3]
        by_cases h4 : c = 13
        · exact ⟨92, _, by rw [if_pos h4], by decide⟩
        · exact ⟨c, [], by rw [if_neg h4], h1⟩
theorem litC_cancel {c d : Nat} {r s : List Nat} (h : litC c ++ r = litC d ++ s) : c = d ∧ r = s := by
  unfold litC at h
  repeat' split at h
  all_goals
    simp only [List.cons_append, List.nil_append, List.cons.injEq, true_and] at h
  all_goals
    first
      | (exact ⟨h.1, h.2⟩)
      | (exact ⟨by omega, h⟩)
      | (exfalso; omega)
      | (exfalso; have := h.1; omega)
theorem litB_end : ∀ {a b r s : List Nat}, litB a ++ 34 :: r = litB b ++ 34 :: s → a = b ∧ r = s
  | [], [], r, s, h => by simpa [litB] using h
  | [], c :: b, r, s, h => by
    obtain ⟨x, t, e, hx⟩ := litC_head c
    have e2 : litB (c :: b) = litC c ++ litB b := by simp [litB]
    rw [e2, e] at h
    simp only [litB, List.flatMap_nil, List.nil_append, List.cons_append, List.cons.injEq] at h
    exact absurd h.1.symm hx
  | c :: b, [], r, s, h => by
    obtain ⟨x, t, e, hx⟩ := litC_head c
    have e2 : litB (c :: b) = litC c ++ litB b := by simp [litB]
    rw [e2, e] at h
    simp only [litB, List.flatMap_nil, List.nil_append, List.cons_append, List.cons.injEq] at h
    exact absurd h.1 hx
  | c :: a, d :: b, r, s, h => by
    have e1 : litB (c :: a) = litC c ++ litB a := by simp [litB]
    have e2 : litB (d :: b) = litC d ++ litB b := by simp [litB]
    rw [e1, e2, List.append_assoc, List.append_assoc] at h
    obtain ⟨h1, h2⟩ := litC_cancel h
    obtain ⟨h3, h4⟩ := litB_end h2
    exact ⟨by rw [h1, h3], h4⟩
theorem text_k1 {t : Tm} (h : t.k = 1) : textL t = 60 :: (iriB (bl t.x) ++ [62]) := by unfold textL; rw [if_pos h]
theorem text_k2 {t : Tm} (h : t.k = 2) : textL t = 95 :: 58 :: bl t.x := by unfold textL; rw [h, if_neg (by decide), if_pos rfl]
theorem text_k3 {t : Tm} (h : t.k = 3) : textL t = 34 :: (litB (bl t.x) ++ 34 :: (if t.g = ByteArray.empty then [] else 64 :: bl t.g)) := by unfold textL; rw [h, if_neg (by decide), if_neg (by decide), if_neg (by decide)]
theorem text_k4 {t : Tm} (h : t.k = 4) : textL t = 34 :: (litB (bl t.x) ++ 34 :: 94 :: 94 :: 60 :: (iriB (bl t.y) ++ [62])) := by unfold textL; rw [h, if_neg (by decide), if_neg (by decide), if_pos rfl]
theorem tail3 {g g' : ByteArray} (h : (if g = ByteArray.empty then [] else 64 :: bl g) = (if g' = ByteArray.empty then [] else 64 :: bl g')) : g = g' := by
  by_cases e : g = ByteArray.empty
  · by_cases e' : g' = ByteArray.empty
    · rw [e, e']
    · rw [if_pos e, if_neg e'] at h; cases h
  · by_cases e' : g' = ByteArray.empty
    · rw [if_neg e, if_pos e'] at h; cases h
    · rw [if_neg e, if_neg e'] at h
      exact bl_inj (by simpa using h)
theorem textL_inj {a b : Tm} (ha : rightT a = true) (hb : rightT b = true) (h : textL a = textL b) : a = b := by
  rcases right_kind ha with ka | ka | ka | ka <;> rcases right_kind hb with kb | kb | kb | kb
  · rw [text_k1 ka, text_k1 kb] at h
    simp only [List.cons.injEq, true_and, List.append_cancel_right_eq] at h
    rw [(right_iri ka ha).1, (right_iri kb hb).1, bl_inj (iriB_inj h)]
  · rw [text_k1 ka, text_k2 kb] at h; simp at h
  · rw [text_k1 ka, text_k3 kb] at h; simp at h
  · rw [text_k1 ka, text_k4 kb] at h; simp at h
  · rw [text_k2 ka, text_k1 kb] at h; simp at h
  · rw [text_k2 ka, text_k2 kb] at h
    simp only [List.cons.injEq, true_and] at h
    rw [(right_blank ka ha).1, (right_blank kb hb).1, bl_inj h]
  · rw [text_k2 ka, text_k3 kb] at h; simp at h
  · rw [text_k2 ka, text_k4 kb] at h; simp at h
  · rw [text_k3 ka, text_k1 kb] at h; simp at h
  · rw [text_k3 ka, text_k2 kb] at h; simp at h
  · rw [text_k3 ka, text_k3 kb] at h
    simp only [List.cons.injEq, true_and] at h
    obtain ⟨h1, h2⟩ := litB_end h
    have e1 := bl_inj h1
    have e2 := tail3 h2
    rw [(right_lit ka ha).1, (right_lit kb hb).1, e1, e2]
  · rw [text_k3 ka, text_k4 kb] at h
    simp only [List.cons.injEq, true_and] at h
    obtain ⟨_, h2⟩ := litB_end h
    split at h2 <;> simp at h2
  · rw [text_k4 ka, text_k1 kb] at h; simp at h
  · rw [text_k4 ka, text_k2 kb] at h; simp at h
  · rw [text_k4 ka, text_k3 kb] at h
    simp only [List.cons.injEq, true_and] at h
    obtain ⟨_, h2⟩ := litB_end h
    split at h2 <;> simp at h2
  · rw [text_k4 ka, text_k4 kb] at h
    simp only [List.cons.injEq, true_and] at h
    obtain ⟨h1, h2⟩ := litB_end h
    simp only [List.cons.injEq, true_and, List.append_cancel_right_eq] at h2
    rw [(right_typ ka ha).1, (right_typ kb hb).1, bl_inj h1, bl_inj (iriB_inj h2)]
theorem keyT_inj {a b : Tm} (h : keyT a = keyT b) : a = b := by
  unfold keyT at h
  cases ra : rightT a with
  | true =>
    cases rb : rightT b with
    | true =>
      rw [ra, rb] at h
      simp only [if_true, Sum.inl.injEq] at h
      exact textL_inj ra rb h
    | false => rw [ra, rb] at h; simp at h
  | false =>
    cases rb : rightT b with
    | true => rw [ra, rb] at h; simp at h
    | false =>
      rw [ra, rb] at h
      simp only [Bool.false_eq_true, if_false, Sum.inr.injEq, Prod.mk.injEq] at h
      exact Tm.eq_iff.2 ⟨h.1, bl_inj h.2.1, bl_inj h.2.2.1, bl_inj h.2.2.2⟩
theorem cmpT_anti (a b : Tm) : cmpT a b = -cmpT b a := by rw [cmpT_key, cmpT_key]; exact to_cmpK.anti _ _
theorem cmpT_self (a : Tm) : cmpT a a = 0 := by rw [cmpT_key]; exact to_cmpK.self _
theorem cmpT_zero {a b : Tm} : cmpT a b = 0 ↔ a = b := by
  constructor
  · intro h
    rw [cmpT_key] at h
    exact keyT_inj (to_cmpK.zero _ _ h)
  · rintro rfl
    exact cmpT_self _
theorem cmpT_trans {a b c : Tm} (h1 : cmpT a b ≤ 0) (h2 : cmpT b c ≤ 0) : cmpT a c ≤ 0 := by
  rw [cmpT_key] at *
  exact to_cmpK.trans _ _ _ h1 h2
theorem cmpT_low (a b : Tm) : -1 ≤ cmpT a b ∧ cmpT a b ≤ 1 := by
  have h1 : ∀ a b, -1 ≤ cmpT a b := fun a b => by rw [cmpT_key]; exact to_cmpK.low _ _
  have := cmpT_anti a b
  have := h1 b a
  have := h1 a b
  omega
def rankT (t : Tm) : Int := if t.k = 1 then 1 else if t.k = 2 then 2 else 0
theorem text_head {t : Tm} (h : rightT t = true) : ∃ r, textL t = (if rankT t = 0 then 34 else if rankT t = 1 then 60 else 95) :: r := by
  unfold rankT
  rcases right_kind h with k | k | k | k
  · exact ⟨_, by rw [text_k1 k, k]; rfl⟩
  · exact ⟨_, by rw [text_k2 k, k]; rfl⟩
  · exact ⟨_, by rw [text_k3 k, k]; rfl⟩
  · exact ⟨_, by rw [text_k4 k, k]; rfl⟩
theorem rank_less {a b : Tm} (ha : rightT a = true) (hb : rightT b = true) (h : rankT a < rankT b) : cmpT a b < 0 := by
  rw [cmpT_ref, if_pos ha, if_pos hb, cmpL_neg]
  obtain ⟨r, er⟩ := text_head ha
  obtain ⟨s, es⟩ := text_head hb
  rw [er, es]
  apply lessL_lt
  have r1 : rankT a = 0 ∨ rankT a = 1 ∨ rankT a = 2 := by unfold rankT; (repeat' split) <;> simp
  have r2 : rankT b = 0 ∨ rankT b = 1 ∨ rankT b = 2 := by unfold rankT; (repeat' split) <;> simp
  rcases r1 with r1 | r1 | r1 <;> rcases r2 with r2 | r2 | r2 <;> rw [r1, r2] at h ⊢ <;> first | (exfalso; revert h; decide) | decide
theorem right_less {a b : Tm} (ha : rightT a = true) (hb : rightT b = false) : cmpT a b < 0 := by
  rw [cmpT_ref, if_pos ha, if_neg (by rw [hb]; simp)]
  decide
def firstZ (n m : Int) : Int := if n = 0 then m else n
theorem tri_self (x y z : Tm) : triT x y z x y z = 0 := by unfold triT; rw [cmpT_self, if_pos rfl, cmpT_self, if_pos rfl, cmpT_self]
theorem tri_swap (a b c : Tm) : triT a b c a c b = cmpT b c := by
  unfold triT
  rw [cmpT_self, if_pos rfl]
  by_cases h : cmpT b c = 0
  · rw [if_pos h]
    have := cmpT_anti b c
    omega
  · rw [if_neg h]
theorem tri_first (a b c : Tm) : triT b a a a c c = firstZ (cmpT b a) (cmpT a c) := by
  unfold triT firstZ
  by_cases h : cmpT b a = 0
  · rw [if_pos h, if_pos h]
    split
    · rfl
    · rfl
  · rw [if_neg h, if_neg h]
set_option maxHeartbeats 1000000 in
theorem rank_any {t : Tm} {w : World} : Calls Tryd.prog 25 #[tmV t] w fun e w' => e = .returned (.int .i64 (rankT t)) ∧ StU w w' := by
  obtain ⟨w1, hw1⟩ : ∃ w1, w1 = w.alloc (tmObj t) := ⟨_, rfl⟩
  have HO0 : StU w w1 := hid (by rw [hw1]; exact (Only.refl _ w).alloc _)
  have HA0 : TmAt w1 w.heap.size t := by rw [hw1]; exact tm_new w t
  obtain ⟨q0, q1, q2, q3⟩ := HA0.cells
  clear HA0
  unfold tmV
  by_cases h1 : t.k = 1
  · have g1 : (t.k == 1) = true := by rw [h1]; rfl
    have hR : rankT t = 1 := by unfold rankT; rw [if_pos h1]
    rw [hR]
    clear h1 hR
    go_enter Tryd.func25, Tryd.ntmps25
    go_upto_region 1 with fail
    rw [← hw1]
    clear hw1
    go_wp2_with fail
    go_ret
    exact ⟨rfl, HO0⟩
  · have g1 : (t.k == 1) = false := by rw [beq_eq_false_iff_ne]; exact h1
    by_cases h2 : t.k = 2
    · have g2 : (t.k == 2) = true := by rw [h2]; rfl
      have hR : rankT t = 2 := by unfold rankT; rw [if_neg h1, if_pos h2]
      rw [hR]
      clear h1 hR h2
      go_enter Tryd.func25, Tryd.ntmps25
      go_upto_region 1 with fail
      rw [← hw1]
      clear hw1
      go_wp2_with fail
      go_ret
      exact ⟨rfl, HO0⟩
    · have g2 : (t.k == 2) = false := by rw [beq_eq_false_iff_ne]; exact h2
      have hR : rankT t = 0 := by unfold rankT; rw [if_neg h1, if_neg h2]
      rw [hR]
      clear h1 hR h2
      go_enter Tryd.func25, Tryd.ntmps25
      go_upto_region 1 with fail
      rw [← hw1]
      clear hw1
      go_wp2_with fail
      go_ret
      exact ⟨rfl, HO0⟩
theorem first_any (n m : Int) (w : World) : Calls Tryd.prog 26 #[.int .i64 n, .int .i64 m] w fun e w' => e = .returned (.int .i64 (firstZ n m)) ∧ w = w' := by
  unfold firstZ
  by_cases h : n = 0
  · subst h
    rw [if_pos rfl]
    go_enter Tryd.func26, Tryd.ntmps26
    go_wp2_with fail
    go_ret
    exact ⟨rfl, rfl⟩
  · rw [if_neg h]
    have g : (n == 0) = false := by rw [beq_eq_false_iff_ne]; exact h
    have g' : (n != 0) = true := by rw [bne_iff_ne]; exact h
    clear h
    go_enter Tryd.func26, Tryd.ntmps26
    go_wp2_with fail
    go_ret
    exact ⟨rfl, rfl⟩
def Tm3 (w1 : World) (p q r : Nat) (a b c : Tm) (u : World) : Prop := u.cell? ⟨p, 0, none⟩ = some (.int .i64 a.k) ∧ u.cell? ⟨p, 1, none⟩ = some (.string a.x) ∧ u.cell? ⟨p, 2, none⟩ = some (.string a.g) ∧ u.cell? ⟨p, 3, none⟩ = some (.string a.y) ∧ u.cell? ⟨q, 0, none⟩ = some (.int .i64 b.k) ∧ u.cell? ⟨q, 1, none⟩ = some (.string b.x) ∧ u.cell? ⟨q, 2, none⟩ = some (.string b.g) ∧ u.cell? ⟨q, 3, none⟩ = some (.string b.y) ∧ u.cell? ⟨r, 0, none⟩ = some (.int .i64 c.k) ∧ u.cell? ⟨r, 1, none⟩ = some (.string c.x) ∧ u.cell? ⟨r, 2, none⟩ = some (.string c.g) ∧ u.cell? ⟨r, 3, none⟩ = some (.string c.y) ∧ StU w1 u
theorem tm3_of {w1 u : World} {p q r : Nat} {a b c : Tm} (ha : TmAt w1 p a) (hb : TmAt w1 q b) (hc : TmAt w1 r c) (o : StU w1 u) : Tm3 w1 p q r a b c u := by
  obtain ⟨h0, h1, h2, h3⟩ := TmAt.cells (o.out.row ha no_)
  obtain ⟨k0, k1, k2, k3⟩ := TmAt.cells (o.out.row hb no_)
  obtain ⟨l0, l1, l2, l3⟩ := TmAt.cells (o.out.row hc no_)
  exact ⟨h0, h1, h2, h3, k0, k1, k2, k3, l0, l1, l2, l3, o⟩
theorem three_start (a b c : Tm) (w : World) : ∃ w1, w1 = ((w.alloc (tmObj a)).alloc (tmObj b)).alloc (tmObj c) ∧ Hid (TmAt w1 w.heap.size a) ∧ Hid (TmAt w1 (w.heap.size + 1) b) ∧ Hid (TmAt w1 (w.heap.size + 1 + 1) c) ∧ StU w w1 := by
  refine ⟨_, rfl, hid ?_, hid ?_, hid ?_, hid ((((Only.refl _ w).alloc _).alloc _).alloc _)⟩
  · exact (((Only.refl (fun _ => False) (w.alloc (tmObj a))).alloc (tmObj b)).alloc (tmObj c)).row (tm_new w a) no_
  · have h := tm_new (w.alloc (tmObj a)) b
    have := ((Only.refl (fun _ => False) ((w.alloc (tmObj a)).alloc (tmObj b))).alloc (tmObj c)).row h no_
    rwa [show (w.alloc (tmObj a)).heap.size = w.heap.size + 1 by simp] at this
  · have := tm_new ((w.alloc (tmObj a)).alloc (tmObj b)) c
    rwa [show ((w.alloc (tmObj a)).alloc (tmObj b)).heap.size = w.heap.size + 1 + 1 by simp] at this
def Tr5 (w2 : World) (p q r g1 g2 : Nat) (a b c : Tm) (u : World) : Prop := u.cell? ⟨p, 0, none⟩ = some (.int .i64 a.k) ∧ u.cell? ⟨p, 1, none⟩ = some (.string a.x) ∧ u.cell? ⟨p, 2, none⟩ = some (.string a.g) ∧ u.cell? ⟨p, 3, none⟩ = some (.string a.y) ∧ u.cell? ⟨q, 0, none⟩ = some (.int .i64 b.k) ∧ u.cell? ⟨q, 1, none⟩ = some (.string b.x) ∧ u.cell? ⟨q, 2, none⟩ = some (.string b.g) ∧ u.cell? ⟨q, 3, none⟩ = some (.string b.y) ∧ u.cell? ⟨r, 0, none⟩ = some (.int .i64 c.k) ∧ u.cell? ⟨r, 1, none⟩ = some (.string c.x) ∧ u.cell? ⟨r, 2, none⟩ = some (.string c.g) ∧ u.cell? ⟨r, 3, none⟩ = some (.string c.y) ∧ u.cell? ⟨g1, 0, none⟩ = some (.int .i64 a.k) ∧ u.cell? ⟨g1, 1, none⟩ = some (.string a.x) ∧ u.cell? ⟨g1, 2, none⟩ = some (.string a.g) ∧ u.cell? ⟨g1, 3, none⟩ = some (.string a.y) ∧ u.cell? ⟨g1, 4, none⟩ = some (.int .i64 b.k) ∧ u.cell? ⟨g1, 5, none⟩ = some (.string b.x) ∧ u.cell? ⟨g1, 6, none⟩ = some (.string b.g) ∧ u.cell? ⟨g1, 7, none⟩ = some (.string b.y) ∧ u.cell? ⟨g1, 8, none⟩ = some (.int .i64 c.k) ∧ u.cell? ⟨g1, 9, none⟩ = some (.string c.x) ∧ u.cell? ⟨g1, 10, none⟩ = some (.string c.g) ∧ u.cell? ⟨g1, 11, none⟩ = some (.string c.y) ∧ u.cell? ⟨g2, 0, none⟩ = some (.int .i64 a.k) ∧ u.cell? ⟨g2, 1, none⟩ = some (.string a.x) ∧ u.cell? ⟨g2, 2, none⟩ = some (.string a.g) ∧ u.cell? ⟨g2, 3, none⟩ = some (.string a.y) ∧ u.cell? ⟨g2, 4, none⟩ = some (.int .i64 c.k) ∧ u.cell? ⟨g2, 5, none⟩ = some (.string c.x) ∧ u.cell? ⟨g2, 6, none⟩ = some (.string c.g) ∧ u.cell? ⟨g2, 7, none⟩ = some (.string c.y) ∧ u.cell? ⟨g2, 8, none⟩ = some (.int .i64 b.k) ∧ u.cell? ⟨g2, 9, none⟩ = some (.string b.x) ∧ u.cell? ⟨g2, 10, none⟩ = some (.string b.g) ∧ u.cell? ⟨g2, 11, none⟩ = some (.string b.y) ∧ StU w2 u
theorem tr5_of {w2 u : World} {p q r g1 g2 : Nat} {a b c : Tm} (ha : TmAt w2 p a) (hb : TmAt w2 q b) (hc : TmAt w2 r c) (hx : TrAt w2 g1 a b c) (hy : TrAt w2 g2 a c b) (o : StU w2 u) : Tr5 w2 p q r g1 g2 a b c u := by
  obtain ⟨h0, h1, h2, h3⟩ := TmAt.cells (o.out.row ha no_)
  obtain ⟨k0, k1, k2, k3⟩ := TmAt.cells (o.out.row hb no_)
  obtain ⟨l0, l1, l2, l3⟩ := TmAt.cells (o.out.row hc no_)
  obtain ⟨m0, m1, m2, m3, m4, m5, m6, m7, m8, m9, m10, m11⟩ := TrAt.cells (o.out.row hx no_)
  obtain ⟨n0, n1, n2, n3, n4, n5, n6, n7, n8, n9, n10, n11⟩ := TrAt.cells (o.out.row hy no_)
  exact ⟨h0, h1, h2, h3, k0, k1, k2, k3, l0, l1, l2, l3, m0, m1, m2, m3, m4, m5, m6, m7, m8, m9, m10, m11, n0, n1, n2, n3, n4, n5, n6, n7, n8, n9, n10, n11, o⟩
theorem new5 {w1 wc : World} {a b c d e f : Tm} (z : StU w1 wc) : Hid (TrAt ((wc.alloc (trObj a b c)).alloc (trObj d e f)).drew wc.heap.size a b c ∧ TrAt ((wc.alloc (trObj a b c)).alloc (trObj d e f)).drew (wc.heap.size + 1) d e f ∧ StU w1 ((wc.alloc (trObj a b c)).alloc (trObj d e f)).drew) := by
  obtain ⟨w9, hw9, HA9, HB9, HO9⟩ := tr2_start a b c d e f wc
  subst hw9
  exact hid ⟨(Only.refl (fun _ => False) _).drew.row HA9.out no_, (Only.refl (fun _ => False) _).drew.row HB9.out no_, hid ((z.out.trans HO9.out).drew)⟩
set_option maxRecDepth 100000 in
set_option maxHeartbeats 4000000 in
theorem order_far {a b c : Tm} {w : World} (hT : Tb w) (hsa : sizeT a ≤ 422212465065984) (hsb : sizeT b ≤ 422212465065984) (hsc : sizeT c ≤ 422212465065984) (h : 6000 < sizeT a + sizeT b + sizeT c) :
    Calls Tryd.prog 5 #[tmV a, tmV b, tmV c] w fun e' w' => e' = .returned (.bool true) ∧ StU w w' := by
  obtain ⟨w1, hw1, HA0, HB0, HC0, HO0⟩ := three_start a b c w
  have HS0 := tm3_of HA0.out HB0.out HC0.out (hid (Only.refl _ w1))
  obtain ⟨pa0, pa1, pa2, pa3, pb0, pb1, pb2, pb3, pc0, pc1, pc2, pc3, z0⟩ := HS0
  replace hT : Tb w1 := hT.stu HO0
  have HZ : Hid (∀ W, StU w1 W → Calls Tryd.prog 6 #[.slice (some ⟨W.heap.size, 0, none⟩) 3 3] (W.alloc (.cells #[.int .i64 a.k, .string a.x, .string a.g, .string a.y, .int .i64 b.k, .string b.x, .string b.g, .string b.y, .int .i64 c.k, .string c.x, .string c.g, .string c.y] 24)) fun e' w' => e' = .returned (.int .i64 ((sizeT a + sizeT b + sizeT c : Nat) : Int)) ∧ Tm3 w1 w.heap.size (w.heap.size + 1) (w.heap.size + 1 + 1) a b c w') := hid fun W hW => (size3_any a b c W (by omega) (by omega) (by omega)).mono fun e' w' h2 => ⟨h2.1, tm3_of HA0.out HB0.out HC0.out (hid (hW.out.trans h2.2.out))⟩
  have HAw : Hid (∀ W, StU w1 W → Calls Tryd.prog 7 #[] W fun e' w' => e' = .returned (.bool true) ∧ Tm3 w1 w.heap.size (w.heap.size + 1) (w.heap.size + 1 + 1) a b c w') := hid fun W hW => (awake8_any (hT.stu hW)).mono fun e' w' h2 => ⟨h2.1, tm3_of HA0.out HB0.out HC0.out (hid (hW.out.trans h2.2.out))⟩
  generalize sizeT a + sizeT b + sizeT c = z at *
  have h' : (6000 : Int) < (z : Int) := by omega
  clear hT h hsa hsb hsc
  unfold tmV
  go_enter Tryd.func5, Tryd.ntmps5
  go_upto_region 1 with fail
  rw [← hw1]
  clear hw1
  go_wp2_with (first
    | (go_at_call 7; refine (HAw.out _ z0).mono ?_; rintro e' wr ⟨rfl, ra0, ra1, ra2, ra3, rb0, rb1, rb2, rb3, rc0, rc1, rc2, rc3, z1⟩)
    | (go_at_call 6; refine (HZ.out _ z1).mono ?_; rintro e' ws ⟨rfl, sa0, sa1, sa2, sa3, sb0, sb1, sb2, sb3, sc0, sc1, sc2, sc3, z2⟩))
  go_ret
  exact ⟨rfl, hid (HO0.out.trans z2.out)⟩
set_option maxRecDepth 100000 in
set_option maxHeartbeats 4000000 in
theorem order_near {a b c : Tm} {w : World} (hT : Tb w) (h : sizeT a + sizeT b + sizeT c ≤ 6000) :
    Calls Tryd.prog 5 #[tmV a, tmV b, tmV c] w fun e' w' => e' = .returned (.bool true) ∧ StU w w' := by
  obtain ⟨w1, hw1, HA0, HB0, HC0, HO0⟩ := three_start a b c w
  have HS0 := tm3_of HA0.out HB0.out HC0.out (hid (Only.refl _ w1))
  obtain ⟨pa0, pa1, pa2, pa3, pb0, pb1, pb2, pb3, pc0, pc1, pc2, pc3, z0⟩ := HS0
  replace hT : Tb w1 := hT.stu HO0
  have HZ : Hid (∀ W, StU w1 W → Calls Tryd.prog 6 #[.slice (some ⟨W.heap.size, 0, none⟩) 3 3] (W.alloc (.cells #[.int .i64 a.k, .string a.x, .string a.g, .string a.y, .int .i64 b.k, .string b.x, .string b.g, .string b.y, .int .i64 c.k, .string c.x, .string c.g, .string c.y] 24)) fun e' w' => e' = .returned (.int .i64 ((sizeT a + sizeT b + sizeT c : Nat) : Int)) ∧ Tm3 w1 w.heap.size (w.heap.size + 1) (w.heap.size + 1 + 1) a b c w') := hid fun W hW => (size3_any a b c W (by omega) (by omega) (by omega)).mono fun e' w' h2 => ⟨h2.1, tm3_of HA0.out HB0.out HC0.out (hid (hW.out.trans h2.2.out))⟩
  have HAw : Hid (∀ W, StU w1 W → Calls Tryd.prog 7 #[] W fun e' w' => e' = .returned (.bool true) ∧ Tm3 w1 w.heap.size (w.heap.size + 1) (w.heap.size + 1 + 1) a b c w') := hid fun W hW => (awake8_any (hT.stu hW)).mono fun e' w' h2 => ⟨h2.1, tm3_of HA0.out HB0.out HC0.out (hid (hW.out.trans h2.2.out))⟩
  have HCab : Hid (∀ W, StU w1 W → Calls Tryd.prog 12 #[.agg #[.int .i64 a.k, .string a.x, .string a.g, .string a.y], .agg #[.int .i64 b.k, .string b.x, .string b.g, .string b.y]] W fun e' w' => e' = .returned (.int .i64 (cmpT a b)) ∧ Tm3 w1 w.heap.size (w.heap.size + 1) (w.heap.size + 1 + 1) a b c w') := hid fun W hW => (compare_any (a := a) (b := b) (hT.stu hW) (by omega) (by omega)).mono fun e' w' h2 => ⟨h2.1, tm3_of HA0.out HB0.out HC0.out (hid (hW.out.trans h2.2.out))⟩
  have HCba : Hid (∀ W, StU w1 W → Calls Tryd.prog 12 #[.agg #[.int .i64 b.k, .string b.x, .string b.g, .string b.y], .agg #[.int .i64 a.k, .string a.x, .string a.g, .string a.y]] W fun e' w' => e' = .returned (.int .i64 (cmpT b a)) ∧ Tm3 w1 w.heap.size (w.heap.size + 1) (w.heap.size + 1 + 1) a b c w') := hid fun W hW => (compare_any (a := b) (b := a) (hT.stu hW) (by omega) (by omega)).mono fun e' w' h2 => ⟨h2.1, tm3_of HA0.out HB0.out HC0.out (hid (hW.out.trans h2.2.out))⟩
  have HCaa : Hid (∀ W, StU w1 W → Calls Tryd.prog 12 #[.agg #[.int .i64 a.k, .string a.x, .string a.g, .string a.y], .agg #[.int .i64 a.k, .string a.x, .string a.g, .string a.y]] W fun e' w' => e' = .returned (.int .i64 (0)) ∧ Tm3 w1 w.heap.size (w.heap.size + 1) (w.heap.size + 1 + 1) a b c w') := hid fun W hW => (compare_any (a := a) (b := a) (hT.stu hW) (by omega) (by omega)).mono fun e' w' h2 => ⟨by rw [h2.1, cmpT_self], tm3_of HA0.out HB0.out HC0.out (hid (hW.out.trans h2.2.out))⟩
  have HCbc : Hid (∀ W, StU w1 W → Calls Tryd.prog 12 #[.agg #[.int .i64 b.k, .string b.x, .string b.g, .string b.y], .agg #[.int .i64 c.k, .string c.x, .string c.g, .string c.y]] W fun e' w' => e' = .returned (.int .i64 (cmpT b c)) ∧ Tm3 w1 w.heap.size (w.heap.size + 1) (w.heap.size + 1 + 1) a b c w') := hid fun W hW => (compare_any (a := b) (b := c) (hT.stu hW) (by omega) (by omega)).mono fun e' w' h2 => ⟨h2.1, tm3_of HA0.out HB0.out HC0.out (hid (hW.out.trans h2.2.out))⟩
  have HCac : Hid (∀ W, StU w1 W → Calls Tryd.prog 12 #[.agg #[.int .i64 a.k, .string a.x, .string a.g, .string a.y], .agg #[.int .i64 c.k, .string c.x, .string c.g, .string c.y]] W fun e' w' => e' = .returned (.int .i64 (cmpT a c)) ∧ Tm3 w1 w.heap.size (w.heap.size + 1) (w.heap.size + 1 + 1) a b c w') := hid fun W hW => (compare_any (a := a) (b := c) (hT.stu hW) (by omega) (by omega)).mono fun e' w' h2 => ⟨h2.1, tm3_of HA0.out HB0.out HC0.out (hid (hW.out.trans h2.2.out))⟩
  have HRa : Hid (∀ W, StU w1 W → Calls Tryd.prog 10 #[.agg #[.int .i64 a.k, .string a.x, .string a.g, .string a.y]] W fun e' w' => e' = .returned (.bool (rightT a)) ∧ Tm3 w1 w.heap.size (w.heap.size + 1) (w.heap.size + 1 + 1) a b c w') := hid fun W hW => (right_any (t := a) (hT.stu hW) (by omega)).mono fun e' w' h2 => ⟨h2.1, tm3_of HA0.out HB0.out HC0.out (hid (hW.out.trans h2.2.out))⟩
  have HRb : Hid (∀ W, StU w1 W → Calls Tryd.prog 10 #[.agg #[.int .i64 b.k, .string b.x, .string b.g, .string b.y]] W fun e' w' => e' = .returned (.bool (rightT b)) ∧ Tm3 w1 w.heap.size (w.heap.size + 1) (w.heap.size + 1 + 1) a b c w') := hid fun W hW => (right_any (t := b) (hT.stu hW) (by omega)).mono fun e' w' h2 => ⟨h2.1, tm3_of HA0.out HB0.out HC0.out (hid (hW.out.trans h2.2.out))⟩
  have HKa : Hid (∀ W, StU w1 W → Calls Tryd.prog 25 #[.agg #[.int .i64 a.k, .string a.x, .string a.g, .string a.y]] W fun e' w' => e' = .returned (.int .i64 (rankT a)) ∧ Tm3 w1 w.heap.size (w.heap.size + 1) (w.heap.size + 1 + 1) a b c w') := hid fun W hW => (rank_any (t := a)).mono fun e' w' h2 => ⟨h2.1, tm3_of HA0.out HB0.out HC0.out (hid (hW.out.trans h2.2.out))⟩
  have HKb : Hid (∀ W, StU w1 W → Calls Tryd.prog 25 #[.agg #[.int .i64 b.k, .string b.x, .string b.g, .string b.y]] W fun e' w' => e' = .returned (.int .i64 (rankT b)) ∧ Tm3 w1 w.heap.size (w.heap.size + 1) (w.heap.size + 1 + 1) a b c w') := hid fun W hW => (rank_any (t := b)).mono fun e' w' h2 => ⟨h2.1, tm3_of HA0.out HB0.out HC0.out (hid (hW.out.trans h2.2.out))⟩
  have HTr : Hid (∀ (a' b' c' d e f : Tm) (W : World), sizeT a' ≤ 6000 → sizeT b' ≤ 6000 → sizeT c' ≤ 6000 → sizeT d ≤ 6000 → sizeT e ≤ 6000 → sizeT f ≤ 6000 → StU w1 W → Calls Tryd.prog 23 #[trV a' b' c', trV d e f] W fun e' w' => e' = .returned (.int .i64 (triT a' b' c' d e f)) ∧ StU W w') := hid fun a' b' c' d e f W h1 h2 h3 h4 h5 h6 hW => triples_any (hT.stu hW) (by omega) (by omega) (by omega) (by omega) (by omega) (by omega)
  have HTc : Hid (∀ (a' b' : Tm) (W : World), sizeT a' ≤ 6000 → sizeT b' ≤ 6000 → StU w1 W → Calls Tryd.prog 12 #[tmV a', tmV b'] W fun e' w' => e' = .returned (.int .i64 (cmpT a' b')) ∧ StU W w') := hid fun a' b' W h1 h2 hW => compare_any (hT.stu hW) (by omega) (by omega)
  have Hsz : Hid (sizeT a ≤ 6000 ∧ sizeT b ≤ 6000 ∧ sizeT c ≤ 6000) := hid ⟨by omega, by omega, by omega⟩
  have hE := eql_tm a b
  unfold tmV at hE
  have hN : Hid (cmpT b a = - cmpT a b) := hid (cmpT_anti b a)
  have hB : Hid (decide (a = b) = (cmpT a b == 0)) := hid (by
    rw [Bool.eq_iff_iff, decide_eq_true_iff, beq_iff_eq]
    exact ⟨fun h => by rw [h, cmpT_self], cmpT_zero.1⟩)
  have hL : Hid (-1 ≤ cmpT a b ∧ cmpT a b ≤ 1) := hid (cmpT_low a b)
  have hTr : Hid (cmpT a b ≤ 0 → cmpT b c ≤ 0 → cmpT a c ≤ 0) := hid cmpT_trans
  have hRk : Hid (rightT a = true → rightT b = true → rankT a < rankT b → cmpT a b < 0) := hid rank_less
  have hRl : Hid (rightT a = true → rightT b = false → cmpT a b < 0) := hid right_less
  have h' : ¬ (6000 : Int) < ((sizeT a + sizeT b + sizeT c : Nat) : Int) := by omega
  generalize sizeT a + sizeT b + sizeT c = z at *
  generalize rightT a = ra at *
  generalize rightT b = rb at *
  generalize rankT a = ka at *
  generalize rankT b = kb at *
  rw [hB.out] at hE
  obtain ⟨n, Hn⟩ : ∃ n, Hid (n = cmpT a b) := ⟨_, hid rfl⟩
  obtain ⟨np, Hnp⟩ : ∃ n, Hid (n = cmpT b a) := ⟨_, hid rfl⟩
  obtain ⟨nbc, Hbc⟩ : ∃ n, Hid (n = cmpT b c) := ⟨_, hid rfl⟩
  obtain ⟨nac, Hac⟩ : ∃ n, Hid (n = cmpT a c) := ⟨_, hid rfl⟩
  rw [← Hn.out] at HCab hN hB hL hTr hRk hRl hE
  rw [← Hnp.out] at HCba hN
  rw [← Hbc.out] at HCbc hTr
  rw [← Hac.out] at HCac hTr
  clear hT h
  unfold tmV
  go_enter Tryd.func5, Tryd.ntmps5
  go_upto_region 1 with fail
  rw [← hw1]
  clear hw1
  go_upto_region 6 with (first
    | (go_at_call 7; refine (HAw.out _ z0).mono ?_; rintro e' wr ⟨rfl, ra0, ra1, ra2, ra3, rb0, rb1, rb2, rb3, rc0, rc1, rc2, rc3, z1⟩)
    | (go_at_call 6; refine (HZ.out _ z1).mono ?_; rintro e' ws ⟨rfl, sa0, sa1, sa2, sa3, sb0, sb1, sb2, sb3, sc0, sc1, sc2, sc3, z2⟩)
    | (go_at_call 12; refine (HCab.out _ z2).mono ?_; rintro e' wt ⟨rfl, ta0, ta1, ta2, ta3, tb0, tb1, tb2, tb3, tc0, tc1, tc2, tc3, z3⟩))
  go_cut [49] from 22 (fun v wx => v = .bool false ∧ Tm3 w1 w.heap.size (w.heap.size + 1) (w.heap.size + 1 + 1) a b c wx)
  case first =>
    have q1 : IntKind.i64.wrap (-np) = n := by rw [hN.out, IntKind.wrap_i64]; have := hL.out; omega
    have q2 : (n != n) = false := by simp
    have q3 : ¬ n < -1 := by have := hL.out; omega
    have q4 : ¬ 1 < n := by have := hL.out; omega
    generalize hnb : (n == 0) = nb at *
    have q5 : (nb != nb) = false := by simp
    go_wp2_with (first
      | (go_at_call 12; (with_reducible show Calls _ _ #[Value.agg #[Value.int IntKind.i64 b.k, Value.string b.x, Value.string b.g, Value.string b.y], Value.agg #[Value.int IntKind.i64 a.k, Value.string a.x, Value.string a.g, Value.string a.y]] _ _); refine (HCba.out _ z3).mono ?_; rintro e' wu ⟨rfl, ua0, ua1, ua2, ua3, ub0, ub1, ub2, ub3, uc0, uc1, uc2, uc3, z4⟩)
      | (go_at_call 12; (with_reducible show Calls _ _ #[Value.agg #[Value.int IntKind.i64 a.k, Value.string a.x, Value.string a.g, Value.string a.y], Value.agg #[Value.int IntKind.i64 a.k, Value.string a.x, Value.string a.g, Value.string a.y]] _ _); refine (HCaa.out _ z4).mono ?_; rintro e' wv ⟨rfl, va0, va1, va2, va3, vb0, vb1, vb2, vb3, vc0, vc1, vc2, vc3, z5⟩))
    go_meet
    case rel => exact ⟨by simp [q3, q4], tm3_of HA0.out HB0.out HC0.out z5⟩
  case rest =>
    obtain ⟨rfl, ta0, ta1, ta2, ta3, tb0, tb1, tb2, tb3, tc0, tc1, tc2, tc3, z3⟩ := hcut
    go_upto_region 8 with fail
    go_cut [63] from 50 (fun v wx => v = .bool false ∧ Tm3 w1 w.heap.size (w.heap.size + 1) (w.heap.size + 1 + 1) a b c wx)
    case first =>
      by_cases g1 : n ≤ 0
      · by_cases g2 : nbc ≤ 0
        · have g3 : ¬ 0 < nac := by have := hTr.out g1 g2; omega
          go_wp2_with (first
            | (go_at_call 12; (with_reducible show Calls _ _ #[Value.agg #[Value.int IntKind.i64 b.k, Value.string b.x, Value.string b.g, Value.string b.y], Value.agg #[Value.int IntKind.i64 c.k, Value.string c.x, Value.string c.g, Value.string c.y]] _ _); refine (HCbc.out _ z3).mono ?_; rintro e' wu ⟨rfl, ua0, ua1, ua2, ua3, ub0, ub1, ub2, ub3, uc0, uc1, uc2, uc3, z4⟩)
            | (go_at_call 12; (with_reducible show Calls _ _ #[Value.agg #[Value.int IntKind.i64 a.k, Value.string a.x, Value.string a.g, Value.string a.y], Value.agg #[Value.int IntKind.i64 c.k, Value.string c.x, Value.string c.g, Value.string c.y]] _ _); refine (HCac.out _ z4).mono ?_; rintro e' wv ⟨rfl, va0, va1, va2, va3, vb0, vb1, vb2, vb3, vc0, vc1, vc2, vc3, z5⟩))
          go_meet
          case rel => exact ⟨by simp [g3], tm3_of HA0.out HB0.out HC0.out z5⟩
        · skip
          go_wp2_with (first
            | (go_at_call 12; (with_reducible show Calls _ _ #[Value.agg #[Value.int IntKind.i64 b.k, Value.string b.x, Value.string b.g, Value.string b.y], Value.agg #[Value.int IntKind.i64 c.k, Value.string c.x, Value.string c.g, Value.string c.y]] _ _); refine (HCbc.out _ z3).mono ?_; rintro e' wu ⟨rfl, ua0, ua1, ua2, ua3, ub0, ub1, ub2, ub3, uc0, uc1, uc2, uc3, z4⟩))
          go_meet
          case rel => exact ⟨by simp, tm3_of HA0.out HB0.out HC0.out z4⟩
      · skip
        go_wp2_with fail
        go_meet
        case rel => exact ⟨by simp, tm3_of HA0.out HB0.out HC0.out z3⟩
    case rest =>
      obtain ⟨rfl, ta0, ta1, ta2, ta3, tb0, tb1, tb2, tb3, tc0, tc1, tc2, tc3, z3⟩ := hcut
      go_upto_region 10 with fail
      go_cut [93] from 64 (fun v wx => v = .bool false ∧ Tm3 w1 w.heap.size (w.heap.size + 1) (w.heap.size + 1 + 1) a b c wx)
      case first =>
        cases hra : ra with
        | false =>
          subst hra
          refine wp_region_noPanic ?_
          refine wp_region_held_drew (S := fun u => u.cell? ⟨w.heap.size, 0, none⟩ = some (.int .i64 a.k) ∧ u.cell? ⟨w.heap.size, 1, none⟩ = some (.string a.x) ∧ u.cell? ⟨w.heap.size, 2, none⟩ = some (.string a.g) ∧ u.cell? ⟨w.heap.size, 3, none⟩ = some (.string a.y) ∧ u.cell? ⟨w.heap.size + 1, 0, none⟩ = some (.int .i64 b.k) ∧ u.cell? ⟨w.heap.size + 1, 1, none⟩ = some (.string b.x) ∧ u.cell? ⟨w.heap.size + 1, 2, none⟩ = some (.string b.g) ∧ u.cell? ⟨w.heap.size + 1, 3, none⟩ = some (.string b.y) ∧ u.cell? ⟨w.heap.size + 1 + 1, 0, none⟩ = some (.int .i64 c.k) ∧ u.cell? ⟨w.heap.size + 1 + 1, 1, none⟩ = some (.string c.x) ∧ u.cell? ⟨w.heap.size + 1 + 1, 2, none⟩ = some (.string c.g) ∧ u.cell? ⟨w.heap.size + 1 + 1, 3, none⟩ = some (.string c.y) ∧ StU w1 u) (by kernel_rfl) (tm3_of HA0.out HB0.out HC0.out (hid (z3.out.drew))) (fun hHeld => ?_)
          refine wpAnyH_take (i := 0) (oi := { dst := some 64, op := Op.load 24 (Operand.tmp 3), type := 24, pos := "outright.go:52", after := #[], guard := none }) (v := ?_) rfl (by kernel_rfl) (by kernel_rfl) (by kernel_rfl) (fun _ _ _ h => h) (Or.inl ⟨by rfl, ?_⟩) (by with_reducible assumption) ?_
          rotate_left
          · (intro w' hSw; (try dsimp only at hSw); first | (go_simp; done) | (go_simp; with_reducible rfl))
          (try simp only [Act.put, List.setIfInBounds_toArray, List.set_cons_zero, List.set_cons_succ])
          refine wpAnyH_ready (rs := [1]) (by kernel_rfl) (by simp) ?_
          refine AllReadyH.cons (o := { dst := some 65, op := Op.call { callee := Callee.value (Operand.func 10), args := #[Operand.tmp 64], argTypes := #[24] }, type := 4, pos := "outright.go:52", after := #[{ on := 0, ground := Ground.data }], guard := none }) rfl (fun K hK => ?_) AllReadyH.nil
          go_simp
          (refine (HRa.out _ hHeld.2.2.2.2.2.2.2.2.2.2.2.2).mono ?_)
          rintro e' wa ⟨rfl, HOa⟩
          go_wp2_with fail
          refine hK.out _ _ (HOa) (fun hHeld => ?_)
          clear hK K
          (try simp only [Act.put, List.setIfInBounds_toArray, List.set_cons_zero, List.set_cons_succ])
          refine wpAnyH_take (i := 2) (oi := { dst := some 66, op := Op.move (Operand.tmp 65), type := 4, pos := "outright.go:52", after := #[{ on := 1, ground := Ground.data }, { on := 1, ground := Ground.chain }], guard := none }) (v := ?_) rfl (by kernel_rfl) (by kernel_rfl) (by kernel_rfl) (fun _ _ _ h => h) (Or.inl ⟨by rfl, ?_⟩) (by with_reducible assumption) ?_
          rotate_left
          · (intro w' hSw; (try dsimp only at hSw); first | (go_simp; done) | (go_simp; with_reducible rfl))
          (try simp only [Act.put, List.setIfInBounds_toArray, List.set_cons_zero, List.set_cons_succ])
          refine wpAnyH_take (i := 3) (oi := { dst := some 67, op := Op.load 24 (Operand.tmp 4), type := 24, pos := "outright.go:52", after := #[{ on := 2, ground := Ground.guard }], guard := some (2, true) }) (v := undef) rfl (by kernel_rfl) (by kernel_rfl) (by kernel_rfl) (fun _ _ _ h => h) (Or.inr ⟨by rfl, rfl⟩) (by with_reducible assumption) ?_
          (try simp only [Act.put, List.setIfInBounds_toArray, List.set_cons_zero, List.set_cons_succ])
          refine wpAnyH_take (i := 4) (oi := { dst := some 68, op := Op.call { callee := Callee.value (Operand.func 10), args := #[Operand.tmp 67], argTypes := #[24] }, type := 4, pos := "outright.go:52", after := #[{ on := 3, ground := Ground.data }, { on := 2, ground := Ground.chain }, { on := 2, ground := Ground.guard }], guard := some (2, true) }) (v := undef) rfl (by kernel_rfl) (by kernel_rfl) (by kernel_rfl) (fun _ _ _ h => h) (Or.inr ⟨by rfl, rfl⟩) (by with_reducible assumption) ?_
          (try simp only [Act.put, List.setIfInBounds_toArray, List.set_cons_zero, List.set_cons_succ])
          refine wpAnyH_take (i := 5) (oi := { dst := some 69, op := Op.pick (Operand.tmp 66) (Operand.tmp 68) (Operand.const (Value.bool false)), type := 4, pos := "outright.go:52", after := #[{ on := 2, ground := Ground.data }, { on := 4, ground := Ground.data }], guard := none }) (v := ?_) rfl (by kernel_rfl) (by kernel_rfl) (by kernel_rfl) (fun _ _ _ h => h) (Or.inl ⟨by rfl, ?_⟩) (by with_reducible assumption) ?_
          rotate_left
          · (intro w' hSw; (try dsimp only at hSw); first | (go_simp; done) | (go_simp; with_reducible rfl))
          (try simp only [Act.put, List.setIfInBounds_toArray, List.set_cons_zero, List.set_cons_succ])
          refine wpAnyH_take (i := 6) (oi := { dst := some 70, op := Op.move (Operand.tmp 69), type := 4, pos := "outright.go:52", after := #[{ on := 5, ground := Ground.data }, { on := 4, ground := Ground.chain }], guard := none }) (v := ?_) rfl (by kernel_rfl) (by kernel_rfl) (by kernel_rfl) (fun _ _ _ h => h) (Or.inl ⟨by rfl, ?_⟩) (by with_reducible assumption) ?_
          rotate_left
          · (intro w' hSw; (try dsimp only at hSw); first | (go_simp; done) | (go_simp; with_reducible rfl))
          (try simp only [Act.put, List.setIfInBounds_toArray, List.set_cons_zero, List.set_cons_succ])
          refine wpAnyH_take (i := 7) (oi := { dst := some 71, op := Op.load 24 (Operand.tmp 3), type := 24, pos := "outright.go:52", after := #[{ on := 6, ground := Ground.guard }], guard := some (6, true) }) (v := undef) rfl (by kernel_rfl) (by kernel_rfl) (by kernel_rfl) (fun _ _ _ h => h) (Or.inr ⟨by rfl, rfl⟩) (by with_reducible assumption) ?_
          (try simp only [Act.put, List.setIfInBounds_toArray, List.set_cons_zero, List.set_cons_succ])
          refine wpAnyH_take (i := 8) (oi := { dst := some 72, op := Op.call { callee := Callee.value (Operand.func 25), args := #[Operand.tmp 71], argTypes := #[24] }, type := 3, pos := "outright.go:52", after := #[{ on := 7, ground := Ground.data }, { on := 6, ground := Ground.chain }, { on := 6, ground := Ground.guard }], guard := some (6, true) }) (v := undef) rfl (by kernel_rfl) (by kernel_rfl) (by kernel_rfl) (fun _ _ _ h => h) (Or.inr ⟨by rfl, rfl⟩) (by with_reducible assumption) ?_
          (try simp only [Act.put, List.setIfInBounds_toArray, List.set_cons_zero, List.set_cons_succ])
          refine wpAnyH_take (i := 9) (oi := { dst := some 73, op := Op.load 24 (Operand.tmp 4), type := 24, pos := "outright.go:52", after := #[{ on := 6, ground := Ground.guard }], guard := some (6, true) }) (v := undef) rfl (by kernel_rfl) (by kernel_rfl) (by kernel_rfl) (fun _ _ _ h => h) (Or.inr ⟨by rfl, rfl⟩) (by with_reducible assumption) ?_
          (try simp only [Act.put, List.setIfInBounds_toArray, List.set_cons_zero, List.set_cons_succ])
          refine wpAnyH_take (i := 10) (oi := { dst := some 74, op := Op.call { callee := Callee.value (Operand.func 25), args := #[Operand.tmp 73], argTypes := #[24] }, type := 3, pos := "outright.go:52", after := #[{ on := 9, ground := Ground.data }, { on := 8, ground := Ground.chain }, { on := 6, ground := Ground.guard }], guard := some (6, true) }) (v := undef) rfl (by kernel_rfl) (by kernel_rfl) (by kernel_rfl) (fun _ _ _ h => h) (Or.inr ⟨by rfl, rfl⟩) (by with_reducible assumption) ?_
          (try simp only [Act.put, List.setIfInBounds_toArray, List.set_cons_zero, List.set_cons_succ])
          refine wpAnyH_take (i := 11) (oi := { dst := some 75, op := Op.binOp BinOp.lss 3 (Operand.tmp 72) (Operand.tmp 74) 3, type := 4, pos := "outright.go:52", after := #[{ on := 8, ground := Ground.data }, { on := 10, ground := Ground.data }, { on := 6, ground := Ground.guard }], guard := some (6, true) }) (v := undef) rfl (by kernel_rfl) (by kernel_rfl) (by kernel_rfl) (fun _ _ _ h => h) (Or.inr ⟨by rfl, rfl⟩) (by with_reducible assumption) ?_
          (try simp only [Act.put, List.setIfInBounds_toArray, List.set_cons_zero, List.set_cons_succ])
          refine wpAnyH_take (i := 12) (oi := { dst := some 76, op := Op.pick (Operand.tmp 70) (Operand.tmp 75) (Operand.const (Value.bool false)), type := 4, pos := "outright.go:52", after := #[{ on := 6, ground := Ground.data }, { on := 11, ground := Ground.data }], guard := none }) (v := ?_) rfl (by kernel_rfl) (by kernel_rfl) (by kernel_rfl) (fun _ _ _ h => h) (Or.inl ⟨by rfl, ?_⟩) (by with_reducible assumption) ?_
          rotate_left
          · (intro w' hSw; (try dsimp only at hSw); first | (go_simp; done) | (go_simp; with_reducible rfl))
          (try simp only [Act.put, List.setIfInBounds_toArray, List.set_cons_zero, List.set_cons_succ])
          refine wpAnyH_take (i := 13) (oi := { dst := some 77, op := Op.move (Operand.tmp 76), type := 4, pos := "outright.go:52", after := #[{ on := 12, ground := Ground.data }, { on := 10, ground := Ground.chain }], guard := none }) (v := ?_) rfl (by kernel_rfl) (by kernel_rfl) (by kernel_rfl) (fun _ _ _ h => h) (Or.inl ⟨by rfl, ?_⟩) (by with_reducible assumption) ?_
          rotate_left
          · (intro w' hSw; (try dsimp only at hSw); first | (go_simp; done) | (go_simp; with_reducible rfl))
          (try simp only [Act.put, List.setIfInBounds_toArray, List.set_cons_zero, List.set_cons_succ])
          refine wpAnyH_take (i := 14) (oi := { dst := some 78, op := Op.move (Operand.tmp 7), type := 3, pos := "outright.go:52", after := #[{ on := 13, ground := Ground.guard }], guard := some (13, true) }) (v := undef) rfl (by kernel_rfl) (by kernel_rfl) (by kernel_rfl) (fun _ _ _ h => h) (Or.inr ⟨by rfl, rfl⟩) (by with_reducible assumption) ?_
          (try simp only [Act.put, List.setIfInBounds_toArray, List.set_cons_zero, List.set_cons_succ])
          refine wpAnyH_take (i := 15) (oi := { dst := some 79, op := Op.binOp BinOp.geq 3 (Operand.tmp 78) (Operand.const (Value.int IntKind.i64 0)) 3, type := 4, pos := "outright.go:52", after := #[{ on := 14, ground := Ground.data }, { on := 13, ground := Ground.guard }], guard := some (13, true) }) (v := undef) rfl (by kernel_rfl) (by kernel_rfl) (by kernel_rfl) (fun _ _ _ h => h) (Or.inr ⟨by rfl, rfl⟩) (by with_reducible assumption) ?_
          (try simp only [Act.put, List.setIfInBounds_toArray, List.set_cons_zero, List.set_cons_succ])
          refine wpAnyH_take (i := 16) (oi := { dst := some 80, op := Op.pick (Operand.tmp 77) (Operand.tmp 79) (Operand.const (Value.bool false)), type := 4, pos := "outright.go:52", after := #[{ on := 13, ground := Ground.data }, { on := 15, ground := Ground.data }], guard := none }) (v := ?_) rfl (by kernel_rfl) (by kernel_rfl) (by kernel_rfl) (fun _ _ _ h => h) (Or.inl ⟨by rfl, ?_⟩) (by with_reducible assumption) ?_
          rotate_left
          · (intro w' hSw; (try dsimp only at hSw); first | (go_simp; done) | (go_simp; with_reducible rfl))
          (try simp only [Act.put, List.setIfInBounds_toArray, List.set_cons_zero, List.set_cons_succ])
          refine wpAnyH_take (i := 17) (oi := { dst := some 81, op := Op.move (Operand.tmp 80), type := 4, pos := "outright.go:52", after := #[{ on := 16, ground := Ground.data }, { on := 13, ground := Ground.chain }], guard := none }) (v := ?_) rfl (by kernel_rfl) (by kernel_rfl) (by kernel_rfl) (fun _ _ _ h => h) (Or.inl ⟨by rfl, ?_⟩) (by with_reducible assumption) ?_
          rotate_left
          · (intro w' hSw; (try dsimp only at hSw); first | (go_simp; done) | (go_simp; with_reducible rfl))
          (try simp only [Act.put, List.setIfInBounds_toArray, List.set_cons_zero, List.set_cons_succ])
          refine wpAnyH_take (i := 18) (oi := { dst := some 82, op := Op.load 24 (Operand.tmp 3), type := 24, pos := "outright.go:52", after := #[{ on := 17, ground := Ground.guard }], guard := some (17, false) }) (v := ?_) rfl (by kernel_rfl) (by kernel_rfl) (by kernel_rfl) (fun _ _ _ h => h) (Or.inl ⟨by rfl, ?_⟩) (by with_reducible assumption) ?_
          rotate_left
          · (intro w' hSw; (try dsimp only at hSw); first | (go_simp; done) | (go_simp; with_reducible rfl))
          (try simp only [Act.put, List.setIfInBounds_toArray, List.set_cons_zero, List.set_cons_succ])
          refine wpAnyH_ready (rs := [19]) (by kernel_rfl) (by simp) ?_
          refine AllReadyH.cons (o := { dst := some 83, op := Op.call { callee := Callee.value (Operand.func 10), args := #[Operand.tmp 82], argTypes := #[24] }, type := 4, pos := "outright.go:52", after := #[{ on := 18, ground := Ground.data }, { on := 17, ground := Ground.chain }, { on := 17, ground := Ground.guard }], guard := some (17, false) }) rfl (fun K hK => ?_) AllReadyH.nil
          go_simp
          (refine (HRa.out _ hHeld.2.2.2.2.2.2.2.2.2.2.2.2).mono ?_)
          rintro e' wa ⟨rfl, HOa⟩
          go_wp2_with fail
          refine hK.out _ _ (HOa) (fun hHeld => ?_)
          clear hK K
          (try simp only [Act.put, List.setIfInBounds_toArray, List.set_cons_zero, List.set_cons_succ])
          refine wpAnyH_take (i := 20) (oi := { dst := some 84, op := Op.move (Operand.tmp 83), type := 4, pos := "outright.go:52", after := #[{ on := 19, ground := Ground.data }, { on := 19, ground := Ground.chain }, { on := 17, ground := Ground.guard }], guard := some (17, false) }) (v := ?_) rfl (by kernel_rfl) (by kernel_rfl) (by kernel_rfl) (fun _ _ _ h => h) (Or.inl ⟨by rfl, ?_⟩) (by with_reducible assumption) ?_
          rotate_left
          · (intro w' hSw; (try dsimp only at hSw); first | (go_simp; done) | (go_simp; with_reducible rfl))
          (try simp only [Act.put, List.setIfInBounds_toArray, List.set_cons_zero, List.set_cons_succ])
          refine wpAnyH_take (i := 21) (oi := { dst := some 85, op := Op.load 24 (Operand.tmp 4), type := 24, pos := "outright.go:52", after := #[{ on := 20, ground := Ground.guard }], guard := some (20, true) }) (v := undef) rfl (by kernel_rfl) (by kernel_rfl) (by kernel_rfl) (fun _ _ _ h => h) (Or.inr ⟨by rfl, rfl⟩) (by with_reducible assumption) ?_
          (try simp only [Act.put, List.setIfInBounds_toArray, List.set_cons_zero, List.set_cons_succ])
          refine wpAnyH_take (i := 22) (oi := { dst := some 86, op := Op.call { callee := Callee.value (Operand.func 10), args := #[Operand.tmp 85], argTypes := #[24] }, type := 4, pos := "outright.go:52", after := #[{ on := 21, ground := Ground.data }, { on := 20, ground := Ground.chain }, { on := 20, ground := Ground.guard }], guard := some (20, true) }) (v := undef) rfl (by kernel_rfl) (by kernel_rfl) (by kernel_rfl) (fun _ _ _ h => h) (Or.inr ⟨by rfl, rfl⟩) (by with_reducible assumption) ?_
          (try simp only [Act.put, List.setIfInBounds_toArray, List.set_cons_zero, List.set_cons_succ])
          refine wpAnyH_take (i := 23) (oi := { dst := some 87, op := Op.unOp UnOp.not 4 (Operand.tmp 86), type := 4, pos := "outright.go:52", after := #[{ on := 22, ground := Ground.data }, { on := 20, ground := Ground.guard }], guard := some (20, true) }) (v := undef) rfl (by kernel_rfl) (by kernel_rfl) (by kernel_rfl) (fun _ _ _ h => h) (Or.inr ⟨by rfl, rfl⟩) (by with_reducible assumption) ?_
          (try simp only [Act.put, List.setIfInBounds_toArray, List.set_cons_zero, List.set_cons_succ])
          refine wpAnyH_take (i := 24) (oi := { dst := some 88, op := Op.pick (Operand.tmp 84) (Operand.tmp 87) (Operand.const (Value.bool false)), type := 4, pos := "outright.go:52", after := #[{ on := 20, ground := Ground.data }, { on := 23, ground := Ground.data }, { on := 17, ground := Ground.guard }], guard := some (17, false) }) (v := ?_) rfl (by kernel_rfl) (by kernel_rfl) (by kernel_rfl) (fun _ _ _ h => h) (Or.inl ⟨by rfl, ?_⟩) (by with_reducible assumption) ?_
          rotate_left
          · (intro w' hSw; (try dsimp only at hSw); first | (go_simp; done) | (go_simp; with_reducible rfl))
          (try simp only [Act.put, List.setIfInBounds_toArray, List.set_cons_zero, List.set_cons_succ])
          refine wpAnyH_take (i := 25) (oi := { dst := some 89, op := Op.move (Operand.tmp 88), type := 4, pos := "outright.go:52", after := #[{ on := 24, ground := Ground.data }, { on := 22, ground := Ground.chain }, { on := 17, ground := Ground.guard }], guard := some (17, false) }) (v := ?_) rfl (by kernel_rfl) (by kernel_rfl) (by kernel_rfl) (fun _ _ _ h => h) (Or.inl ⟨by rfl, ?_⟩) (by with_reducible assumption) ?_
          rotate_left
          · (intro w' hSw; (try dsimp only at hSw); first | (go_simp; done) | (go_simp; with_reducible rfl))
          (try simp only [Act.put, List.setIfInBounds_toArray, List.set_cons_zero, List.set_cons_succ])
          refine wpAnyH_take (i := 26) (oi := { dst := some 90, op := Op.move (Operand.tmp 7), type := 3, pos := "outright.go:52", after := #[{ on := 25, ground := Ground.guard }], guard := some (25, true) }) (v := undef) rfl (by kernel_rfl) (by kernel_rfl) (by kernel_rfl) (fun _ _ _ h => h) (Or.inr ⟨by rfl, rfl⟩) (by with_reducible assumption) ?_
          (try simp only [Act.put, List.setIfInBounds_toArray, List.set_cons_zero, List.set_cons_succ])
          refine wpAnyH_take (i := 27) (oi := { dst := some 91, op := Op.binOp BinOp.geq 3 (Operand.tmp 90) (Operand.const (Value.int IntKind.i64 0)) 3, type := 4, pos := "outright.go:52", after := #[{ on := 26, ground := Ground.data }, { on := 25, ground := Ground.guard }], guard := some (25, true) }) (v := undef) rfl (by kernel_rfl) (by kernel_rfl) (by kernel_rfl) (fun _ _ _ h => h) (Or.inr ⟨by rfl, rfl⟩) (by with_reducible assumption) ?_
          (try simp only [Act.put, List.setIfInBounds_toArray, List.set_cons_zero, List.set_cons_succ])
          refine wpAnyH_take (i := 28) (oi := { dst := some 92, op := Op.pick (Operand.tmp 89) (Operand.tmp 91) (Operand.const (Value.bool false)), type := 4, pos := "outright.go:52", after := #[{ on := 25, ground := Ground.data }, { on := 27, ground := Ground.data }, { on := 17, ground := Ground.guard }], guard := some (17, false) }) (v := ?_) rfl (by kernel_rfl) (by kernel_rfl) (by kernel_rfl) (fun _ _ _ h => h) (Or.inl ⟨by rfl, ?_⟩) (by with_reducible assumption) ?_
          rotate_left
          · (intro w' hSw; (try dsimp only at hSw); first | (go_simp; done) | (go_simp; with_reducible rfl))
          (try simp only [Act.put, List.setIfInBounds_toArray, List.set_cons_zero, List.set_cons_succ])
          refine wpAnyH_take (i := 29) (oi := { dst := some 93, op := Op.pick (Operand.tmp 81) (Operand.const (Value.bool true)) (Operand.tmp 92), type := 4, pos := "outright.go:52", after := #[{ on := 17, ground := Ground.data }, { on := 28, ground := Ground.data }], guard := none }) (v := ?_) rfl (by kernel_rfl) (by kernel_rfl) (by kernel_rfl) (fun _ _ _ h => h) (Or.inl ⟨by rfl, ?_⟩) (by with_reducible assumption) ?_
          rotate_left
          · (intro w' hSw; (try dsimp only at hSw); first | (go_simp; done) | (go_simp; with_reducible rfl))
          (try simp only [Act.put, List.setIfInBounds_toArray, List.set_cons_zero, List.set_cons_succ])
          refine wpAnyH_done (by kernel_rfl) ?_ _
          refine NoPanic.normal ?_
          go_wp2_with fail
          go_meet
          case rel => exact ⟨rfl, tm3_of HA0.out HB0.out HC0.out hHeld.2.2.2.2.2.2.2.2.2.2.2.2⟩
        | true =>
          subst hra
          cases hrb : rb with
          | false =>
            subst hrb
            have g0 : ¬ 0 ≤ n := by have := hRl.out rfl rfl; omega
            have g : decide (0 ≤ n) = false := decide_eq_false g0
            refine wp_region_noPanic ?_
            refine wp_region_held_drew (S := fun u => u.cell? ⟨w.heap.size, 0, none⟩ = some (.int .i64 a.k) ∧ u.cell? ⟨w.heap.size, 1, none⟩ = some (.string a.x) ∧ u.cell? ⟨w.heap.size, 2, none⟩ = some (.string a.g) ∧ u.cell? ⟨w.heap.size, 3, none⟩ = some (.string a.y) ∧ u.cell? ⟨w.heap.size + 1, 0, none⟩ = some (.int .i64 b.k) ∧ u.cell? ⟨w.heap.size + 1, 1, none⟩ = some (.string b.x) ∧ u.cell? ⟨w.heap.size + 1, 2, none⟩ = some (.string b.g) ∧ u.cell? ⟨w.heap.size + 1, 3, none⟩ = some (.string b.y) ∧ u.cell? ⟨w.heap.size + 1 + 1, 0, none⟩ = some (.int .i64 c.k) ∧ u.cell? ⟨w.heap.size + 1 + 1, 1, none⟩ = some (.string c.x) ∧ u.cell? ⟨w.heap.size + 1 + 1, 2, none⟩ = some (.string c.g) ∧ u.cell? ⟨w.heap.size + 1 + 1, 3, none⟩ = some (.string c.y) ∧ StU w1 u) (by kernel_rfl) (tm3_of HA0.out HB0.out HC0.out (hid (z3.out.drew))) (fun hHeld => ?_)
            refine wpAnyH_take (i := 0) (oi := { dst := some 64, op := Op.load 24 (Operand.tmp 3), type := 24, pos := "outright.go:52", after := #[], guard := none }) (v := ?_) rfl (by kernel_rfl) (by kernel_rfl) (by kernel_rfl) (fun _ _ _ h => h) (Or.inl ⟨by rfl, ?_⟩) (by with_reducible assumption) ?_
            rotate_left
            · (intro w' hSw; (try dsimp only at hSw); first | (go_simp; done) | (go_simp; with_reducible rfl))
            (try simp only [Act.put, List.setIfInBounds_toArray, List.set_cons_zero, List.set_cons_succ])
            refine wpAnyH_ready (rs := [1]) (by kernel_rfl) (by simp) ?_
            refine AllReadyH.cons (o := { dst := some 65, op := Op.call { callee := Callee.value (Operand.func 10), args := #[Operand.tmp 64], argTypes := #[24] }, type := 4, pos := "outright.go:52", after := #[{ on := 0, ground := Ground.data }], guard := none }) rfl (fun K hK => ?_) AllReadyH.nil
            go_simp
            (refine (HRa.out _ hHeld.2.2.2.2.2.2.2.2.2.2.2.2).mono ?_)
            rintro e' wa ⟨rfl, HOa⟩
            go_wp2_with fail
            refine hK.out _ _ (HOa) (fun hHeld => ?_)
            clear hK K
            (try simp only [Act.put, List.setIfInBounds_toArray, List.set_cons_zero, List.set_cons_succ])
            refine wpAnyH_take (i := 2) (oi := { dst := some 66, op := Op.move (Operand.tmp 65), type := 4, pos := "outright.go:52", after := #[{ on := 1, ground := Ground.data }, { on := 1, ground := Ground.chain }], guard := none }) (v := ?_) rfl (by kernel_rfl) (by kernel_rfl) (by kernel_rfl) (fun _ _ _ h => h) (Or.inl ⟨by rfl, ?_⟩) (by with_reducible assumption) ?_
            rotate_left
            · (intro w' hSw; (try dsimp only at hSw); first | (go_simp; done) | (go_simp; with_reducible rfl))
            (try simp only [Act.put, List.setIfInBounds_toArray, List.set_cons_zero, List.set_cons_succ])
            refine wpAnyH_take (i := 3) (oi := { dst := some 67, op := Op.load 24 (Operand.tmp 4), type := 24, pos := "outright.go:52", after := #[{ on := 2, ground := Ground.guard }], guard := some (2, true) }) (v := ?_) rfl (by kernel_rfl) (by kernel_rfl) (by kernel_rfl) (fun _ _ _ h => h) (Or.inl ⟨by rfl, ?_⟩) (by with_reducible assumption) ?_
            rotate_left
            · (intro w' hSw; (try dsimp only at hSw); first | (go_simp; done) | (go_simp; with_reducible rfl))
            (try simp only [Act.put, List.setIfInBounds_toArray, List.set_cons_zero, List.set_cons_succ])
            refine wpAnyH_ready (rs := [4]) (by kernel_rfl) (by simp) ?_
            refine AllReadyH.cons (o := { dst := some 68, op := Op.call { callee := Callee.value (Operand.func 10), args := #[Operand.tmp 67], argTypes := #[24] }, type := 4, pos := "outright.go:52", after := #[{ on := 3, ground := Ground.data }, { on := 2, ground := Ground.chain }, { on := 2, ground := Ground.guard }], guard := some (2, true) }) rfl (fun K hK => ?_) AllReadyH.nil
            go_simp
            (refine (HRb.out _ hHeld.2.2.2.2.2.2.2.2.2.2.2.2).mono ?_)
            rintro e' wa ⟨rfl, HOa⟩
            go_wp2_with fail
            refine hK.out _ _ (HOa) (fun hHeld => ?_)
            clear hK K
            (try simp only [Act.put, List.setIfInBounds_toArray, List.set_cons_zero, List.set_cons_succ])
            refine wpAnyH_take (i := 5) (oi := { dst := some 69, op := Op.pick (Operand.tmp 66) (Operand.tmp 68) (Operand.const (Value.bool false)), type := 4, pos := "outright.go:52", after := #[{ on := 2, ground := Ground.data }, { on := 4, ground := Ground.data }], guard := none }) (v := ?_) rfl (by kernel_rfl) (by kernel_rfl) (by kernel_rfl) (fun _ _ _ h => h) (Or.inl ⟨by rfl, ?_⟩) (by with_reducible assumption) ?_
            rotate_left
            · (intro w' hSw; (try dsimp only at hSw); first | (go_simp; done) | (go_simp; with_reducible rfl))
            (try simp only [Act.put, List.setIfInBounds_toArray, List.set_cons_zero, List.set_cons_succ])
            refine wpAnyH_take (i := 6) (oi := { dst := some 70, op := Op.move (Operand.tmp 69), type := 4, pos := "outright.go:52", after := #[{ on := 5, ground := Ground.data }, { on := 4, ground := Ground.chain }], guard := none }) (v := ?_) rfl (by kernel_rfl) (by kernel_rfl) (by kernel_rfl) (fun _ _ _ h => h) (Or.inl ⟨by rfl, ?_⟩) (by with_reducible assumption) ?_
            rotate_left
            · (intro w' hSw; (try dsimp only at hSw); first | (go_simp; done) | (go_simp; with_reducible rfl))
            (try simp only [Act.put, List.setIfInBounds_toArray, List.set_cons_zero, List.set_cons_succ])
            refine wpAnyH_take (i := 7) (oi := { dst := some 71, op := Op.load 24 (Operand.tmp 3), type := 24, pos := "outright.go:52", after := #[{ on := 6, ground := Ground.guard }], guard := some (6, true) }) (v := undef) rfl (by kernel_rfl) (by kernel_rfl) (by kernel_rfl) (fun _ _ _ h => h) (Or.inr ⟨by rfl, rfl⟩) (by with_reducible assumption) ?_
            (try simp only [Act.put, List.setIfInBounds_toArray, List.set_cons_zero, List.set_cons_succ])
            refine wpAnyH_take (i := 8) (oi := { dst := some 72, op := Op.call { callee := Callee.value (Operand.func 25), args := #[Operand.tmp 71], argTypes := #[24] }, type := 3, pos := "outright.go:52", after := #[{ on := 7, ground := Ground.data }, { on := 6, ground := Ground.chain }, { on := 6, ground := Ground.guard }], guard := some (6, true) }) (v := undef) rfl (by kernel_rfl) (by kernel_rfl) (by kernel_rfl) (fun _ _ _ h => h) (Or.inr ⟨by rfl, rfl⟩) (by with_reducible assumption) ?_
            (try simp only [Act.put, List.setIfInBounds_toArray, List.set_cons_zero, List.set_cons_succ])
            refine wpAnyH_take (i := 9) (oi := { dst := some 73, op := Op.load 24 (Operand.tmp 4), type := 24, pos := "outright.go:52", after := #[{ on := 6, ground := Ground.guard }], guard := some (6, true) }) (v := undef) rfl (by kernel_rfl) (by kernel_rfl) (by kernel_rfl) (fun _ _ _ h => h) (Or.inr ⟨by rfl, rfl⟩) (by with_reducible assumption) ?_
            (try simp only [Act.put, List.setIfInBounds_toArray, List.set_cons_zero, List.set_cons_succ])
            refine wpAnyH_take (i := 10) (oi := { dst := some 74, op := Op.call { callee := Callee.value (Operand.func 25), args := #[Operand.tmp 73], argTypes := #[24] }, type := 3, pos := "outright.go:52", after := #[{ on := 9, ground := Ground.data }, { on := 8, ground := Ground.chain }, { on := 6, ground := Ground.guard }], guard := some (6, true) }) (v := undef) rfl (by kernel_rfl) (by kernel_rfl) (by kernel_rfl) (fun _ _ _ h => h) (Or.inr ⟨by rfl, rfl⟩) (by with_reducible assumption) ?_
            (try simp only [Act.put, List.setIfInBounds_toArray, List.set_cons_zero, List.set_cons_succ])
            refine wpAnyH_take (i := 11) (oi := { dst := some 75, op := Op.binOp BinOp.lss 3 (Operand.tmp 72) (Operand.tmp 74) 3, type := 4, pos := "outright.go:52", after := #[{ on := 8, ground := Ground.data }, { on := 10, ground := Ground.data }, { on := 6, ground := Ground.guard }], guard := some (6, true) }) (v := undef) rfl (by kernel_rfl) (by kernel_rfl) (by kernel_rfl) (fun _ _ _ h => h) (Or.inr ⟨by rfl, rfl⟩) (by with_reducible assumption) ?_
            (try simp only [Act.put, List.setIfInBounds_toArray, List.set_cons_zero, List.set_cons_succ])
            refine wpAnyH_take (i := 12) (oi := { dst := some 76, op := Op.pick (Operand.tmp 70) (Operand.tmp 75) (Operand.const (Value.bool false)), type := 4, pos := "outright.go:52", after := #[{ on := 6, ground := Ground.data }, { on := 11, ground := Ground.data }], guard := none }) (v := ?_) rfl (by kernel_rfl) (by kernel_rfl) (by kernel_rfl) (fun _ _ _ h => h) (Or.inl ⟨by rfl, ?_⟩) (by with_reducible assumption) ?_
            rotate_left
            · (intro w' hSw; (try dsimp only at hSw); first | (go_simp; done) | (go_simp; with_reducible rfl))
            (try simp only [Act.put, List.setIfInBounds_toArray, List.set_cons_zero, List.set_cons_succ])
            refine wpAnyH_take (i := 13) (oi := { dst := some 77, op := Op.move (Operand.tmp 76), type := 4, pos := "outright.go:52", after := #[{ on := 12, ground := Ground.data }, { on := 10, ground := Ground.chain }], guard := none }) (v := ?_) rfl (by kernel_rfl) (by kernel_rfl) (by kernel_rfl) (fun _ _ _ h => h) (Or.inl ⟨by rfl, ?_⟩) (by with_reducible assumption) ?_
            rotate_left
            · (intro w' hSw; (try dsimp only at hSw); first | (go_simp; done) | (go_simp; with_reducible rfl))
            (try simp only [Act.put, List.setIfInBounds_toArray, List.set_cons_zero, List.set_cons_succ])
            refine wpAnyH_take (i := 14) (oi := { dst := some 78, op := Op.move (Operand.tmp 7), type := 3, pos := "outright.go:52", after := #[{ on := 13, ground := Ground.guard }], guard := some (13, true) }) (v := undef) rfl (by kernel_rfl) (by kernel_rfl) (by kernel_rfl) (fun _ _ _ h => h) (Or.inr ⟨by rfl, rfl⟩) (by with_reducible assumption) ?_
            (try simp only [Act.put, List.setIfInBounds_toArray, List.set_cons_zero, List.set_cons_succ])
            refine wpAnyH_take (i := 15) (oi := { dst := some 79, op := Op.binOp BinOp.geq 3 (Operand.tmp 78) (Operand.const (Value.int IntKind.i64 0)) 3, type := 4, pos := "outright.go:52", after := #[{ on := 14, ground := Ground.data }, { on := 13, ground := Ground.guard }], guard := some (13, true) }) (v := undef) rfl (by kernel_rfl) (by kernel_rfl) (by kernel_rfl) (fun _ _ _ h => h) (Or.inr ⟨by rfl, rfl⟩) (by with_reducible assumption) ?_
            (try simp only [Act.put, List.setIfInBounds_toArray, List.set_cons_zero, List.set_cons_succ])
            refine wpAnyH_take (i := 16) (oi := { dst := some 80, op := Op.pick (Operand.tmp 77) (Operand.tmp 79) (Operand.const (Value.bool false)), type := 4, pos := "outright.go:52", after := #[{ on := 13, ground := Ground.data }, { on := 15, ground := Ground.data }], guard := none }) (v := ?_) rfl (by kernel_rfl) (by kernel_rfl) (by kernel_rfl) (fun _ _ _ h => h) (Or.inl ⟨by rfl, ?_⟩) (by with_reducible assumption) ?_
            rotate_left
            · (intro w' hSw; (try dsimp only at hSw); first | (go_simp; done) | (go_simp; with_reducible rfl))
            (try simp only [Act.put, List.setIfInBounds_toArray, List.set_cons_zero, List.set_cons_succ])
            refine wpAnyH_take (i := 17) (oi := { dst := some 81, op := Op.move (Operand.tmp 80), type := 4, pos := "outright.go:52", after := #[{ on := 16, ground := Ground.data }, { on := 13, ground := Ground.chain }], guard := none }) (v := ?_) rfl (by kernel_rfl) (by kernel_rfl) (by kernel_rfl) (fun _ _ _ h => h) (Or.inl ⟨by rfl, ?_⟩) (by with_reducible assumption) ?_
            rotate_left
            · (intro w' hSw; (try dsimp only at hSw); first | (go_simp; done) | (go_simp; with_reducible rfl))
            (try simp only [Act.put, List.setIfInBounds_toArray, List.set_cons_zero, List.set_cons_succ])
            refine wpAnyH_take (i := 18) (oi := { dst := some 82, op := Op.load 24 (Operand.tmp 3), type := 24, pos := "outright.go:52", after := #[{ on := 17, ground := Ground.guard }], guard := some (17, false) }) (v := ?_) rfl (by kernel_rfl) (by kernel_rfl) (by kernel_rfl) (fun _ _ _ h => h) (Or.inl ⟨by rfl, ?_⟩) (by with_reducible assumption) ?_
            rotate_left
            · (intro w' hSw; (try dsimp only at hSw); first | (go_simp; done) | (go_simp; with_reducible rfl))
            (try simp only [Act.put, List.setIfInBounds_toArray, List.set_cons_zero, List.set_cons_succ])
            refine wpAnyH_ready (rs := [19]) (by kernel_rfl) (by simp) ?_
            refine AllReadyH.cons (o := { dst := some 83, op := Op.call { callee := Callee.value (Operand.func 10), args := #[Operand.tmp 82], argTypes := #[24] }, type := 4, pos := "outright.go:52", after := #[{ on := 18, ground := Ground.data }, { on := 17, ground := Ground.chain }, { on := 17, ground := Ground.guard }], guard := some (17, false) }) rfl (fun K hK => ?_) AllReadyH.nil
            go_simp
            (refine (HRa.out _ hHeld.2.2.2.2.2.2.2.2.2.2.2.2).mono ?_)
            rintro e' wa ⟨rfl, HOa⟩
            go_wp2_with fail
            refine hK.out _ _ (HOa) (fun hHeld => ?_)
            clear hK K
            (try simp only [Act.put, List.setIfInBounds_toArray, List.set_cons_zero, List.set_cons_succ])
            refine wpAnyH_take (i := 20) (oi := { dst := some 84, op := Op.move (Operand.tmp 83), type := 4, pos := "outright.go:52", after := #[{ on := 19, ground := Ground.data }, { on := 19, ground := Ground.chain }, { on := 17, ground := Ground.guard }], guard := some (17, false) }) (v := ?_) rfl (by kernel_rfl) (by kernel_rfl) (by kernel_rfl) (fun _ _ _ h => h) (Or.inl ⟨by rfl, ?_⟩) (by with_reducible assumption) ?_
            rotate_left
            · (intro w' hSw; (try dsimp only at hSw); first | (go_simp; done) | (go_simp; with_reducible rfl))
            (try simp only [Act.put, List.setIfInBounds_toArray, List.set_cons_zero, List.set_cons_succ])
            refine wpAnyH_take (i := 21) (oi := { dst := some 85, op := Op.load 24 (Operand.tmp 4), type := 24, pos := "outright.go:52", after := #[{ on := 20, ground := Ground.guard }], guard := some (20, true) }) (v := ?_) rfl (by kernel_rfl) (by kernel_rfl) (by kernel_rfl) (fun _ _ _ h => h) (Or.inl ⟨by rfl, ?_⟩) (by with_reducible assumption) ?_
            rotate_left
            · (intro w' hSw; (try dsimp only at hSw); first | (go_simp; done) | (go_simp; with_reducible rfl))
            (try simp only [Act.put, List.setIfInBounds_toArray, List.set_cons_zero, List.set_cons_succ])
            refine wpAnyH_ready (rs := [22]) (by kernel_rfl) (by simp) ?_
            refine AllReadyH.cons (o := { dst := some 86, op := Op.call { callee := Callee.value (Operand.func 10), args := #[Operand.tmp 85], argTypes := #[24] }, type := 4, pos := "outright.go:52", after := #[{ on := 21, ground := Ground.data }, { on := 20, ground := Ground.chain }, { on := 20, ground := Ground.guard }], guard := some (20, true) }) rfl (fun K hK => ?_) AllReadyH.nil
            go_simp
            (refine (HRb.out _ hHeld.2.2.2.2.2.2.2.2.2.2.2.2).mono ?_)
            rintro e' wa ⟨rfl, HOa⟩
            go_wp2_with fail
            refine hK.out _ _ (HOa) (fun hHeld => ?_)
            clear hK K
            (try simp only [Act.put, List.setIfInBounds_toArray, List.set_cons_zero, List.set_cons_succ])
            refine wpAnyH_take (i := 23) (oi := { dst := some 87, op := Op.unOp UnOp.not 4 (Operand.tmp 86), type := 4, pos := "outright.go:52", after := #[{ on := 22, ground := Ground.data }, { on := 20, ground := Ground.guard }], guard := some (20, true) }) (v := ?_) rfl (by kernel_rfl) (by kernel_rfl) (by kernel_rfl) (fun _ _ _ h => h) (Or.inl ⟨by rfl, ?_⟩) (by with_reducible assumption) ?_
            rotate_left
            · (intro w' hSw; (try dsimp only at hSw); first | (go_simp; done) | (go_simp; with_reducible rfl))
            (try simp only [Act.put, List.setIfInBounds_toArray, List.set_cons_zero, List.set_cons_succ])
            refine wpAnyH_take (i := 24) (oi := { dst := some 88, op := Op.pick (Operand.tmp 84) (Operand.tmp 87) (Operand.const (Value.bool false)), type := 4, pos := "outright.go:52", after := #[{ on := 20, ground := Ground.data }, { on := 23, ground := Ground.data }, { on := 17, ground := Ground.guard }], guard := some (17, false) }) (v := ?_) rfl (by kernel_rfl) (by kernel_rfl) (by kernel_rfl) (fun _ _ _ h => h) (Or.inl ⟨by rfl, ?_⟩) (by with_reducible assumption) ?_
            rotate_left
            · (intro w' hSw; (try dsimp only at hSw); first | (go_simp; done) | (go_simp; with_reducible rfl))
            (try simp only [Act.put, List.setIfInBounds_toArray, List.set_cons_zero, List.set_cons_succ])
            refine wpAnyH_take (i := 25) (oi := { dst := some 89, op := Op.move (Operand.tmp 88), type := 4, pos := "outright.go:52", after := #[{ on := 24, ground := Ground.data }, { on := 22, ground := Ground.chain }, { on := 17, ground := Ground.guard }], guard := some (17, false) }) (v := ?_) rfl (by kernel_rfl) (by kernel_rfl) (by kernel_rfl) (fun _ _ _ h => h) (Or.inl ⟨by rfl, ?_⟩) (by with_reducible assumption) ?_
            rotate_left
            · (intro w' hSw; (try dsimp only at hSw); first | (go_simp; done) | (go_simp; with_reducible rfl))
            (try simp only [Act.put, List.setIfInBounds_toArray, List.set_cons_zero, List.set_cons_succ])
            refine wpAnyH_take (i := 26) (oi := { dst := some 90, op := Op.move (Operand.tmp 7), type := 3, pos := "outright.go:52", after := #[{ on := 25, ground := Ground.guard }], guard := some (25, true) }) (v := ?_) rfl (by kernel_rfl) (by kernel_rfl) (by kernel_rfl) (fun _ _ _ h => h) (Or.inl ⟨by rfl, ?_⟩) (by with_reducible assumption) ?_
            rotate_left
            · (intro w' hSw; (try dsimp only at hSw); first | (go_simp; done) | (go_simp; with_reducible rfl))
            (try simp only [Act.put, List.setIfInBounds_toArray, List.set_cons_zero, List.set_cons_succ])
            refine wpAnyH_take (i := 27) (oi := { dst := some 91, op := Op.binOp BinOp.geq 3 (Operand.tmp 90) (Operand.const (Value.int IntKind.i64 0)) 3, type := 4, pos := "outright.go:52", after := #[{ on := 26, ground := Ground.data }, { on := 25, ground := Ground.guard }], guard := some (25, true) }) (v := ?_) rfl (by kernel_rfl) (by kernel_rfl) (by kernel_rfl) (fun _ _ _ h => h) (Or.inl ⟨by rfl, ?_⟩) (by with_reducible assumption) ?_
            rotate_left
            · (intro w' hSw; (try dsimp only at hSw); first | (go_simp; done) | (go_simp; with_reducible rfl))
            (try simp only [Act.put, List.setIfInBounds_toArray, List.set_cons_zero, List.set_cons_succ])
            refine wpAnyH_take (i := 28) (oi := { dst := some 92, op := Op.pick (Operand.tmp 89) (Operand.tmp 91) (Operand.const (Value.bool false)), type := 4, pos := "outright.go:52", after := #[{ on := 25, ground := Ground.data }, { on := 27, ground := Ground.data }, { on := 17, ground := Ground.guard }], guard := some (17, false) }) (v := ?_) rfl (by kernel_rfl) (by kernel_rfl) (by kernel_rfl) (fun _ _ _ h => h) (Or.inl ⟨by rfl, ?_⟩) (by with_reducible assumption) ?_
            rotate_left
            · (intro w' hSw; (try dsimp only at hSw); first | (go_simp; done) | (go_simp; with_reducible rfl))
            (try simp only [Act.put, List.setIfInBounds_toArray, List.set_cons_zero, List.set_cons_succ])
            refine wpAnyH_take (i := 29) (oi := { dst := some 93, op := Op.pick (Operand.tmp 81) (Operand.const (Value.bool true)) (Operand.tmp 92), type := 4, pos := "outright.go:52", after := #[{ on := 17, ground := Ground.data }, { on := 28, ground := Ground.data }], guard := none }) (v := ?_) rfl (by kernel_rfl) (by kernel_rfl) (by kernel_rfl) (fun _ _ _ h => h) (Or.inl ⟨by rfl, ?_⟩) (by with_reducible assumption) ?_
            rotate_left
            · (intro w' hSw; (try dsimp only at hSw); first | (go_simp; done) | (go_simp; with_reducible rfl))
            (try simp only [Act.put, List.setIfInBounds_toArray, List.set_cons_zero, List.set_cons_succ])
            refine wpAnyH_done (by kernel_rfl) ?_ _
            refine NoPanic.normal ?_
            go_wp2_with fail
            go_meet
            case rel => exact ⟨rfl, tm3_of HA0.out HB0.out HC0.out hHeld.2.2.2.2.2.2.2.2.2.2.2.2⟩
          | true =>
            subst hrb
            by_cases g1 : ka < kb
            · have g0 : ¬ 0 ≤ n := by have := hRk.out rfl rfl g1; omega
              have g : decide (0 ≤ n) = false := decide_eq_false g0
              refine wp_region_noPanic ?_
              refine wp_region_held_drew (S := fun u => u.cell? ⟨w.heap.size, 0, none⟩ = some (.int .i64 a.k) ∧ u.cell? ⟨w.heap.size, 1, none⟩ = some (.string a.x) ∧ u.cell? ⟨w.heap.size, 2, none⟩ = some (.string a.g) ∧ u.cell? ⟨w.heap.size, 3, none⟩ = some (.string a.y) ∧ u.cell? ⟨w.heap.size + 1, 0, none⟩ = some (.int .i64 b.k) ∧ u.cell? ⟨w.heap.size + 1, 1, none⟩ = some (.string b.x) ∧ u.cell? ⟨w.heap.size + 1, 2, none⟩ = some (.string b.g) ∧ u.cell? ⟨w.heap.size + 1, 3, none⟩ = some (.string b.y) ∧ u.cell? ⟨w.heap.size + 1 + 1, 0, none⟩ = some (.int .i64 c.k) ∧ u.cell? ⟨w.heap.size + 1 + 1, 1, none⟩ = some (.string c.x) ∧ u.cell? ⟨w.heap.size + 1 + 1, 2, none⟩ = some (.string c.g) ∧ u.cell? ⟨w.heap.size + 1 + 1, 3, none⟩ = some (.string c.y) ∧ StU w1 u) (by kernel_rfl) (tm3_of HA0.out HB0.out HC0.out (hid (z3.out.drew))) (fun hHeld => ?_)
              refine wpAnyH_take (i := 0) (oi := { dst := some 64, op := Op.load 24 (Operand.tmp 3), type := 24, pos := "outright.go:52", after := #[], guard := none }) (v := ?_) rfl (by kernel_rfl) (by kernel_rfl) (by kernel_rfl) (fun _ _ _ h => h) (Or.inl ⟨by rfl, ?_⟩) (by with_reducible assumption) ?_
              rotate_left
              · (intro w' hSw; (try dsimp only at hSw); first | (go_simp; done) | (go_simp; with_reducible rfl))
              (try simp only [Act.put, List.setIfInBounds_toArray, List.set_cons_zero, List.set_cons_succ])
              refine wpAnyH_ready (rs := [1]) (by kernel_rfl) (by simp) ?_
              refine AllReadyH.cons (o := { dst := some 65, op := Op.call { callee := Callee.value (Operand.func 10), args := #[Operand.tmp 64], argTypes := #[24] }, type := 4, pos := "outright.go:52", after := #[{ on := 0, ground := Ground.data }], guard := none }) rfl (fun K hK => ?_) AllReadyH.nil
              go_simp
              (refine (HRa.out _ hHeld.2.2.2.2.2.2.2.2.2.2.2.2).mono ?_)
              rintro e' wa ⟨rfl, HOa⟩
              go_wp2_with fail
              refine hK.out _ _ (HOa) (fun hHeld => ?_)
              clear hK K
              (try simp only [Act.put, List.setIfInBounds_toArray, List.set_cons_zero, List.set_cons_succ])
              refine wpAnyH_take (i := 2) (oi := { dst := some 66, op := Op.move (Operand.tmp 65), type := 4, pos := "outright.go:52", after := #[{ on := 1, ground := Ground.data }, { on := 1, ground := Ground.chain }], guard := none }) (v := ?_) rfl (by kernel_rfl) (by kernel_rfl) (by kernel_rfl) (fun _ _ _ h => h) (Or.inl ⟨by rfl, ?_⟩) (by with_reducible assumption) ?_
              rotate_left
              · (intro w' hSw; (try dsimp only at hSw); first | (go_simp; done) | (go_simp; with_reducible rfl))
              (try simp only [Act.put, List.setIfInBounds_toArray, List.set_cons_zero, List.set_cons_succ])
              refine wpAnyH_take (i := 3) (oi := { dst := some 67, op := Op.load 24 (Operand.tmp 4), type := 24, pos := "outright.go:52", after := #[{ on := 2, ground := Ground.guard }], guard := some (2, true) }) (v := ?_) rfl (by kernel_rfl) (by kernel_rfl) (by kernel_rfl) (fun _ _ _ h => h) (Or.inl ⟨by rfl, ?_⟩) (by with_reducible assumption) ?_
              rotate_left
              · (intro w' hSw; (try dsimp only at hSw); first | (go_simp; done) | (go_simp; with_reducible rfl))
              (try simp only [Act.put, List.setIfInBounds_toArray, List.set_cons_zero, List.set_cons_succ])
              refine wpAnyH_ready (rs := [4]) (by kernel_rfl) (by simp) ?_
              refine AllReadyH.cons (o := { dst := some 68, op := Op.call { callee := Callee.value (Operand.func 10), args := #[Operand.tmp 67], argTypes := #[24] }, type := 4, pos := "outright.go:52", after := #[{ on := 3, ground := Ground.data }, { on := 2, ground := Ground.chain }, { on := 2, ground := Ground.guard }], guard := some (2, true) }) rfl (fun K hK => ?_) AllReadyH.nil
              go_simp
              (refine (HRb.out _ hHeld.2.2.2.2.2.2.2.2.2.2.2.2).mono ?_)
              rintro e' wa ⟨rfl, HOa⟩
              go_wp2_with fail
              refine hK.out _ _ (HOa) (fun hHeld => ?_)
              clear hK K
              (try simp only [Act.put, List.setIfInBounds_toArray, List.set_cons_zero, List.set_cons_succ])
              refine wpAnyH_take (i := 5) (oi := { dst := some 69, op := Op.pick (Operand.tmp 66) (Operand.tmp 68) (Operand.const (Value.bool false)), type := 4, pos := "outright.go:52", after := #[{ on := 2, ground := Ground.data }, { on := 4, ground := Ground.data }], guard := none }) (v := ?_) rfl (by kernel_rfl) (by kernel_rfl) (by kernel_rfl) (fun _ _ _ h => h) (Or.inl ⟨by rfl, ?_⟩) (by with_reducible assumption) ?_
              rotate_left
              · (intro w' hSw; (try dsimp only at hSw); first | (go_simp; done) | (go_simp; with_reducible rfl))
              (try simp only [Act.put, List.setIfInBounds_toArray, List.set_cons_zero, List.set_cons_succ])
              refine wpAnyH_take (i := 6) (oi := { dst := some 70, op := Op.move (Operand.tmp 69), type := 4, pos := "outright.go:52", after := #[{ on := 5, ground := Ground.data }, { on := 4, ground := Ground.chain }], guard := none }) (v := ?_) rfl (by kernel_rfl) (by kernel_rfl) (by kernel_rfl) (fun _ _ _ h => h) (Or.inl ⟨by rfl, ?_⟩) (by with_reducible assumption) ?_
              rotate_left
              · (intro w' hSw; (try dsimp only at hSw); first | (go_simp; done) | (go_simp; with_reducible rfl))
              (try simp only [Act.put, List.setIfInBounds_toArray, List.set_cons_zero, List.set_cons_succ])
              refine wpAnyH_take (i := 7) (oi := { dst := some 71, op := Op.load 24 (Operand.tmp 3), type := 24, pos := "outright.go:52", after := #[{ on := 6, ground := Ground.guard }], guard := some (6, true) }) (v := ?_) rfl (by kernel_rfl) (by kernel_rfl) (by kernel_rfl) (fun _ _ _ h => h) (Or.inl ⟨by rfl, ?_⟩) (by with_reducible assumption) ?_
              rotate_left
              · (intro w' hSw; (try dsimp only at hSw); first | (go_simp; done) | (go_simp; with_reducible rfl))
              (try simp only [Act.put, List.setIfInBounds_toArray, List.set_cons_zero, List.set_cons_succ])
              refine wpAnyH_take (i := 9) (oi := { dst := some 73, op := Op.load 24 (Operand.tmp 4), type := 24, pos := "outright.go:52", after := #[{ on := 6, ground := Ground.guard }], guard := some (6, true) }) (v := ?_) rfl (by kernel_rfl) (by kernel_rfl) (by kernel_rfl) (fun _ _ _ h => h) (Or.inl ⟨by rfl, ?_⟩) (by with_reducible assumption) ?_
              rotate_left
              · (intro w' hSw; (try dsimp only at hSw); first | (go_simp; done) | (go_simp; with_reducible rfl))
              (try simp only [Act.put, List.setIfInBounds_toArray, List.set_cons_zero, List.set_cons_succ])
              refine wpAnyH_ready (rs := [8]) (by kernel_rfl) (by simp) ?_
              refine AllReadyH.cons (o := { dst := some 72, op := Op.call { callee := Callee.value (Operand.func 25), args := #[Operand.tmp 71], argTypes := #[24] }, type := 3, pos := "outright.go:52", after := #[{ on := 7, ground := Ground.data }, { on := 6, ground := Ground.chain }, { on := 6, ground := Ground.guard }], guard := some (6, true) }) rfl (fun K hK => ?_) AllReadyH.nil
              go_simp
              (refine (HKa.out _ hHeld.2.2.2.2.2.2.2.2.2.2.2.2).mono ?_)
              rintro e' wa ⟨rfl, HOa⟩
              go_wp2_with fail
              refine hK.out _ _ (HOa) (fun hHeld => ?_)
              clear hK K
              (try simp only [Act.put, List.setIfInBounds_toArray, List.set_cons_zero, List.set_cons_succ])
              refine wpAnyH_ready (rs := [10]) (by kernel_rfl) (by simp) ?_
              refine AllReadyH.cons (o := { dst := some 74, op := Op.call { callee := Callee.value (Operand.func 25), args := #[Operand.tmp 73], argTypes := #[24] }, type := 3, pos := "outright.go:52", after := #[{ on := 9, ground := Ground.data }, { on := 8, ground := Ground.chain }, { on := 6, ground := Ground.guard }], guard := some (6, true) }) rfl (fun K hK => ?_) AllReadyH.nil
              go_simp
              (refine (HKb.out _ hHeld.2.2.2.2.2.2.2.2.2.2.2.2).mono ?_)
              rintro e' wa ⟨rfl, HOa⟩
              go_wp2_with fail
              refine hK.out _ _ (HOa) (fun hHeld => ?_)
              clear hK K
              (try simp only [Act.put, List.setIfInBounds_toArray, List.set_cons_zero, List.set_cons_succ])
              refine wpAnyH_take (i := 11) (oi := { dst := some 75, op := Op.binOp BinOp.lss 3 (Operand.tmp 72) (Operand.tmp 74) 3, type := 4, pos := "outright.go:52", after := #[{ on := 8, ground := Ground.data }, { on := 10, ground := Ground.data }, { on := 6, ground := Ground.guard }], guard := some (6, true) }) (v := ?_) rfl (by kernel_rfl) (by kernel_rfl) (by kernel_rfl) (fun _ _ _ h => h) (Or.inl ⟨by rfl, ?_⟩) (by with_reducible assumption) ?_
              rotate_left
              · (intro w' hSw; (try dsimp only at hSw); first | (go_simp; done) | (go_simp; with_reducible rfl))
              (try simp only [Act.put, List.setIfInBounds_toArray, List.set_cons_zero, List.set_cons_succ])
              refine wpAnyH_take (i := 12) (oi := { dst := some 76, op := Op.pick (Operand.tmp 70) (Operand.tmp 75) (Operand.const (Value.bool false)), type := 4, pos := "outright.go:52", after := #[{ on := 6, ground := Ground.data }, { on := 11, ground := Ground.data }], guard := none }) (v := ?_) rfl (by kernel_rfl) (by kernel_rfl) (by kernel_rfl) (fun _ _ _ h => h) (Or.inl ⟨by rfl, ?_⟩) (by with_reducible assumption) ?_
              rotate_left
              · (intro w' hSw; (try dsimp only at hSw); first | (go_simp; done) | (go_simp; with_reducible rfl))
              (try simp only [Act.put, List.setIfInBounds_toArray, List.set_cons_zero, List.set_cons_succ])
              refine wpAnyH_take (i := 13) (oi := { dst := some 77, op := Op.move (Operand.tmp 76), type := 4, pos := "outright.go:52", after := #[{ on := 12, ground := Ground.data }, { on := 10, ground := Ground.chain }], guard := none }) (v := ?_) rfl (by kernel_rfl) (by kernel_rfl) (by kernel_rfl) (fun _ _ _ h => h) (Or.inl ⟨by rfl, ?_⟩) (by with_reducible assumption) ?_
              rotate_left
              · (intro w' hSw; (try dsimp only at hSw); first | (go_simp; done) | (go_simp; with_reducible rfl))
              (try simp only [Act.put, List.setIfInBounds_toArray, List.set_cons_zero, List.set_cons_succ])
              refine wpAnyH_take (i := 14) (oi := { dst := some 78, op := Op.move (Operand.tmp 7), type := 3, pos := "outright.go:52", after := #[{ on := 13, ground := Ground.guard }], guard := some (13, true) }) (v := ?_) rfl (by kernel_rfl) (by kernel_rfl) (by kernel_rfl) (fun _ _ _ h => h) (Or.inl ⟨by rfl, ?_⟩) (by with_reducible assumption) ?_
              rotate_left
              · (intro w' hSw; (try dsimp only at hSw); first | (go_simp; done) | (go_simp; with_reducible rfl))
              (try simp only [Act.put, List.setIfInBounds_toArray, List.set_cons_zero, List.set_cons_succ])
              refine wpAnyH_take (i := 15) (oi := { dst := some 79, op := Op.binOp BinOp.geq 3 (Operand.tmp 78) (Operand.const (Value.int IntKind.i64 0)) 3, type := 4, pos := "outright.go:52", after := #[{ on := 14, ground := Ground.data }, { on := 13, ground := Ground.guard }], guard := some (13, true) }) (v := ?_) rfl (by kernel_rfl) (by kernel_rfl) (by kernel_rfl) (fun _ _ _ h => h) (Or.inl ⟨by rfl, ?_⟩) (by with_reducible assumption) ?_
              rotate_left
              · (intro w' hSw; (try dsimp only at hSw); first | (go_simp; done) | (go_simp; with_reducible rfl))
              (try simp only [Act.put, List.setIfInBounds_toArray, List.set_cons_zero, List.set_cons_succ])
              refine wpAnyH_take (i := 16) (oi := { dst := some 80, op := Op.pick (Operand.tmp 77) (Operand.tmp 79) (Operand.const (Value.bool false)), type := 4, pos := "outright.go:52", after := #[{ on := 13, ground := Ground.data }, { on := 15, ground := Ground.data }], guard := none }) (v := ?_) rfl (by kernel_rfl) (by kernel_rfl) (by kernel_rfl) (fun _ _ _ h => h) (Or.inl ⟨by rfl, ?_⟩) (by with_reducible assumption) ?_
              rotate_left
              · (intro w' hSw; (try dsimp only at hSw); first | (go_simp; done) | (go_simp; with_reducible rfl))
              (try simp only [Act.put, List.setIfInBounds_toArray, List.set_cons_zero, List.set_cons_succ])
              refine wpAnyH_take (i := 17) (oi := { dst := some 81, op := Op.move (Operand.tmp 80), type := 4, pos := "outright.go:52", after := #[{ on := 16, ground := Ground.data }, { on := 13, ground := Ground.chain }], guard := none }) (v := ?_) rfl (by kernel_rfl) (by kernel_rfl) (by kernel_rfl) (fun _ _ _ h => h) (Or.inl ⟨by rfl, ?_⟩) (by with_reducible assumption) ?_
              rotate_left
              · (intro w' hSw; (try dsimp only at hSw); first | (go_simp; done) | (go_simp; with_reducible rfl))
              (try simp only [Act.put, List.setIfInBounds_toArray, List.set_cons_zero, List.set_cons_succ])
              refine wpAnyH_take (i := 18) (oi := { dst := some 82, op := Op.load 24 (Operand.tmp 3), type := 24, pos := "outright.go:52", after := #[{ on := 17, ground := Ground.guard }], guard := some (17, false) }) (v := ?_) rfl (by kernel_rfl) (by kernel_rfl) (by kernel_rfl) (fun _ _ _ h => h) (Or.inl ⟨by rfl, ?_⟩) (by with_reducible assumption) ?_
              rotate_left
              · (intro w' hSw; (try dsimp only at hSw); first | (go_simp; done) | (go_simp; with_reducible rfl))
              (try simp only [Act.put, List.setIfInBounds_toArray, List.set_cons_zero, List.set_cons_succ])
              refine wpAnyH_ready (rs := [19]) (by kernel_rfl) (by simp) ?_
              refine AllReadyH.cons (o := { dst := some 83, op := Op.call { callee := Callee.value (Operand.func 10), args := #[Operand.tmp 82], argTypes := #[24] }, type := 4, pos := "outright.go:52", after := #[{ on := 18, ground := Ground.data }, { on := 17, ground := Ground.chain }, { on := 17, ground := Ground.guard }], guard := some (17, false) }) rfl (fun K hK => ?_) AllReadyH.nil
              go_simp
              (refine (HRa.out _ hHeld.2.2.2.2.2.2.2.2.2.2.2.2).mono ?_)
              rintro e' wa ⟨rfl, HOa⟩
              go_wp2_with fail
              refine hK.out _ _ (HOa) (fun hHeld => ?_)
              clear hK K
              (try simp only [Act.put, List.setIfInBounds_toArray, List.set_cons_zero, List.set_cons_succ])
              refine wpAnyH_take (i := 20) (oi := { dst := some 84, op := Op.move (Operand.tmp 83), type := 4, pos := "outright.go:52", after := #[{ on := 19, ground := Ground.data }, { on := 19, ground := Ground.chain }, { on := 17, ground := Ground.guard }], guard := some (17, false) }) (v := ?_) rfl (by kernel_rfl) (by kernel_rfl) (by kernel_rfl) (fun _ _ _ h => h) (Or.inl ⟨by rfl, ?_⟩) (by with_reducible assumption) ?_
              rotate_left
              · (intro w' hSw; (try dsimp only at hSw); first | (go_simp; done) | (go_simp; with_reducible rfl))
              (try simp only [Act.put, List.setIfInBounds_toArray, List.set_cons_zero, List.set_cons_succ])
              refine wpAnyH_take (i := 21) (oi := { dst := some 85, op := Op.load 24 (Operand.tmp 4), type := 24, pos := "outright.go:52", after := #[{ on := 20, ground := Ground.guard }], guard := some (20, true) }) (v := ?_) rfl (by kernel_rfl) (by kernel_rfl) (by kernel_rfl) (fun _ _ _ h => h) (Or.inl ⟨by rfl, ?_⟩) (by with_reducible assumption) ?_
              rotate_left
              · (intro w' hSw; (try dsimp only at hSw); first | (go_simp; done) | (go_simp; with_reducible rfl))
              (try simp only [Act.put, List.setIfInBounds_toArray, List.set_cons_zero, List.set_cons_succ])
              refine wpAnyH_ready (rs := [22]) (by kernel_rfl) (by simp) ?_
              refine AllReadyH.cons (o := { dst := some 86, op := Op.call { callee := Callee.value (Operand.func 10), args := #[Operand.tmp 85], argTypes := #[24] }, type := 4, pos := "outright.go:52", after := #[{ on := 21, ground := Ground.data }, { on := 20, ground := Ground.chain }, { on := 20, ground := Ground.guard }], guard := some (20, true) }) rfl (fun K hK => ?_) AllReadyH.nil
              go_simp
              (refine (HRb.out _ hHeld.2.2.2.2.2.2.2.2.2.2.2.2).mono ?_)
              rintro e' wa ⟨rfl, HOa⟩
              go_wp2_with fail
              refine hK.out _ _ (HOa) (fun hHeld => ?_)
              clear hK K
              (try simp only [Act.put, List.setIfInBounds_toArray, List.set_cons_zero, List.set_cons_succ])
              refine wpAnyH_take (i := 23) (oi := { dst := some 87, op := Op.unOp UnOp.not 4 (Operand.tmp 86), type := 4, pos := "outright.go:52", after := #[{ on := 22, ground := Ground.data }, { on := 20, ground := Ground.guard }], guard := some (20, true) }) (v := ?_) rfl (by kernel_rfl) (by kernel_rfl) (by kernel_rfl) (fun _ _ _ h => h) (Or.inl ⟨by rfl, ?_⟩) (by with_reducible assumption) ?_
              rotate_left
              · (intro w' hSw; (try dsimp only at hSw); first | (go_simp; done) | (go_simp; with_reducible rfl))
              (try simp only [Act.put, List.setIfInBounds_toArray, List.set_cons_zero, List.set_cons_succ])
              refine wpAnyH_take (i := 24) (oi := { dst := some 88, op := Op.pick (Operand.tmp 84) (Operand.tmp 87) (Operand.const (Value.bool false)), type := 4, pos := "outright.go:52", after := #[{ on := 20, ground := Ground.data }, { on := 23, ground := Ground.data }, { on := 17, ground := Ground.guard }], guard := some (17, false) }) (v := ?_) rfl (by kernel_rfl) (by kernel_rfl) (by kernel_rfl) (fun _ _ _ h => h) (Or.inl ⟨by rfl, ?_⟩) (by with_reducible assumption) ?_
              rotate_left
              · (intro w' hSw; (try dsimp only at hSw); first | (go_simp; done) | (go_simp; with_reducible rfl))
              (try simp only [Act.put, List.setIfInBounds_toArray, List.set_cons_zero, List.set_cons_succ])
              refine wpAnyH_take (i := 25) (oi := { dst := some 89, op := Op.move (Operand.tmp 88), type := 4, pos := "outright.go:52", after := #[{ on := 24, ground := Ground.data }, { on := 22, ground := Ground.chain }, { on := 17, ground := Ground.guard }], guard := some (17, false) }) (v := ?_) rfl (by kernel_rfl) (by kernel_rfl) (by kernel_rfl) (fun _ _ _ h => h) (Or.inl ⟨by rfl, ?_⟩) (by with_reducible assumption) ?_
              rotate_left
              · (intro w' hSw; (try dsimp only at hSw); first | (go_simp; done) | (go_simp; with_reducible rfl))
              (try simp only [Act.put, List.setIfInBounds_toArray, List.set_cons_zero, List.set_cons_succ])
              refine wpAnyH_take (i := 26) (oi := { dst := some 90, op := Op.move (Operand.tmp 7), type := 3, pos := "outright.go:52", after := #[{ on := 25, ground := Ground.guard }], guard := some (25, true) }) (v := undef) rfl (by kernel_rfl) (by kernel_rfl) (by kernel_rfl) (fun _ _ _ h => h) (Or.inr ⟨by rfl, rfl⟩) (by with_reducible assumption) ?_
              (try simp only [Act.put, List.setIfInBounds_toArray, List.set_cons_zero, List.set_cons_succ])
              refine wpAnyH_take (i := 27) (oi := { dst := some 91, op := Op.binOp BinOp.geq 3 (Operand.tmp 90) (Operand.const (Value.int IntKind.i64 0)) 3, type := 4, pos := "outright.go:52", after := #[{ on := 26, ground := Ground.data }, { on := 25, ground := Ground.guard }], guard := some (25, true) }) (v := undef) rfl (by kernel_rfl) (by kernel_rfl) (by kernel_rfl) (fun _ _ _ h => h) (Or.inr ⟨by rfl, rfl⟩) (by with_reducible assumption) ?_
              (try simp only [Act.put, List.setIfInBounds_toArray, List.set_cons_zero, List.set_cons_succ])
              refine wpAnyH_take (i := 28) (oi := { dst := some 92, op := Op.pick (Operand.tmp 89) (Operand.tmp 91) (Operand.const (Value.bool false)), type := 4, pos := "outright.go:52", after := #[{ on := 25, ground := Ground.data }, { on := 27, ground := Ground.data }, { on := 17, ground := Ground.guard }], guard := some (17, false) }) (v := ?_) rfl (by kernel_rfl) (by kernel_rfl) (by kernel_rfl) (fun _ _ _ h => h) (Or.inl ⟨by rfl, ?_⟩) (by with_reducible assumption) ?_
              rotate_left
              · (intro w' hSw; (try dsimp only at hSw); first | (go_simp; done) | (go_simp; with_reducible rfl))
              (try simp only [Act.put, List.setIfInBounds_toArray, List.set_cons_zero, List.set_cons_succ])
              refine wpAnyH_take (i := 29) (oi := { dst := some 93, op := Op.pick (Operand.tmp 81) (Operand.const (Value.bool true)) (Operand.tmp 92), type := 4, pos := "outright.go:52", after := #[{ on := 17, ground := Ground.data }, { on := 28, ground := Ground.data }], guard := none }) (v := ?_) rfl (by kernel_rfl) (by kernel_rfl) (by kernel_rfl) (fun _ _ _ h => h) (Or.inl ⟨by rfl, ?_⟩) (by with_reducible assumption) ?_
              rotate_left
              · (intro w' hSw; (try dsimp only at hSw); first | (go_simp; done) | (go_simp; with_reducible rfl))
              (try simp only [Act.put, List.setIfInBounds_toArray, List.set_cons_zero, List.set_cons_succ])
              refine wpAnyH_done (by kernel_rfl) ?_ _
              refine NoPanic.normal ?_
              go_wp2_with fail
              go_meet
              case rel => exact ⟨rfl, tm3_of HA0.out HB0.out HC0.out hHeld.2.2.2.2.2.2.2.2.2.2.2.2⟩
            · have g2 : decide (ka < kb) = false := decide_eq_false g1
              refine wp_region_noPanic ?_
              refine wp_region_held_drew (S := fun u => u.cell? ⟨w.heap.size, 0, none⟩ = some (.int .i64 a.k) ∧ u.cell? ⟨w.heap.size, 1, none⟩ = some (.string a.x) ∧ u.cell? ⟨w.heap.size, 2, none⟩ = some (.string a.g) ∧ u.cell? ⟨w.heap.size, 3, none⟩ = some (.string a.y) ∧ u.cell? ⟨w.heap.size + 1, 0, none⟩ = some (.int .i64 b.k) ∧ u.cell? ⟨w.heap.size + 1, 1, none⟩ = some (.string b.x) ∧ u.cell? ⟨w.heap.size + 1, 2, none⟩ = some (.string b.g) ∧ u.cell? ⟨w.heap.size + 1, 3, none⟩ = some (.string b.y) ∧ u.cell? ⟨w.heap.size + 1 + 1, 0, none⟩ = some (.int .i64 c.k) ∧ u.cell? ⟨w.heap.size + 1 + 1, 1, none⟩ = some (.string c.x) ∧ u.cell? ⟨w.heap.size + 1 + 1, 2, none⟩ = some (.string c.g) ∧ u.cell? ⟨w.heap.size + 1 + 1, 3, none⟩ = some (.string c.y) ∧ StU w1 u) (by kernel_rfl) (tm3_of HA0.out HB0.out HC0.out (hid (z3.out.drew))) (fun hHeld => ?_)
              refine wpAnyH_take (i := 0) (oi := { dst := some 64, op := Op.load 24 (Operand.tmp 3), type := 24, pos := "outright.go:52", after := #[], guard := none }) (v := ?_) rfl (by kernel_rfl) (by kernel_rfl) (by kernel_rfl) (fun _ _ _ h => h) (Or.inl ⟨by rfl, ?_⟩) (by with_reducible assumption) ?_
              rotate_left
              · (intro w' hSw; (try dsimp only at hSw); first | (go_simp; done) | (go_simp; with_reducible rfl))
              (try simp only [Act.put, List.setIfInBounds_toArray, List.set_cons_zero, List.set_cons_succ])
              refine wpAnyH_ready (rs := [1]) (by kernel_rfl) (by simp) ?_
              refine AllReadyH.cons (o := { dst := some 65, op := Op.call { callee := Callee.value (Operand.func 10), args := #[Operand.tmp 64], argTypes := #[24] }, type := 4, pos := "outright.go:52", after := #[{ on := 0, ground := Ground.data }], guard := none }) rfl (fun K hK => ?_) AllReadyH.nil
              go_simp
              (refine (HRa.out _ hHeld.2.2.2.2.2.2.2.2.2.2.2.2).mono ?_)
              rintro e' wa ⟨rfl, HOa⟩
              go_wp2_with fail
              refine hK.out _ _ (HOa) (fun hHeld => ?_)
              clear hK K
              (try simp only [Act.put, List.setIfInBounds_toArray, List.set_cons_zero, List.set_cons_succ])
              refine wpAnyH_take (i := 2) (oi := { dst := some 66, op := Op.move (Operand.tmp 65), type := 4, pos := "outright.go:52", after := #[{ on := 1, ground := Ground.data }, { on := 1, ground := Ground.chain }], guard := none }) (v := ?_) rfl (by kernel_rfl) (by kernel_rfl) (by kernel_rfl) (fun _ _ _ h => h) (Or.inl ⟨by rfl, ?_⟩) (by with_reducible assumption) ?_
              rotate_left
              · (intro w' hSw; (try dsimp only at hSw); first | (go_simp; done) | (go_simp; with_reducible rfl))
              (try simp only [Act.put, List.setIfInBounds_toArray, List.set_cons_zero, List.set_cons_succ])
              refine wpAnyH_take (i := 3) (oi := { dst := some 67, op := Op.load 24 (Operand.tmp 4), type := 24, pos := "outright.go:52", after := #[{ on := 2, ground := Ground.guard }], guard := some (2, true) }) (v := ?_) rfl (by kernel_rfl) (by kernel_rfl) (by kernel_rfl) (fun _ _ _ h => h) (Or.inl ⟨by rfl, ?_⟩) (by with_reducible assumption) ?_
              rotate_left
              · (intro w' hSw; (try dsimp only at hSw); first | (go_simp; done) | (go_simp; with_reducible rfl))
              (try simp only [Act.put, List.setIfInBounds_toArray, List.set_cons_zero, List.set_cons_succ])
              refine wpAnyH_ready (rs := [4]) (by kernel_rfl) (by simp) ?_
              refine AllReadyH.cons (o := { dst := some 68, op := Op.call { callee := Callee.value (Operand.func 10), args := #[Operand.tmp 67], argTypes := #[24] }, type := 4, pos := "outright.go:52", after := #[{ on := 3, ground := Ground.data }, { on := 2, ground := Ground.chain }, { on := 2, ground := Ground.guard }], guard := some (2, true) }) rfl (fun K hK => ?_) AllReadyH.nil
              go_simp
              (refine (HRb.out _ hHeld.2.2.2.2.2.2.2.2.2.2.2.2).mono ?_)
              rintro e' wa ⟨rfl, HOa⟩
              go_wp2_with fail
              refine hK.out _ _ (HOa) (fun hHeld => ?_)
              clear hK K
              (try simp only [Act.put, List.setIfInBounds_toArray, List.set_cons_zero, List.set_cons_succ])
              refine wpAnyH_take (i := 5) (oi := { dst := some 69, op := Op.pick (Operand.tmp 66) (Operand.tmp 68) (Operand.const (Value.bool false)), type := 4, pos := "outright.go:52", after := #[{ on := 2, ground := Ground.data }, { on := 4, ground := Ground.data }], guard := none }) (v := ?_) rfl (by kernel_rfl) (by kernel_rfl) (by kernel_rfl) (fun _ _ _ h => h) (Or.inl ⟨by rfl, ?_⟩) (by with_reducible assumption) ?_
              rotate_left
              · (intro w' hSw; (try dsimp only at hSw); first | (go_simp; done) | (go_simp; with_reducible rfl))
              (try simp only [Act.put, List.setIfInBounds_toArray, List.set_cons_zero, List.set_cons_succ])
              refine wpAnyH_take (i := 6) (oi := { dst := some 70, op := Op.move (Operand.tmp 69), type := 4, pos := "outright.go:52", after := #[{ on := 5, ground := Ground.data }, { on := 4, ground := Ground.chain }], guard := none }) (v := ?_) rfl (by kernel_rfl) (by kernel_rfl) (by kernel_rfl) (fun _ _ _ h => h) (Or.inl ⟨by rfl, ?_⟩) (by with_reducible assumption) ?_
              rotate_left
              · (intro w' hSw; (try dsimp only at hSw); first | (go_simp; done) | (go_simp; with_reducible rfl))
              (try simp only [Act.put, List.setIfInBounds_toArray, List.set_cons_zero, List.set_cons_succ])
              refine wpAnyH_take (i := 7) (oi := { dst := some 71, op := Op.load 24 (Operand.tmp 3), type := 24, pos := "outright.go:52", after := #[{ on := 6, ground := Ground.guard }], guard := some (6, true) }) (v := ?_) rfl (by kernel_rfl) (by kernel_rfl) (by kernel_rfl) (fun _ _ _ h => h) (Or.inl ⟨by rfl, ?_⟩) (by with_reducible assumption) ?_
              rotate_left
              · (intro w' hSw; (try dsimp only at hSw); first | (go_simp; done) | (go_simp; with_reducible rfl))
              (try simp only [Act.put, List.setIfInBounds_toArray, List.set_cons_zero, List.set_cons_succ])
              refine wpAnyH_take (i := 9) (oi := { dst := some 73, op := Op.load 24 (Operand.tmp 4), type := 24, pos := "outright.go:52", after := #[{ on := 6, ground := Ground.guard }], guard := some (6, true) }) (v := ?_) rfl (by kernel_rfl) (by kernel_rfl) (by kernel_rfl) (fun _ _ _ h => h) (Or.inl ⟨by rfl, ?_⟩) (by with_reducible assumption) ?_
              rotate_left
              · (intro w' hSw; (try dsimp only at hSw); first | (go_simp; done) | (go_simp; with_reducible rfl))
              (try simp only [Act.put, List.setIfInBounds_toArray, List.set_cons_zero, List.set_cons_succ])
              refine wpAnyH_ready (rs := [8]) (by kernel_rfl) (by simp) ?_
              refine AllReadyH.cons (o := { dst := some 72, op := Op.call { callee := Callee.value (Operand.func 25), args := #[Operand.tmp 71], argTypes := #[24] }, type := 3, pos := "outright.go:52", after := #[{ on := 7, ground := Ground.data }, { on := 6, ground := Ground.chain }, { on := 6, ground := Ground.guard }], guard := some (6, true) }) rfl (fun K hK => ?_) AllReadyH.nil
              go_simp
              (refine (HKa.out _ hHeld.2.2.2.2.2.2.2.2.2.2.2.2).mono ?_)
              rintro e' wa ⟨rfl, HOa⟩
              go_wp2_with fail
              refine hK.out _ _ (HOa) (fun hHeld => ?_)
              clear hK K
              (try simp only [Act.put, List.setIfInBounds_toArray, List.set_cons_zero, List.set_cons_succ])
              refine wpAnyH_ready (rs := [10]) (by kernel_rfl) (by simp) ?_
              refine AllReadyH.cons (o := { dst := some 74, op := Op.call { callee := Callee.value (Operand.func 25), args := #[Operand.tmp 73], argTypes := #[24] }, type := 3, pos := "outright.go:52", after := #[{ on := 9, ground := Ground.data }, { on := 8, ground := Ground.chain }, { on := 6, ground := Ground.guard }], guard := some (6, true) }) rfl (fun K hK => ?_) AllReadyH.nil
              go_simp
              (refine (HKb.out _ hHeld.2.2.2.2.2.2.2.2.2.2.2.2).mono ?_)
              rintro e' wa ⟨rfl, HOa⟩
              go_wp2_with fail
              refine hK.out _ _ (HOa) (fun hHeld => ?_)
              clear hK K
              (try simp only [Act.put, List.setIfInBounds_toArray, List.set_cons_zero, List.set_cons_succ])
              refine wpAnyH_take (i := 11) (oi := { dst := some 75, op := Op.binOp BinOp.lss 3 (Operand.tmp 72) (Operand.tmp 74) 3, type := 4, pos := "outright.go:52", after := #[{ on := 8, ground := Ground.data }, { on := 10, ground := Ground.data }, { on := 6, ground := Ground.guard }], guard := some (6, true) }) (v := ?_) rfl (by kernel_rfl) (by kernel_rfl) (by kernel_rfl) (fun _ _ _ h => h) (Or.inl ⟨by rfl, ?_⟩) (by with_reducible assumption) ?_
              rotate_left
              · (intro w' hSw; (try dsimp only at hSw); first | (go_simp; done) | (go_simp; with_reducible rfl))
              (try simp only [Act.put, List.setIfInBounds_toArray, List.set_cons_zero, List.set_cons_succ])
              refine wpAnyH_take (i := 12) (oi := { dst := some 76, op := Op.pick (Operand.tmp 70) (Operand.tmp 75) (Operand.const (Value.bool false)), type := 4, pos := "outright.go:52", after := #[{ on := 6, ground := Ground.data }, { on := 11, ground := Ground.data }], guard := none }) (v := ?_) rfl (by kernel_rfl) (by kernel_rfl) (by kernel_rfl) (fun _ _ _ h => h) (Or.inl ⟨by rfl, ?_⟩) (by with_reducible assumption) ?_
              rotate_left
              · (intro w' hSw; (try dsimp only at hSw); first | (go_simp; done) | (go_simp; with_reducible rfl))
              (try simp only [Act.put, List.setIfInBounds_toArray, List.set_cons_zero, List.set_cons_succ])
              refine wpAnyH_take (i := 13) (oi := { dst := some 77, op := Op.move (Operand.tmp 76), type := 4, pos := "outright.go:52", after := #[{ on := 12, ground := Ground.data }, { on := 10, ground := Ground.chain }], guard := none }) (v := ?_) rfl (by kernel_rfl) (by kernel_rfl) (by kernel_rfl) (fun _ _ _ h => h) (Or.inl ⟨by rfl, ?_⟩) (by with_reducible assumption) ?_
              rotate_left
              · (intro w' hSw; (try dsimp only at hSw); first | (go_simp; done) | (go_simp; with_reducible rfl))
              (try simp only [Act.put, List.setIfInBounds_toArray, List.set_cons_zero, List.set_cons_succ])
              refine wpAnyH_take (i := 14) (oi := { dst := some 78, op := Op.move (Operand.tmp 7), type := 3, pos := "outright.go:52", after := #[{ on := 13, ground := Ground.guard }], guard := some (13, true) }) (v := undef) rfl (by kernel_rfl) (by kernel_rfl) (by kernel_rfl) (fun _ _ _ h => h) (Or.inr ⟨by rfl, rfl⟩) (by with_reducible assumption) ?_
              (try simp only [Act.put, List.setIfInBounds_toArray, List.set_cons_zero, List.set_cons_succ])
              refine wpAnyH_take (i := 15) (oi := { dst := some 79, op := Op.binOp BinOp.geq 3 (Operand.tmp 78) (Operand.const (Value.int IntKind.i64 0)) 3, type := 4, pos := "outright.go:52", after := #[{ on := 14, ground := Ground.data }, { on := 13, ground := Ground.guard }], guard := some (13, true) }) (v := undef) rfl (by kernel_rfl) (by kernel_rfl) (by kernel_rfl) (fun _ _ _ h => h) (Or.inr ⟨by rfl, rfl⟩) (by with_reducible assumption) ?_
              (try simp only [Act.put, List.setIfInBounds_toArray, List.set_cons_zero, List.set_cons_succ])
              refine wpAnyH_take (i := 16) (oi := { dst := some 80, op := Op.pick (Operand.tmp 77) (Operand.tmp 79) (Operand.const (Value.bool false)), type := 4, pos := "outright.go:52", after := #[{ on := 13, ground := Ground.data }, { on := 15, ground := Ground.data }], guard := none }) (v := ?_) rfl (by kernel_rfl) (by kernel_rfl) (by kernel_rfl) (fun _ _ _ h => h) (Or.inl ⟨by rfl, ?_⟩) (by with_reducible assumption) ?_
              rotate_left
              · (intro w' hSw; (try dsimp only at hSw); first | (go_simp; done) | (go_simp; with_reducible rfl))
              (try simp only [Act.put, List.setIfInBounds_toArray, List.set_cons_zero, List.set_cons_succ])
              refine wpAnyH_take (i := 17) (oi := { dst := some 81, op := Op.move (Operand.tmp 80), type := 4, pos := "outright.go:52", after := #[{ on := 16, ground := Ground.data }, { on := 13, ground := Ground.chain }], guard := none }) (v := ?_) rfl (by kernel_rfl) (by kernel_rfl) (by kernel_rfl) (fun _ _ _ h => h) (Or.inl ⟨by rfl, ?_⟩) (by with_reducible assumption) ?_
              rotate_left
              · (intro w' hSw; (try dsimp only at hSw); first | (go_simp; done) | (go_simp; with_reducible rfl))
              (try simp only [Act.put, List.setIfInBounds_toArray, List.set_cons_zero, List.set_cons_succ])
              refine wpAnyH_take (i := 18) (oi := { dst := some 82, op := Op.load 24 (Operand.tmp 3), type := 24, pos := "outright.go:52", after := #[{ on := 17, ground := Ground.guard }], guard := some (17, false) }) (v := ?_) rfl (by kernel_rfl) (by kernel_rfl) (by kernel_rfl) (fun _ _ _ h => h) (Or.inl ⟨by rfl, ?_⟩) (by with_reducible assumption) ?_
              rotate_left
              · (intro w' hSw; (try dsimp only at hSw); first | (go_simp; done) | (go_simp; with_reducible rfl))
              (try simp only [Act.put, List.setIfInBounds_toArray, List.set_cons_zero, List.set_cons_succ])
              refine wpAnyH_ready (rs := [19]) (by kernel_rfl) (by simp) ?_
              refine AllReadyH.cons (o := { dst := some 83, op := Op.call { callee := Callee.value (Operand.func 10), args := #[Operand.tmp 82], argTypes := #[24] }, type := 4, pos := "outright.go:52", after := #[{ on := 18, ground := Ground.data }, { on := 17, ground := Ground.chain }, { on := 17, ground := Ground.guard }], guard := some (17, false) }) rfl (fun K hK => ?_) AllReadyH.nil
              go_simp
              (refine (HRa.out _ hHeld.2.2.2.2.2.2.2.2.2.2.2.2).mono ?_)
              rintro e' wa ⟨rfl, HOa⟩
              go_wp2_with fail
              refine hK.out _ _ (HOa) (fun hHeld => ?_)
              clear hK K
              (try simp only [Act.put, List.setIfInBounds_toArray, List.set_cons_zero, List.set_cons_succ])
              refine wpAnyH_take (i := 20) (oi := { dst := some 84, op := Op.move (Operand.tmp 83), type := 4, pos := "outright.go:52", after := #[{ on := 19, ground := Ground.data }, { on := 19, ground := Ground.chain }, { on := 17, ground := Ground.guard }], guard := some (17, false) }) (v := ?_) rfl (by kernel_rfl) (by kernel_rfl) (by kernel_rfl) (fun _ _ _ h => h) (Or.inl ⟨by rfl, ?_⟩) (by with_reducible assumption) ?_
              rotate_left
              · (intro w' hSw; (try dsimp only at hSw); first | (go_simp; done) | (go_simp; with_reducible rfl))
              (try simp only [Act.put, List.setIfInBounds_toArray, List.set_cons_zero, List.set_cons_succ])
              refine wpAnyH_take (i := 21) (oi := { dst := some 85, op := Op.load 24 (Operand.tmp 4), type := 24, pos := "outright.go:52", after := #[{ on := 20, ground := Ground.guard }], guard := some (20, true) }) (v := ?_) rfl (by kernel_rfl) (by kernel_rfl) (by kernel_rfl) (fun _ _ _ h => h) (Or.inl ⟨by rfl, ?_⟩) (by with_reducible assumption) ?_
              rotate_left
              · (intro w' hSw; (try dsimp only at hSw); first | (go_simp; done) | (go_simp; with_reducible rfl))
              (try simp only [Act.put, List.setIfInBounds_toArray, List.set_cons_zero, List.set_cons_succ])
              refine wpAnyH_ready (rs := [22]) (by kernel_rfl) (by simp) ?_
              refine AllReadyH.cons (o := { dst := some 86, op := Op.call { callee := Callee.value (Operand.func 10), args := #[Operand.tmp 85], argTypes := #[24] }, type := 4, pos := "outright.go:52", after := #[{ on := 21, ground := Ground.data }, { on := 20, ground := Ground.chain }, { on := 20, ground := Ground.guard }], guard := some (20, true) }) rfl (fun K hK => ?_) AllReadyH.nil
              go_simp
              (refine (HRb.out _ hHeld.2.2.2.2.2.2.2.2.2.2.2.2).mono ?_)
              rintro e' wa ⟨rfl, HOa⟩
              go_wp2_with fail
              refine hK.out _ _ (HOa) (fun hHeld => ?_)
              clear hK K
              (try simp only [Act.put, List.setIfInBounds_toArray, List.set_cons_zero, List.set_cons_succ])
              refine wpAnyH_take (i := 23) (oi := { dst := some 87, op := Op.unOp UnOp.not 4 (Operand.tmp 86), type := 4, pos := "outright.go:52", after := #[{ on := 22, ground := Ground.data }, { on := 20, ground := Ground.guard }], guard := some (20, true) }) (v := ?_) rfl (by kernel_rfl) (by kernel_rfl) (by kernel_rfl) (fun _ _ _ h => h) (Or.inl ⟨by rfl, ?_⟩) (by with_reducible assumption) ?_
              rotate_left
              · (intro w' hSw; (try dsimp only at hSw); first | (go_simp; done) | (go_simp; with_reducible rfl))
              (try simp only [Act.put, List.setIfInBounds_toArray, List.set_cons_zero, List.set_cons_succ])
              refine wpAnyH_take (i := 24) (oi := { dst := some 88, op := Op.pick (Operand.tmp 84) (Operand.tmp 87) (Operand.const (Value.bool false)), type := 4, pos := "outright.go:52", after := #[{ on := 20, ground := Ground.data }, { on := 23, ground := Ground.data }, { on := 17, ground := Ground.guard }], guard := some (17, false) }) (v := ?_) rfl (by kernel_rfl) (by kernel_rfl) (by kernel_rfl) (fun _ _ _ h => h) (Or.inl ⟨by rfl, ?_⟩) (by with_reducible assumption) ?_
              rotate_left
              · (intro w' hSw; (try dsimp only at hSw); first | (go_simp; done) | (go_simp; with_reducible rfl))
              (try simp only [Act.put, List.setIfInBounds_toArray, List.set_cons_zero, List.set_cons_succ])
              refine wpAnyH_take (i := 25) (oi := { dst := some 89, op := Op.move (Operand.tmp 88), type := 4, pos := "outright.go:52", after := #[{ on := 24, ground := Ground.data }, { on := 22, ground := Ground.chain }, { on := 17, ground := Ground.guard }], guard := some (17, false) }) (v := ?_) rfl (by kernel_rfl) (by kernel_rfl) (by kernel_rfl) (fun _ _ _ h => h) (Or.inl ⟨by rfl, ?_⟩) (by with_reducible assumption) ?_
              rotate_left
              · (intro w' hSw; (try dsimp only at hSw); first | (go_simp; done) | (go_simp; with_reducible rfl))
              (try simp only [Act.put, List.setIfInBounds_toArray, List.set_cons_zero, List.set_cons_succ])
              refine wpAnyH_take (i := 26) (oi := { dst := some 90, op := Op.move (Operand.tmp 7), type := 3, pos := "outright.go:52", after := #[{ on := 25, ground := Ground.guard }], guard := some (25, true) }) (v := undef) rfl (by kernel_rfl) (by kernel_rfl) (by kernel_rfl) (fun _ _ _ h => h) (Or.inr ⟨by rfl, rfl⟩) (by with_reducible assumption) ?_
              (try simp only [Act.put, List.setIfInBounds_toArray, List.set_cons_zero, List.set_cons_succ])
              refine wpAnyH_take (i := 27) (oi := { dst := some 91, op := Op.binOp BinOp.geq 3 (Operand.tmp 90) (Operand.const (Value.int IntKind.i64 0)) 3, type := 4, pos := "outright.go:52", after := #[{ on := 26, ground := Ground.data }, { on := 25, ground := Ground.guard }], guard := some (25, true) }) (v := undef) rfl (by kernel_rfl) (by kernel_rfl) (by kernel_rfl) (fun _ _ _ h => h) (Or.inr ⟨by rfl, rfl⟩) (by with_reducible assumption) ?_
              (try simp only [Act.put, List.setIfInBounds_toArray, List.set_cons_zero, List.set_cons_succ])
              refine wpAnyH_take (i := 28) (oi := { dst := some 92, op := Op.pick (Operand.tmp 89) (Operand.tmp 91) (Operand.const (Value.bool false)), type := 4, pos := "outright.go:52", after := #[{ on := 25, ground := Ground.data }, { on := 27, ground := Ground.data }, { on := 17, ground := Ground.guard }], guard := some (17, false) }) (v := ?_) rfl (by kernel_rfl) (by kernel_rfl) (by kernel_rfl) (fun _ _ _ h => h) (Or.inl ⟨by rfl, ?_⟩) (by with_reducible assumption) ?_
              rotate_left
              · (intro w' hSw; (try dsimp only at hSw); first | (go_simp; done) | (go_simp; with_reducible rfl))
              (try simp only [Act.put, List.setIfInBounds_toArray, List.set_cons_zero, List.set_cons_succ])
              refine wpAnyH_take (i := 29) (oi := { dst := some 93, op := Op.pick (Operand.tmp 81) (Operand.const (Value.bool true)) (Operand.tmp 92), type := 4, pos := "outright.go:52", after := #[{ on := 17, ground := Ground.data }, { on := 28, ground := Ground.data }], guard := none }) (v := ?_) rfl (by kernel_rfl) (by kernel_rfl) (by kernel_rfl) (fun _ _ _ h => h) (Or.inl ⟨by rfl, ?_⟩) (by with_reducible assumption) ?_
              rotate_left
              · (intro w' hSw; (try dsimp only at hSw); first | (go_simp; done) | (go_simp; with_reducible rfl))
              (try simp only [Act.put, List.setIfInBounds_toArray, List.set_cons_zero, List.set_cons_succ])
              refine wpAnyH_done (by kernel_rfl) ?_ _
              refine NoPanic.normal ?_
              go_wp2_with fail
              go_meet
              case rel => exact ⟨rfl, tm3_of HA0.out HB0.out HC0.out hHeld.2.2.2.2.2.2.2.2.2.2.2.2⟩
      case rest =>
        obtain ⟨rfl, ta0, ta1, ta2, ta3, tb0, tb1, tb2, tb3, tc0, tc1, tc2, tc3, z3⟩ := hcut
        go_upto_region 12 with fail
        go_cut [8, 9] from 94 (fun v8 v9 wx => ∃ g1 g2, v8 = .pointer (some ⟨g1, 0, none⟩) ∧ v9 = .pointer (some ⟨g2, 0, none⟩) ∧ Hid (TrAt wx g1 a b c ∧ TrAt wx g2 a c b ∧ StU w1 wx))
        case first =>
          refine wp_region_noPanic ?_
          refine wp_region_held_drew (S := fun u => u.cell? ⟨w.heap.size, 0, none⟩ = some (.int .i64 a.k) ∧ u.cell? ⟨w.heap.size, 1, none⟩ = some (.string a.x) ∧ u.cell? ⟨w.heap.size, 2, none⟩ = some (.string a.g) ∧ u.cell? ⟨w.heap.size, 3, none⟩ = some (.string a.y) ∧ u.cell? ⟨w.heap.size + 1, 0, none⟩ = some (.int .i64 b.k) ∧ u.cell? ⟨w.heap.size + 1, 1, none⟩ = some (.string b.x) ∧ u.cell? ⟨w.heap.size + 1, 2, none⟩ = some (.string b.g) ∧ u.cell? ⟨w.heap.size + 1, 3, none⟩ = some (.string b.y) ∧ u.cell? ⟨w.heap.size + 1 + 1, 0, none⟩ = some (.int .i64 c.k) ∧ u.cell? ⟨w.heap.size + 1 + 1, 1, none⟩ = some (.string c.x) ∧ u.cell? ⟨w.heap.size + 1 + 1, 2, none⟩ = some (.string c.g) ∧ u.cell? ⟨w.heap.size + 1 + 1, 3, none⟩ = some (.string c.y) ∧ StU w1 u) (by kernel_rfl) (tm3_of HA0.out HB0.out HC0.out (hid (z3.out.drew))) (fun hHeld => ?_)
          refine wpAnyH_take (i := 0) (oi := { dst := some 94, op := Op.load 24 (Operand.tmp 3), type := 24, pos := "outright.go:55", after := #[], guard := none }) (v := ?_) rfl (by kernel_rfl) (by kernel_rfl) (by kernel_rfl) (fun _ _ _ h => h) (Or.inl ⟨by rfl, ?_⟩) (by with_reducible assumption) ?_
          rotate_left
          · (intro w' hSw; (try dsimp only at hSw); first | (go_simp; done) | (go_simp; with_reducible rfl))
          (try simp only [Act.put, List.setIfInBounds_toArray, List.set_cons_zero, List.set_cons_succ])
          refine wpAnyH_take (i := 1) (oi := { dst := some 95, op := Op.load 24 (Operand.tmp 4), type := 24, pos := "outright.go:55", after := #[], guard := none }) (v := ?_) rfl (by kernel_rfl) (by kernel_rfl) (by kernel_rfl) (fun _ _ _ h => h) (Or.inl ⟨by rfl, ?_⟩) (by with_reducible assumption) ?_
          rotate_left
          · (intro w' hSw; (try dsimp only at hSw); first | (go_simp; done) | (go_simp; with_reducible rfl))
          (try simp only [Act.put, List.setIfInBounds_toArray, List.set_cons_zero, List.set_cons_succ])
          refine wpAnyH_take (i := 2) (oi := { dst := some 96, op := Op.load 24 (Operand.tmp 5), type := 24, pos := "outright.go:55", after := #[], guard := none }) (v := ?_) rfl (by kernel_rfl) (by kernel_rfl) (by kernel_rfl) (fun _ _ _ h => h) (Or.inl ⟨by rfl, ?_⟩) (by with_reducible assumption) ?_
          rotate_left
          · (intro w' hSw; (try dsimp only at hSw); first | (go_simp; done) | (go_simp; with_reducible rfl))
          (try simp only [Act.put, List.setIfInBounds_toArray, List.set_cons_zero, List.set_cons_succ])
          refine wpAnyH_take (i := 3) (oi := { dst := some 97, op := Op.build 36 #[(0, Operand.tmp 94), (1, Operand.tmp 95), (2, Operand.tmp 96)], type := 36, pos := "outright.go:55", after := #[{ on := 0, ground := Ground.data }, { on := 1, ground := Ground.data }, { on := 2, ground := Ground.data }], guard := none }) (v := ?_) rfl (by kernel_rfl) (by kernel_rfl) (by kernel_rfl) (fun _ _ _ h => h) (Or.inl ⟨by rfl, ?_⟩) (by with_reducible assumption) ?_
          rotate_left
          · (intro w' hSw; (try dsimp only at hSw); first | (go_simp; done) | (go_simp; with_reducible rfl))
          (try simp only [Act.put, List.setIfInBounds_toArray, List.set_cons_zero, List.set_cons_succ])
          refine wpAnyH_take (i := 4) (oi := { dst := some 98, op := Op.load 24 (Operand.tmp 3), type := 24, pos := "outright.go:55", after := #[{ on := 10, ground := Ground.gcOnly Departure.lateStores }], guard := none }) (v := ?_) rfl (by kernel_rfl) (by kernel_rfl) (by kernel_rfl) (fun _ _ _ h => h) (Or.inl ⟨by rfl, ?_⟩) (by with_reducible assumption) ?_
          rotate_left
          · (intro w' hSw; (try dsimp only at hSw); first | (go_simp; done) | (go_simp; with_reducible rfl))
          (try simp only [Act.put, List.setIfInBounds_toArray, List.set_cons_zero, List.set_cons_succ])
          refine wpAnyH_take (i := 5) (oi := { dst := some 99, op := Op.load 24 (Operand.tmp 5), type := 24, pos := "outright.go:55", after := #[{ on := 10, ground := Ground.gcOnly Departure.lateStores }], guard := none }) (v := ?_) rfl (by kernel_rfl) (by kernel_rfl) (by kernel_rfl) (fun _ _ _ h => h) (Or.inl ⟨by rfl, ?_⟩) (by with_reducible assumption) ?_
          rotate_left
          · (intro w' hSw; (try dsimp only at hSw); first | (go_simp; done) | (go_simp; with_reducible rfl))
          (try simp only [Act.put, List.setIfInBounds_toArray, List.set_cons_zero, List.set_cons_succ])
          refine wpAnyH_take (i := 6) (oi := { dst := some 100, op := Op.load 24 (Operand.tmp 4), type := 24, pos := "outright.go:55", after := #[{ on := 10, ground := Ground.gcOnly Departure.lateStores }], guard := none }) (v := ?_) rfl (by kernel_rfl) (by kernel_rfl) (by kernel_rfl) (fun _ _ _ h => h) (Or.inl ⟨by rfl, ?_⟩) (by with_reducible assumption) ?_
          rotate_left
          · (intro w' hSw; (try dsimp only at hSw); first | (go_simp; done) | (go_simp; with_reducible rfl))
          (try simp only [Act.put, List.setIfInBounds_toArray, List.set_cons_zero, List.set_cons_succ])
          refine wpAnyH_take (i := 7) (oi := { dst := some 101, op := Op.build 36 #[(0, Operand.tmp 98), (1, Operand.tmp 99), (2, Operand.tmp 100)], type := 36, pos := "outright.go:55", after := #[{ on := 4, ground := Ground.data }, { on := 5, ground := Ground.data }, { on := 6, ground := Ground.data }, { on := 10, ground := Ground.gcOnly Departure.lateStores }], guard := none }) (v := ?_) rfl (by kernel_rfl) (by kernel_rfl) (by kernel_rfl) (fun _ _ _ h => h) (Or.inl ⟨by rfl, ?_⟩) (by with_reducible assumption) ?_
          rotate_left
          · (intro w' hSw; (try dsimp only at hSw); first | (go_simp; done) | (go_simp; with_reducible rfl))
          (try simp only [Act.put, List.setIfInBounds_toArray, List.set_cons_zero, List.set_cons_succ])
          refine wpAnyH_ready (rs := [8, 9]) (by kernel_rfl) (by simp) ?_
          refine AllReadyH.cons (o := { dst := some 8, op := Op.alloc 36, type := 0, pos := "outright.go:55", after := #[], guard := none }) rfl (fun K hK => ?_) (AllReadyH.cons (o := { dst := some 9, op := Op.alloc 36, type := 0, pos := "outright.go:55", after := #[], guard := none }) rfl (fun K hK => ?_) AllReadyH.nil)
          · skip
            go_simp
            refine hK.out _ _ (tm3_of HA0.out HB0.out HC0.out (hid (by repeat (first | exact z3.out | refine Only.alloc ?_ _ | refine Only.drew ?_)))) (fun hHeld => ?_)
            clear hK K
            (try simp only [Act.put, List.setIfInBounds_toArray, List.set_cons_zero, List.set_cons_succ])
            refine wpAnyH_ready (rs := [9]) (by kernel_rfl) (by simp) ?_
            refine AllReadyH.cons (o := { dst := some 9, op := Op.alloc 36, type := 0, pos := "outright.go:55", after := #[], guard := none }) rfl (fun K hK => ?_) AllReadyH.nil
            go_simp
            refine hK.out _ _ (tm3_of HA0.out HB0.out HC0.out (hid (by repeat (first | exact z3.out | refine Only.alloc ?_ _ | refine Only.drew ?_)))) (fun hHeld => ?_)
            clear hK K
            (try simp only [Act.put, List.setIfInBounds_toArray, List.set_cons_zero, List.set_cons_succ])
            refine wpAnyH_ready (rs := [10]) (by kernel_rfl) (by simp) ?_
            refine AllReadyH.cons (o := { dst := none, op := Op.store 36 (Operand.tmp 8) (Operand.tmp 97), type := 0, pos := "outright.go:55", after := #[{ on := 8, ground := Ground.data }, { on := 3, ground := Ground.data }, { on := 0, ground := Ground.phase }, { on := 1, ground := Ground.phase }, { on := 2, ground := Ground.phase }, { on := 3, ground := Ground.phase }, { on := 4, ground := Ground.textOnly Departure.lateStores }, { on := 5, ground := Ground.textOnly Departure.lateStores }, { on := 6, ground := Ground.textOnly Departure.lateStores }, { on := 7, ground := Ground.textOnly Departure.lateStores }, { on := 8, ground := Ground.phase }, { on := 9, ground := Ground.phase }], guard := none }) rfl (fun K hK => ?_) AllReadyH.nil
            go_simp
            refine hK.out _ _ (tm3_of HA0.out HB0.out HC0.out (hid (by repeat (first | exact z3.out | refine Only.alloc ?_ _ | refine Only.drew ?_)))) (fun hHeld => ?_)
            clear hK K
            (try simp only [Act.put, List.setIfInBounds_toArray, List.set_cons_zero, List.set_cons_succ])
            refine wpAnyH_ready (rs := [11]) (by kernel_rfl) (by simp) ?_
            refine AllReadyH.cons (o := { dst := none, op := Op.store 36 (Operand.tmp 9) (Operand.tmp 101), type := 0, pos := "outright.go:55", after := #[{ on := 9, ground := Ground.data }, { on := 7, ground := Ground.data }, { on := 10, ground := Ground.chain }, { on := 0, ground := Ground.phase }, { on := 1, ground := Ground.phase }, { on := 2, ground := Ground.phase }, { on := 3, ground := Ground.phase }, { on := 4, ground := Ground.phase }, { on := 5, ground := Ground.phase }, { on := 6, ground := Ground.phase }, { on := 7, ground := Ground.phase }, { on := 8, ground := Ground.phase }, { on := 9, ground := Ground.phase }, { on := 10, ground := Ground.phase }], guard := none }) rfl (fun K hK => ?_) AllReadyH.nil
            go_simp
            refine hK.out _ _ (tm3_of HA0.out HB0.out HC0.out (hid (by repeat (first | exact z3.out | refine Only.alloc ?_ _ | refine Only.drew ?_)))) (fun hHeld => ?_)
            clear hK K
            (try simp only [Act.put, List.setIfInBounds_toArray, List.set_cons_zero, List.set_cons_succ])
            refine wpAnyH_done (by kernel_rfl) ?_ _
            refine NoPanic.normal ?_
            go_wp2_with fail
            go_meet
            case rel => first | exact ⟨_, _, rfl, rfl, new5 z3⟩ | (exact ⟨_, _, rfl, rfl, hid ⟨(new5 z3).out.2.1, (new5 z3).out.1, (new5 z3).out.2.2⟩⟩)
          · skip
            go_simp
            refine hK.out _ _ (tm3_of HA0.out HB0.out HC0.out (hid (by repeat (first | exact z3.out | refine Only.alloc ?_ _ | refine Only.drew ?_)))) (fun hHeld => ?_)
            clear hK K
            (try simp only [Act.put, List.setIfInBounds_toArray, List.set_cons_zero, List.set_cons_succ])
            refine wpAnyH_ready (rs := [8]) (by kernel_rfl) (by simp) ?_
            refine AllReadyH.cons (o := { dst := some 8, op := Op.alloc 36, type := 0, pos := "outright.go:55", after := #[], guard := none }) rfl (fun K hK => ?_) AllReadyH.nil
            go_simp
            refine hK.out _ _ (tm3_of HA0.out HB0.out HC0.out (hid (by repeat (first | exact z3.out | refine Only.alloc ?_ _ | refine Only.drew ?_)))) (fun hHeld => ?_)
            clear hK K
            (try simp only [Act.put, List.setIfInBounds_toArray, List.set_cons_zero, List.set_cons_succ])
            refine wpAnyH_ready (rs := [10]) (by kernel_rfl) (by simp) ?_
            refine AllReadyH.cons (o := { dst := none, op := Op.store 36 (Operand.tmp 8) (Operand.tmp 97), type := 0, pos := "outright.go:55", after := #[{ on := 8, ground := Ground.data }, { on := 3, ground := Ground.data }, { on := 0, ground := Ground.phase }, { on := 1, ground := Ground.phase }, { on := 2, ground := Ground.phase }, { on := 3, ground := Ground.phase }, { on := 4, ground := Ground.textOnly Departure.lateStores }, { on := 5, ground := Ground.textOnly Departure.lateStores }, { on := 6, ground := Ground.textOnly Departure.lateStores }, { on := 7, ground := Ground.textOnly Departure.lateStores }, { on := 8, ground := Ground.phase }, { on := 9, ground := Ground.phase }], guard := none }) rfl (fun K hK => ?_) AllReadyH.nil
            go_simp
            refine hK.out _ _ (tm3_of HA0.out HB0.out HC0.out (hid (by repeat (first | exact z3.out | refine Only.alloc ?_ _ | refine Only.drew ?_)))) (fun hHeld => ?_)
            clear hK K
            (try simp only [Act.put, List.setIfInBounds_toArray, List.set_cons_zero, List.set_cons_succ])
            refine wpAnyH_ready (rs := [11]) (by kernel_rfl) (by simp) ?_
            refine AllReadyH.cons (o := { dst := none, op := Op.store 36 (Operand.tmp 9) (Operand.tmp 101), type := 0, pos := "outright.go:55", after := #[{ on := 9, ground := Ground.data }, { on := 7, ground := Ground.data }, { on := 10, ground := Ground.chain }, { on := 0, ground := Ground.phase }, { on := 1, ground := Ground.phase }, { on := 2, ground := Ground.phase }, { on := 3, ground := Ground.phase }, { on := 4, ground := Ground.phase }, { on := 5, ground := Ground.phase }, { on := 6, ground := Ground.phase }, { on := 7, ground := Ground.phase }, { on := 8, ground := Ground.phase }, { on := 9, ground := Ground.phase }, { on := 10, ground := Ground.phase }], guard := none }) rfl (fun K hK => ?_) AllReadyH.nil
            go_simp
            refine hK.out _ _ (tm3_of HA0.out HB0.out HC0.out (hid (by repeat (first | exact z3.out | refine Only.alloc ?_ _ | refine Only.drew ?_)))) (fun hHeld => ?_)
            clear hK K
            (try simp only [Act.put, List.setIfInBounds_toArray, List.set_cons_zero, List.set_cons_succ])
            refine wpAnyH_done (by kernel_rfl) ?_ _
            refine NoPanic.normal ?_
            go_wp2_with fail
            go_meet
            case rel => first | exact ⟨_, _, rfl, rfl, new5 z3⟩ | (exact ⟨_, _, rfl, rfl, hid ⟨(new5 z3).out.2.1, (new5 z3).out.1, (new5 z3).out.2.2⟩⟩)
        case rest =>
          obtain ⟨g1, g2, rfl, rfl, HX⟩ := hcut
          have HA2 : Hid (TmAt wc w.heap.size a) := hid (HX.out.2.2.out.row HA0.out no_)
          have HB2 : Hid (TmAt wc (w.heap.size + 1) b) := hid (HX.out.2.2.out.row HB0.out no_)
          have HC2 : Hid (TmAt wc (w.heap.size + 1 + 1) c) := hid (HX.out.2.2.out.row HC0.out no_)
          have z6 := tr5_of HA2.out HB2.out HC2.out HX.out.1 HX.out.2.1 (hid (Only.refl _ wc))
          obtain ⟨pa0, pa1, pa2, pa3, pb0, pb1, pb2, pb3, pc0, pc1, pc2, pc3, px0, px1, px2, px3, px4, px5, px6, px7, px8, px9, px10, px11, py0, py1, py2, py3, py4, py5, py6, py7, py8, py9, py10, py11, z6⟩ := z6
          obtain ⟨F, HF⟩ : ∃ F, Hid (F = firstZ np nac) := ⟨_, hid rfl⟩
          have HT1 : Hid (∀ W, StU wc W → Calls Tryd.prog 23 #[.agg #[.int .i64 a.k, .string a.x, .string a.g, .string a.y, .int .i64 b.k, .string b.x, .string b.g, .string b.y, .int .i64 c.k, .string c.x, .string c.g, .string c.y], .agg #[.int .i64 a.k, .string a.x, .string a.g, .string a.y, .int .i64 c.k, .string c.x, .string c.g, .string c.y, .int .i64 b.k, .string b.x, .string b.g, .string b.y]] W fun e' w' => e' = .returned (.int .i64 nbc) ∧ Tr5 wc w.heap.size (w.heap.size + 1) (w.heap.size + 1 + 1) g1 g2 a b c w') := hid fun W hW => (HTr.out a b c a c b W Hsz.out.1 Hsz.out.2.1 Hsz.out.2.2 Hsz.out.1 Hsz.out.2.2 Hsz.out.2.1 (hid (HX.out.2.2.out.trans hW.out))).mono fun e' w' h2 => ⟨by rw [h2.1, tri_swap, Hbc.out], tr5_of HA2.out HB2.out HC2.out HX.out.1 HX.out.2.1 (hid (hW.out.trans h2.2.out))⟩
          have HT2 : Hid (∀ W, StU wc W → Calls Tryd.prog 23 #[.agg #[.int .i64 a.k, .string a.x, .string a.g, .string a.y, .int .i64 b.k, .string b.x, .string b.g, .string b.y, .int .i64 c.k, .string c.x, .string c.g, .string c.y], .agg #[.int .i64 a.k, .string a.x, .string a.g, .string a.y, .int .i64 b.k, .string b.x, .string b.g, .string b.y, .int .i64 c.k, .string c.x, .string c.g, .string c.y]] W fun e' w' => e' = .returned (.int .i64 0) ∧ Tr5 wc w.heap.size (w.heap.size + 1) (w.heap.size + 1 + 1) g1 g2 a b c w') := hid fun W hW => (HTr.out a b c a b c W Hsz.out.1 Hsz.out.2.1 Hsz.out.2.2 Hsz.out.1 Hsz.out.2.1 Hsz.out.2.2 (hid (HX.out.2.2.out.trans hW.out))).mono fun e' w' h2 => ⟨by rw [h2.1, tri_self], tr5_of HA2.out HB2.out HC2.out HX.out.1 HX.out.2.1 (hid (hW.out.trans h2.2.out))⟩
          have HT3 : Hid (∀ W, StU wc W → Calls Tryd.prog 23 #[.agg #[.int .i64 b.k, .string b.x, .string b.g, .string b.y, .int .i64 a.k, .string a.x, .string a.g, .string a.y, .int .i64 a.k, .string a.x, .string a.g, .string a.y], .agg #[.int .i64 a.k, .string a.x, .string a.g, .string a.y, .int .i64 c.k, .string c.x, .string c.g, .string c.y, .int .i64 c.k, .string c.x, .string c.g, .string c.y]] W fun e' w' => e' = .returned (.int .i64 F) ∧ Tr5 wc w.heap.size (w.heap.size + 1) (w.heap.size + 1 + 1) g1 g2 a b c w') := hid fun W hW => (HTr.out b a a a c c W Hsz.out.2.1 Hsz.out.1 Hsz.out.1 Hsz.out.1 Hsz.out.2.2 Hsz.out.2.2 (hid (HX.out.2.2.out.trans hW.out))).mono fun e' w' h2 => ⟨by rw [h2.1, tri_first, HF.out, Hnp.out, Hac.out], tr5_of HA2.out HB2.out HC2.out HX.out.1 HX.out.2.1 (hid (hW.out.trans h2.2.out))⟩
          have HD1 : Hid (∀ W, StU wc W → Calls Tryd.prog 12 #[.agg #[.int .i64 b.k, .string b.x, .string b.g, .string b.y], .agg #[.int .i64 c.k, .string c.x, .string c.g, .string c.y]] W fun e' w' => e' = .returned (.int .i64 nbc) ∧ Tr5 wc w.heap.size (w.heap.size + 1) (w.heap.size + 1 + 1) g1 g2 a b c w') := hid fun W hW => (HTc.out b c W Hsz.out.2.1 Hsz.out.2.2 (hid (HX.out.2.2.out.trans hW.out))).mono fun e' w' h2 => ⟨by rw [h2.1, Hbc.out], tr5_of HA2.out HB2.out HC2.out HX.out.1 HX.out.2.1 (hid (hW.out.trans h2.2.out))⟩
          have HD2 : Hid (∀ W, StU wc W → Calls Tryd.prog 12 #[.agg #[.int .i64 a.k, .string a.x, .string a.g, .string a.y], .agg #[.int .i64 c.k, .string c.x, .string c.g, .string c.y]] W fun e' w' => e' = .returned (.int .i64 nac) ∧ Tr5 wc w.heap.size (w.heap.size + 1) (w.heap.size + 1 + 1) g1 g2 a b c w') := hid fun W hW => (HTc.out a c W Hsz.out.1 Hsz.out.2.2 (hid (HX.out.2.2.out.trans hW.out))).mono fun e' w' h2 => ⟨by rw [h2.1, Hac.out], tr5_of HA2.out HB2.out HC2.out HX.out.1 HX.out.2.1 (hid (hW.out.trans h2.2.out))⟩
          have HFi : Hid (∀ W, Calls Tryd.prog 26 #[.int .i64 np, .int .i64 nac] W fun e' w' => e' = .returned (.int .i64 F) ∧ W = w') := hid fun W => (first_any np nac W).mono fun e' w' h2 => ⟨by rw [h2.1, HF.out], h2.2⟩
          have q1 : IntKind.i64.wrap (-n) = np := by rw [hN.out, IntKind.wrap_i64]; have := hL.out; omega
          have q2 : (nbc == nbc) = true := beq_self_eq_true _
          have q3 : (F == F) = true := beq_self_eq_true _
          clear HTr HTc HAw HCaa HCab HCba HCbc HCac HRa HRb HKa HKb HZ hE hB hTr hRk hRl
          go_wp2_with (first
            | (go_at_call 23; (with_reducible show Calls _ _ #[Value.agg #[Value.int IntKind.i64 a.k, Value.string a.x, Value.string a.g, Value.string a.y, Value.int IntKind.i64 b.k, Value.string b.x, Value.string b.g, Value.string b.y, Value.int IntKind.i64 c.k, Value.string c.x, Value.string c.g, Value.string c.y], Value.agg #[Value.int IntKind.i64 a.k, Value.string a.x, Value.string a.g, Value.string a.y, Value.int IntKind.i64 c.k, Value.string c.x, Value.string c.g, Value.string c.y, Value.int IntKind.i64 b.k, Value.string b.x, Value.string b.g, Value.string b.y]] _ _); refine (HT1.out _ z6).mono ?_; rintro e' wk ⟨rfl, ka0, ka1, ka2, ka3, kb0, kb1, kb2, kb3, kc0, kc1, kc2, kc3, kx0, kx1, kx2, kx3, kx4, kx5, kx6, kx7, kx8, kx9, kx10, kx11, ky0, ky1, ky2, ky3, ky4, ky5, ky6, ky7, ky8, ky9, ky10, ky11, z7⟩))
          refine wp_region_noPanic ?_
          refine wp_region_held_drew (S := fun u => u.cell? ⟨w.heap.size, 0, none⟩ = some (.int .i64 a.k) ∧ u.cell? ⟨w.heap.size, 1, none⟩ = some (.string a.x) ∧ u.cell? ⟨w.heap.size, 2, none⟩ = some (.string a.g) ∧ u.cell? ⟨w.heap.size, 3, none⟩ = some (.string a.y) ∧ u.cell? ⟨w.heap.size + 1, 0, none⟩ = some (.int .i64 b.k) ∧ u.cell? ⟨w.heap.size + 1, 1, none⟩ = some (.string b.x) ∧ u.cell? ⟨w.heap.size + 1, 2, none⟩ = some (.string b.g) ∧ u.cell? ⟨w.heap.size + 1, 3, none⟩ = some (.string b.y) ∧ u.cell? ⟨w.heap.size + 1 + 1, 0, none⟩ = some (.int .i64 c.k) ∧ u.cell? ⟨w.heap.size + 1 + 1, 1, none⟩ = some (.string c.x) ∧ u.cell? ⟨w.heap.size + 1 + 1, 2, none⟩ = some (.string c.g) ∧ u.cell? ⟨w.heap.size + 1 + 1, 3, none⟩ = some (.string c.y) ∧ u.cell? ⟨g1, 0, none⟩ = some (.int .i64 a.k) ∧ u.cell? ⟨g1, 1, none⟩ = some (.string a.x) ∧ u.cell? ⟨g1, 2, none⟩ = some (.string a.g) ∧ u.cell? ⟨g1, 3, none⟩ = some (.string a.y) ∧ u.cell? ⟨g1, 4, none⟩ = some (.int .i64 b.k) ∧ u.cell? ⟨g1, 5, none⟩ = some (.string b.x) ∧ u.cell? ⟨g1, 6, none⟩ = some (.string b.g) ∧ u.cell? ⟨g1, 7, none⟩ = some (.string b.y) ∧ u.cell? ⟨g1, 8, none⟩ = some (.int .i64 c.k) ∧ u.cell? ⟨g1, 9, none⟩ = some (.string c.x) ∧ u.cell? ⟨g1, 10, none⟩ = some (.string c.g) ∧ u.cell? ⟨g1, 11, none⟩ = some (.string c.y) ∧ u.cell? ⟨g2, 0, none⟩ = some (.int .i64 a.k) ∧ u.cell? ⟨g2, 1, none⟩ = some (.string a.x) ∧ u.cell? ⟨g2, 2, none⟩ = some (.string a.g) ∧ u.cell? ⟨g2, 3, none⟩ = some (.string a.y) ∧ u.cell? ⟨g2, 4, none⟩ = some (.int .i64 c.k) ∧ u.cell? ⟨g2, 5, none⟩ = some (.string c.x) ∧ u.cell? ⟨g2, 6, none⟩ = some (.string c.g) ∧ u.cell? ⟨g2, 7, none⟩ = some (.string c.y) ∧ u.cell? ⟨g2, 8, none⟩ = some (.int .i64 b.k) ∧ u.cell? ⟨g2, 9, none⟩ = some (.string b.x) ∧ u.cell? ⟨g2, 10, none⟩ = some (.string b.g) ∧ u.cell? ⟨g2, 11, none⟩ = some (.string b.y) ∧ StU wc u) (by kernel_rfl) (tr5_of HA2.out HB2.out HC2.out HX.out.1 HX.out.2.1 (hid (z7.out.drew))) (fun hHeld => ?_)
          refine wpAnyH_take (i := 0) (oi := { dst := some 105, op := Op.move (Operand.tmp 10), type := 3, pos := "outright.go:57", after := #[], guard := none }) (v := ?_) rfl (by kernel_rfl) (by kernel_rfl) (by kernel_rfl) (fun _ _ _ h => h) (Or.inl ⟨by rfl, ?_⟩) (by with_reducible assumption) ?_
          rotate_left
          · (intro w' hSw; (try dsimp only at hSw); first | (go_simp; done) | (go_simp; with_reducible rfl))
          (try simp only [Act.put, List.setIfInBounds_toArray, List.set_cons_zero, List.set_cons_succ])
          refine wpAnyH_take (i := 1) (oi := { dst := some 106, op := Op.load 24 (Operand.tmp 4), type := 24, pos := "outright.go:57", after := #[], guard := none }) (v := ?_) rfl (by kernel_rfl) (by kernel_rfl) (by kernel_rfl) (fun _ _ _ h => h) (Or.inl ⟨by rfl, ?_⟩) (by with_reducible assumption) ?_
          rotate_left
          · (intro w' hSw; (try dsimp only at hSw); first | (go_simp; done) | (go_simp; with_reducible rfl))
          (try simp only [Act.put, List.setIfInBounds_toArray, List.set_cons_zero, List.set_cons_succ])
          refine wpAnyH_take (i := 2) (oi := { dst := some 107, op := Op.load 24 (Operand.tmp 5), type := 24, pos := "outright.go:57", after := #[], guard := none }) (v := ?_) rfl (by kernel_rfl) (by kernel_rfl) (by kernel_rfl) (fun _ _ _ h => h) (Or.inl ⟨by rfl, ?_⟩) (by with_reducible assumption) ?_
          rotate_left
          · (intro w' hSw; (try dsimp only at hSw); first | (go_simp; done) | (go_simp; with_reducible rfl))
          (try simp only [Act.put, List.setIfInBounds_toArray, List.set_cons_zero, List.set_cons_succ])
          refine wpAnyH_ready (rs := [3]) (by kernel_rfl) (by simp) ?_
          refine AllReadyH.cons (o := { dst := some 108, op := Op.call { callee := Callee.value (Operand.func 12), args := #[Operand.tmp 106, Operand.tmp 107], argTypes := #[24, 24] }, type := 3, pos := "outright.go:57", after := #[{ on := 1, ground := Ground.data }, { on := 2, ground := Ground.data }], guard := none }) rfl (fun K hK => ?_) AllReadyH.nil
          go_simp
          (refine (HD1.out _ hHeld.2.2.2.2.2.2.2.2.2.2.2.2.2.2.2.2.2.2.2.2.2.2.2.2.2.2.2.2.2.2.2.2.2.2.2.2).mono ?_)
          rintro e' wa ⟨rfl, HOa⟩
          go_wp2_with fail
          refine hK.out _ _ (HOa) (fun hHeld => ?_)
          clear hK K
          (try simp only [Act.put, List.setIfInBounds_toArray, List.set_cons_zero, List.set_cons_succ])
          refine wpAnyH_take (i := 4) (oi := { dst := some 109, op := Op.binOp BinOp.eql 3 (Operand.tmp 105) (Operand.tmp 108) 3, type := 4, pos := "outright.go:57", after := #[{ on := 0, ground := Ground.data }, { on := 3, ground := Ground.data }], guard := none }) (v := ?_) rfl (by kernel_rfl) (by kernel_rfl) (by kernel_rfl) (fun _ _ _ h => h) (Or.inl ⟨by rfl, ?_⟩) (by with_reducible assumption) ?_
          rotate_left
          · (intro w' hSw; (try dsimp only at hSw); first | (go_simp; done) | (go_simp; with_reducible rfl))
          (try simp only [Act.put, List.setIfInBounds_toArray, List.set_cons_zero, List.set_cons_succ])
          refine wpAnyH_take (i := 5) (oi := { dst := some 110, op := Op.move (Operand.tmp 109), type := 4, pos := "outright.go:57", after := #[{ on := 4, ground := Ground.data }, { on := 3, ground := Ground.chain }], guard := none }) (v := ?_) rfl (by kernel_rfl) (by kernel_rfl) (by kernel_rfl) (fun _ _ _ h => h) (Or.inl ⟨by rfl, ?_⟩) (by with_reducible assumption) ?_
          rotate_left
          · (intro w' hSw; (try dsimp only at hSw); first | (go_simp; done) | (go_simp; with_reducible rfl))
          (try simp only [Act.put, List.setIfInBounds_toArray, List.set_cons_zero, List.set_cons_succ])
          refine wpAnyH_take (i := 6) (oi := { dst := some 111, op := Op.load 36 (Operand.tmp 8), type := 36, pos := "outright.go:57", after := #[{ on := 5, ground := Ground.guard }], guard := some (5, true) }) (v := ?_) rfl (by kernel_rfl) (by kernel_rfl) (by kernel_rfl) (fun _ _ _ h => h) (Or.inl ⟨by rfl, ?_⟩) (by with_reducible assumption) ?_
          rotate_left
          · (intro w' hSw; (try dsimp only at hSw); first | (go_simp; done) | (go_simp; with_reducible rfl))
          (try simp only [Act.put, List.setIfInBounds_toArray, List.set_cons_zero, List.set_cons_succ])
          refine wpAnyH_take (i := 7) (oi := { dst := some 112, op := Op.load 36 (Operand.tmp 8), type := 36, pos := "outright.go:57", after := #[{ on := 5, ground := Ground.guard }], guard := some (5, true) }) (v := ?_) rfl (by kernel_rfl) (by kernel_rfl) (by kernel_rfl) (fun _ _ _ h => h) (Or.inl ⟨by rfl, ?_⟩) (by with_reducible assumption) ?_
          rotate_left
          · (intro w' hSw; (try dsimp only at hSw); first | (go_simp; done) | (go_simp; with_reducible rfl))
          (try simp only [Act.put, List.setIfInBounds_toArray, List.set_cons_zero, List.set_cons_succ])
          refine wpAnyH_ready (rs := [8]) (by kernel_rfl) (by simp) ?_
          refine AllReadyH.cons (o := { dst := some 113, op := Op.call { callee := Callee.value (Operand.func 23), args := #[Operand.tmp 111, Operand.tmp 112], argTypes := #[36, 36] }, type := 3, pos := "outright.go:57", after := #[{ on := 6, ground := Ground.data }, { on := 7, ground := Ground.data }, { on := 5, ground := Ground.chain }, { on := 5, ground := Ground.guard }], guard := some (5, true) }) rfl (fun K hK => ?_) AllReadyH.nil
          go_simp
          (refine (HT2.out _ hHeld.2.2.2.2.2.2.2.2.2.2.2.2.2.2.2.2.2.2.2.2.2.2.2.2.2.2.2.2.2.2.2.2.2.2.2.2).mono ?_)
          rintro e' wa ⟨rfl, HOa⟩
          go_wp2_with fail
          refine hK.out _ _ (HOa) (fun hHeld => ?_)
          clear hK K
          (try simp only [Act.put, List.setIfInBounds_toArray, List.set_cons_zero, List.set_cons_succ])
          refine wpAnyH_take (i := 9) (oi := { dst := some 114, op := Op.binOp BinOp.eql 3 (Operand.tmp 113) (Operand.const (Value.int IntKind.i64 0)) 3, type := 4, pos := "outright.go:57", after := #[{ on := 8, ground := Ground.data }, { on := 5, ground := Ground.guard }], guard := some (5, true) }) (v := ?_) rfl (by kernel_rfl) (by kernel_rfl) (by kernel_rfl) (fun _ _ _ h => h) (Or.inl ⟨by rfl, ?_⟩) (by with_reducible assumption) ?_
          rotate_left
          · (intro w' hSw; (try dsimp only at hSw); first | (go_simp; done) | (go_simp; with_reducible rfl))
          (try simp only [Act.put, List.setIfInBounds_toArray, List.set_cons_zero, List.set_cons_succ])
          refine wpAnyH_take (i := 10) (oi := { dst := some 115, op := Op.pick (Operand.tmp 110) (Operand.tmp 114) (Operand.const (Value.bool false)), type := 4, pos := "outright.go:57", after := #[{ on := 5, ground := Ground.data }, { on := 9, ground := Ground.data }], guard := none }) (v := ?_) rfl (by kernel_rfl) (by kernel_rfl) (by kernel_rfl) (fun _ _ _ h => h) (Or.inl ⟨by rfl, ?_⟩) (by with_reducible assumption) ?_
          rotate_left
          · (intro w' hSw; (try dsimp only at hSw); first | (go_simp; done) | (go_simp; with_reducible rfl))
          (try simp only [Act.put, List.setIfInBounds_toArray, List.set_cons_zero, List.set_cons_succ])
          refine wpAnyH_take (i := 11) (oi := { dst := some 116, op := Op.move (Operand.tmp 115), type := 4, pos := "outright.go:57", after := #[{ on := 10, ground := Ground.data }, { on := 8, ground := Ground.chain }], guard := none }) (v := ?_) rfl (by kernel_rfl) (by kernel_rfl) (by kernel_rfl) (fun _ _ _ h => h) (Or.inl ⟨by rfl, ?_⟩) (by with_reducible assumption) ?_
          rotate_left
          · (intro w' hSw; (try dsimp only at hSw); first | (go_simp; done) | (go_simp; with_reducible rfl))
          (try simp only [Act.put, List.setIfInBounds_toArray, List.set_cons_zero, List.set_cons_succ])
          refine wpAnyH_take (i := 12) (oi := { dst := some 117, op := Op.load 24 (Operand.tmp 4), type := 24, pos := "outright.go:57", after := #[{ on := 11, ground := Ground.guard }], guard := some (11, true) }) (v := ?_) rfl (by kernel_rfl) (by kernel_rfl) (by kernel_rfl) (fun _ _ _ h => h) (Or.inl ⟨by rfl, ?_⟩) (by with_reducible assumption) ?_
          rotate_left
          · (intro w' hSw; (try dsimp only at hSw); first | (go_simp; done) | (go_simp; with_reducible rfl))
          (try simp only [Act.put, List.setIfInBounds_toArray, List.set_cons_zero, List.set_cons_succ])
          refine wpAnyH_take (i := 13) (oi := { dst := some 118, op := Op.load 24 (Operand.tmp 3), type := 24, pos := "outright.go:57", after := #[{ on := 11, ground := Ground.guard }], guard := some (11, true) }) (v := ?_) rfl (by kernel_rfl) (by kernel_rfl) (by kernel_rfl) (fun _ _ _ h => h) (Or.inl ⟨by rfl, ?_⟩) (by with_reducible assumption) ?_
          rotate_left
          · (intro w' hSw; (try dsimp only at hSw); first | (go_simp; done) | (go_simp; with_reducible rfl))
          (try simp only [Act.put, List.setIfInBounds_toArray, List.set_cons_zero, List.set_cons_succ])
          refine wpAnyH_take (i := 14) (oi := { dst := some 119, op := Op.load 24 (Operand.tmp 3), type := 24, pos := "outright.go:57", after := #[{ on := 11, ground := Ground.guard }], guard := some (11, true) }) (v := ?_) rfl (by kernel_rfl) (by kernel_rfl) (by kernel_rfl) (fun _ _ _ h => h) (Or.inl ⟨by rfl, ?_⟩) (by with_reducible assumption) ?_
          rotate_left
          · (intro w' hSw; (try dsimp only at hSw); first | (go_simp; done) | (go_simp; with_reducible rfl))
          (try simp only [Act.put, List.setIfInBounds_toArray, List.set_cons_zero, List.set_cons_succ])
          refine wpAnyH_take (i := 15) (oi := { dst := some 120, op := Op.build 36 #[(0, Operand.tmp 117), (1, Operand.tmp 118), (2, Operand.tmp 119)], type := 36, pos := "outright.go:57", after := #[{ on := 12, ground := Ground.data }, { on := 13, ground := Ground.data }, { on := 14, ground := Ground.data }, { on := 11, ground := Ground.guard }], guard := some (11, true) }) (v := ?_) rfl (by kernel_rfl) (by kernel_rfl) (by kernel_rfl) (fun _ _ _ h => h) (Or.inl ⟨by rfl, ?_⟩) (by with_reducible assumption) ?_
          rotate_left
          · (intro w' hSw; (try dsimp only at hSw); first | (go_simp; done) | (go_simp; with_reducible rfl))
          (try simp only [Act.put, List.setIfInBounds_toArray, List.set_cons_zero, List.set_cons_succ])
          refine wpAnyH_take (i := 16) (oi := { dst := some 121, op := Op.load 24 (Operand.tmp 3), type := 24, pos := "outright.go:57", after := #[{ on := 11, ground := Ground.guard }], guard := some (11, true) }) (v := ?_) rfl (by kernel_rfl) (by kernel_rfl) (by kernel_rfl) (fun _ _ _ h => h) (Or.inl ⟨by rfl, ?_⟩) (by with_reducible assumption) ?_
          rotate_left
          · (intro w' hSw; (try dsimp only at hSw); first | (go_simp; done) | (go_simp; with_reducible rfl))
          (try simp only [Act.put, List.setIfInBounds_toArray, List.set_cons_zero, List.set_cons_succ])
          refine wpAnyH_take (i := 17) (oi := { dst := some 122, op := Op.load 24 (Operand.tmp 5), type := 24, pos := "outright.go:57", after := #[{ on := 11, ground := Ground.guard }], guard := some (11, true) }) (v := ?_) rfl (by kernel_rfl) (by kernel_rfl) (by kernel_rfl) (fun _ _ _ h => h) (Or.inl ⟨by rfl, ?_⟩) (by with_reducible assumption) ?_
          rotate_left
          · (intro w' hSw; (try dsimp only at hSw); first | (go_simp; done) | (go_simp; with_reducible rfl))
          (try simp only [Act.put, List.setIfInBounds_toArray, List.set_cons_zero, List.set_cons_succ])
          refine wpAnyH_take (i := 18) (oi := { dst := some 123, op := Op.load 24 (Operand.tmp 5), type := 24, pos := "outright.go:57", after := #[{ on := 11, ground := Ground.guard }], guard := some (11, true) }) (v := ?_) rfl (by kernel_rfl) (by kernel_rfl) (by kernel_rfl) (fun _ _ _ h => h) (Or.inl ⟨by rfl, ?_⟩) (by with_reducible assumption) ?_
          rotate_left
          · (intro w' hSw; (try dsimp only at hSw); first | (go_simp; done) | (go_simp; with_reducible rfl))
          (try simp only [Act.put, List.setIfInBounds_toArray, List.set_cons_zero, List.set_cons_succ])
          refine wpAnyH_take (i := 19) (oi := { dst := some 124, op := Op.build 36 #[(0, Operand.tmp 121), (1, Operand.tmp 122), (2, Operand.tmp 123)], type := 36, pos := "outright.go:57", after := #[{ on := 16, ground := Ground.data }, { on := 17, ground := Ground.data }, { on := 18, ground := Ground.data }, { on := 11, ground := Ground.guard }], guard := some (11, true) }) (v := ?_) rfl (by kernel_rfl) (by kernel_rfl) (by kernel_rfl) (fun _ _ _ h => h) (Or.inl ⟨by rfl, ?_⟩) (by with_reducible assumption) ?_
          rotate_left
          · (intro w' hSw; (try dsimp only at hSw); first | (go_simp; done) | (go_simp; with_reducible rfl))
          (try simp only [Act.put, List.setIfInBounds_toArray, List.set_cons_zero, List.set_cons_succ])
          refine wpAnyH_take (i := 21) (oi := { dst := some 126, op := Op.move (Operand.tmp 7), type := 3, pos := "outright.go:57", after := #[{ on := 11, ground := Ground.guard }], guard := some (11, true) }) (v := ?_) rfl (by kernel_rfl) (by kernel_rfl) (by kernel_rfl) (fun _ _ _ h => h) (Or.inl ⟨by rfl, ?_⟩) (by with_reducible assumption) ?_
          rotate_left
          · (intro w' hSw; (try dsimp only at hSw); first | (go_simp; done) | (go_simp; with_reducible rfl))
          (try simp only [Act.put, List.setIfInBounds_toArray, List.set_cons_zero, List.set_cons_succ])
          refine wpAnyH_take (i := 22) (oi := { dst := some 127, op := Op.unOp UnOp.neg 3 (Operand.tmp 126), type := 3, pos := "outright.go:57", after := #[{ on := 21, ground := Ground.data }, { on := 11, ground := Ground.guard }], guard := some (11, true) }) (v := ?_) rfl (by kernel_rfl) (by kernel_rfl) (by kernel_rfl) (fun _ _ _ h => h) (Or.inl ⟨by rfl, ?_⟩) (by with_reducible assumption) ?_
          rotate_left
          · (intro w' hSw; (try dsimp only at hSw); first | (go_simp; done) | (go_simp; with_reducible rfl))
          (try simp only [Act.put, List.setIfInBounds_toArray, List.set_cons_zero, List.set_cons_succ])
          refine wpAnyH_take (i := 23) (oi := { dst := some 128, op := Op.load 24 (Operand.tmp 3), type := 24, pos := "outright.go:57", after := #[{ on := 11, ground := Ground.guard }], guard := some (11, true) }) (v := ?_) rfl (by kernel_rfl) (by kernel_rfl) (by kernel_rfl) (fun _ _ _ h => h) (Or.inl ⟨by rfl, ?_⟩) (by with_reducible assumption) ?_
          rotate_left
          · (intro w' hSw; (try dsimp only at hSw); first | (go_simp; done) | (go_simp; with_reducible rfl))
          (try simp only [Act.put, List.setIfInBounds_toArray, List.set_cons_zero, List.set_cons_succ])
          refine wpAnyH_take (i := 24) (oi := { dst := some 129, op := Op.load 24 (Operand.tmp 5), type := 24, pos := "outright.go:57", after := #[{ on := 11, ground := Ground.guard }], guard := some (11, true) }) (v := ?_) rfl (by kernel_rfl) (by kernel_rfl) (by kernel_rfl) (fun _ _ _ h => h) (Or.inl ⟨by rfl, ?_⟩) (by with_reducible assumption) ?_
          rotate_left
          · (intro w' hSw; (try dsimp only at hSw); first | (go_simp; done) | (go_simp; with_reducible rfl))
          (try simp only [Act.put, List.setIfInBounds_toArray, List.set_cons_zero, List.set_cons_succ])
          refine wpAnyH_ready (rs := [20]) (by kernel_rfl) (by simp) ?_
          refine AllReadyH.cons (o := { dst := some 125, op := Op.call { callee := Callee.value (Operand.func 23), args := #[Operand.tmp 120, Operand.tmp 124], argTypes := #[36, 36] }, type := 3, pos := "outright.go:57", after := #[{ on := 15, ground := Ground.data }, { on := 19, ground := Ground.data }, { on := 11, ground := Ground.chain }, { on := 11, ground := Ground.guard }], guard := some (11, true) }) rfl (fun K hK => ?_) AllReadyH.nil
          go_simp
          (refine (HT3.out _ hHeld.2.2.2.2.2.2.2.2.2.2.2.2.2.2.2.2.2.2.2.2.2.2.2.2.2.2.2.2.2.2.2.2.2.2.2.2).mono ?_)
          rintro e' wa ⟨rfl, HOa⟩
          go_wp2_with fail
          refine hK.out _ _ (HOa) (fun hHeld => ?_)
          clear hK K
          (try simp only [Act.put, List.setIfInBounds_toArray, List.set_cons_zero, List.set_cons_succ])
          refine wpAnyH_ready (rs := [25]) (by kernel_rfl) (by simp) ?_
          refine AllReadyH.cons (o := { dst := some 130, op := Op.call { callee := Callee.value (Operand.func 12), args := #[Operand.tmp 128, Operand.tmp 129], argTypes := #[24, 24] }, type := 3, pos := "outright.go:57", after := #[{ on := 23, ground := Ground.data }, { on := 24, ground := Ground.data }, { on := 20, ground := Ground.chain }, { on := 11, ground := Ground.guard }], guard := some (11, true) }) rfl (fun K hK => ?_) AllReadyH.nil
          go_simp
          (refine (HD2.out _ hHeld.2.2.2.2.2.2.2.2.2.2.2.2.2.2.2.2.2.2.2.2.2.2.2.2.2.2.2.2.2.2.2.2.2.2.2.2).mono ?_)
          rintro e' wa ⟨rfl, HOa⟩
          go_wp2_with fail
          refine hK.out _ _ (HOa) (fun hHeld => ?_)
          clear hK K
          (try simp only [Act.put, List.setIfInBounds_toArray, List.set_cons_zero, List.set_cons_succ])
          refine wpAnyH_ready (rs := [26]) (by kernel_rfl) (by simp) ?_
          refine AllReadyH.cons (o := { dst := some 131, op := Op.call { callee := Callee.value (Operand.func 26), args := #[Operand.tmp 127, Operand.tmp 130], argTypes := #[3, 3] }, type := 3, pos := "outright.go:57", after := #[{ on := 22, ground := Ground.data }, { on := 25, ground := Ground.data }, { on := 25, ground := Ground.chain }, { on := 11, ground := Ground.guard }], guard := some (11, true) }) rfl (fun K hK => ?_) AllReadyH.nil
          go_simp
          (refine (HFi.out _).mono ?_)
          rintro e' wf ⟨rfl, rfl⟩
          go_wp2_with fail
          refine hK.out _ _ (hHeld) (fun hHeld => ?_)
          clear hK K
          (try simp only [Act.put, List.setIfInBounds_toArray, List.set_cons_zero, List.set_cons_succ])
          refine wpAnyH_take (i := 27) (oi := { dst := some 132, op := Op.binOp BinOp.eql 3 (Operand.tmp 125) (Operand.tmp 131) 3, type := 4, pos := "outright.go:57", after := #[{ on := 20, ground := Ground.data }, { on := 26, ground := Ground.data }, { on := 11, ground := Ground.guard }], guard := some (11, true) }) (v := ?_) rfl (by kernel_rfl) (by kernel_rfl) (by kernel_rfl) (fun _ _ _ h => h) (Or.inl ⟨by rfl, ?_⟩) (by with_reducible assumption) ?_
          rotate_left
          · (intro w' hSw; (try dsimp only at hSw); first | (go_simp; done) | (go_simp; with_reducible rfl))
          (try simp only [Act.put, List.setIfInBounds_toArray, List.set_cons_zero, List.set_cons_succ])
          refine wpAnyH_take (i := 28) (oi := { dst := some 133, op := Op.pick (Operand.tmp 116) (Operand.tmp 132) (Operand.const (Value.bool false)), type := 4, pos := "outright.go:57", after := #[{ on := 11, ground := Ground.data }, { on := 27, ground := Ground.data }], guard := none }) (v := ?_) rfl (by kernel_rfl) (by kernel_rfl) (by kernel_rfl) (fun _ _ _ h => h) (Or.inl ⟨by rfl, ?_⟩) (by with_reducible assumption) ?_
          rotate_left
          · (intro w' hSw; (try dsimp only at hSw); first | (go_simp; done) | (go_simp; with_reducible rfl))
          (try simp only [Act.put, List.setIfInBounds_toArray, List.set_cons_zero, List.set_cons_succ])
          refine wpAnyH_take (i := 29) (oi := { dst := some 6, op := Op.assign (Operand.tmp 133), type := 4, pos := "outright.go:57", after := #[{ on := 28, ground := Ground.data }, { on := 26, ground := Ground.chain }, { on := 0, ground := Ground.phase }, { on := 1, ground := Ground.phase }, { on := 2, ground := Ground.phase }, { on := 3, ground := Ground.phase }, { on := 4, ground := Ground.phase }, { on := 5, ground := Ground.phase }, { on := 6, ground := Ground.phase }, { on := 7, ground := Ground.phase }, { on := 8, ground := Ground.phase }, { on := 9, ground := Ground.phase }, { on := 10, ground := Ground.phase }, { on := 11, ground := Ground.phase }, { on := 12, ground := Ground.phase }, { on := 13, ground := Ground.phase }, { on := 14, ground := Ground.phase }, { on := 15, ground := Ground.phase }, { on := 16, ground := Ground.phase }, { on := 17, ground := Ground.phase }, { on := 18, ground := Ground.phase }, { on := 19, ground := Ground.phase }, { on := 20, ground := Ground.phase }, { on := 21, ground := Ground.phase }, { on := 22, ground := Ground.phase }, { on := 23, ground := Ground.phase }, { on := 24, ground := Ground.phase }, { on := 25, ground := Ground.phase }, { on := 26, ground := Ground.phase }, { on := 27, ground := Ground.phase }, { on := 28, ground := Ground.phase }], guard := none }) (v := ?_) rfl (by kernel_rfl) (by kernel_rfl) (by kernel_rfl) (fun _ _ _ h => h) (Or.inl ⟨by rfl, ?_⟩) (by with_reducible assumption) ?_
          rotate_left
          · (intro w' hSw; (try dsimp only at hSw); first | (go_simp; done) | (go_simp; with_reducible rfl))
          (try simp only [Act.put, List.setIfInBounds_toArray, List.set_cons_zero, List.set_cons_succ])
          refine wpAnyH_done (by kernel_rfl) ?_ _
          refine NoPanic.normal ?_
          go_wp2_with fail
          go_ret
          exact ⟨rfl, hid (HO0.out.trans (HX.out.2.2.out.trans hHeld.2.2.2.2.2.2.2.2.2.2.2.2.2.2.2.2.2.2.2.2.2.2.2.2.2.2.2.2.2.2.2.2.2.2.2.2.out))⟩
end Go.Proofs.YtefcnaccemefnaaDoor
