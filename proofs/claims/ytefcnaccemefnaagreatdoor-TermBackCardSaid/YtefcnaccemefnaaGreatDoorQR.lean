/- The document's end, hex, back; its Parse. -/
import Derived.Test.YtefcnaccemefnaaGreatDoorTeJ
import Derived.Lib.Strings
import Derived.Lib.LastIndexByte
import Derived.Lib.IndexLaws
import Derived.Test.YtefcnaccemefnaaGreatDoorShelf
import Derived.OwnWalk
namespace Go.Proofs.YtefcnaccemefnaaGreatDoor
open Go.RowKit U G

structure TO {α : Type} (c : α → α → Int) : Prop where
  anti : ∀ a b, c a b = -c b a
  zero : ∀ a b, c a b = 0 → a = b
  trans : ∀ a b d, c a b ≤ 0 → c b d ≤ 0 → c a d ≤ 0
  low : ∀ a b, -1 ≤ c a b
theorem TO.self {α : Type} {c : α → α → Int} (h : TO c) (a : α) : c a a = 0 := by have := h.anti a a; omega
theorem TO.neg {α : Type} {c : α → α → Int} (h : TO c) {a b d : α} (h1 : c a b < 0) (h2 : c b d ≤ 0) : c a d < 0 := by
  have h3 := h.trans a b d (by omega) h2
  rcases Int.lt_or_eq_of_le h3 with h4 | h4
  · exact h4
  · have e := h.zero _ _ h4
    subst e
    have := h.anti a b
    omega
theorem TO.neg' {α : Type} {c : α → α → Int} (h : TO c) {a b d : α} (h1 : c a b ≤ 0) (h2 : c b d < 0) : c a d < 0 := by
  have h3 := h.trans a b d h1 (by omega)
  rcases Int.lt_or_eq_of_le h3 with h4 | h4
  · exact h4
  · have e := h.zero _ _ h4
    subst e
    have := h.anti a b
    omega
def lexC {α β : Type} (c : α → α → Int) (d : β → β → Int) (p q : α × β) : Int := if c p.1 q.1 = 0 then d p.2 q.2 else c p.1 q.1
theorem TO.lex {α β : Type} {c : α → α → Int} {d : β → β → Int} (hc : TO c) (hd : TO d) : TO (lexC c d) where
  anti p q := by
    unfold lexC
    have := hc.anti p.1 q.1
    by_cases h : c p.1 q.1 = 0
    · rw [if_pos h, if_pos (by omega)]
      exact hd.anti _ _
    · rw [if_neg h, if_neg (by omega)]
      exact this
  zero p q h := by
    unfold lexC at h
    by_cases h0 : c p.1 q.1 = 0
    · rw [if_pos h0] at h
      exact Prod.ext (hc.zero _ _ h0) (hd.zero _ _ h)
    · rw [if_neg h0] at h
      exact absurd h h0
  trans p q r h1 h2 := by
    unfold lexC at *
    by_cases e1 : c p.1 q.1 = 0
    · rw [if_pos e1] at h1
      have e := hc.zero _ _ e1
      rw [e]
      by_cases e2 : c q.1 r.1 = 0
      · rw [if_pos e2] at h2 ⊢
        exact hd.trans _ _ _ h1 h2
      · rw [if_neg e2] at h2 ⊢
        exact h2
    · rw [if_neg e1] at h1
      have h3 : c q.1 r.1 ≤ 0 := by
        by_cases e2 : c q.1 r.1 = 0
        · omega
        · rw [if_neg e2] at h2; exact h2
      have h4 := hc.neg (show c p.1 q.1 < 0 by omega) h3
      rw [if_neg (by omega)]
      omega
  low p q := by
    unfold lexC
    split
    · exact hd.low _ _
    · exact hc.low _ _
def sumC {α β : Type} (c : α → α → Int) (d : β → β → Int) : α ⊕ β → α ⊕ β → Int
  | .inl a, .inl b => c a b
  | .inl _, .inr _ => -1
  | .inr _, .inl _ => 1
  | .inr a, .inr b => d a b
theorem TO.sum {α β : Type} {c : α → α → Int} {d : β → β → Int} (hc : TO c) (hd : TO d) : TO (sumC c d) where
  anti p q := by
    cases p <;> cases q
    · exact hc.anti _ _
    · rfl
    · rfl
    · exact hd.anti _ _
  zero p q h := by
    cases p <;> cases q
    · rw [hc.zero _ _ h]
    · exact absurd h (by show ¬ (-1 : Int) = 0; decide)
    · exact absurd h (by show ¬ (1 : Int) = 0; decide)
    · rw [hd.zero _ _ h]
  trans p q r h1 h2 := by
    cases p <;> cases q <;> cases r
    · exact hc.trans _ _ _ h1 h2
    · show (-1 : Int) ≤ 0; decide
    · exact absurd h2 (by show ¬ (1 : Int) ≤ 0; decide)
    · show (-1 : Int) ≤ 0; decide
    · exact absurd h1 (by show ¬ (1 : Int) ≤ 0; decide)
    · exact absurd h1 (by show ¬ (1 : Int) ≤ 0; decide)
    · exact absurd h2 (by show ¬ (1 : Int) ≤ 0; decide)
    · exact hd.trans _ _ _ h1 h2
  low p q := by
    cases p <;> cases q
    · exact hc.low _ _
    · show (-1 : Int) ≤ -1; decide
    · show (-1 : Int) ≤ 1; decide
    · exact hd.low _ _
theorem lessL_trans : ∀ {a b c : List Nat}, lessL a b = true → lessL b c = true → lessL a c = true
  | [], _, [], _, h2 => by rename_i b _; cases b <;> cases h2
  | [], _, _ :: _, _, _ => rfl
  | a :: x, [], _, h1, _ => by cases h1
  | a :: x, b :: y, [], _, h2 => by cases h2
  | a :: x, b :: y, c :: z, h1, h2 => by
    rcases Nat.lt_trichotomy a b with g1 | g1 | g1
    · rcases Nat.lt_trichotomy b c with g2 | g2 | g2
      · exact lessL_lt (by omega)
      · subst g2; exact lessL_lt g1
      · rw [lessL_gt g2] at h2; cases h2
    · subst g1
      rcases Nat.lt_trichotomy a c with g2 | g2 | g2
      · exact lessL_lt g2
      · subst g2
        rw [lessL_eq] at h1 h2 ⊢
        exact lessL_trans h1 h2
      · rw [lessL_gt g2] at h2; cases h2
    · rw [lessL_gt g1] at h1; cases h1
theorem cmpL_neg {a b : List Nat} : cmpL a b < 0 ↔ lessL a b = true := by
  unfold cmpL
  constructor
  · intro h
    cases e : lessL a b with
    | true => rfl
    | false =>
      rw [e, if_neg (by simp)] at h
      split at h <;> exact absurd h (by decide)
  · intro h
    rw [if_pos h]
    decide
theorem to_cmpL : TO cmpL where
  anti a b := by
    rcases lessL_tri a b with h | h | h
    · subst h; rw [cmpL_self]; rfl
    · unfold cmpL; rw [if_pos h, lessL_asymm h, if_neg (by simp), if_pos h]
    · unfold cmpL; rw [lessL_asymm h, if_neg (by simp), if_pos h, if_pos h]; rfl
  zero a b h := by
    by_cases e : a = b
    · exact e
    · exact absurd h (cmpL_zero e)
  trans a b c h1 h2 := by
    by_cases e1 : a = b
    · subst e1; exact h2
    · by_cases e2 : b = c
      · subst e2; exact h1
      · have g1 := cmpL_neg.1 (show cmpL a b < 0 by have := cmpL_zero e1; omega)
        have g2 := cmpL_neg.1 (show cmpL b c < 0 by have := cmpL_zero e2; omega)
        have := cmpL_neg.2 (lessL_trans g1 g2)
        omega
  low a b := by unfold cmpL; (repeat' split) <;> decide
theorem to_cmpZ : TO cmpZ where
  anti a b := by unfold cmpZ; (repeat' split) <;> omega
  zero a b h := by unfold cmpZ at h; (repeat' split at h) <;> omega
  trans a b c h1 h2 := by unfold cmpZ at *; (repeat' split at h1) <;> (repeat' split at h2) <;> (repeat' split) <;> omega
  low a b := by unfold cmpZ; (repeat' split) <;> omega
/-- How a term stands. -/
abbrev Ky := List Nat ⊕ (Int × (List Nat × (List Nat × List Nat)))
def keyT (t : Tm) : Ky := if rightT t then .inl (textL t) else .inr (t.k, (bl t.x, (bl t.g, bl t.y)))
abbrev cmpK : Ky → Ky → Int := sumC cmpL (lexC cmpZ (lexC cmpL (lexC cmpL cmpL)))
theorem to_cmpK : TO cmpK := to_cmpL.sum (to_cmpZ.lex (to_cmpL.lex (to_cmpL.lex to_cmpL)))
theorem cmpT_key (a b : Tm) : cmpT a b = cmpK (keyT a) (keyT b) := by
  rw [cmpT_ref]
  unfold keyT
  cases ra : rightT a with
  | true =>
    cases rb : rightT b with
    | true => rfl
    | false => rfl
  | false =>
    cases rb : rightT b with
    | true => rfl
    | false =>
      simp only [Bool.false_eq_true, if_false]
      rw [noneT_or]
      show orI _ = lexC cmpZ (lexC cmpL (lexC cmpL cmpL)) _ _
      unfold lexC
      simp only [orI]
      split
      · split
        · split
          · split
            · rename_i h; rw [h]
            · rfl
          · rfl
        · rfl
      · rfl
/-! Unlike right terms have unlike texts. -/
theorem hexD_inj {a b : Nat} (ha : a < 16) (hb : b < 16) (h : hexD a = hexD b) : a = b := by unfold hexD at h; (repeat' split at h) <;> omega
theorem raw92 : rawZ ((92 : Nat) : Int) = false := by decide +kernel
theorem iriC_cancel {c d : Nat} {r s : List Nat} (h : iriC c ++ r = iriC d ++ s) : c = d ∧ r = s := by
  unfold iriC at h
  by_cases h1 : c < 128 ∧ rawZ (c : Int) = false
  · rw [if_pos h1] at h
    by_cases h2 : d < 128 ∧ rawZ (d : Int) = false
    · rw [if_pos h2] at h
      simp only [List.cons_append, List.nil_append, List.cons.injEq, true_and] at h
      obtain ⟨e1, e2, e3⟩ := h
      have g1 := hexD_inj (by omega) (by omega) e1
      have g2 := hexD_inj (by omega) (by omega) e2
      exact ⟨by omega, e3⟩
    · rw [if_neg h2] at h
      simp only [List.cons_append, List.nil_append, List.cons.injEq] at h
      obtain ⟨e1, _⟩ := h
      subst e1
      exact absurd ⟨by omega, raw92⟩ h2
  · rw [if_neg h1] at h
    by_cases h2 : d < 128 ∧ rawZ (d : Int) = false
    · rw [if_pos h2] at h
      simp only [List.cons_append, List.nil_append, List.cons.injEq] at h
      obtain ⟨e1, _⟩ := h
      subst e1
      exact absurd ⟨by omega, raw92⟩ h1
    · rw [if_neg h2] at h
      simpa using h
theorem iriB_inj : ∀ {a b : List Nat}, iriB a = iriB b → a = b
  | [], [], _ => rfl
  | [], c :: b, h => by
    have h2 := congrArg List.length h
    have e : iriB (c :: b) = iriC c ++ iriB b := by simp [iriB]
    have := (iriC_len c).1
    rw [e, List.length_append] at h2
    have e0 : (iriB ([] : List Nat)).length = 0 := rfl
    omega
  | c :: b, [], h => by
    have h2 := congrArg List.length h
    have e : iriB (c :: b) = iriC c ++ iriB b := by simp [iriB]
    have := (iriC_len c).1
    rw [e, List.length_append] at h2
    have e0 : (iriB ([] : List Nat)).length = 0 := rfl
    omega
  | c :: a, d :: b, h => by
    have e1 : iriB (c :: a) = iriC c ++ iriB a := by simp [iriB]
    have e2 : iriB (d :: b) = iriC d ++ iriB b := by simp [iriB]
    rw [e1, e2] at h
    obtain ⟨h1, h2⟩ := iriC_cancel h
    rw [h1, iriB_inj h2]
theorem litC_head (c : Nat) : ∃ x t, litC c = x :: t ∧ x ≠ 34 := by
  unfold litC
  by_cases h1 : c = 34
  · exact ⟨92, _, by rw [if_pos h1], by decide⟩
  · rw [if_neg h1]
    by_cases h2 : c = 92
    · exact ⟨92, _, by rw [if_pos h2], by decide⟩
    · rw [if_neg h2]
      by_cases h3 : c = 10
      · exact ⟨92, _, by rw [if_pos h3], by decide⟩
      · rw [if_neg h3]
        by_cases h4 : c = 13
        · exact ⟨92, _, by rw [if_pos h4], by decide⟩
        · exact ⟨c, [], by rw [if_neg h4], h1⟩
theorem litC_cancel {c d : Nat} {r s : List Nat} (h : litC c ++ r = litC d ++ s) : c = d ∧ r = s := by
  unfold litC at h
  repeat' split at h
  all_goals
    simp only [List.cons_append, List.nil_append, List.cons.injEq, true_and] at h
  all_goals
    first
      | (exact ⟨h.1, h.2⟩)
      | (exact ⟨by omega, h⟩)
      | (exfalso; omega)
      | (exfalso; have := h.1; omega)
theorem litB_end : ∀ {a b r s : List Nat}, litB a ++ 34 :: r = litB b ++ 34 :: s → a = b ∧ r = s
  | [], [], r, s, h => by simpa [litB] using h
  | [], c :: b, r, s, h => by
    obtain ⟨x, t, e, hx⟩ := litC_head c
    have e2 : litB (c :: b) = litC c ++ litB b := by simp [litB]
    rw [e2, e] at h
    simp only [litB, List.flatMap_nil, List.nil_append, List.cons_append, List.cons.injEq] at h
    exact absurd h.1.symm hx
  | c :: b, [], r, s, h => by
    obtain ⟨x, t, e, hx⟩ := litC_head c
    have e2 : litB (c :: b) = litC c ++ litB b := by simp [litB]
    rw [e2, e] at h
    simp only [litB, List.flatMap_nil, List.nil_append, List.cons_append, List.cons.injEq] at h
    exact absurd h.1 hx
  | c :: a, d :: b, r, s, h => by
    have e1 : litB (c :: a) = litC c ++ litB a := by simp [litB]
    have e2 : litB (d :: b) = litC d ++ litB b := by simp [litB]
    rw [e1, e2, List.append_assoc, List.append_assoc] at h
    obtain ⟨h1, h2⟩ := litC_cancel h
    obtain ⟨h3, h4⟩ := litB_end h2
    exact ⟨by rw [h1, h3], h4⟩
theorem text_k1 {t : Tm} (h : t.k = 1) : textL t = 60 :: (iriB (bl t.x) ++ [62]) := by unfold textL; rw [if_pos h]
theorem text_k2 {t : Tm} (h : t.k = 2) : textL t = 95 :: 58 :: bl t.x := by unfold textL; rw [h, if_neg (by decide), if_pos rfl]
theorem text_k3 {t : Tm} (h : t.k = 3) : textL t = 34 :: (litB (bl t.x) ++ 34 :: (if t.g = ByteArray.empty then [] else 64 :: bl t.g)) := by unfold textL; rw [h, if_neg (by decide), if_neg (by decide), if_neg (by decide)]
theorem text_k4 {t : Tm} (h : t.k = 4) : textL t = 34 :: (litB (bl t.x) ++ 34 :: 94 :: 94 :: 60 :: (iriB (bl t.y) ++ [62])) := by unfold textL; rw [h, if_neg (by decide), if_neg (by decide), if_pos rfl]
theorem tail3 {g g' : ByteArray} (h : (if g = ByteArray.empty then [] else 64 :: bl g) = (if g' = ByteArray.empty then [] else 64 :: bl g')) : g = g' := by
  by_cases e : g = ByteArray.empty
  · by_cases e' : g' = ByteArray.empty
    · rw [e, e']
    · rw [if_pos e, if_neg e'] at h; cases h
  · by_cases e' : g' = ByteArray.empty
    · rw [if_neg e, if_pos e'] at h; cases h
    · rw [if_neg e, if_neg e'] at h
      exact bl_inj (by simpa using h)
theorem textL_inj {a b : Tm} (ha : rightT a = true) (hb : rightT b = true) (h : textL a = textL b) : a = b := by
  rcases right_kind ha with ka | ka | ka | ka <;> rcases right_kind hb with kb | kb | kb | kb
  · rw [text_k1 ka, text_k1 kb] at h
    simp only [List.cons.injEq, true_and, List.append_cancel_right_eq] at h
    rw [(right_iri ka ha).1, (right_iri kb hb).1, bl_inj (iriB_inj h)]
  · rw [text_k1 ka, text_k2 kb] at h; simp at h
  · rw [text_k1 ka, text_k3 kb] at h; simp at h
  · rw [text_k1 ka, text_k4 kb] at h; simp at h
  · rw [text_k2 ka, text_k1 kb] at h; simp at h
  · rw [text_k2 ka, text_k2 kb] at h
    simp only [List.cons.injEq, true_and] at h
    rw [(right_blank ka ha).1, (right_blank kb hb).1, bl_inj h]
  · rw [text_k2 ka, text_k3 kb] at h; simp at h
  · rw [text_k2 ka, text_k4 kb] at h; simp at h
  · rw [text_k3 ka, text_k1 kb] at h; simp at h
  · rw [text_k3 ka, text_k2 kb] at h; simp at h
  · rw [text_k3 ka, text_k3 kb] at h
    simp only [List.cons.injEq, true_and] at h
    obtain ⟨h1, h2⟩ := litB_end h
    have e1 := bl_inj h1
    have e2 := tail3 h2
    rw [(right_lit ka ha).1, (right_lit kb hb).1, e1, e2]
  · rw [text_k3 ka, text_k4 kb] at h
    simp only [List.cons.injEq, true_and] at h
    obtain ⟨_, h2⟩ := litB_end h
    split at h2 <;> simp at h2
  · rw [text_k4 ka, text_k1 kb] at h; simp at h
  · rw [text_k4 ka, text_k2 kb] at h; simp at h
  · rw [text_k4 ka, text_k3 kb] at h
    simp only [List.cons.injEq, true_and] at h
    obtain ⟨_, h2⟩ := litB_end h
    split at h2 <;> simp at h2
  · rw [text_k4 ka, text_k4 kb] at h
    simp only [List.cons.injEq, true_and] at h
    obtain ⟨h1, h2⟩ := litB_end h
    simp only [List.cons.injEq, true_and, List.append_cancel_right_eq] at h2
    rw [(right_typ ka ha).1, (right_typ kb hb).1, bl_inj h1, bl_inj (iriB_inj h2)]
theorem keyT_inj {a b : Tm} (h : keyT a = keyT b) : a = b := by
  unfold keyT at h
  cases ra : rightT a with
  | true =>
    cases rb : rightT b with
    | true =>
      rw [ra, rb] at h
      simp only [if_true, Sum.inl.injEq] at h
      exact textL_inj ra rb h
    | false => rw [ra, rb] at h; simp at h
  | false =>
    cases rb : rightT b with
    | true => rw [ra, rb] at h; simp at h
    | false =>
      rw [ra, rb] at h
      simp only [Bool.false_eq_true, if_false, Sum.inr.injEq, Prod.mk.injEq] at h
      exact Tm.eq_iff.2 ⟨h.1, bl_inj h.2.1, bl_inj h.2.2.1, bl_inj h.2.2.2⟩
theorem cmpT_anti (a b : Tm) : cmpT a b = -cmpT b a := by rw [cmpT_key, cmpT_key]; exact to_cmpK.anti _ _
theorem cmpT_self (a : Tm) : cmpT a a = 0 := by rw [cmpT_key]; exact to_cmpK.self _
theorem cmpT_zero {a b : Tm} : cmpT a b = 0 ↔ a = b := by
  constructor
  · intro h
    rw [cmpT_key] at h
    exact keyT_inj (to_cmpK.zero _ _ h)
  · rintro rfl
    exact cmpT_self _
theorem cmpT_trans {a b c : Tm} (h1 : cmpT a b ≤ 0) (h2 : cmpT b c ≤ 0) : cmpT a c ≤ 0 := by
  rw [cmpT_key] at *
  exact to_cmpK.trans _ _ _ h1 h2
theorem cmpT_low (a b : Tm) : -1 ≤ cmpT a b ∧ cmpT a b ≤ 1 := by
  have h1 : ∀ a b, -1 ≤ cmpT a b := fun a b => by rw [cmpT_key]; exact to_cmpK.low _ _
  have := cmpT_anti a b
  have := h1 b a
  have := h1 a b
  omega
def rankT (t : Tm) : Int := if t.k = 1 then 1 else if t.k = 2 then 2 else 0
theorem text_head {t : Tm} (h : rightT t = true) : ∃ r, textL t = (if rankT t = 0 then 34 else if rankT t = 1 then 60 else 95) :: r := by
  unfold rankT
  rcases right_kind h with k | k | k | k
  · exact ⟨_, by rw [text_k1 k, k]; rfl⟩
  · exact ⟨_, by rw [text_k2 k, k]; rfl⟩
  · exact ⟨_, by rw [text_k3 k, k]; rfl⟩
  · exact ⟨_, by rw [text_k4 k, k]; rfl⟩
theorem rank_less {a b : Tm} (ha : rightT a = true) (hb : rightT b = true) (h : rankT a < rankT b) : cmpT a b < 0 := by
  rw [cmpT_ref, if_pos ha, if_pos hb, cmpL_neg]
  obtain ⟨r, er⟩ := text_head ha
  obtain ⟨s, es⟩ := text_head hb
  rw [er, es]
  apply lessL_lt
  have r1 : rankT a = 0 ∨ rankT a = 1 ∨ rankT a = 2 := by unfold rankT; (repeat' split) <;> simp
  have r2 : rankT b = 0 ∨ rankT b = 1 ∨ rankT b = 2 := by unfold rankT; (repeat' split) <;> simp
  rcases r1 with r1 | r1 | r1 <;> rcases r2 with r2 | r2 | r2 <;> rw [r1, r2] at h ⊢ <;> first | (exfalso; revert h; decide) | decide
theorem right_less {a b : Tm} (ha : rightT a = true) (hb : rightT b = false) : cmpT a b < 0 := by
  rw [cmpT_ref, if_pos ha, if_neg (by rw [hb]; simp)]
  decide
end Go.Proofs.YtefcnaccemefnaaGreatDoor

namespace Go.Proofs.YtefcnaccemefnaaGreatDoor
open Go.RowKit U G

/-- A text without its escapes: f tells of what stands behind a \ the sign, and how many bytes of that are the escape's. -/
def unE (f : List Nat → Int × Nat) : List Nat → List Nat
  | [] => []
  | c :: r => if c = 92 then encR (f r).1 ++ unE f (r.drop (f r).2) else c :: unE f r
termination_by l => l.length
decreasing_by
  · simp only [List.length_drop, List.length_cons]; omega
  · simp
theorem unE_nil (f : List Nat → Int × Nat) : unE f [] = [] := by rw [unE]
theorem unE_esc (f : List Nat → Int × Nat) (r : List Nat) : unE f (92 :: r) = encR (f r).1 ++ unE f (r.drop (f r).2) := by rw [unE, if_pos rfl]
theorem unE_raw (f : List Nat → Int × Nat) {c : Nat} (r : List Nat) (h : c ≠ 92) : unE f (c :: r) = c :: unE f r := by rw [unE, if_neg h]
theorem unE_ahead (f : List Nat → Int × Nat) (r : List Nat) : ∀ {a : List Nat}, (∀ x ∈ a, x ≠ 92) → unE f (a ++ r) = a ++ unE f r
  | [], _ => rfl
  | c :: a, h => by rw [List.cons_append, unE_raw f _ (h c (by simp)), unE_ahead f r fun x hx => h x (by simp [hx])]; rfl
theorem unE_plain (f : List Nat → Int × Nat) {a : List Nat} (h : ∀ x ∈ a, x ≠ 92) : unE f a = a := by
  have := unE_ahead f [] h
  rwa [List.append_nil, unE_nil, List.append_nil] at this
theorem unE_len (f : List Nat → Int × Nat) : ∀ (n : Nat) (l : List Nat), l.length ≤ n → (unE f l).length ≤ 4 * l.length
  | _, [], _ => by rw [unE_nil]; simp
  | 0, c :: r, h => by simp at h
  | n + 1, c :: r, h => by
    rw [List.length_cons] at h ⊢
    by_cases hc : c = 92
    · subst hc
      have h1 := unE_len f n (r.drop (f r).2) (by rw [List.length_drop]; omega)
      have h2 := encR_len (f r).1
      rw [List.length_drop] at h1
      rw [unE_esc, List.length_append]
      omega
    · have h1 := unE_len f n r (by omega)
      rw [unE_raw f r hc, List.length_cons]
      omega
theorem unE_bys (f : List Nat → Int × Nat) : ∀ (n : Nat) (l : List Nat), l.length ≤ n → Bys l → Bys (unE f l)
  | _, [], _, _ => by rw [unE_nil]; intro x hx; cases hx
  | 0, c :: r, h, _ => by simp at h
  | n + 1, c :: r, h, hb => by
    rw [List.length_cons] at h
    have hr : Bys r := fun x hx => hb x (by simp [hx])
    by_cases hc : c = 92
    · subst hc
      rw [unE_esc]
      exact bys_app (encR_bys _) (unE_bys f n _ (by rw [List.length_drop]; omega) fun x hx => hr x (List.mem_of_mem_drop hx))
    · rw [unE_raw f r hc]
      intro x hx
      rcases List.mem_cons.1 hx with rfl | hx
      · exact hb _ (by simp)
      · exact unE_bys f n r (by omega) hr x hx

/-! The two ways in which signs are told. -/
def litE : List Nat → Int × Nat
  | [] => (0, 0)
  | c :: _ => (if c = 110 then 10 else if c = 114 then 13 else (c : Int), 1)
def hexV (c : Nat) : Nat := if 48 ≤ c ∧ c ≤ 57 then c - 48 else if 65 ≤ c ∧ c ≤ 70 then c - 55 else if 97 ≤ c ∧ c ≤ 102 then c - 87 else 16
def puN : List Nat → Nat → Option Nat
  | [], n => some n
  | c :: r, n => if hexV c < 16 then puN r (n * 16 + hexV c) else none
def iriE (r : List Nat) : Int × Nat :=
  if r.length < 5 then (0, 0) else match puN ((r.take 5).drop 1) 0 with
    | some n => ((n : Int), 5)
    | none => (0, 0)
theorem litE_le (r : List Nat) : (litE r).2 ≤ r.length := by cases r <;> simp [litE]
theorem iriE_le (r : List Nat) : (iriE r).2 ≤ r.length := by
  unfold iriE
  split
  · simp
  · split
    · simp only; omega
    · simp
theorem puN_lt : ∀ (l : List Nat) (n m : Nat), puN l n = some m → m < (n + 1) * 16 ^ l.length
  | [], n, m, h => by simp only [puN, Option.some.injEq] at h; subst h; simp
  | c :: r, n, m, h => by
    unfold puN at h
    split at h
    · rename_i hc
      have := puN_lt r _ m h
      refine Nat.lt_of_lt_of_le this ?_
      rw [List.length_cons, Nat.pow_succ, Nat.mul_comm (16 ^ r.length) 16, ← Nat.mul_assoc]
      exact Nat.mul_le_mul_right _ (by omega)
    · cases h
theorem litE_in {r : List Nat} (hb : Bys r) : 0 ≤ (litE r).1 ∧ (litE r).1 ≤ 65535 := by
  cases r with
  | nil => simp [litE]
  | cons c r =>
    have := hb c (by simp)
    show 0 ≤ (if c = 110 then (10 : Int) else if c = 114 then 13 else (c : Int)) ∧ (if c = 110 then (10 : Int) else if c = 114 then 13 else (c : Int)) ≤ 65535
    (repeat' split) <;> omega
theorem iriE_in (r : List Nat) : 0 ≤ (iriE r).1 ∧ (iriE r).1 ≤ 65535 := by
  unfold iriE
  split
  · simp
  · rename_i hl
    split
    · rename_i n hn
      have := puN_lt _ _ _ hn
      have e : ((r.take 5).drop 1).length = 4 := by rw [List.length_drop, List.length_take]; omega
      rw [e] at this
      show 0 ≤ (n : Int) ∧ (n : Int) ≤ 65535
      omega
    · simp
theorem encR_low {n : Nat} (h : n < 128) : encR (n : Int) = [n] := by rw [encR_sign (by unfold sgn; omega), encN_low h]
theorem unE_lit : ∀ {l : List Nat}, unE litE (litB l) = l
  | [] => unE_nil _
  | c :: l => by
    have e : litB (c :: l) = litC c ++ litB l := by simp [litB]
    have ih := unE_lit (l := l)
    rw [e]
    unfold litC
    by_cases h1 : c = 34
    · subst h1
      rw [if_pos rfl]
      show unE litE (92 :: 34 :: litB l) = _
      rw [unE_esc]
      show encR ((34 : Nat) : Int) ++ unE litE (litB l) = _
      rw [encR_low (by omega), ih]; rfl
    · rw [if_neg h1]
      by_cases h2 : c = 92
      · subst h2
        rw [if_pos rfl]
        show unE litE (92 :: 92 :: litB l) = _
        rw [unE_esc]
        show encR ((92 : Nat) : Int) ++ unE litE (litB l) = _
        rw [encR_low (by omega), ih]; rfl
      · rw [if_neg h2]
        by_cases h3 : c = 10
        · subst h3
          rw [if_pos rfl]
          show unE litE (92 :: 110 :: litB l) = _
          rw [unE_esc]
          show encR ((10 : Nat) : Int) ++ unE litE (litB l) = _
          rw [encR_low (by omega), ih]; rfl
        · rw [if_neg h3]
          by_cases h4 : c = 13
          · subst h4
            rw [if_pos rfl]
            show unE litE (92 :: 114 :: litB l) = _
            rw [unE_esc]
            show encR ((13 : Nat) : Int) ++ unE litE (litB l) = _
            rw [encR_low (by omega), ih]; rfl
          · rw [if_neg h4]
            show unE litE (c :: litB l) = _
            rw [unE_raw _ _ h2, ih]
theorem hexV_D {n : Nat} (h : n < 16) : hexV (hexD n) = n := by
  unfold hexD
  split
  · unfold hexV; rw [if_pos (by omega)]; omega
  · unfold hexV; rw [if_neg (by omega), if_pos (by omega)]; omega
theorem iriE_of {c : Nat} (h : c < 128) (r : List Nat) : iriE (117 :: 48 :: 48 :: hexD (c / 16) :: hexD (c % 16) :: r) = ((c : Int), 5) := by
  have h0 : hexV 48 = 0 := by decide
  have h1 := hexV_D (n := c / 16) (by omega)
  have h2 := hexV_D (n := c % 16) (by omega)
  have e : puN [48, 48, hexD (c / 16), hexD (c % 16)] 0 = some c := by
    unfold puN; rw [h0, if_pos (by omega)]
    unfold puN; rw [h0, if_pos (by omega)]
    unfold puN; rw [h1, if_pos (by omega)]
    unfold puN; rw [h2, if_pos (by omega)]
    unfold puN
    rw [Option.some.injEq]
    omega
  unfold iriE
  rw [if_neg (by simp)]
  show (match puN [48, 48, hexD (c / 16), hexD (c % 16)] 0 with | some n => ((n : Int), 5) | none => (0, 0)) = _
  rw [e]
theorem unE_iri : ∀ {l : List Nat}, unE iriE (iriB l) = l
  | [] => unE_nil _
  | c :: l => by
    have e : iriB (c :: l) = iriC c ++ iriB l := by simp [iriB]
    have ih := unE_iri (l := l)
    rw [e]
    unfold iriC
    by_cases h : c < 128 ∧ rawZ (c : Int) = false
    · rw [if_pos h]
      show unE iriE (92 :: 117 :: 48 :: 48 :: hexD (c / 16) :: hexD (c % 16) :: iriB l) = _
      rw [unE_esc, iriE_of h.1]
      show encR (c : Int) ++ unE iriE (iriB l) = _
      rw [encR_low h.1, ih]; rfl
    · rw [if_neg h]
      show unE iriE (c :: iriB l) = _
      rw [unE_raw _ _ (by rintro rfl; exact h ⟨by omega, raw92⟩), ih]

/-! No " in an IRI, nor in a tag. -/
theorem raw34 : rawZ ((34 : Nat) : Int) = false := by decide +kernel
theorem iriB_34 {l : List Nat} : ∀ x ∈ iriB l, x ≠ 34 := by
  intro x hx
  obtain ⟨c, _, hx⟩ := List.mem_flatMap.1 hx
  unfold iriC at hx
  by_cases h : c < 128 ∧ rawZ (c : Int) = false
  · rw [if_pos h] at hx
    have d : ∀ n, hexD n ≠ 34 := fun n => by unfold hexD; split <;> omega
    simp only [List.mem_cons, List.not_mem_nil, or_false] at hx
    rcases hx with rfl | rfl | rfl | rfl | rfl | rfl
    · decide
    · decide
    · decide
    · decide
    · exact d _
    · exact d _
  · rw [if_neg h] at hx
    simp only [List.mem_cons, List.not_mem_nil, or_false] at hx
    rintro rfl
    subst hx
    exact h ⟨by omega, raw34⟩
theorem okc34 (ph : Nat) : okc ph 34 = false := by
  unfold okc
  split
  · decide +kernel
  · split
    · decide +kernel
    · rfl
theorem tagM_34 : ∀ (l : List Nat) (ph a b : Nat), b ≤ a → tagM ph l a b = a + l.length → ∀ x ∈ l, x ≠ 34
  | [], _, _, _, _, _ => by simp
  | c :: t, ph, a, b, hb, h => by
    unfold tagM at h
    rw [List.length_cons] at h
    by_cases h1 : okc ph c = true
    · rw [if_pos h1] at h
      intro x hx
      rcases List.mem_cons.1 hx with rfl | hx
      · rintro rfl; rw [okc34] at h1; cases h1
      · exact tagM_34 t (nph ph) (a + 1) (a + 1) (Nat.le_refl _) (by omega) x hx
    · rw [if_neg h1] at h
      by_cases h2 : hyc ph ∧ c = 45
      · rw [if_pos h2] at h
        intro x hx
        rcases List.mem_cons.1 hx with rfl | hx
        · rw [h2.2]; decide
        · exact tagM_34 t 2 (a + 1) b (by omega) (by omega) x hx
      · rw [if_neg h2] at h; omega
theorem tag_34 {g : ByteArray} (h : tag (bl g) = g.size) : ∀ x ∈ bl g, x ≠ 34 := tagM_34 _ 0 0 0 (Nat.le_refl _) (by rw [bl_len]; unfold tag at h; omega)
theorem low_low (s : ByteArray) : low (low s) = low s := by
  apply bl_inj
  rw [bl_low, bl_low, List.map_map]
  apply List.map_congr_left
  intro x _
  show lowN (lowN x) = lowN x
  unfold lowN
  repeat' split
  all_goals omega

/-! What the library answers, in bytes. -/
def trP (s p : ByteArray) : ByteArray := ⟨(Lib.trimPrefix s.data.toList p.data.toList).toArray⟩
def sufS (s p : ByteArray) : ByteArray := ⟨(Lib.trimSuffix s.data.toList p.data.toList).toArray⟩
theorem toNat_map_inj {a b : List UInt8} (h : a.map UInt8.toNat = b.map UInt8.toNat) : a = b := List.map_inj_right (fun _ _ e => UInt8.toNat_inj.1 e) |>.1 h
theorem trP_len (s p : ByteArray) : (trP s p).size ≤ s.size := by
  have := Lib.trimPrefix_le s.data.toList p.data.toList
  have e : s.size = s.data.toList.length := by rw [Array.length_toList]; rfl
  show (Lib.trimPrefix s.data.toList p.data.toList).toArray.size ≤ _
  rw [List.size_toArray]; omega
theorem sufS_len (s p : ByteArray) : (sufS s p).size ≤ s.size := by
  have e : s.size = s.data.toList.length := by rw [Array.length_toList]; rfl
  show (Lib.trimSuffix s.data.toList p.data.toList).toArray.size ≤ _
  rw [List.size_toArray]
  unfold Lib.trimSuffix
  split
  · rw [List.length_take]; omega
  · omega
theorem pre_true {s p : ByteArray} (h : Lib.hasPrefix s.data.toList p.data.toList = true) : bl s = bl p ++ bl (trP s p) := by
  have hp : p.data.toList <+: s.data.toList := List.isPrefixOf_iff_prefix.1 h
  obtain ⟨t, ht⟩ := hp
  have e : trP s p = ⟨t.toArray⟩ := by
    unfold trP Lib.trimPrefix
    rw [if_pos h, ← ht, List.drop_left]
  rw [e]
  unfold bl
  rw [← ht, List.map_append]
theorem pre_false {s p : ByteArray} (h : Lib.hasPrefix s.data.toList p.data.toList = false) (l : List Nat) : bl s ≠ bl p ++ l := by
  intro e
  unfold bl at e
  obtain ⟨m1, m2, e1, e2, _⟩ := List.map_eq_append_iff.1 e
  have := toNat_map_inj e2
  subst this
  have : Lib.hasPrefix s.data.toList p.data.toList = true := List.isPrefixOf_iff_prefix.2 ⟨m2, e1.symm⟩
  rw [h] at this
  cases this
theorem trP_of {s p : ByteArray} {l : List Nat} (h : bl s = bl p ++ l) : bl (trP s p) = l := by
  cases hp : Lib.hasPrefix s.data.toList p.data.toList with
  | true => have := pre_true hp; rw [h] at this; exact (List.append_cancel_left this).symm
  | false => exact absurd h (pre_false hp l)
theorem sufS_of {s p : ByteArray} {l : List Nat} (h : bl s = l ++ bl p) : bl (sufS s p) = l := by
  unfold bl at h
  obtain ⟨m1, m2, e1, e2, e3⟩ := List.map_eq_append_iff.1 h
  have := toNat_map_inj e3
  subst this
  have hs : Lib.hasSuffix s.data.toList p.data.toList = true := List.isSuffixOf_iff_suffix.2 ⟨m1, e1.symm⟩
  unfold bl sufS Lib.trimSuffix
  rw [if_pos hs, e1, List.length_append, Nat.add_sub_cancel, List.take_left]
  exact e2
theorem getD_app (a b : List Nat) (i : Nat) : (a ++ b).getD (a.length + i) 0 = b.getD i 0 := by
  rw [List.getD_eq_getElem?_getD, List.getD_eq_getElem?_getD, List.getElem?_append_right (by omega), Nat.add_sub_cancel_left]
/-- The last " of a text behind which there is none. -/
theorem last_of {s : ByteArray} {a b : List Nat} {c : Nat} (h : bl s = a ++ c :: b) (hb : ∀ x ∈ b, x ≠ c) : Lib.lastIndexByte s (c : Int) = (a.length : Int) := by
  have hl : s.size = a.length + (b.length + 1) := by rw [← bl_len, h, List.length_append, List.length_cons]
  have hg : ∀ j, ((s.data[j]!).toNat) = (bl s).getD j 0 := fun j => by
    rw [bl_get]
    rfl
  rcases Lib.lastIndexByte_spec s (c : Int) with ⟨_, h2⟩ | ⟨i, hi, e, h1, h2⟩
  · exact absurd (by rw [hg, h]; have := getD_app a (c :: b) 0; rw [Nat.add_zero] at this; rw [this]; rfl) (h2 a.length (by omega))
  · rw [e]
    have k1 : ¬ i < a.length := fun hlt => h2 a.length hlt (by omega) (by rw [hg, h]; have := getD_app a (c :: b) 0; rw [Nat.add_zero] at this; rw [this]; rfl)
    have k2 : ¬ a.length < i := fun hlt => by
      obtain ⟨k, rfl⟩ : ∃ k, i = a.length + (k + 1) := ⟨i - a.length - 1, by omega⟩
      rw [hg, h, getD_app, List.getD_cons_succ] at h1
      have hk : k < b.length := by omega
      rw [List.getD_eq_getElem?_getD, List.getElem?_eq_getElem hk, Option.getD_some] at h1
      exact hb _ (List.getElem_mem hk) (by omega)
    omega
theorem last_in (s : ByteArray) (c : Int) : -1 ≤ Lib.lastIndexByte s c ∧ Lib.lastIndexByte s c < s.size := by
  rcases Lib.lastIndexByte_spec s c with ⟨e, _⟩ | ⟨i, hi, e, _⟩ <;> rw [e] <;> omega

/-! What a text that is a right term's is. -/
theorem text_lit {t : Tm} (hr : rightT t = true) {r : List Nat} (h : textL t = 34 :: r) : (t.k = 3 ∧ r = litB (bl t.x) ++ 34 :: (if t.g = ByteArray.empty then [] else 64 :: bl t.g)) ∨ (t.k = 4 ∧ r = litB (bl t.x) ++ 34 :: 94 :: 94 :: 60 :: (iriB (bl t.y) ++ [62])) := by
  rcases right_kind hr with k | k | k | k
  · rw [text_k1 k] at h; simp at h
  · rw [text_k2 k] at h; simp at h
  · rw [text_k3 k] at h; exact .inl ⟨k, (List.cons.inj h).2.symm⟩
  · rw [text_k4 k] at h; exact .inr ⟨k, (List.cons.inj h).2.symm⟩
theorem text_behind {t : Tm} (hr : rightT t = true) : (t.k = 3 → ∀ x ∈ (if t.g = ByteArray.empty then [] else 64 :: bl t.g), x ≠ 34) ∧ (t.k = 4 → ∀ x ∈ 94 :: 94 :: 60 :: (iriB (bl t.y) ++ [62]), x ≠ 34) := by
  constructor
  · intro k x hx
    by_cases hg : t.g = ByteArray.empty
    · rw [if_pos hg] at hx; cases hx
    · rw [if_neg hg] at hx
      rcases (right_lit k hr).2.2 with h | h
      · exact absurd h hg
      · rcases List.mem_cons.1 hx with rfl | hx
        · decide
        · exact tag_34 h.2 x hx
  · intro k x hx
    simp only [List.mem_cons, List.mem_append, List.not_mem_nil, or_false] at hx
    rcases hx with rfl | rfl | rfl | hx | rfl
    · decide
    · decide
    · decide
    · exact iriB_34 x hx
    · decide
end Go.Proofs.YtefcnaccemefnaaGreatDoor

namespace Go.Proofs.YtefcnaccemefnaaGreatDoor
open Go.RowKit U G

def bsl : ByteArray := { data := #[92] }
theorem cut_sl_no {s : ByteArray} {w : World} (h : Lib.indexByte s.data.toList 92 = -1) :
    Calls Tryz.prog 112 #[.string s, .string { data := #[92] }] w fun e w' => e = .returned (.tuple #[.string s, .string { data := #[] }, .bool false]) ∧ StU w w' := by
  have HI : Hid (Calls Tryz.prog 122 #[.string s, .string { data := #[92] }] w fun e w' => e = .returned (.int .i64 (-1)) ∧ w' = w) := hid (by have := Tryz.stringslite_Index_one s 92 w; rwa [h] at this)
  clear h
  go_enter Tryz.func112, Tryz.ntmps112
  go_wp2_with (go_at_call 122; refine HI.out.mono ?_; rintro e w1 ⟨rfl, rfl⟩)
  go_ret3
  exact ⟨rfl, hid (Only.refl _ _)⟩
theorem cut_sl_yes {s : ByteArray} {w : World} {o : Nat} (h : Lib.indexByte s.data.toList 92 = (o : Int)) (ho : o < s.size) (hs : s.size ≤ 140737488355328) :
    Calls Tryz.prog 112 #[.string s, .string { data := #[92] }] w fun e w' => e = .returned (.tuple #[.string (s.extract 0 o), .string (s.extract (o + 1) s.size), .bool true]) ∧ StU w w' := by
  have HI : Hid (Calls Tryz.prog 122 #[.string s, .string { data := #[92] }] w fun e w' => e = .returned (.int .i64 (o : Int)) ∧ w' = w) := hid (by have := Tryz.stringslite_Index_one s 92 w; rwa [h] at this)
  have h0 : (0 : Int) ≤ (o : Int) := by omega
  have h1 : (o : Int) ≤ (s.size : Int) := by omega
  have h2 : (o : Int) + 1 ≤ (s.size : Int) := by omega
  have hw : IntKind.i64.wrap ((o : Int) + 1) = (o : Int) + 1 := by rw [IntKind.wrap_i64]; omega
  have ht : ((o : Int) + 1).toNat = o + 1 := by omega
  clear h
  go_enter Tryz.func112, Tryz.ntmps112
  go_wp2_with (go_at_call 122; refine HI.out.mono ?_; rintro e w1 ⟨rfl, rfl⟩)
  go_quiet (fail)
  go_wp2_with fail
  go_ret3
  exact ⟨rfl, hid ((Only.refl _ _).drewN _)⟩
theorem cut_no {s : ByteArray} {w : World} (h : Lib.indexByte s.data.toList 92 = -1) :
    Calls Tryz.prog 103 #[.string s, .string { data := #[92] }] w fun e w' => e = .returned (.tuple #[.string s, .string { data := #[] }, .bool false]) ∧ StU w w' := by
  have HI := hid (cut_sl_no (w := w) h)
  clear h
  go_enter Tryz.func103, Tryz.ntmps103
  go_wp2_with (go_at_call 112; refine HI.out.mono ?_; rintro e w1 ⟨rfl, HO⟩)
  go_ret3
  exact ⟨rfl, HO⟩
theorem cut_yes {s : ByteArray} {w : World} {o : Nat} (h : Lib.indexByte s.data.toList 92 = (o : Int)) (ho : o < s.size) (hs : s.size ≤ 140737488355328) :
    Calls Tryz.prog 103 #[.string s, .string { data := #[92] }] w fun e w' => e = .returned (.tuple #[.string (s.extract 0 o), .string (s.extract (o + 1) s.size), .bool true]) ∧ StU w w' := by
  have HI := hid (cut_sl_yes (w := w) h ho hs)
  clear h
  go_enter Tryz.func103, Tryz.ntmps103
  go_wp2_with (go_at_call 112; refine HI.out.mono ?_; rintro e w1 ⟨rfl, HO⟩)
  go_ret3
  exact ⟨rfl, HO⟩
theorem bl_getElem (s : ByteArray) (i : Nat) (h : i < (bl s).length) (h' : i < s.data.toList.length) : (bl s)[i] = (s.data.toList[i]).toNat := by simp [bl]
/-- Where the first \\ stands. -/
theorem bsl_where (s : ByteArray) : (Lib.indexByte s.data.toList 92 = -1 ∧ ∀ x ∈ bl s, x ≠ 92) ∨ ∃ o : Nat, Lib.indexByte s.data.toList 92 = (o : Int) ∧ o < s.size ∧ (∀ x ∈ bl (s.extract 0 o), x ≠ 92) ∧ bl s = bl (s.extract 0 o) ++ 92 :: bl (s.extract (o + 1) s.size) := by
  have hge := Lib.indexByte_ge s.data.toList 92
  have hsz : s.size = s.data.toList.length := by rw [Array.length_toList]; rfl
  rcases Int.lt_or_le (Lib.indexByte s.data.toList 92) 0 with h | h
  · have e : Lib.indexByte s.data.toList 92 = -1 := by omega
    refine .inl ⟨e, fun x hx hx2 => ?_⟩
    obtain ⟨y, hy, rfl⟩ := List.mem_map.1 hx
    obtain ⟨k, hk, e2⟩ := List.getElem_of_mem hy
    have := Lib.indexByte_none e k
    rw [List.getElem?_eq_getElem hk, e2] at this
    exact this (by rw [Option.some.injEq]; exact UInt8.toNat_inj.1 hx2)
  · obtain ⟨o, ho⟩ : ∃ o : Nat, Lib.indexByte s.data.toList 92 = (o : Int) := ⟨(Lib.indexByte s.data.toList 92).toNat, by omega⟩
    obtain ⟨h1, h2⟩ := Lib.indexByte_some ho
    have hlt : o < s.data.toList.length := by
      rcases Nat.lt_or_ge o s.data.toList.length with h | h
      · exact h
      · rw [List.getElem?_eq_none h] at h1; cases h1
    refine .inr ⟨o, ho, by omega, fun x hx hx2 => ?_, ?_⟩
    · rw [bl_head] at hx
      obtain ⟨k, hk, e2⟩ := List.getElem_of_mem hx
      rw [List.length_take] at hk
      rw [List.getElem_take] at e2
      have hk2 : k < s.data.toList.length := by rw [bl_len] at hk; omega
      have := h2 k (by omega)
      rw [List.getElem?_eq_getElem hk2] at this
      apply this
      rw [Option.some.injEq]
      apply UInt8.toNat_inj.1
      have e3 : (bl s)[k]'(by rw [bl_len]; omega) = (s.data.toList[k]'hk2).toNat := bl_getElem s k _ _
      rw [← e3, e2, hx2]
      rfl
    · rw [bl_head, bl_tail]
      have hob : o < (bl s).length := by rw [bl_len]; omega
      have e3 : (bl s)[o]'hob = 92 := by
        have : (bl s)[o]'hob = (s.data.toList[o]'hlt).toNat := bl_getElem s o _ _
        rw [this]
        rw [List.getElem?_eq_getElem hlt, Option.some.injEq] at h1
        rw [h1]
        rfl
      rw [← e3, List.getElem_cons_drop, List.take_append_drop]

/-! A literal's escapes. -/
def ErrAt (w : World) : Prop := ∃ ev, w.cell? ⟨3, 0, none⟩ = some ev ∧ (ev = .nilIface ∨ ∃ te pe, ev = .iface te pe)
theorem ErrAt.stu {w w' : World} (h : ErrAt w) (o : StU w w') : ErrAt w' := h.imp fun _ h => ⟨(o.out.cell (cell_lt h.1) no_).trans h.1, h.2⟩
structure Esc (g : FuncId) (f : List Nat → Int × Nat) : Prop where
  enters : ∀ args w, (callFunc g args).run Tryz.prog w = .ok (.enter g args) w
  says : ∀ (s : ByteArray) (w : World), s.size ≤ 140737488355328 → ErrAt w → Calls Tryz.prog g #[.string s] w fun e w' => e = .returned (.tuple #[.int .i32 (f (bl s)).1, .int .i64 ((f (bl s)).2 : Int)]) ∧ StU w w'
  le : ∀ r, (f r).2 ≤ r.length
  lo : ∀ r, Bys r → 0 ≤ (f r).1 ∧ (f r).1 ≤ 65535
theorem literalEscape_any (s : ByteArray) (w : World) :
    Calls Tryz.prog 88 #[.string s] w fun e w' => e = .returned (.tuple #[.int .i32 (litE (bl s)).1, .int .i64 ((litE (bl s)).2 : Int)]) ∧ StU w w' := by
  have hq := emp_beq s
  by_cases h0 : s = ByteArray.empty
  · rw [decide_eq_true h0] at hq
    have e : litE (bl s) = (0, 0) := by rw [h0]; rfl
    rw [e]
    clear h0 e
    go_enter Tryz.func88, Tryz.ntmps88
    go_wp2_with fail
    go_ret2
    exact ⟨rfl, hid (Only.refl _ _)⟩
  · rw [decide_eq_false h0] at hq
    have hsz : 0 < s.size := by have h2 : s.size ≠ 0 := fun e => h0 ((emp_size s).2 e); omega
    have e : litE (bl s) = ((if (s[0]'hsz).toNat = 110 then (10 : Int) else if (s[0]'hsz).toNat = 114 then (13 : Int) else ((s[0]'hsz).toNat : Int)), (1 : Nat)) := by
      have h1 := bl_at hsz
      have hl : 0 < (bl s).length := by rw [bl_len]; exact hsz
      rcases hb : bl s with _ | ⟨c, r⟩
      · rw [hb] at hl; simp at hl
      · rw [hb] at h1
        have : c = (s[0]'hsz).toNat := h1
        rw [← this]
        rfl
    rw [e]
    have hsz' : (0 : Int) < (s.size : Int) := by omega
    have hx := (s[0]'hsz).toNat_lt
    generalize hxe : (s[0]'hsz) = x at *
    have hw : IntKind.i32.wrap (x.toNat : Int) = (x.toNat : Int) := by rw [IntKind.wrap_i32]; omega
    clear h0 e
    by_cases h1 : x.toNat = 110
    · rw [if_pos h1]
      have h1' : ((x.toNat : Int) = 110) := by omega
      have HX := hid hxe
      go_enter Tryz.func88, Tryz.ntmps88
      go_wp2_with fail
      go_ret2
      exact ⟨rfl, hid (Only.refl _ _)⟩
    · rw [if_neg h1]
      have h1' : ¬ ((x.toNat : Int) = 110) := by omega
      by_cases h2 : x.toNat = 114
      · rw [if_pos h2]
        have h2' : ((x.toNat : Int) = 114) := by omega
        clear h1
        go_enter Tryz.func88, Tryz.ntmps88
        go_wp2_with fail
        go_ret2
        exact ⟨rfl, hid (Only.refl _ _)⟩
      · rw [if_neg h2]
        have h2' : ¬ ((x.toNat : Int) = 114) := by omega
        clear h1 h2
        go_enter Tryz.func88, Tryz.ntmps88
        go_wp2_with fail
        go_ret2
        exact ⟨rfl, hid (Only.refl _ _)⟩
end Go.Proofs.YtefcnaccemefnaaGreatDoor

namespace Go.Proofs.YtefcnaccemefnaaGreatDoor
open Go.RowKit U G

def puV (o : Option Nat) : Value := match o with
  | some n => .tuple #[.int .u64 (n : Int), .nilIface]
  | none => .tuple #[.int .u64 0, .iface 124 (.int .i64 2)]
theorem or32 : ∀ x : Fin 256, bits .or .u8 (x.val : Int) 32 = ((x.val ||| 32 : Nat) : Int) ∧ ((48 ≤ x.val ∧ x.val ≤ 57) ∨ (¬ (48 ≤ x.val ∧ x.val ≤ 57) ∧ 97 ≤ x.val ||| 32 ∧ x.val ||| 32 ≤ 102 ∧ hexV x.val = (x.val ||| 32) - 87) ∨ (¬ (48 ≤ x.val ∧ x.val ≤ 57) ∧ 103 ≤ x.val ||| 32 ∧ x.val ||| 32 ≤ 122 ∧ hexV x.val = 16) ∨ (¬ (48 ≤ x.val ∧ x.val ≤ 57) ∧ ((x.val ||| 32) < 97 ∨ 122 < x.val ||| 32) ∧ hexV x.val = 16)) := by decide +kernel
theorem or95 : (95 : Nat) ||| 32 = 127 := by decide
theorem puN_drop {s : ByteArray} {k m : Nat} (h : k < s.size) : puN ((bl s).drop k) m = if hexV ((bl s).getD k 0) < 16 then puN ((bl s).drop (k + 1)) (m * 16 + hexV ((bl s).getD k 0)) else none := by
  have hk : k < (bl s).length := by rw [bl_len]; exact h
  rw [List.drop_eq_getElem_cons hk]
  have e : (bl s).getD k 0 = (bl s)[k] := by rw [List.getD_eq_getElem?_getD, List.getElem?_eq_getElem hk]; rfl
  rw [e]
  rfl
set_option maxRecDepth 100000 in
set_option maxHeartbeats 4000000 in
theorem puI_any {s : ByteArray} {w : World} (h0 : s ≠ ByteArray.empty) (h4 : s.size ≤ 4) :
    Calls Tryz.prog 114 #[.string s, .int .i64 16, .int .i64 16] w fun e w' => e = .returned (puV (puN (bl s) 0)) ∧ StU w w' := by
  have hq := emp_beq s
  rw [decide_eq_false h0] at hq
  have hcv : ∀ W, (convert 9 24 (.string s)).run Tryz.prog W = .ok (.slice (some ⟨W.heap.size, 0, none⟩) s.size (grownCap W s.size 0 5)) (Lib.bytesWorld W 5 s) := fun W => Lib.run_convert_string_bytes W 9 24 5 s Tryz.underlying9 Tryz.underlying24 Tryz.underlying5
  have H0 := hid (bys_new w s)
  obtain ⟨cp, hcp⟩ : ∃ cp, grownCap w s.size 0 5 = cp := ⟨_, rfl⟩
  have hcv2 := hcv w
  rw [hcp] at hcv2
  clear hcv hcp
  obtain ⟨g, hg⟩ : ∃ g, w.heap.size = g := ⟨_, rfl⟩
  rw [hg] at hcv2 H0
  clear hg
  generalize Lib.bytesWorld w 5 s = w1 at *
  have HB := hid (bl_bys s)
  have HD : Hid (∀ k m, k < s.size → puN ((bl s).drop k) m = if hexV ((bl s).getD k 0) < 16 then puN ((bl s).drop (k + 1)) (m * 16 + hexV ((bl s).getD k 0)) else none) := hid fun k m h => puN_drop h
  have HE : Hid (∀ m, puN ((bl s).drop s.size) m = some m) := hid fun m => by rw [List.drop_eq_nil_of_le (by rw [bl_len]; exact Nat.le_refl _)]; rfl
  have HP : Hid (puN (bl s) 0 = puN ((bl s).drop 0) 0) := hid rfl
  have HV : Hid (∀ o : Option Nat, puV o = match o with | some n => .tuple #[.int .u64 (n : Int), .nilIface] | none => .tuple #[.int .u64 0, .iface 124 (.int .i64 2)]) := hid fun o => rfl
  have HLw : Hid (∀ (x : Int) W, Calls Tryz.prog 123 #[.int .u8 x] W fun e w' => e = .returned (.int .u8 (bits .or .u8 x 32)) ∧ w' = W) := hid fun x W => Tryz.internal_strconv_lower x W
  generalize hn : s.size = n at *
  generalize hpe : puN (bl s) 0 = res at *
  clear hn h0 hpe
  go_enter Tryz.func114, Tryz.ntmps114
  go_wp2_with fail
  go_loopw [12, 13, 101] (fun u v i wr => ∃ k m : Nat, k ≤ n ∧ u = .bool false ∧ i = .int .i64 (k : Int) ∧ v = .int .u64 (m : Int) ∧ Hid (res = puN ((bl s).drop k) m) ∧ Hid (m < 16 ^ k) ∧ Hid (ByS w wr g n (fun j => (bl s).getD j 0))) (fun _ _ i _ => n - (intOf i).toNat)
  case atStart => exact ⟨0, 0, by omega, rfl, rfl, rfl, HP, hid (by decide), H0⟩
  case round =>
    obtain ⟨k, m, hk, rfl, rfl, rfl, HR, HM, HS⟩ := hrel
    clear H0 HP
    by_cases hp : k < n
    · have hp' : (k : Int) < (n : Int) := by omega
      have d := HS.out.cell hp
      have hx := bys_get HB.out k
      have HK := hid (HR.out.trans (HD.out k m hp))
      have hm4 : m < 4096 := Nat.lt_of_lt_of_le HM.out (Nat.le_trans (Nat.pow_le_pow_right (by omega) (show k ≤ 3 by omega)) (by decide))
      have hm1 : m * 16 + 16 ≤ 65536 := by omega
      have HM2 : Hid (∀ q, q < 16 → m * 16 + q < 16 ^ (k + 1)) := hid fun q hq => by
        have := HM.out
        rw [Nat.pow_succ]
        omega
      generalize hxe : (bl s).getD k 0 = x at *
      have HXe := hid hxe
      clear hxe HR HM
      have HX : ((48 ≤ x ∧ x ≤ 57) ∨ (¬ (48 ≤ x ∧ x ≤ 57) ∧ 97 ≤ x ||| 32 ∧ x ||| 32 ≤ 102 ∧ hexV x = (x ||| 32) - 87) ∨ (¬ (48 ≤ x ∧ x ≤ 57) ∧ 103 ≤ x ||| 32 ∧ x ||| 32 ≤ 122 ∧ hexV x = 16) ∨ (¬ (48 ≤ x ∧ x ≤ 57) ∧ ((x ||| 32) < 97 ∨ 122 < x ||| 32) ∧ hexV x = 16)) := (or32 ⟨x, hx⟩).2
      have HLx : Hid (∀ W, Calls Tryz.prog 123 #[.int .u8 (x : Int)] W fun e w' => e = .returned (.int .u8 ((x ||| 32 : Nat) : Int)) ∧ w' = W) := hid fun W => by have := HLw.out (x : Int) W; rwa [(or32 ⟨x, hx⟩).1] at this
      obtain ⟨y, hy⟩ : ∃ y, x ||| 32 = y := ⟨_, rfl⟩
      rw [hy] at HX HLx
      have h95 : ¬ ((x : Int) = 95) ∨ (x : Int) = 95 := by omega
      have hc16 : (0 : Int) ≤ (m : Int) := by omega
      have hcut : ¬ ((1152921504606846976 : Int) ≤ (m : Int)) := by omega
      have hmul : IntKind.u64.wrap ((m : Int) * 16) = ((m * 16 : Nat) : Int) := by rw [IntKind.wrap_u64]; omega
      have HX95 : x = 95 → y = 127 := fun e => by rw [← hy, e]; exact or95
      clear hy HLw
      rcases HX with ⟨a1, a2⟩ | ⟨a0, a1, a2, a3⟩ | ⟨a0, a1, a2, a3⟩ | ⟨a0, a1, a3⟩
      · have hv : hexV x = x - 48 := by unfold hexV; rw [if_pos ⟨a1, a2⟩]
        rw [hv, if_pos (by omega)] at HK
        obtain ⟨q, hq0⟩ : ∃ q, x - 48 = q := ⟨_, rfl⟩
        have hq1 : q < 16 := by omega
        have b1 : (48 : Int) ≤ (x : Int) := by omega
        have b2 : (x : Int) ≤ 57 := by omega
        have b3 : ¬ ((x : Int) = 95) := by omega
        have b4 : IntKind.u8.wrap ((x : Int) - 48) = (q : Int) := by rw [IntKind.wrap_u8]; omega
        have b5 : ¬ (16 : Int) ≤ (q : Int) := by omega
        have b6 : IntKind.u64.wrap (q : Int) = (q : Int) := by rw [IntKind.wrap_u64]; omega
        have b7 : IntKind.u64.wrap (((m * 16 : Nat) : Int) + (q : Int)) = ((m * 16 + q : Nat) : Int) := by rw [IntKind.wrap_u64]; omega
        have b8 : ¬ (((m * 16 + q : Nat) : Int) < ((m * 16 : Nat) : Int)) := by omega
        have b9 : ¬ ((65535 : Int) < ((m * 16 + q : Nat) : Int)) := by omega
        rw [hq0] at HK
        have HM3 := hid (HM2.out q hq1)
        obtain ⟨m1, hm1e⟩ : ∃ m1, m * 16 = m1 := ⟨_, rfl⟩
        rw [hm1e] at hmul b7 b8 b9 HK HM3
        obtain ⟨m2, hm2e⟩ : ∃ m2, m1 + q = m2 := ⟨_, rfl⟩
        rw [hm2e] at b7 b8 b9 HK HM3
        clear hv hq0 a1 a2 hm1e hm2e h95 HM2 HX95
        go_wp2_with fail
        go_roundw
        case rel => exact ⟨k + 1, m2, by omega, rfl, by go_num, rfl, HK, HM3, HS⟩
        case measure => simp [intOf]; omega
      · have hv := a3
        rw [hv, if_pos (by omega)] at HK
        obtain ⟨q, hq0⟩ : ∃ q, y - 87 = q := ⟨_, rfl⟩
        have hq1 : q < 16 := by omega
        have b0 : ¬ ((x : Int) = 95) := by
          intro e
          have : x = 95 := by omega
          subst this
          have e16 : hexV 95 = 16 := by decide
          omega
        have c1 : (97 : Int) ≤ (y : Int) := by omega
        have c2 : (y : Int) ≤ 122 := by omega
        obtain ⟨z, hz⟩ : ∃ z : Int, (y : Int) - 97 = z := ⟨_, rfl⟩
        have c3 : IntKind.u8.wrap ((y : Int) - 97) = z := by rw [IntKind.wrap_u8]; omega
        have c4 : IntKind.u8.wrap (z + 10) = (q : Int) := by rw [IntKind.wrap_u8]; omega
        clear hz
        have b5 : ¬ (16 : Int) ≤ (q : Int) := by omega
        have b6 : IntKind.u64.wrap (q : Int) = (q : Int) := by rw [IntKind.wrap_u64]; omega
        have b7 : IntKind.u64.wrap (((m * 16 : Nat) : Int) + (q : Int)) = ((m * 16 + q : Nat) : Int) := by rw [IntKind.wrap_u64]; omega
        have b8 : ¬ (((m * 16 + q : Nat) : Int) < ((m * 16 : Nat) : Int)) := by omega
        have b9 : ¬ ((65535 : Int) < ((m * 16 + q : Nat) : Int)) := by omega
        rw [hq0] at HK
        have HM3 := hid (HM2.out q hq1)
        obtain ⟨m1, hm1e⟩ : ∃ m1, m * 16 = m1 := ⟨_, rfl⟩
        rw [hm1e] at hmul b7 b8 b9 HK HM3
        obtain ⟨m2, hm2e⟩ : ∃ m2, m1 + q = m2 := ⟨_, rfl⟩
        rw [hm2e] at b7 b8 b9 HK HM3
        clear hv hq0 a1 a2 hm1e hm2e h95 HM2 a3 HX95
        have Hcut := hid hm4
        clear hcut hm1 hm4 hc16
        by_cases z1 : 48 ≤ x
        · have z1' : (48 : Int) ≤ (x : Int) := by omega
          have z2' : ¬ (x : Int) ≤ 57 := by omega
          clear a0 z1
          go_upto_region 46 with (go_at_call 123; refine (HLx.out _).mono ?_; rintro e wl ⟨rfl, hwl⟩; subst hwl)
          have hcut : ¬ ((1152921504606846976 : Int) ≤ (m : Int)) := by have := Hcut.out; omega
          go_wp2_with fail
          go_roundw
          case rel => exact ⟨k + 1, m2, by omega, rfl, by go_num, rfl, HK, HM3, HS⟩
          case measure => simp [intOf]; omega
        · have z1' : ¬ (48 : Int) ≤ (x : Int) := by omega
          clear a0 z1
          go_upto_region 46 with (go_at_call 123; refine (HLx.out _).mono ?_; rintro e wl ⟨rfl, hwl⟩; subst hwl)
          have hcut : ¬ ((1152921504606846976 : Int) ≤ (m : Int)) := by have := Hcut.out; omega
          go_wp2_with fail
          go_roundw
          case rel => exact ⟨k + 1, m2, by omega, rfl, by go_num, rfl, HK, HM3, HS⟩
          case measure => simp [intOf]; omega
      · rw [a3, if_neg (by omega)] at HK
        obtain ⟨q, hq0⟩ : ∃ q, y - 87 = q := ⟨_, rfl⟩
        have b0 : ¬ ((x : Int) = 95) := by omega
        have c1 : (97 : Int) ≤ (y : Int) := by omega
        have c2 : (y : Int) ≤ 122 := by omega
        obtain ⟨z, hz⟩ : ∃ z : Int, (y : Int) - 97 = z := ⟨_, rfl⟩
        have c3 : IntKind.u8.wrap ((y : Int) - 97) = z := by rw [IntKind.wrap_u8]; omega
        have c4 : IntKind.u8.wrap (z + 10) = (q : Int) := by rw [IntKind.wrap_u8]; omega
        clear hz
        have b5 : (16 : Int) ≤ (q : Int) := by omega
        clear hq0 a1 a2 h95 HM2 a3 HX95 hm1 hm4 hc16 hcut hmul
        by_cases z1 : 48 ≤ x
        · have z1' : (48 : Int) ≤ (x : Int) := by omega
          have z2' : ¬ (x : Int) ≤ 57 := by omega
          clear a0 z1
          go_wp2_with ((go_at_call 123; refine (HLx.out _).mono ?_; rintro e wl ⟨rfl, rfl⟩))
          go_ret2
          exact ⟨by rw [HK.out]; rfl, hid HS.out.only⟩
        · have z1' : ¬ (48 : Int) ≤ (x : Int) := by omega
          clear a0 z1
          go_wp2_with ((go_at_call 123; refine (HLx.out _).mono ?_; rintro e wl ⟨rfl, rfl⟩))
          go_ret2
          exact ⟨by rw [HK.out]; rfl, hid HS.out.only⟩
      · rw [a3, if_neg (by omega)] at HK
        clear h95 HM2 a3 HX95 hm1 hm4 hc16 hcut hmul
        by_cases h95 : (x : Int) = 95
        · have HL95 := HLx
          rw [h95] at HL95
          clear HLx
          rcases a1 with a1 | a1
          · have c1 : ¬ (97 : Int) ≤ (y : Int) := by omega
            clear a1
            have z1' : (48 : Int) ≤ (x : Int) := by omega
            have z2' : ¬ (x : Int) ≤ 57 := by omega
            clear a0
            go_wp2_with ((go_at_call 123; refine (HL95.out _).mono ?_; rintro e wl ⟨rfl, rfl⟩))
            go_ret2
            exact ⟨by rw [HK.out]; rfl, hid HS.out.only⟩
          · have c1 : (97 : Int) ≤ (y : Int) := by omega
            have c2 : ¬ (y : Int) ≤ 122 := by omega
            clear a1
            have z1' : (48 : Int) ≤ (x : Int) := by omega
            have z2' : ¬ (x : Int) ≤ 57 := by omega
            clear a0
            go_wp2_with ((go_at_call 123; refine (HL95.out _).mono ?_; rintro e wl ⟨rfl, rfl⟩))
            go_ret2
            exact ⟨by rw [HK.out]; rfl, hid HS.out.only⟩
        · rcases a1 with a1 | a1
          · have c1 : ¬ (97 : Int) ≤ (y : Int) := by omega
            clear a1
            by_cases z1 : 48 ≤ x
            · have z1' : (48 : Int) ≤ (x : Int) := by omega
              have z2' : ¬ (x : Int) ≤ 57 := by omega
              clear a0 z1
              go_wp2_with ((go_at_call 123; refine (HLx.out _).mono ?_; rintro e wl ⟨rfl, rfl⟩))
              go_ret2
              exact ⟨by rw [HK.out]; rfl, hid HS.out.only⟩
            · have z1' : ¬ (48 : Int) ≤ (x : Int) := by omega
              clear a0 z1
              go_wp2_with ((go_at_call 123; refine (HLx.out _).mono ?_; rintro e wl ⟨rfl, rfl⟩))
              go_ret2
              exact ⟨by rw [HK.out]; rfl, hid HS.out.only⟩
          · have c1 : (97 : Int) ≤ (y : Int) := by omega
            have c2 : ¬ (y : Int) ≤ 122 := by omega
            clear a1
            by_cases z1 : 48 ≤ x
            · have z1' : (48 : Int) ≤ (x : Int) := by omega
              have z2' : ¬ (x : Int) ≤ 57 := by omega
              clear a0 z1
              go_wp2_with ((go_at_call 123; refine (HLx.out _).mono ?_; rintro e wl ⟨rfl, rfl⟩))
              go_ret2
              exact ⟨by rw [HK.out]; rfl, hid HS.out.only⟩
            · have z1' : ¬ (48 : Int) ≤ (x : Int) := by omega
              clear a0 z1
              go_wp2_with ((go_at_call 123; refine (HLx.out _).mono ?_; rintro e wl ⟨rfl, rfl⟩))
              go_ret2
              exact ⟨by rw [HK.out]; rfl, hid HS.out.only⟩
    · have hp' : ¬ (k : Int) < (n : Int) := by omega
      have hke : k = n := by omega
      have HF : Hid (res = some m) := hid (by have := HR.out; rw [hke] at this; rw [this, HE.out])
      clear HR hke HD HE
      go_wp2_with fail
      go_ret2
      exact ⟨by rw [HF.out]; rfl, hid HS.out.only⟩
theorem pu_ok {s : ByteArray} {w : World} {m : Nat} (h0 : s ≠ ByteArray.empty) (h4 : s.size ≤ 4) (hm : puN (bl s) 0 = some m) :
    Calls Tryz.prog 105 #[.string s, .int .i64 16, .int .i64 16] w fun e w' => e = .returned (.tuple #[.int .u64 (m : Int), .nilIface]) ∧ StU w w' := by
  have HI : Hid (Calls Tryz.prog 114 #[.string s, .int .i64 16, .int .i64 16] w fun e w' => e = .returned (.tuple #[.int .u64 (m : Int), .nilIface]) ∧ StU w w') := hid ((puI_any h0 h4).mono fun e w' h => ⟨by rw [h.1, hm]; rfl, h.2⟩)
  clear h0 h4 hm
  go_enter Tryz.func105, Tryz.ntmps105
  go_wp2_with (go_at_call 114; refine HI.out.mono ?_; rintro e w1 ⟨rfl, HO⟩)
  go_ret2
  exact ⟨rfl, HO⟩
theorem pu_bad {s : ByteArray} {w : World} (h0 : s ≠ ByteArray.empty) (h4 : s.size ≤ 4) (hm : puN (bl s) 0 = none) (hE : ErrAt w) :
    Calls Tryz.prog 105 #[.string s, .int .i64 16, .int .i64 16] w fun e w' => (∃ v t p, e = .returned (.tuple #[v, .iface t p])) ∧ StU w w' := by
  have HI : Hid (Calls Tryz.prog 114 #[.string s, .int .i64 16, .int .i64 16] w fun e w' => e = .returned (.tuple #[.int .u64 0, .iface 124 (.int .i64 2)]) ∧ StU w w') := hid ((puI_any h0 h4).mono fun e w' h => ⟨by rw [h.1, hm]; rfl, h.2⟩)
  obtain ⟨ev, he, hev⟩ := hE
  have HT : Hid (∀ W, StU w W → ∀ z : ByteArray, z.size ≤ 281474976710656 → Calls Tryz.prog 115 #[.string z, .string s, .int .i64 16, .int .i64 16, .iface 124 (.int .i64 2)] W fun e w' => (∃ N, e = .returned (.iface 126 (.pointer (some ⟨N, 0, none⟩)))) ∧ StU W w') := hid fun W hW z hz => (Tryz.strconv_toError_syntax z s 16 16 ev W (by omega) ((hW.out.cell (cell_lt he) no_).trans he) hev).mono fun e w' h => by
    obtain ⟨N, h1, _, _, h4⟩ := h
    exact ⟨⟨N, h1⟩, hid (Only.of_below h4 _)⟩
  clear h0 h4 hm hev he
  go_enter Tryz.func105, Tryz.ntmps105
  go_wp2_with (first
    | (go_at_call 114; refine HI.out.mono ?_; rintro e w1 ⟨rfl, HO⟩)
    | (go_at_call 115; refine (HT.out _ HO _ (by decide)).mono ?_; rintro e w2 ⟨⟨N, rfl⟩, HO2⟩))
  go_ret2
  exact ⟨⟨_, _, _, rfl⟩, hid (HO.out.trans HO2.out)⟩
theorem iriEscape_any (s : ByteArray) (w : World) (hs : s.size ≤ 140737488355328) (hE : ErrAt w) :
    Calls Tryz.prog 86 #[.string s] w fun e w' => e = .returned (.tuple #[.int .i32 (iriE (bl s)).1, .int .i64 ((iriE (bl s)).2 : Int)]) ∧ StU w w' := by
  by_cases h5 : s.size < 5
  · have e : iriE (bl s) = (0, 0) := by unfold iriE; rw [if_pos (by rw [bl_len]; exact h5)]
    rw [e]
    have h5' : (s.size : Int) < 5 := by omega
    clear e
    go_enter Tryz.func86, Tryz.ntmps86
    go_wp2_with fail
    go_ret2
    exact ⟨rfl, hid (Only.refl _ _)⟩
  · have h5' : ¬ (s.size : Int) < 5 := by omega
    have h5'' : (5 : Int) ≤ (s.size : Int) := by omega
    have hbl : bl (s.extract 1 5) = ((bl s).take 5).drop 1 := bl_extract s 1 5
    have hsz : (s.extract 1 5).size = 4 := by rw [← bl_len, hbl, List.length_drop, List.length_take, bl_len]; omega
    have hne : s.extract 1 5 ≠ ByteArray.empty := fun e => by rw [e] at hsz; revert hsz; decide
    have hw : ∀ m : Nat, m < 65536 → IntKind.i32.wrap (m : Int) = (m : Int) := fun m h => by rw [IntKind.wrap_i32]; omega
    cases hp : puN (((bl s).take 5).drop 1) 0 with
    | none =>
      have e : iriE (bl s) = (0, 0) := by unfold iriE; rw [if_neg (by rw [bl_len]; omega), hp]
      rw [e]
      have HP := hid (fun W (hW : StU w W) => pu_bad (w := W) hne (by omega) (by rw [hbl]; exact hp) (hE.stu hW))
      generalize hz : s.extract 1 5 = z at *
      have HZ := hid hz
      clear e hp hbl hsz hne hw hz h5
      go_enter Tryz.func86, Tryz.ntmps86
      go_wp2_with (go_at_call 105; rw [HZ.out]; refine (HP.out _ (hid (Only.refl _ _))).mono ?_; rintro e w1 ⟨⟨v, t, p, rfl⟩, HO⟩)
      go_ret2
      exact ⟨rfl, HO⟩
    | some m =>
      have e : iriE (bl s) = ((m : Int), 5) := by unfold iriE; rw [if_neg (by rw [bl_len]; omega), hp]
      have hm : m < 65536 := by
        have := puN_lt _ _ _ hp
        rw [← hbl, bl_len, hsz] at this
        omega
      have hwm := hw m hm
      rw [e]
      have HP := hid (pu_ok (w := w) hne (by omega) (by rw [hbl]; exact hp))
      generalize hz : s.extract 1 5 = z at *
      have HZ := hid hz
      clear e hp hbl hsz hne hw hz h5 hm
      go_enter Tryz.func86, Tryz.ntmps86
      go_wp2_with (go_at_call 105; rw [HZ.out]; refine HP.out.mono ?_; rintro e w1 ⟨rfl, HO⟩)
      go_ret2
      exact ⟨rfl, HO⟩
theorem esc_lit : Esc 88 litE := ⟨enters_of Tryz.func88 (by kernel_rfl) rfl, fun s w _ _ => literalEscape_any s w, litE_le, fun _ h => litE_in h⟩
theorem esc_iri : Esc 86 iriE := ⟨enters_of Tryz.func86 (by kernel_rfl) rfl, fun s w hs hE => iriEscape_any s w hs hE, iriE_le, fun r _ => iriE_in r⟩
end Go.Proofs.YtefcnaccemefnaaGreatDoor

namespace Go.Proofs.YtefcnaccemefnaaGreatDoor
open Go.RowKit U G

def lenOf : Value → Nat
  | .string r => r.size
  | _ => 0
set_option maxHeartbeats 4000000 in
theorem unescaped_any {g : FuncId} {f : List Nat → Int × Nat} (hg : Esc g f) {s : ByteArray} {w : World} (hs : s.size ≤ 1000000) (hE : ErrAt w) :
    Calls Tryz.prog 84 #[.string s, .func (.func g) #[] #[]] w fun e w' => e = .returned (.string (strB (unE f (bl s)))) ∧ StU w w' := by
  have eg := hg.enters
  have HS0 := hid (wr_new w)
  obtain ⟨w1, hw1⟩ : ∃ w1, w1 = w.alloc (.cells #[.pointer none, .slice none 0 0] 59) := ⟨_, rfl⟩
  rw [← hw1] at HS0
  have HE1 : Hid (∀ W, Only (fun _ => False) w W → ErrAt W) := hid fun W hW => hE.stu (hid hW)
  have HG : Hid (∀ (z : ByteArray) W, z.size ≤ 1000000 → Only (fun _ => False) w W → Calls Tryz.prog g #[.string z] W fun e w' => e = .returned (.tuple #[.int .i32 (f (bl z)).1, .int .i64 ((f (bl z)).2 : Int)]) ∧ StU W w') := hid fun z W hz hW => hg.says z W (by omega) (HE1.out W hW)
  have HGl := hid hg.le
  have HGo := hid hg.lo
  have HB := hid (bl_bys s)
  have HU : Hid (Bys (unE f (bl s)) ∧ (unE f (bl s)).length ≤ 4000000) := hid ⟨unE_bys f _ _ (Nat.le_refl _) (bl_bys s), by have := unE_len f _ (bl s) (Nat.le_refl _); rw [bl_len] at this; omega⟩
  obtain ⟨b, hb⟩ : ∃ b, w.heap.size = b := ⟨_, rfl⟩
  rw [hb] at HS0
  obtain ⟨U, hU⟩ : ∃ U, unE f (bl s) = U := ⟨_, rfl⟩
  have HU0 : Hid (U = [] ++ unE f (bl s)) := hid hU.symm
  rw [hU] at HU
  rw [hU]
  have hb2 := hid hb
  clear hg hE HE1 hU hb
  go_enter Tryz.func84, Tryz.ntmps84
  go_upto_region 2 with fail
  rw [← hw1, hb2.out]
  clear hw1
  go_loopw [0] (fun v wr => ∃ (r : ByteArray) (l : List Nat), v = .string r ∧ Hid (WrS w wr b l) ∧ Hid (U = l ++ unE f (bl r)) ∧ r.size ≤ s.size) (fun v _ => lenOf v)
  case atStart => exact ⟨s, [], rfl, HS0, HU0, Nat.le_refl _⟩
  case round =>
    obtain ⟨r, l, rfl, HS, HR, hr⟩ := hrel
    clear HS0 HU0
    have hl : l.length ≤ 4000000 := by have := HU.out.2; have h2 := congrArg List.length HR.out; rw [List.length_append] at h2; omega
    rcases bsl_where r with ⟨hi, hno⟩ | ⟨o, hi, ho, hah, heq⟩
    · have HCut := hid (fun W => cut_no (s := r) (w := W) hi)
      have HP : Hid (∀ W, Hid (WrS w W b l) → Calls Tryz.prog 50 #[.pointer (some ⟨b, 0, none⟩), .slice (some ⟨W.heap.size, 0, none⟩) 1 1] (W.alloc (.cells #[.string r] 9)) fun e w' => e = .returned (.tuple #[]) ∧ Hid (WrS w w' b U)) := hid fun W hW => (pieces_new (n := 1) (ss := [r]) hW.out rfl rfl (by omega) (by rw [List.flatMap_cons, List.flatMap_nil, List.append_nil, bl_len]; omega)).mono fun e w' h => ⟨h.1, hid (by
        have h2 := h.2.out.1
        rw [List.flatMap_cons, List.flatMap_nil, List.append_nil] at h2
        rw [HR.out, unE_plain f hno]
        exact h2)⟩
      have HF : Hid (∀ W, Hid (WrS w W b U) → Calls Tryz.prog 52 #[.pointer (some ⟨b, 0, none⟩)] W fun e w' => e = .returned (.string (strB U)) ∧ StU w w') := hid fun W hW => string_any hW.out HU.out.1
      have HS1 : Hid (∀ W, StU wr W → Hid (WrS w W b l)) := hid fun W hW => hid (HS.out.only_of hW.out)
      clear hi hno HS HR HG HGl HGo HB HU hl hb2
      go_wp2_with (first
        | (go_at_call 103; refine (HCut.out _).mono ?_; rintro e w2 ⟨rfl, HO⟩; have HS2 := HS1.out _ HO; clear HO HS1)
        | (go_at_call 50; refine (HP.out _ HS2).mono ?_; rintro e w3 ⟨rfl, HS3⟩; clear HS2)
        | (go_at_call 52; refine (HF.out _ HS3).mono ?_; rintro e w4 ⟨rfl, HS4⟩))
      go_ret
      exact ⟨rfl, HS4⟩
    · have HCut := hid (fun W => cut_yes (s := r) (w := W) hi ho (by omega))
      have hcl : bl (r.extract (o + 1) r.size) = (bl r).drop (o + 1) := bl_tail r (o + 1)
      have hcs : (r.extract (o + 1) r.size).size = r.size - (o + 1) := by rw [← bl_len, hcl, List.length_drop, bl_len]
      have has : (bl (r.extract 0 o)).length ≤ 1000000 := by rw [bl_head, List.length_take, bl_len]; omega
      obtain ⟨a, ha⟩ : ∃ a, r.extract 0 o = a := ⟨_, rfl⟩
      obtain ⟨c, hc⟩ : ∃ c, r.extract (o + 1) r.size = c := ⟨_, rfl⟩
      rw [ha] at HCut hah heq has
      rw [hc] at HCut heq hcs
      have hcm : c.size ≤ 1000000 := by omega
      have hle := HGl.out (bl c)
      have hlo := HGo.out (bl c) (bl_bys c)
      have HGc := hid (fun W hW => HG.out c W hcm hW)
      rw [bl_len] at hle
      have hun : unE f (bl r) = bl a ++ (encR (f (bl c)).1 ++ unE f ((bl c).drop (f (bl c)).2)) := by rw [heq, unE_ahead f _ hah, unE_esc]
      have hdr := bl_tail c (f (bl c)).2
      obtain ⟨z, hz⟩ : ∃ z, (f (bl c)).1 = z := ⟨_, rfl⟩
      obtain ⟨k, hk⟩ : ∃ k, (f (bl c)).2 = k := ⟨_, rfl⟩
      rw [hz] at hlo HGc hun
      rw [hk] at hle HGc hun hdr
      have hez := encR_len z
      have HP : Hid (∀ W, Hid (WrS w W b l) → Calls Tryz.prog 50 #[.pointer (some ⟨b, 0, none⟩), .slice (some ⟨W.heap.size, 0, none⟩) 1 1] (W.alloc (.cells #[.string a] 9)) fun e w' => e = .returned (.tuple #[]) ∧ Hid (WrS w w' b (l ++ bl a))) := hid fun W hW => (pieces_new (n := 1) (ss := [a]) hW.out rfl rfl (by omega) (by rw [List.flatMap_cons, List.flatMap_nil, List.append_nil]; omega)).mono fun e w' h => ⟨h.1, hid (by
        have h2 := h.2.out.1
        rwa [List.flatMap_cons, List.flatMap_nil, List.append_nil] at h2)⟩
      have HW : Hid (∀ W, Hid (WrS w W b (l ++ bl a)) → Calls Tryz.prog 80 #[.pointer (some ⟨b, 0, none⟩), .int .i32 z] W fun e w' => (∃ v1, e = .returned v1) ∧ Hid (WrS w w' b (l ++ bl a ++ encR z))) := hid fun W hW => (writeRune_any hW.out (by omega) (by omega) (by rw [List.length_append]; omega)).mono fun e w' h => ⟨h.1, hid h.2.out.1⟩
      have HS1 : Hid (∀ W, StU wr W → Hid (WrS w W b l)) := hid fun W hW => hid (HS.out.only_of hW.out)
      have HS3 : Hid (∀ W W' : World, Hid (WrS w W b (l ++ bl a)) → StU W W' → Hid (WrS w W' b (l ++ bl a))) := hid fun W W' hW h => hid (hW.out.only_of h.out)
      have hcsz : (c.extract k c.size).size = c.size - k := by rw [← bl_len, hdr, List.length_drop, bl_len]
      have HR2 : Hid (U = (l ++ bl a ++ encR z) ++ unE f (bl (c.extract k c.size))) := hid (by rw [HR.out, hun, hdr]; simp)
      have hlt : (c.extract k c.size).size < r.size := by omega
      have hle2 : (k : Int) ≤ (c.size : Int) := by omega
      have hle3 : (0 : Int) ≤ (k : Int) := by omega
      obtain ⟨q, hq⟩ : ∃ q, c.extract k c.size = q := ⟨_, rfl⟩
      rw [hq] at HR2 hlt
      have HQ := hid hq
      clear hi ho hah heq hcl hcs has ha hc hcm hle hlo hun hdr hz hk hez hcsz hq HR HS hl HGl HGo HG hb2
      go_wp2_with (first
        | (go_at_call 103; refine (HCut.out _).mono ?_; rintro e w2 ⟨rfl, HO⟩; have HS2 := HS1.out _ HO; clear HO HS1)
        | (go_at_call 50; refine (HP.out _ HS2).mono ?_; rintro e w3 ⟨rfl, HT3⟩; clear HS2)
        | (go_at_fn g; refine (HGc.out _ HT3.out.only).mono ?_; rintro e w4 ⟨rfl, HO4⟩; have HT4 := HS3.out _ _ HT3 HO4; clear HT3 HO4 HS3)
        | (go_at_call 80; refine (HW.out _ HT4).mono ?_; rintro e w5 ⟨⟨v1, rfl⟩, HT5⟩; clear HT4))
      go_roundw
      case rel => exact ⟨q, _, by rw [← HQ.out], HT5, HR2, by omega⟩
      case measure => rw [HQ.out]; exact hlt

/-! What stands behind a <, behind a ". -/
def zeroT : Tm := ⟨0, ByteArray.empty, ByteArray.empty, ByteArray.empty⟩
def iriIn (s : ByteArray) : ByteArray := strB (unE iriE (bl (sufS s { data := #[62] })))
def litInT (s : ByteArray) : Tm :=
  if Lib.lastIndexByte s 34 < 0 then zeroT
  else
    if Lib.hasPrefix (s.extract ((Lib.lastIndexByte s 34).toNat + 1) s.size).data.toList [94, 94, 60] = true then
      typT (strB (unE litE (bl (s.extract 0 (Lib.lastIndexByte s 34).toNat)))) (iriIn (trP (s.extract ((Lib.lastIndexByte s 34).toNat + 1) s.size) { data := #[94, 94, 60] }))
    else tagT (strB (unE litE (bl (s.extract 0 (Lib.lastIndexByte s 34).toNat)))) (trP (s.extract ((Lib.lastIndexByte s 34).toNat + 1) s.size) { data := #[64] })
def meantT (s : ByteArray) : Tm :=
  if Lib.hasPrefix s.data.toList [60] = true then iriT (iriIn (trP s { data := #[60] }))
  else if Lib.hasPrefix s.data.toList [95, 58] = true then blankT (trP s { data := #[95, 58] })
  else if Lib.hasPrefix s.data.toList [34] = true then litInT (trP s { data := #[34] })
  else zeroT
theorem strB_size {l : List Nat} (h : Bys l) : (strB l).size = l.length := by rw [← bl_len, bl_strB h]
theorem unE_size (f : List Nat → Int × Nat) (s : ByteArray) : (strB (unE f (bl s))).size ≤ 4 * s.size := by
  rw [strB_size (unE_bys f _ _ (Nat.le_refl _) (bl_bys s))]
  have := unE_len f _ (bl s) (Nat.le_refl _)
  rwa [bl_len] at this
theorem iriIn_size (s : ByteArray) : (iriIn s).size ≤ 4 * s.size := by
  have h1 := unE_size iriE (sufS s { data := #[62] })
  have h2 := sufS_len s { data := #[62] }
  unfold iriIn
  omega
theorem iriIn_of {s y : ByteArray} (h : bl s = iriB (bl y) ++ [62]) : iriIn s = y := by
  unfold iriIn
  rw [sufS_of (p := { data := #[62] }) (l := iriB (bl y)) h, unE_iri, strB_bl]
theorem ext_size (s : ByteArray) (a b : Nat) : (s.extract a b).size ≤ s.size := by rw [← bl_len, bl_extract, List.length_drop, List.length_take, bl_len]; omega
theorem sizeT_zero : sizeT zeroT = 0 := rfl
theorem sizeT_typ (x y : ByteArray) : sizeT (typT x y) ≤ x.size + y.size := by
  unfold typT
  split
  · show x.size + 0 + 0 ≤ _; omega
  · show x.size + 0 + y.size ≤ _; omega
theorem sizeT_tag (x g : ByteArray) : sizeT (tagT x g) ≤ x.size + g.size := by
  show x.size + (low g).size + 0 ≤ _
  rw [low_len]; omega
theorem litIn_size (s : ByteArray) : sizeT (litInT s) ≤ 8 * s.size := by
  unfold litInT
  split
  · rw [sizeT_zero]; omega
  · have h1 := unE_size litE (s.extract 0 (Lib.lastIndexByte s 34).toNat)
    have h2 := ext_size s 0 (Lib.lastIndexByte s 34).toNat
    have h3 := ext_size s ((Lib.lastIndexByte s 34).toNat + 1) s.size
    split
    · have h4 := iriIn_size (trP (s.extract ((Lib.lastIndexByte s 34).toNat + 1) s.size) { data := #[94, 94, 60] })
      have h5 := trP_len (s.extract ((Lib.lastIndexByte s 34).toNat + 1) s.size) { data := #[94, 94, 60] }
      have h6 := sizeT_typ (strB (unE litE (bl (s.extract 0 (Lib.lastIndexByte s 34).toNat)))) (iriIn (trP (s.extract ((Lib.lastIndexByte s 34).toNat + 1) s.size) { data := #[94, 94, 60] }))
      omega
    · have h5 := trP_len (s.extract ((Lib.lastIndexByte s 34).toNat + 1) s.size) { data := #[64] }
      have h6 := sizeT_tag (strB (unE litE (bl (s.extract 0 (Lib.lastIndexByte s 34).toNat)))) (trP (s.extract ((Lib.lastIndexByte s 34).toNat + 1) s.size) { data := #[64] })
      omega
theorem meant_size (s : ByteArray) : sizeT (meantT s) ≤ 8 * s.size := by
  unfold meantT
  split
  · have h1 := iriIn_size (trP s { data := #[60] })
    have h2 := trP_len s { data := #[60] }
    show (iriIn (trP s { data := #[60] })).size + 0 + 0 ≤ _
    omega
  · split
    · have h2 := trP_len s { data := #[95, 58] }
      show (trP s { data := #[95, 58] }).size + 0 + 0 ≤ _
      omega
    · split
      · have h1 := litIn_size (trP s { data := #[34] })
        have h2 := trP_len s { data := #[34] }
        omega
      · rw [sizeT_zero]; omega
theorem litIn_of {s : ByteArray} {t : Tm} (hr : rightT t = true) (h : textL t = 34 :: bl s) : litInT s = t := by
  have hb := text_behind hr
  have key : ∀ beh : List Nat, bl s = litB (bl t.x) ++ 34 :: beh → (∀ x ∈ beh, x ≠ 34) → Lib.lastIndexByte s 34 = ((litB (bl t.x)).length : Int) ∧ strB (unE litE (bl (s.extract 0 (Lib.lastIndexByte s 34).toNat))) = t.x ∧ bl (s.extract ((Lib.lastIndexByte s 34).toNat + 1) s.size) = beh := by
    intro beh e hn
    have h1 : Lib.lastIndexByte s 34 = ((litB (bl t.x)).length : Int) := last_of (c := 34) e hn
    refine ⟨h1, ?_, ?_⟩
    · rw [h1, Int.toNat_natCast, bl_head, e, List.take_left, unE_lit, strB_bl]
    · rw [h1, Int.toNat_natCast, bl_tail, e, show (litB (bl t.x)).length + 1 = (litB (bl t.x) ++ [34]).length by simp, show litB (bl t.x) ++ 34 :: beh = (litB (bl t.x) ++ [34]) ++ beh by simp, List.drop_left]
  rcases text_lit hr h with ⟨k, e⟩ | ⟨k, e⟩
  · obtain ⟨h1, h2, h3⟩ := key _ e (hb.1 k)
    unfold litInT
    rw [if_neg (by rw [h1]; omega), h2]
    obtain ⟨b, hbb⟩ : ∃ b, s.extract ((Lib.lastIndexByte s 34).toNat + 1) s.size = b := ⟨_, rfl⟩
    rw [hbb] at h3 ⊢
    have hnp : ¬ Lib.hasPrefix b.data.toList [94, 94, 60] = true := fun hp => by
      have := pre_true (s := b) (p := { data := #[94, 94, 60] }) hp
      rw [h3] at this
      split at this
      · cases this
      · cases this
    rw [if_neg hnp]
    refine Eq.trans ?_ (right_lit k hr).1.symm
    by_cases hg : t.g = ByteArray.empty
    · rw [if_pos hg] at h3
      have hb0 : b = ByteArray.empty := bl_inj h3
      rw [hb0, hg]
      rfl
    · rw [if_neg hg] at h3
      have : trP b { data := #[64] } = t.g := bl_inj (trP_of (p := { data := #[64] }) h3)
      rw [this]
  · obtain ⟨h1, h2, h3⟩ := key _ e (hb.2 k)
    unfold litInT
    rw [if_neg (by rw [h1]; omega), h2]
    obtain ⟨b, hbb⟩ : ∃ b, s.extract ((Lib.lastIndexByte s 34).toNat + 1) s.size = b := ⟨_, rfl⟩
    rw [hbb] at h3 ⊢
    have hp : Lib.hasPrefix b.data.toList [94, 94, 60] = true := by
      cases hc : Lib.hasPrefix b.data.toList [94, 94, 60] with
      | true => rfl
      | false => exact absurd h3 (pre_false (s := b) (p := { data := #[94, 94, 60] }) hc _)
    have hi : iriIn (trP b { data := #[94, 94, 60] }) = t.y := iriIn_of (trP_of (p := { data := #[94, 94, 60] }) h3)
    obtain ⟨r1, r2, _⟩ := right_typ k hr
    rw [if_pos hp, hi]
    unfold typT
    rw [if_neg r2]
    exact r1.symm
/-- A right term's text is meant to be that term. -/
theorem meant_of {s : ByteArray} {t : Tm} (hr : rightT t = true) (h : textL t = bl s) : meantT s = t := by
  have no : ∀ {p : ByteArray} {c d : Nat} {r r2 : List Nat}, bl p = c :: r → bl s = d :: r2 → c ≠ d → ¬ Lib.hasPrefix s.data.toList p.data.toList = true := fun hp hs hne hh => by
    have := pre_true hh
    rw [hp, hs] at this
    exact hne (List.cons.inj this).1.symm
  have yes : ∀ {p : ByteArray} {l : List Nat}, bl s = bl p ++ l → Lib.hasPrefix s.data.toList p.data.toList = true := fun {p l} e => by
    cases hc : Lib.hasPrefix s.data.toList p.data.toList with
    | true => rfl
    | false => exact absurd e (pre_false hc _)
  rcases right_kind hr with k | k | k | k
  · have e : bl s = 60 :: (iriB (bl t.x) ++ [62]) := by rw [← h, text_k1 k]
    unfold meantT
    rw [if_pos (yes (p := { data := #[60] }) e), iriIn_of (trP_of (p := { data := #[60] }) e)]
    exact (right_iri k hr).1.symm
  · have e : bl s = 95 :: 58 :: bl t.x := by rw [← h, text_k2 k]
    unfold meantT
    rw [if_neg (no (p := { data := #[60] }) (c := 60) (r := []) rfl e (by decide)), if_pos (yes (p := { data := #[95, 58] }) e), bl_inj (trP_of (p := { data := #[95, 58] }) e)]
    exact (right_blank k hr).1.symm
  · have e : bl s = 34 :: (litB (bl t.x) ++ 34 :: (if t.g = ByteArray.empty then [] else 64 :: bl t.g)) := by rw [← h, text_k3 k]
    unfold meantT
    rw [if_neg (no (p := { data := #[60] }) (c := 60) (r := []) rfl e (by decide)), if_neg (no (p := { data := #[95, 58] }) (c := 95) (r := [58]) rfl e (by decide)), if_pos (yes (p := { data := #[34] }) e)]
    exact litIn_of hr (by rw [trP_of (p := { data := #[34] }) e, text_k3 k]; rfl)
  · have e : bl s = 34 :: (litB (bl t.x) ++ 34 :: 94 :: 94 :: 60 :: (iriB (bl t.y) ++ [62])) := by rw [← h, text_k4 k]
    unfold meantT
    rw [if_neg (no (p := { data := #[60] }) (c := 60) (r := []) rfl e (by decide)), if_neg (no (p := { data := #[95, 58] }) (c := 95) (r := [58]) rfl e (by decide)), if_pos (yes (p := { data := #[34] }) e)]
    exact litIn_of hr (by rw [trP_of (p := { data := #[34] }) e, text_k4 k]; rfl)

/-! The walks. -/
theorem iriIn_any {s : ByteArray} {w : World} (hs : s.size ≤ 1000000) (hE : ErrAt w) :
    Calls Tryz.prog 54 #[.string s] w fun e w' => e = .returned (.string (iriIn s)) ∧ StU w w' := by
  have HT : Hid (∀ W, Calls Tryz.prog 85 #[.string s, .string { data := #[62] }] W fun e w' => e = .returned (.string (sufS s { data := #[62] })) ∧ w' = W) := hid fun W => Tryz.strings_TrimSuffix s { data := #[62] } W (by omega)
  have hl := sufS_len s { data := #[62] }
  have HU := hid (unescaped_any esc_iri (s := sufS s { data := #[62] }) (w := w) (by omega) hE)
  unfold iriIn
  generalize sufS s { data := #[62] } = z at *
  generalize strB (unE iriE (bl z)) = u at *
  clear hE
  go_enter Tryz.func54, Tryz.ntmps54
  go_wp2_with (first
    | (go_at_call 85; refine (HT.out _).mono ?_; rintro e w1 ⟨rfl, rfl⟩)
    | (go_at_call 84; refine HU.out.mono ?_; rintro e w2 ⟨rfl, HO⟩))
  go_ret
  exact ⟨rfl, HO⟩
theorem res_start (w : World) : ∃ w1 g, w1 = w.alloc zeroObj ∧ g = w.heap.size ∧ Hid (Res w w1 g) := ⟨_, _, rfl, rfl, hid (Res.new w)⟩
set_option maxHeartbeats 2000000 in
theorem litIn_any {s : ByteArray} {w : World} (hs : s.size ≤ 10000) (hE : ErrAt w) :
    Calls Tryz.prog 55 #[.string s] w fun e w' => e = .returned (tmV (litInT s)) ∧ StU w w' := by
  obtain ⟨w1, g, hw1, hg, HR0⟩ := res_start w
  have HLa : Hid (Calls Tryz.prog 87 #[.string s, .int .u8 34] w1 fun e w' => e = .returned (.int .i64 (Lib.lastIndexByte s 34)) ∧ w' = w1) := hid (Tryz.strings_LastIndexByte s 34 (by omega) w1)
  have hin := last_in s 34
  unfold litInT
  obtain ⟨li, hli⟩ : ∃ li, Lib.lastIndexByte s 34 = li := ⟨_, rfl⟩
  rw [hli] at hin HLa ⊢
  clear hli
  by_cases h0 : li < 0
  · rw [if_pos h0]
    have cx0 := HR0.out.row.cell (i := 0) (by omega)
    have cx1 := HR0.out.row.cell (i := 1) (by omega)
    have cx2 := HR0.out.row.cell (i := 2) (by omega)
    have cx3 := HR0.out.row.cell (i := 3) (by omega)
    have fx0 := HR0.out.row.frozen 0
    have fx1 := HR0.out.row.frozen 1
    have fx2 := HR0.out.row.frozen 2
    have fx3 := HR0.out.row.frozen 3
    have hlt2 := HR0.out.row.lt
    have HQ := hid fun a b c d => tm_set HR0.out.row a b c d
    go_enter Tryz.func55, Tryz.ntmps55
    go_upto_region 1 with fail
    rw [← hw1, ← hg]
    clear hw1 hg
    go_wp2_with (go_at_call 87; refine HLa.out.mono ?_; rintro e w2 ⟨rfl, rfl⟩)
    obtain ⟨q0, q1, q2, q3⟩ := HQ.out (.int .i64 0) (.string { data := #[] }) (.string { data := #[] }) (.string { data := #[] })
    exact bodyPost_ret (v := tmV zeroT) (by simp [results, Tryz.results55, go_sem, q0, q1, q2, q3, tmV, zeroT]; rfl) rfl ⟨rfl, HR0.out.set _ _ _ _⟩

  · rw [if_neg h0]
    obtain ⟨i, rfl⟩ : ∃ i : Nat, li = (i : Int) := ⟨li.toNat, by omega⟩
    rw [Int.toNat_natCast]
    have hi : i < s.size := by omega
    have k0 : ¬ (i : Int) < 0 := by omega
    have k1 : (0 : Int) ≤ (i : Int) := by omega
    have k2 : (i : Int) ≤ (s.size : Int) := by omega
    have k3 : IntKind.i64.wrap ((i : Int) + 1) = (i : Int) + 1 := by rw [IntKind.wrap_i64]; omega
    have k4 : (i : Int) + 1 ≤ (s.size : Int) := by omega
    have k5 : ((i : Int) + 1).toNat = i + 1 := by omega
    have k6 : (0 : Int) ≤ (i : Int) + 1 := by omega
    have z1 := ext_size s 0 i
    have z2 := ext_size s (i + 1) s.size
    have u1 := unE_size litE (s.extract 0 i)
    have HUn : Hid (∀ W, StU w1 W → Calls Tryz.prog 84 #[.string (s.extract 0 i), .func (.func 88) #[] #[]] W fun e w' => e = .returned (.string (strB (unE litE (bl (s.extract 0 i))))) ∧ StU w1 w') := hid fun W hW => (unescaped_any esc_lit (by omega) (hE.stu (hid (HR0.out.only.trans hW.out)))).mono fun e w' h => ⟨h.1, hid (hW.out.trans h.2.out)⟩
    have HCp : Hid (∀ W, Calls Tryz.prog 53 #[.string (s.extract (i + 1) s.size), .string { data := #[94, 94, 60] }] W fun e w' => e = .returned (.tuple #[.string (trP (s.extract (i + 1) s.size) { data := #[94, 94, 60] }), .bool (Lib.hasPrefix (s.extract (i + 1) s.size).data.toList [94, 94, 60])]) ∧ w' = W) := hid fun W => Tryz.strings_CutPrefix (s.extract (i + 1) s.size) { data := #[94, 94, 60] } W
    have p1 := trP_len (s.extract (i + 1) s.size) { data := #[94, 94, 60] }
    have p2 := trP_len (s.extract (i + 1) s.size) { data := #[64] }
    have HTp : Hid (∀ W, Calls Tryz.prog 89 #[.string (s.extract (i + 1) s.size), .string { data := #[64] }] W fun e w' => e = .returned (.string (trP (s.extract (i + 1) s.size) { data := #[64] })) ∧ w' = W) := hid fun W => Tryz.strings_TrimPrefix (s.extract (i + 1) s.size) { data := #[64] } W
    obtain ⟨x, hx⟩ : ∃ x, strB (unE litE (bl (s.extract 0 i))) = x := ⟨_, rfl⟩
    rw [hx] at HUn u1 ⊢
    obtain ⟨a, ha⟩ : ∃ a, s.extract 0 i = a := ⟨_, rfl⟩
    obtain ⟨b, hb⟩ : ∃ b, s.extract (i + 1) s.size = b := ⟨_, rfl⟩
    rw [ha] at HUn u1 z1
    rw [hb] at HCp HTp p1 p2 z2 ⊢
    have HA := hid ha
    have HB := hid hb
    clear hx ha hb
    obtain ⟨v, hv⟩ : ∃ v, trP b { data := #[94, 94, 60] } = v := ⟨_, rfl⟩
    rw [hv] at HCp p1 ⊢
    obtain ⟨v2, hv2⟩ : ∃ v2, trP b { data := #[64] } = v2 := ⟨_, rfl⟩
    rw [hv2] at HTp p2 ⊢
    have HIr : Hid (∀ W, StU w1 W → Calls Tryz.prog 54 #[.string v] W fun e w' => e = .returned (.string (iriIn v)) ∧ StU w1 w') := hid fun W hW => (iriIn_any (by omega) (hE.stu (hid (HR0.out.only.trans hW.out)))).mono fun e w' h => ⟨h.1, hid (hW.out.trans h.2.out)⟩
    have HTg : Hid (∀ W, StU w1 W → Calls Tryz.prog 11 #[.string x, .string v2] W fun e w' => e = .returned (.agg #[.int .i64 (tagT x v2).k, .string (tagT x v2).x, .string (tagT x v2).g, .string (tagT x v2).y]) ∧ StU w1 w') := hid fun W hW => (tagT_any x v2 W (by omega)).mono fun e w' h => ⟨h.1, hid (hW.out.trans h.2.out)⟩
    have HTy : Hid (∀ W, StU w1 W → Calls Tryz.prog 12 #[.string x, .string (iriIn v)] W fun e w' => e = .returned (.agg #[.int .i64 (typT x (iriIn v)).k, .string (typT x (iriIn v)).x, .string (typT x (iriIn v)).g, .string (typT x (iriIn v)).y]) ∧ StU w1 w') := hid fun W hW => (typT_any x (iriIn v) W).mono fun e w' h => ⟨h.1, hid (hW.out.trans h.2.out)⟩
    have HR1 : Hid (∀ W, StU w1 W → Res w W g) := hid fun W hW => HR0.out.more hW.out
    have HO0 : StU w1 w1 := hid (Only.refl _ w1)
    generalize typT x (iriIn v) = ty at *
    generalize tagT x v2 = tg at *
    generalize iriIn v = iv at *
    clear hv hv2 p1 p2 z1 z2 u1 h0 hin hE hi HR0
    cases hp : Lib.hasPrefix b.data.toList [94, 94, 60] with
    | true =>
      rw [hp] at HCp
      rw [if_pos rfl]
      clear hp HTp HTg
      go_enter Tryz.func55, Tryz.ntmps55
      go_upto_region 1 with fail
      rw [← hw1, ← hg]
      clear hw1 hg
      go_wp2_with (go_at_call 87; refine HLa.out.mono ?_; rintro e w2 ⟨rfl, rfl⟩)
      go_region_held3 (fun u => True ∧ StU w2 u)
        (first | with_reducible assumption | exact ⟨trivial, HO0⟩ | exact ⟨trivial, hid HO0.out.drew⟩ | exact ⟨trivial, HO3⟩)
        (first
          | (go_at_call 84; rw [HA.out]; (refine (HUn.out _ ?_).mono ?_); (first | exact HO0 | exact hid HO0.out.drew); rintro e w3 ⟨rfl, HO3⟩))
      go_wp2_with (first
        | (go_at_call 53; rw [HB.out]; refine (HCp.out _).mono ?_; rintro e w4 ⟨rfl, rfl⟩)
        | (go_at_call 54; refine (HIr.out _ HO3).mono ?_; rintro e w5 ⟨rfl, HO5⟩)
        | (go_at_call 12; refine (HTy.out _ HO5).mono ?_; rintro e w6 ⟨rfl, HO6⟩; have HR := hid (HR1.out _ HO6); have cx0 := HR.out.row.cell (i := 0) (by omega); have cx1 := HR.out.row.cell (i := 1) (by omega); have cx2 := HR.out.row.cell (i := 2) (by omega); have cx3 := HR.out.row.cell (i := 3) (by omega); have fx0 := HR.out.row.frozen 0; have fx1 := HR.out.row.frozen 1; have fx2 := HR.out.row.frozen 2; have fx3 := HR.out.row.frozen 3; have hlt2 := HR.out.row.lt; have HQ := hid fun a b c d => tm_set HR.out.row a b c d))
      obtain ⟨q0, q1, q2, q3⟩ := HQ.out (.int .i64 ty.k) (.string ty.x) (.string ty.g) (.string ty.y)
      exact bodyPost_ret (v := tmV ty) (by simp [results, Tryz.results55, go_sem, q0, q1, q2, q3, tmV]) rfl ⟨rfl, HR.out.set _ _ _ _⟩

    | false =>
      rw [hp] at HCp
      rw [if_neg (by simp)]
      clear hp HTy HIr
      go_enter Tryz.func55, Tryz.ntmps55
      go_upto_region 1 with fail
      rw [← hw1, ← hg]
      clear hw1 hg
      go_wp2_with (go_at_call 87; refine HLa.out.mono ?_; rintro e w2 ⟨rfl, rfl⟩)
      go_region_held3 (fun u => True ∧ StU w2 u)
        (first | with_reducible assumption | exact ⟨trivial, HO0⟩ | exact ⟨trivial, hid HO0.out.drew⟩ | exact ⟨trivial, HO3⟩)
        (first
          | (go_at_call 84; rw [HA.out]; (refine (HUn.out _ ?_).mono ?_); (first | exact HO0 | exact hid HO0.out.drew); rintro e w3 ⟨rfl, HO3⟩))
      go_wp2_with (first
        | (go_at_call 53; rw [HB.out]; refine (HCp.out _).mono ?_; rintro e w4 ⟨rfl, rfl⟩)
        | (go_at_call 89; (try rw [HB.out]); refine (HTp.out _).mono ?_; rintro e w5 ⟨rfl, rfl⟩)
        | (go_at_call 11; refine (HTg.out _ HO3).mono ?_; rintro e w6 ⟨rfl, HO6⟩; have HR := hid (HR1.out _ HO6); have cx0 := HR.out.row.cell (i := 0) (by omega); have cx1 := HR.out.row.cell (i := 1) (by omega); have cx2 := HR.out.row.cell (i := 2) (by omega); have cx3 := HR.out.row.cell (i := 3) (by omega); have fx0 := HR.out.row.frozen 0; have fx1 := HR.out.row.frozen 1; have fx2 := HR.out.row.frozen 2; have fx3 := HR.out.row.frozen 3; have hlt2 := HR.out.row.lt; have HQ := hid fun a b c d => tm_set HR.out.row a b c d))
      obtain ⟨q0, q1, q2, q3⟩ := HQ.out (.int .i64 tg.k) (.string tg.x) (.string tg.g) (.string tg.y)
      exact bodyPost_ret (v := tmV tg) (by simp [results, Tryz.results55, go_sem, q0, q1, q2, q3, tmV]) rfl ⟨rfl, HR.out.set _ _ _ _⟩

set_option maxHeartbeats 2000000 in
theorem meant_any {s : ByteArray} {w : World} (hs : s.size ≤ 10000) (hE : ErrAt w) :
    Calls Tryz.prog 32 #[.string s] w fun e w' => e = .returned (tmV (meantT s)) ∧ StU w w' := by
  obtain ⟨w1, g, hw1, hg, HR0⟩ := res_start w
  have HC0 : Hid (Calls Tryz.prog 53 #[.string s, .string { data := #[60] }] w1 fun e w' => e = .returned (.tuple #[.string (trP s { data := #[60] }), .bool (Lib.hasPrefix s.data.toList [60])]) ∧ w' = w1) := hid (Tryz.strings_CutPrefix s { data := #[60] } w1)
  have p0 := trP_len s { data := #[60] }
  have HC1 : Hid (Calls Tryz.prog 53 #[.string s, .string { data := #[95, 58] }] w1 fun e w' => e = .returned (.tuple #[.string (trP s { data := #[95, 58] }), .bool (Lib.hasPrefix s.data.toList [95, 58])]) ∧ w' = w1) := hid (Tryz.strings_CutPrefix s { data := #[95, 58] } w1)
  have p1 := trP_len s { data := #[95, 58] }
  have HC2 : Hid (Calls Tryz.prog 53 #[.string s, .string { data := #[34] }] w1 fun e w' => e = .returned (.tuple #[.string (trP s { data := #[34] }), .bool (Lib.hasPrefix s.data.toList [34])]) ∧ w' = w1) := hid (Tryz.strings_CutPrefix s { data := #[34] } w1)
  have p2 := trP_len s { data := #[34] }
  have hE1 := hE.stu (hid HR0.out.only)
  have HI := hid (iriIn_any (s := trP s { data := #[60] }) (w := w1) (by omega) hE1)
  have HL0 := litIn_any (s := trP s { data := #[34] }) (w := w1) (by omega) hE1
  have HR1 : Hid (∀ W, StU w1 W → Res w W g) := hid fun W hW => HR0.out.more hW.out
  have HO0 : StU w1 w1 := hid (Only.refl _ w1)
  unfold meantT
  generalize trP s { data := #[60] } = v0 at *
  generalize trP s { data := #[95, 58] } = v1 at *
  generalize trP s { data := #[34] } = v2 at *
  generalize litInT v2 = m2 at *
  obtain ⟨m0, hm0⟩ : ∃ m, iriT (iriIn v0) = m := ⟨_, rfl⟩
  obtain ⟨m1, hm1⟩ : ∃ m, blankT v1 = m := ⟨_, rfl⟩
  have HIr : Hid (∀ W, StU w1 W → Calls Tryz.prog 8 #[.string (iriIn v0)] W fun e w' => e = .returned (.agg #[.int .i64 m0.k, .string m0.x, .string m0.g, .string m0.y]) ∧ StU w1 w') := hid fun W hW => (iriT_any (iriIn v0) W).mono fun e w' h => ⟨by rw [h.1, hm0]; rfl, hid (hW.out.trans h.2.out)⟩
  have HBl : Hid (∀ W, StU w1 W → Calls Tryz.prog 9 #[.string v1] W fun e w' => e = .returned (.agg #[.int .i64 m1.k, .string m1.x, .string m1.g, .string m1.y]) ∧ StU w1 w') := hid fun W hW => (blankT_any v1 W).mono fun e w' h => ⟨by rw [h.1, hm1]; rfl, hid (hW.out.trans h.2.out)⟩
  have HLi : Hid (Calls Tryz.prog 55 #[.string v2] w1 fun e w' => e = .returned (.agg #[.int .i64 m2.k, .string m2.x, .string m2.g, .string m2.y]) ∧ StU w1 w') := hid HL0
  rw [hm0, hm1]
  generalize iriIn v0 = iv at *
  clear hm0 hm1 HL0 hE hE1 p0 p1 p2 hs
  cases h0 : Lib.hasPrefix s.data.toList [60] with
  | true =>
    rw [h0] at HC0
    rw [if_pos rfl]
    clear h0 HC1 HC2 HBl HLi
    go_enter Tryz.func32, Tryz.ntmps32
    go_upto_region 1 with fail
    rw [← hw1, ← hg]
    clear hw1 hg
    go_wp2_with (first
        | (go_at_call 53; first
          | (with_reducible refine HC0.out.mono ?_; rintro e w2 ⟨rfl, rfl⟩)
          | (with_reducible refine HC1.out.mono ?_; rintro e w2 ⟨rfl, rfl⟩)
          | (with_reducible refine HC2.out.mono ?_; rintro e w2 ⟨rfl, rfl⟩))
        | (go_at_call 54; refine HI.out.mono ?_; rintro e w3 ⟨rfl, HO3⟩)
        | (go_at_call 8; refine (HIr.out _ HO3).mono ?_; rintro e w4 ⟨rfl, HO4⟩; have HR := hid (HR1.out _ HO4); have cx0 := HR.out.row.cell (i := 0) (by omega); have cx1 := HR.out.row.cell (i := 1) (by omega); have cx2 := HR.out.row.cell (i := 2) (by omega); have cx3 := HR.out.row.cell (i := 3) (by omega); have fx0 := HR.out.row.frozen 0; have fx1 := HR.out.row.frozen 1; have fx2 := HR.out.row.frozen 2; have fx3 := HR.out.row.frozen 3; have hlt2 := HR.out.row.lt; have HQ := hid fun a b c d => tm_set HR.out.row a b c d))
    obtain ⟨q0, q1, q2, q3⟩ := HQ.out (.int .i64 m0.k) (.string m0.x) (.string m0.g) (.string m0.y)
    exact bodyPost_ret (v := tmV m0) (by simp [results, Tryz.results32, go_sem, q0, q1, q2, q3, tmV]) rfl ⟨rfl, HR.out.set _ _ _ _⟩
  | false =>
    rw [h0] at HC0
    rw [if_neg (by simp)]
    clear h0 HI HIr
    cases h1 : Lib.hasPrefix s.data.toList [95, 58] with
    | true =>
      rw [h1] at HC1
      rw [if_pos rfl]
      clear h1 HC2 HLi
      go_enter Tryz.func32, Tryz.ntmps32
      go_upto_region 1 with fail
      rw [← hw1, ← hg]
      clear hw1 hg
      go_wp2_with (first
          | (go_at_call 53; first
          | (with_reducible refine HC0.out.mono ?_; rintro e w2 ⟨rfl, rfl⟩)
          | (with_reducible refine HC1.out.mono ?_; rintro e w2 ⟨rfl, rfl⟩)
          | (with_reducible refine HC2.out.mono ?_; rintro e w2 ⟨rfl, rfl⟩))
          | (go_at_call 9; refine (HBl.out _ HO0).mono ?_; rintro e w4 ⟨rfl, HO4⟩; have HR := hid (HR1.out _ HO4); have cx0 := HR.out.row.cell (i := 0) (by omega); have cx1 := HR.out.row.cell (i := 1) (by omega); have cx2 := HR.out.row.cell (i := 2) (by omega); have cx3 := HR.out.row.cell (i := 3) (by omega); have fx0 := HR.out.row.frozen 0; have fx1 := HR.out.row.frozen 1; have fx2 := HR.out.row.frozen 2; have fx3 := HR.out.row.frozen 3; have hlt2 := HR.out.row.lt; have HQ := hid fun a b c d => tm_set HR.out.row a b c d))
      obtain ⟨q0, q1, q2, q3⟩ := HQ.out (.int .i64 m1.k) (.string m1.x) (.string m1.g) (.string m1.y)
      exact bodyPost_ret (v := tmV m1) (by simp [results, Tryz.results32, go_sem, q0, q1, q2, q3, tmV]) rfl ⟨rfl, HR.out.set _ _ _ _⟩
    | false =>
      rw [h1] at HC1
      rw [if_neg (by simp)]
      clear h1 HBl
      cases h2 : Lib.hasPrefix s.data.toList [34] with
      | true =>
        rw [h2] at HC2
        rw [if_pos rfl]
        clear h2
        go_enter Tryz.func32, Tryz.ntmps32
        go_upto_region 1 with fail
        rw [← hw1, ← hg]
        clear hw1 hg
        go_wp2_with (first
            | (go_at_call 53; first
          | (with_reducible refine HC0.out.mono ?_; rintro e w2 ⟨rfl, rfl⟩)
          | (with_reducible refine HC1.out.mono ?_; rintro e w2 ⟨rfl, rfl⟩)
          | (with_reducible refine HC2.out.mono ?_; rintro e w2 ⟨rfl, rfl⟩))
            | (go_at_call 55; refine HLi.out.mono ?_; rintro e w4 ⟨rfl, HO4⟩; have HR := hid (HR1.out _ HO4); have cx0 := HR.out.row.cell (i := 0) (by omega); have cx1 := HR.out.row.cell (i := 1) (by omega); have cx2 := HR.out.row.cell (i := 2) (by omega); have cx3 := HR.out.row.cell (i := 3) (by omega); have fx0 := HR.out.row.frozen 0; have fx1 := HR.out.row.frozen 1; have fx2 := HR.out.row.frozen 2; have fx3 := HR.out.row.frozen 3; have hlt2 := HR.out.row.lt; have HQ := hid fun a b c d => tm_set HR.out.row a b c d))
        obtain ⟨q0, q1, q2, q3⟩ := HQ.out (.int .i64 m2.k) (.string m2.x) (.string m2.g) (.string m2.y)
        exact bodyPost_ret (v := tmV m2) (by simp [results, Tryz.results32, go_sem, q0, q1, q2, q3, tmV]) rfl ⟨rfl, HR.out.set _ _ _ _⟩
      | false =>
        rw [h2] at HC2
        rw [if_neg (by simp)]
        clear h2
        have cx0 := HR0.out.row.cell (i := 0) (by omega)
        have cx1 := HR0.out.row.cell (i := 1) (by omega)
        have cx2 := HR0.out.row.cell (i := 2) (by omega)
        have cx3 := HR0.out.row.cell (i := 3) (by omega)
        have fx0 := HR0.out.row.frozen 0
        have fx1 := HR0.out.row.frozen 1
        have fx2 := HR0.out.row.frozen 2
        have fx3 := HR0.out.row.frozen 3
        have hlt2 := HR0.out.row.lt
        have HQ := hid fun a b c d => tm_set HR0.out.row a b c d
        go_enter Tryz.func32, Tryz.ntmps32
        go_upto_region 1 with fail
        rw [← hw1, ← hg]
        clear hw1 hg
        go_wp2_with (go_at_call 53; first
          | (with_reducible refine HC0.out.mono ?_; rintro e w2 ⟨rfl, rfl⟩)
          | (with_reducible refine HC1.out.mono ?_; rintro e w2 ⟨rfl, rfl⟩)
          | (with_reducible refine HC2.out.mono ?_; rintro e w2 ⟨rfl, rfl⟩))
        obtain ⟨q0, q1, q2, q3⟩ := HQ.out (.int .i64 0) (.string { data := #[] }) (.string { data := #[] }) (.string { data := #[] })
        exact bodyPost_ret (v := tmV zeroT) (by simp [results, Tryz.results32, go_sem, q0, q1, q2, q3, tmV, zeroT]; rfl) rfl ⟨rfl, HR0.out.set _ _ _ _⟩
end Go.Proofs.YtefcnaccemefnaaGreatDoor

namespace Go.Proofs.YtefcnaccemefnaaGreatDoor
open Go.RowKit U G

def parsT (s : ByteArray) : Tm × Int := if 4096 < s.size then (zeroT, 3) else if rightT (meantT s) = true ∧ textL (meantT s) = bl s then (meantT s, 0) else (zeroT, 10)
def showZ (t : Tm) : ByteArray × Int := if rightT t = true then (if 4096 < (textL t).length then (ByteArray.empty, 3) else (strB (textL t), 0)) else (ByteArray.empty, 2)
theorem showV_Z (t : Tm) : showV t = .tuple #[.string (showZ t).1, .int .i64 (showZ t).2] := by
  unfold showV showZ
  repeat' split
  all_goals rfl
theorem parsT_show {s : ByteArray} (h : s.size ≤ 4096) : parsT s = if (showZ (meantT s)).2 = 0 ∧ (showZ (meantT s)).1 = s then (meantT s, 0) else (zeroT, 10) := by
  unfold parsT showZ
  rw [if_neg (by omega)]
  by_cases hr : rightT (meantT s) = true
  · by_cases hl : 4096 < (textL (meantT s)).length
    · rw [if_pos hr, if_pos hl, if_neg (by rintro ⟨_, e⟩; rw [e, bl_len] at hl; omega), if_neg (by rintro ⟨e, _⟩; exact absurd e (by decide))]
    · rw [if_pos hr, if_neg hl]
      by_cases e : textL (meantT s) = bl s
      · rw [if_pos ⟨hr, e⟩, if_pos ⟨rfl, by show strB _ = s; rw [e, strB_bl]⟩]
      · rw [if_neg (fun h => e h.2), if_neg]
        rintro ⟨_, e2⟩
        have e3 : strB (textL (meantT s)) = s := e2
        have := congrArg bl e3
        rw [bl_strB (textL_bys _)] at this
        exact e this
  · rw [if_neg hr, if_neg (fun h => hr h.1), if_neg (by rintro ⟨e, _⟩; exact absurd e (by decide))]
set_option maxHeartbeats 2000000 in
theorem parse_any {s : ByteArray} {w : World} (hT : Tb w) (hE : ErrAt w) (hs : s.size ≤ 10000) :
    Calls Tryz.prog 17 #[.string s] w fun e w' => e = .returned (.tuple #[tmV (parsT s).1, .int .i64 (parsT s).2]) ∧ StU w w' := by
  obtain ⟨w1, g, hw1, hg, HR0⟩ := res_start w
  by_cases hl : 4096 < s.size
  · have e : parsT s = (zeroT, 3) := by unfold parsT; rw [if_pos hl]
    rw [e]
    have hl' : (4096 : Int) < (s.size : Int) := by omega
    clear e hl
    have cx0 := HR0.out.row.cell (i := 0) (by omega)
    have cx1 := HR0.out.row.cell (i := 1) (by omega)
    have cx2 := HR0.out.row.cell (i := 2) (by omega)
    have cx3 := HR0.out.row.cell (i := 3) (by omega)
    have fx0 := HR0.out.row.frozen 0
    have fx1 := HR0.out.row.frozen 1
    have fx2 := HR0.out.row.frozen 2
    have fx3 := HR0.out.row.frozen 3
    have hlt2 := HR0.out.row.lt
    have HQ := hid fun a b c d => tm_set HR0.out.row a b c d
    go_enter Tryz.func17, Tryz.ntmps17
    go_upto_region 1 with fail
    rw [← hw1, ← hg]
    clear hw1 hg
    go_wp2_with fail
    obtain ⟨q0, q1, q2, q3⟩ := HQ.out (.int .i64 0) (.string { data := #[] }) (.string { data := #[] }) (.string { data := #[] })
    exact bodyPost_ret (v := .tuple #[tmV zeroT, .int .i64 3]) (by simp [results, Tryz.results17, go_sem, q0, q1, q2, q3, tmV, zeroT]; rfl) rfl ⟨rfl, HR0.out.set _ _ _ _⟩
  · have hl' : ¬ (4096 : Int) < (s.size : Int) := by omega
    have hp := parsT_show (s := s) (by omega)
    have hm := meant_size s
    have HM0 := meant_any (s := s) (w := w1) hs (hE.stu (hid HR0.out.only))
    generalize meantT s = m at *
    have HM : Hid (Calls Tryz.prog 32 #[.string s] w1 fun e w' => e = .returned (.agg #[.int .i64 m.k, .string m.x, .string m.g, .string m.y]) ∧ StU w1 w') := hid HM0
    have HSh : Hid (∀ W, StU w1 W → Calls Tryz.prog 16 #[.agg #[.int .i64 m.k, .string m.x, .string m.g, .string m.y]] W fun e w' => e = .returned (.tuple #[.string (showZ m).1, .int .i64 (showZ m).2]) ∧ StU W w') := hid fun W hW => (show_any (t := m) (hT.stu (hid (HR0.out.only.trans hW.out))) (by omega)).mono fun e w' h => ⟨by rw [h.1, showV_Z], h.2⟩
    have HX : Hid (∀ W, StU w1 W → ∃ W2 g2, W2 = W.alloc (.cells #[.int .i64 m.k, .string m.x, .string m.g, .string m.y] 27) ∧ g2 = W.heap.size ∧ Hid (TmAt W2 g2 m) ∧ StU w1 W2) := hid fun W hW => ⟨_, _, rfl, rfl, hid (tm_new W m), hid (hW.out.alloc _)⟩
    have HT2 : Hid (∀ W g2 W', Hid (TmAt W g2 m) → StU W W' → TmS W g2 m W') := hid fun W g2 W' h o => tmS_of h.out o
    have HR1 : Hid (∀ W, StU w1 W → Res w W g) := hid fun W hW => HR0.out.more hW.out
    obtain ⟨z, hz⟩ : ∃ z, (showZ m).1 = z := ⟨_, rfl⟩
    obtain ⟨er, her⟩ : ∃ er, (showZ m).2 = er := ⟨_, rfl⟩
    rw [hz, her] at HSh hp
    obtain ⟨P, hP⟩ : ∃ P, parsT s = P := ⟨_, rfl⟩
    rw [hP] at hp
    rw [hP]
    have hzs := toList_beq z s
    have HP := hid hp
    clear hp hP hz her HM0 hm hl hT hE HR0 hs
    go_enter Tryz.func17, Tryz.ntmps17
    go_upto_region 1 with fail
    rw [← hw1, ← hg]
    clear hw1 hg
    go_upto_region 4 with (go_at_call 32; refine HM.out.mono ?_; rintro e w2 ⟨rfl, HO2⟩)
    obtain ⟨w3, g2, hw3, hg2, HA3, HO3⟩ := HX.out _ HO2
    rw [← hw3, ← hg2]
    obtain ⟨d0, d1, d2, d3⟩ := HA3.out.cells
    clear hw3 hg2 HM HX
    go_upto_region 5 with (go_at_call 16; refine (HSh.out _ HO3).mono ?_; rintro e w4 ⟨rfl, HO4⟩; obtain ⟨c0, c1, c2, c3, _⟩ := HT2.out _ _ _ HA3 HO4)
    have HO5 : StU w1 w4 := hid (HO3.out.trans HO4.out)
    have HR := hid (HR1.out _ HO5)
    have cx0 := HR.out.row.cell (i := 0) (by omega)
    have cx1 := HR.out.row.cell (i := 1) (by omega)
    have cx2 := HR.out.row.cell (i := 2) (by omega)
    have cx3 := HR.out.row.cell (i := 3) (by omega)
    have fx0 := HR.out.row.frozen 0
    have fx1 := HR.out.row.frozen 1
    have fx2 := HR.out.row.frozen 2
    have fx3 := HR.out.row.frozen 3
    have hlt2 := HR.out.row.lt
    have HQ := hid fun a b c d => tm_set HR.out.row a b c d
    clear HSh HR1 HT2 d0 d1 d2 d3 HA3 HO3 HO4
    by_cases h0 : er = 0
    · by_cases h1 : z = s
      · rw [decide_eq_true h1] at hzs
        have HPe : Hid (P = (m, 0)) := hid (by rw [HP.out, if_pos ⟨h0, h1⟩])
        clear h1 HP
        go_wp2_with fail
        obtain ⟨q0, q1, q2, q3⟩ := HQ.out (.int .i64 m.k) (.string m.x) (.string m.g) (.string m.y)
        exact bodyPost_ret (v := .tuple #[tmV m, .int .i64 0]) (by simp [results, Tryz.results17, go_sem, q0, q1, q2, q3, tmV]) rfl ⟨by rw [HPe.out], HR.out.set _ _ _ _⟩
      · rw [decide_eq_false h1] at hzs
        have HPe : Hid (P = (zeroT, 10)) := hid (by rw [HP.out, if_neg (fun h => h1 h.2)])
        clear h1 HP
        go_wp2_with fail
        obtain ⟨q0, q1, q2, q3⟩ := HQ.out (.int .i64 0) (.string { data := #[] }) (.string { data := #[] }) (.string { data := #[] })
        exact bodyPost_ret (v := .tuple #[tmV zeroT, .int .i64 10]) (by simp [results, Tryz.results17, go_sem, q0, q1, q2, q3, tmV, zeroT]; rfl) rfl ⟨by rw [HPe.out], HR.out.set _ _ _ _⟩
    · have HPe : Hid (P = (zeroT, 10)) := hid (by rw [HP.out, if_neg (fun h => h0 h.1)])
      clear HP hzs
      go_wp2_with fail
      obtain ⟨q0, q1, q2, q3⟩ := HQ.out (.int .i64 0) (.string { data := #[] }) (.string { data := #[] }) (.string { data := #[] })
      exact bodyPost_ret (v := .tuple #[tmV zeroT, .int .i64 10]) (by simp [results, Tryz.results17, go_sem, q0, q1, q2, q3, tmV, zeroT]; rfl) rfl ⟨by rw [HPe.out], HR.out.set _ _ _ _⟩
/-- What Parse tells, whatever was meant. -/
theorem parsT_yes {s : ByteArray} {t : Tm} (hr : rightT t = true) (h : textL t = bl s) (hs : s.size ≤ 4096) : parsT s = (t, 0) := by
  have e := meant_of hr h
  unfold parsT
  rw [if_neg (by omega), e, if_pos ⟨hr, h⟩]
theorem parsT_is (s : ByteArray) : (parsT s).2 = 0 → rightT (parsT s).1 = true ∧ textL (parsT s).1 = bl s ∧ s.size ≤ 4096 := by
  unfold parsT
  by_cases h : 4096 < s.size
  · rw [if_pos h]; intro e; cases e
  · rw [if_neg h]
    by_cases h2 : rightT (meantT s) = true ∧ textL (meantT s) = bl s
    · rw [if_pos h2]; intro _; exact ⟨h2.1, h2.2, by omega⟩
    · rw [if_neg h2]; intro e; cases e
theorem parsT_zero {s : ByteArray} (h : (parsT s).2 ≠ 0) : (parsT s).1 = zeroT := by
  unfold parsT at *
  by_cases h1 : 4096 < s.size
  · rw [if_pos h1]
  · rw [if_neg h1] at h ⊢
    by_cases h2 : rightT (meantT s) = true ∧ textL (meantT s) = bl s
    · rw [if_pos h2] at h; exact absurd rfl h
    · rw [if_neg h2]
end Go.Proofs.YtefcnaccemefnaaGreatDoor

namespace Go.Proofs.YtefcnaccemefnaaGreatDoor
open Go.RowKit U G

/-! What the document reads. -/
def hexR (c : Nat) : Int := if 48 ≤ c ∧ c ≤ 57 then (c : Int) - 48 else if 65 ≤ c ∧ c ≤ 70 then (c : Int) - 55 else -1
def bkF (n a b c d : Nat) : Nat × Nat :=
  if a ≠ 92 ∨ n = 1 then (a, 1)
  else if b = 117 ∧ 5 < n ∧ 0 ≤ hexR c ∧ 0 ≤ hexR d then ((16 * hexR c + hexR d).toNat, 6)
  else if b = 110 then (10, 2) else if b = 114 then (13, 2) else (b, 2)
def bkS (l : List Nat) : Nat × Nat := bkF l.length (l.getD 0 0) (l.getD 1 0) (l.getD 4 0) (l.getD 5 0)
theorem bkF_pos (n a b c d : Nat) : 0 < (bkF n a b c d).2 := by
  unfold bkF
  repeat' split
  all_goals exact Nat.succ_pos _
def bkL : List Nat → List Nat
  | [] => []
  | c :: r => (bkS (c :: r)).1 :: bkL ((c :: r).drop (bkS (c :: r)).2)
termination_by l => l.length
decreasing_by
  have h : 0 < (bkS (c :: r)).2 := bkF_pos _ _ _ _ _
  simp only [List.length_drop, List.length_cons]
  omega
theorem bkL_nil : bkL [] = [] := by rw [bkL]
theorem bkL_step {l : List Nat} (h : l ≠ []) : bkL l = (bkS l).1 :: bkL (l.drop (bkS l).2) := by
  cases l with
  | nil => exact absurd rfl h
  | cons c r => rw [bkL]
theorem bkL_len : ∀ (n : Nat) (l : List Nat), l.length ≤ n → (bkL l).length ≤ l.length
  | _, [], _ => by rw [bkL_nil]; simp
  | 0, c :: r, h => by simp at h
  | n + 1, c :: r, h => by
    have hp : 0 < (bkS (c :: r)).2 := bkF_pos _ _ _ _ _
    have h1 := bkL_len n ((c :: r).drop (bkS (c :: r)).2) (by rw [List.length_drop]; omega)
    rw [List.length_drop] at h1
    rw [bkL_step (by simp), List.length_cons]
    rw [List.length_cons] at h1 h ⊢
    omega
theorem bkS_raw {c : Nat} (r : List Nat) (h : c ≠ 92) : bkS (c :: r) = (c, 1) := by
  unfold bkS
  show bkF _ c _ _ _ = _
  unfold bkF
  rw [if_pos (.inl h)]
theorem bkS_two {d : Nat} (r : List Nat) (h : d ≠ 117) : bkS (92 :: d :: r) = (if d = 110 then 10 else if d = 114 then 13 else d, 2) := by
  unfold bkS
  show bkF (r.length + 1 + 1) 92 d _ _ = _
  unfold bkF
  rw [if_neg (by rintro (h | h); exact h rfl; omega), if_neg (fun h2 => h h2.1)]
  repeat' split
  all_goals rfl
theorem bkL_lit : ∀ {l : List Nat}, bkL (litB l) = l
  | [] => bkL_nil
  | c :: l => by
    have e : litB (c :: l) = litC c ++ litB l := by simp [litB]
    have ih := bkL_lit (l := l)
    have two : ∀ (d q : Nat), d ≠ 117 → (if d = 110 then 10 else if d = 114 then 13 else d) = q → bkL (92 :: d :: litB l) = q :: l := fun d q h1 h2 => by
      rw [bkL_step (by simp), bkS_two _ h1, h2]
      show q :: bkL (litB l) = _
      rw [ih]
    rw [e]
    unfold litC
    by_cases h1 : c = 34
    · subst h1; rw [if_pos rfl]; exact two 34 34 (by decide) (by decide)
    rw [if_neg h1]
    by_cases h2 : c = 92
    · subst h2; rw [if_pos rfl]; exact two 92 92 (by decide) (by decide)
    rw [if_neg h2]
    by_cases h3 : c = 10
    · subst h3; rw [if_pos rfl]; exact two 110 10 (by decide) (by decide)
    rw [if_neg h3]
    by_cases h4 : c = 13
    · subst h4; rw [if_pos rfl]; exact two 114 13 (by decide) (by decide)
    rw [if_neg h4]
    show bkL (c :: litB l) = _
    rw [bkL_step (by simp), bkS_raw _ h2]
    show c :: bkL (litB l) = _
    rw [ih]
theorem hexR_D {n : Nat} (h : n < 16) : hexR (hexD n) = (n : Int) := by
  unfold hexD
  split
  · unfold hexR; rw [if_pos (by omega)]; omega
  · unfold hexR; rw [if_neg (by omega), if_pos (by omega)]; omega
theorem bkL_iri : ∀ {l : List Nat}, bkL (iriB l) = l
  | [] => bkL_nil
  | c :: l => by
    have e : iriB (c :: l) = iriC c ++ iriB l := by simp [iriB]
    have ih := bkL_iri (l := l)
    rw [e]
    unfold iriC
    by_cases h : c < 128 ∧ rawZ (c : Int) = false
    · rw [if_pos h]
      show bkL (92 :: 117 :: 48 :: 48 :: hexD (c / 16) :: hexD (c % 16) :: iriB l) = _
      have h1 := hexR_D (n := c / 16) (by omega)
      have h2 := hexR_D (n := c % 16) (by omega)
      have e2 : bkS (92 :: 117 :: 48 :: 48 :: hexD (c / 16) :: hexD (c % 16) :: iriB l) = (c, 6) := by
        unfold bkS
        show bkF ((iriB l).length + 1 + 1 + 1 + 1 + 1 + 1) 92 117 (hexD (c / 16)) (hexD (c % 16)) = _
        unfold bkF
        rw [if_neg (by rintro (h | h); exact h rfl; omega), h1, h2, if_pos ⟨rfl, by omega, by omega, by omega⟩]
        refine Prod.ext ?_ rfl
        show (16 * ((c / 16 : Nat) : Int) + ((c % 16 : Nat) : Int)).toNat = c
        omega
      rw [bkL_step (by simp), e2]
      show c :: bkL (iriB l) = _
      rw [ih]
    · rw [if_neg h]
      show bkL (c :: iriB l) = _
      rw [bkL_step (by simp), bkS_raw _ (by rintro rfl; exact h ⟨by omega, raw92⟩)]
      show c :: bkL (iriB l) = _
      rw [ih]
def endL : List Nat → Nat → Int
  | [], _ => -1
  | c :: r, i => if c = 34 then (i : Int) else if c = 92 then endL (r.drop 1) (i + 2) else endL r (i + 1)
termination_by l => l.length
decreasing_by
  · simp only [List.length_drop, List.length_cons]; omega
  · simp
theorem endL_nil (i : Nat) : endL [] i = -1 := by rw [endL]
theorem endL_quote (r : List Nat) (i : Nat) : endL (34 :: r) i = (i : Int) := by rw [endL, if_pos rfl]
theorem endL_esc (r : List Nat) (i : Nat) : endL (92 :: r) i = endL (r.drop 1) (i + 2) := by rw [endL, if_neg (by decide), if_pos rfl]
theorem endL_raw {c : Nat} (r : List Nat) (i : Nat) (h1 : c ≠ 34) (h2 : c ≠ 92) : endL (c :: r) i = endL r (i + 1) := by rw [endL, if_neg h1, if_neg h2]
theorem endL_in : ∀ (n : Nat) (l : List Nat) (i : Nat), l.length ≤ n → endL l i = -1 ∨ ((i : Int) ≤ endL l i ∧ endL l i < (i : Int) + (l.length : Int))
  | _, [], i, _ => .inl (endL_nil i)
  | 0, c :: r, _, h => by simp at h
  | n + 1, c :: r, i, h => by
    rw [List.length_cons] at h
    by_cases h1 : c = 34
    · subst h1; rw [endL_quote]; right; simp only [List.length_cons]; omega
    by_cases h2 : c = 92
    · subst h2
      rw [endL_esc]
      rcases endL_in n (r.drop 1) (i + 2) (by rw [List.length_drop]; omega) with h | h
      · exact .inl h
      · rw [List.length_drop] at h; right; simp only [List.length_cons]; omega
    rw [endL_raw _ _ h1 h2]
    rcases endL_in n r (i + 1) (by omega) with h | h
    · exact .inl h
    · right; simp only [List.length_cons]; omega
theorem endL_lit (b : List Nat) : ∀ (l : List Nat) (i : Nat), endL (litB l ++ 34 :: b) i = (i : Int) + ((litB l).length : Int)
  | [], i => by show endL (34 :: b) i = (i : Int) + 0; rw [endL_quote]; omega
  | c :: l, i => by
    have e : litB (c :: l) = litC c ++ litB l := by simp [litB]
    have ih1 := endL_lit b l (i + 1)
    have ih2 := endL_lit b l (i + 2)
    have two : ∀ d : Nat, endL (92 :: d :: (litB l ++ 34 :: b)) i = (i : Int) + ((2 + (litB l).length : Nat) : Int) := fun d => by
      rw [endL_esc]
      show endL (litB l ++ 34 :: b) (i + 2) = _
      rw [ih2]; omega
    rw [e, List.append_assoc, List.length_append]
    unfold litC
    by_cases h1 : c = 34
    · rw [if_pos h1]; exact two 34
    rw [if_neg h1]
    by_cases h2 : c = 92
    · rw [if_pos h2]; exact two 92
    rw [if_neg h2]
    by_cases h3 : c = 10
    · rw [if_pos h3]; exact two 110
    rw [if_neg h3]
    by_cases h4 : c = 13
    · rw [if_pos h4]; exact two 114
    rw [if_neg h4]
    show endL (c :: (litB l ++ 34 :: b)) i = (i : Int) + (([c].length + (litB l).length : Nat) : Int)
    rw [endL_raw _ _ h1 h2, ih1, List.length_singleton]
    omega

/-! The walks. -/
theorem hexR_any {x : Nat} (hx : x < 256) (w : World) : Calls Tryz.prog 67 #[.int .u8 (x : Int)] w fun e w' => e = .returned (.int .i64 (hexR x)) ∧ w = w' := by
  by_cases h1 : 48 ≤ x ∧ x ≤ 57
  · obtain ⟨a, b⟩ := h1
    have e : hexR x = (x : Int) - 48 := by unfold hexR; rw [if_pos ⟨a, b⟩]
    rw [e]
    have a' : (48 : Int) ≤ (x : Int) := by omega
    have b' : (x : Int) ≤ 57 := by omega
    have c1 : IntKind.u8.wrap ((x : Int) - 48) = (x : Int) - 48 := by rw [IntKind.wrap_u8]; omega
    have c2 : IntKind.i64.wrap ((x : Int) - 48) = (x : Int) - 48 := by rw [IntKind.wrap_i64]; omega
    clear e
    go_enter Tryz.func67, Tryz.ntmps67
    go_wp2_with fail
    go_ret
    exact ⟨rfl, rfl⟩
  by_cases h2 : 65 ≤ x ∧ x ≤ 70
  · obtain ⟨a, b⟩ := h2
    have e : hexR x = (x : Int) - 65 + 10 := by unfold hexR; rw [if_neg h1, if_pos ⟨a, b⟩]; omega
    rw [e]
    have a0 : (48 : Int) ≤ (x : Int) := by omega
    have b0 : ¬ (x : Int) ≤ 57 := by omega
    have a' : (65 : Int) ≤ (x : Int) := by omega
    have b' : (x : Int) ≤ 70 := by omega
    have c1 : IntKind.u8.wrap ((x : Int) - 65) = (x : Int) - 65 := by rw [IntKind.wrap_u8]; omega
    have c2 : IntKind.i64.wrap ((x : Int) - 65) = (x : Int) - 65 := by rw [IntKind.wrap_i64]; omega
    have c3 : IntKind.i64.wrap ((x : Int) - 65 + 10) = (x : Int) - 65 + 10 := by rw [IntKind.wrap_i64]; omega
    clear e h1
    go_enter Tryz.func67, Tryz.ntmps67
    go_wp2_with fail
    go_ret
    exact ⟨rfl, rfl⟩
  have e : hexR x = -1 := by unfold hexR; rw [if_neg h1, if_neg h2]
  rw [e]
  clear e
  by_cases z1 : 48 ≤ x
  · have a1 : (48 : Int) ≤ (x : Int) := by omega
    have a2 : ¬ (x : Int) ≤ 57 := by omega
    by_cases z2 : 65 ≤ x
    · have a3 : (65 : Int) ≤ (x : Int) := by omega
      have a4 : ¬ (x : Int) ≤ 70 := by omega
      clear h1 h2 z1 z2
      go_enter Tryz.func67, Tryz.ntmps67
      go_wp2_with fail
      go_ret
      exact ⟨rfl, rfl⟩
    · have a3 : ¬ (65 : Int) ≤ (x : Int) := by omega
      clear h1 h2 z1 z2
      go_enter Tryz.func67, Tryz.ntmps67
      go_wp2_with fail
      go_ret
      exact ⟨rfl, rfl⟩
  · have a1 : ¬ (48 : Int) ≤ (x : Int) := by omega
    have a3 : ¬ (65 : Int) ≤ (x : Int) := by omega
    clear h1 h2 z1
    go_enter Tryz.func67, Tryz.ntmps67
    go_wp2_with fail
    go_ret
    exact ⟨rfl, rfl⟩
theorem endL_drop {s : ByteArray} {k : Nat} (h : k < s.size) : endL ((bl s).drop k) k = if (s[k]'h).toNat = 34 then (k : Int) else if (s[k]'h).toNat = 92 then endL ((bl s).drop (k + 2)) (k + 2) else endL ((bl s).drop (k + 1)) (k + 1) := by
  have hk : k < (bl s).length := by rw [bl_len]; exact h
  have e : (bl s)[k] = (s[k]'h).toNat := by
    have := bl_at h
    rwa [List.getD_eq_getElem?_getD, List.getElem?_eq_getElem hk] at this
  rw [List.drop_eq_getElem_cons hk, e, endL]
  split
  · rfl
  · split
    · rw [List.drop_drop]
    · rfl
theorem refEnd_any {s : ByteArray} (hs : s.size ≤ 900000) (w : World) : Calls Tryz.prog 40 #[.string s] w fun e w' => e = .returned (.int .i64 (endL ((bl s).drop 1) 1)) ∧ StU w w' := by
  obtain ⟨R, hR⟩ : ∃ R, endL ((bl s).drop 1) 1 = R := ⟨_, rfl⟩
  have HR0 : Hid (R = endL ((bl s).drop 1) 1) := hid hR.symm
  rw [hR]
  have HD := hid (fun k (h : k < s.size) => endL_drop h)
  have HE : Hid (∀ k, s.size ≤ k → endL ((bl s).drop k) k = -1) := hid fun k h => by rw [List.drop_eq_nil_of_le (by rw [bl_len]; exact h), endL_nil]
  clear hR
  go_enter Tryz.func40, Tryz.ntmps40
  go_wp2_with fail
  go_loopw [3] (fun i wr => ∃ k : Nat, i = .int .i64 (k : Int) ∧ k ≤ s.size + 2 ∧ Hid (R = endL ((bl s).drop k) k) ∧ StU w wr) (fun i _ => s.size + 2 - (intOf i).toNat)
  case atStart => exact ⟨1, rfl, by omega, HR0, hid (Only.refl _ w)⟩
  case round =>
    obtain ⟨k, rfl, hk, HR, HO⟩ := hrel
    clear HR0
    by_cases hp : k < s.size
    · have hp' : (k : Int) < (s.size : Int) := by omega
      have hd := HD.out k hp
      obtain ⟨x, hx⟩ : ∃ x, s[k]'hp = x := ⟨_, rfl⟩
      rw [hx] at hd
      have hx2 := x.toNat_lt
      by_cases h34 : x.toNat = 34
      · have q : (x.toNat : Int) = 34 := by omega
        rw [if_pos h34] at hd
        have HF : Hid (R = (k : Int)) := hid (HR.out.trans hd)
        clear h34 hd HR HD HE
        go_wp2_with fail
        go_ret
        exact ⟨by rw [HF.out]; rfl, HO⟩
      have g34 : ((x.toNat : Int) == 34) = false := by rw [beq_eq_false_iff_ne]; omega
      rw [if_neg h34] at hd
      by_cases h92 : x.toNat = 92
      · have q : (x.toNat : Int) = 92 := by omega
        rw [if_pos h92] at hd
        have HF : Hid (R = endL ((bl s).drop (k + 2)) (k + 2)) := hid (HR.out.trans hd)
        have hw1 : IntKind.i64.wrap ((k : Int) + 1) = (k : Int) + 1 := by rw [IntKind.wrap_i64]; omega
        have hw2 : IntKind.i64.wrap ((k : Int) + 1 + 1) = ((k + 2 : Nat) : Int) := by rw [IntKind.wrap_i64]; omega
        clear h34 h92 hd HR HD HE g34
        go_wp2_with fail
        go_roundw
        case rel => exact ⟨k + 2, rfl, by omega, HF, HO⟩
        case measure => simp [intOf]; omega
      have g92 : ((x.toNat : Int) == 92) = false := by rw [beq_eq_false_iff_ne]; omega
      rw [if_neg h92] at hd
      have HF : Hid (R = endL ((bl s).drop (k + 1)) (k + 1)) := hid (HR.out.trans hd)
      have hw2 : IntKind.i64.wrap ((k : Int) + 1) = ((k + 1 : Nat) : Int) := by rw [IntKind.wrap_i64]; omega
      clear h34 h92 hd HR HD HE
      go_wp2_with fail
      go_roundw
      case rel => exact ⟨k + 1, rfl, by omega, HF, HO⟩
      case measure => simp [intOf]; omega
    · have hp' : ¬ (k : Int) < (s.size : Int) := by omega
      have HF : Hid (R = -1) := hid (HR.out.trans (HE.out k (by omega)))
      clear HR HD HE hp
      go_wp2_with fail
      go_ret
      exact ⟨by rw [HF.out]; rfl, HO⟩
theorem bkS_drop {s : ByteArray} (k : Nat) : bkS ((bl s).drop k) = bkF (s.size - k) ((bl s).getD k 0) ((bl s).getD (k + 1) 0) ((bl s).getD (k + 4) 0) ((bl s).getD (k + 5) 0) := by
  unfold bkS
  rw [List.length_drop, bl_len, drop_getD, drop_getD, drop_getD, drop_getD, Nat.add_zero]
set_option maxRecDepth 100000 in
set_option maxHeartbeats 8000000 in
theorem refBack_any {s : ByteArray} {w : World} (hs : s.size ≤ 900000) :
    Calls Tryz.prog 41 #[.string s] w fun e w' => e = .returned (.string (strB (bkL (bl s)))) ∧ StU w w' := by
  have HI : Hid (TxS w w (.slice none 0 0) []) := hid ⟨by simpa [yvs] using OwG.nil (Nat.le_refl _), Only.refl _ w⟩
  have HD : Hid (∀ k (h : k < s.size) l, bkL (bl s) = l ++ bkL ((bl s).drop k) → l.length + 2 ≤ 2000000 ∧ ∀ q n, bkF (s.size - k) ((bl s).getD k 0) ((bl s).getD (k + 1) 0) ((bl s).getD (k + 4) 0) ((bl s).getD (k + 5) 0) = (q, n) → bkL (bl s) = (l ++ [q]) ++ bkL ((bl s).drop (k + n))) := hid fun k h l e => by
    have h1 := bkL_len _ (bl s) (Nat.le_refl _)
    have h2 := congrArg List.length e
    rw [List.length_append] at h2
    rw [bl_len] at h1
    refine ⟨by omega, fun q n hq => ?_⟩
    rw [e, bkL_step (l := (bl s).drop k) (fun e2 => by have := congrArg List.length e2; rw [List.length_drop, bl_len] at this; simp at this; omega), bkS_drop, hq, List.drop_drop]
    simp
  have HE : Hid (∀ l, bkL (bl s) = l ++ bkL ((bl s).drop s.size) → bkL (bl s) = l) := hid fun l e => by
    rw [e, List.drop_eq_nil_of_le (by rw [bl_len]; exact Nat.le_refl _), bkL_nil, List.append_nil]
  have HG : Hid (∀ i (h : i < s.size), (bl s).getD i 0 = (s[i]'h).toNat) := hid fun i h => bl_at h
  obtain ⟨B, hB⟩ : ∃ B, bkL (bl s) = B := ⟨_, rfl⟩
  have HA0 : Hid (B = [] ++ bkL ((bl s).drop 0)) := hid hB.symm
  rw [hB] at HD HE
  rw [hB]
  clear hB
  go_enter Tryz.func41, Tryz.ntmps41
  go_wp2_with fail
  go_loopw [3, 4] (fun v i wr => ∃ (k : Nat) (v0 : Value) (l : List Nat), v0 = v ∧ i = .int .i64 (k : Int) ∧ k ≤ s.size ∧ Hid (TxS w wr v0 l) ∧ Hid (B = l ++ bkL ((bl s).drop k))) (fun _ i _ => s.size - (intOf i).toNat)
  case atStart => exact ⟨0, _, [], rfl, rfl, by omega, HI, HA0⟩
  case round =>
    obtain ⟨k, v0, l, rfl, rfl, hk, HS, HA⟩ := hrel
    clear HI HA0
    by_cases hp : k < s.size
    · have hp' : (k : Int) < (s.size : Int) := by omega
      obtain ⟨hl, hA⟩ := HD.out k hp l HA.out
      have hg0 := HG.out k hp
      obtain ⟨x, hx⟩ : ∃ x, s[k]'hp = x := ⟨_, rfl⟩
      rw [hx] at hg0
      rw [hg0] at hA
      have hx2 := x.toNat_lt
      have HSa : Hid (∀ (cs : Array Value), TxS w (wr.alloc (.cells cs 5)) v0 l) := hid fun cs => ⟨HS.out.own.same ((Only.refl _ wr).alloc _), HS.out.only.alloc _⟩
      have w1 : IntKind.i64.wrap ((k : Int) + 1) = (k : Int) + 1 := by rw [IntKind.wrap_i64]; omega
      have t1 : ((k : Int) + 1).toNat = k + 1 := by omega
      by_cases h92 : x.toNat = 92
      · have q92 : (x.toNat : Int) = 92 := by omega
        by_cases hn : k + 1 < s.size
        · have hn' : (k : Int) + 1 < (s.size : Int) := by omega
          have hn0 : (0 : Int) ≤ (k : Int) + 1 := by omega
          have gn : ((k : Int) + 1 == (s.size : Int)) = false := by rw [beq_eq_false_iff_ne]; omega
          have hg1 := HG.out (k + 1) hn
          obtain ⟨y, hy⟩ : ∃ y, s[k + 1]'hn = y := ⟨_, rfl⟩
          rw [hy] at hg1
          rw [hg1] at hA
          have hy2 := y.toNat_lt
          have w2 : IntKind.i64.wrap ((k : Int) + 1 + 1) = ((k + 2 : Nat) : Int) := by rw [IntKind.wrap_i64]; omega
          have ha : ¬ (x.toNat ≠ 92 ∨ s.size - k = 1) := by rintro (h | h); exact h h92; omega
          by_cases h117 : y.toNat = 117
          · have q117 : (y.toNat : Int) = 117 := by omega
            have w5 : IntKind.i64.wrap ((k : Int) + 5) = (k : Int) + 5 := by rw [IntKind.wrap_i64]; omega
            have w4 : IntKind.i64.wrap ((k : Int) + 4) = (k : Int) + 4 := by rw [IntKind.wrap_i64]; omega
            by_cases h5 : k + 5 < s.size
            · have h5' : (k : Int) + 5 < (s.size : Int) := by omega
              have h4' : (k : Int) + 4 < (s.size : Int) := by omega
              have h4 : k + 4 < s.size := by omega
              have h50 : (0 : Int) ≤ (k : Int) + 5 := by omega
              have h40 : (0 : Int) ≤ (k : Int) + 4 := by omega
              have t5 : ((k : Int) + 5).toNat = k + 5 := by omega
              have t4 : ((k : Int) + 4).toNat = k + 4 := by omega
              have hg4 := HG.out (k + 4) h4
              have hg5 := HG.out (k + 5) h5
              obtain ⟨z4, hz4⟩ : ∃ z, s[k + 4]'h4 = z := ⟨_, rfl⟩
              obtain ⟨z5, hz5⟩ : ∃ z, s[k + 5]'h5 = z := ⟨_, rfl⟩
              rw [hz4] at hg4
              rw [hz5] at hg5
              rw [hg4, hg5] at hA
              have HH4 := hid (fun W => hexR_any z4.toNat_lt W)
              have HH5 := hid (fun W => hexR_any z5.toNat_lt W)
              have l4 : hexR z4.toNat ≤ 15 := by unfold hexR; (repeat' split) <;> omega
              have l5 : hexR z5.toNat ≤ 15 := by unfold hexR; (repeat' split) <;> omega
              have e4 : hexR z4.toNat = -1 ∨ 0 ≤ hexR z4.toNat := by unfold hexR; (repeat' split) <;> omega
              have e5 : hexR z5.toNat = -1 ∨ 0 ≤ hexR z5.toNat := by unfold hexR; (repeat' split) <;> omega
              by_cases g4 : 0 ≤ hexR z4.toNat
              · by_cases g5 : 0 ≤ hexR z5.toNat
                · have hq := hA (16 * hexR z4.toNat + hexR z5.toNat).toNat 6 (by unfold bkF; rw [if_neg ha, if_pos ⟨h117, by omega, g4, g5⟩])
                  obtain ⟨a4, ha4⟩ : ∃ a : Nat, hexR z4.toNat = (a : Int) := ⟨(hexR z4.toNat).toNat, by omega⟩
                  obtain ⟨a5, ha5⟩ : ∃ a : Nat, hexR z5.toNat = (a : Int) := ⟨(hexR z5.toNat).toNat, by omega⟩
                  rw [ha4] at HH4 l4 hq
                  rw [ha5] at HH5 l5 hq
                  obtain ⟨q, hqe⟩ : ∃ q : Nat, (16 * (a4 : Int) + (a5 : Int)).toNat = q := ⟨_, rfl⟩
                  rw [hqe] at hq
                  have HA2 := hid hq
                  have m1 : IntKind.i64.wrap (16 * (a4 : Int)) = 16 * (a4 : Int) := by rw [IntKind.wrap_i64]; omega
                  have m2 : IntKind.i64.wrap (16 * (a4 : Int) + (a5 : Int)) = (q : Int) := by rw [IntKind.wrap_i64]; omega
                  have m3 : IntKind.u8.wrap (q : Int) = (q : Int) := by rw [IntKind.wrap_u8]; omega
                  have w6 : IntKind.i64.wrap ((k : Int) + 5 + 1) = ((k + 6 : Nat) : Int) := by rw [IntKind.wrap_i64]; omega
                  have b4 : (0 : Int) ≤ (a4 : Int) := by omega
                  have b5 : (0 : Int) ≤ (a5 : Int) := by omega
                  have HSd : Hid (∀ (cs : Array Value), TxS w (wr.alloc (.cells cs 5)).drew v0 l) := hid fun cs => ⟨HS.out.own.same ((Only.refl _ wr).alloc _).drew, (HS.out.only.alloc _).drew⟩
                  clear hA hg0 hg1 hg4 hg5 e4 e5 g4 g5 hq hqe ha4 ha5 ha h92 h117 HD HE HG HA HSa l4 l5
                  go_upto_region 10 with (go_at_call 67; first
                    | (with_reducible refine (HH4.out _).mono ?_; rintro e' wz ⟨rfl, rfl⟩)
                    | (with_reducible refine (HH5.out _).mono ?_; rintro e' wz ⟨rfl, rfl⟩))
                  refine wp_region_noPanic ?_
                  refine wp_region_held_drew (S := fun u => True ∧ StU w u) (by kernel_rfl) (⟨trivial, hid (HS.out.only.drew)⟩) (fun hHeld => ?_)
                  refine wpAnyH_take (i := 0) (oi := { dst := some 67, op := Op.move (Operand.tmp 3), type := 24, pos := "ref.go:151", after := #[], guard := none }) (v := ?_) rfl (by kernel_rfl) (by kernel_rfl) (by kernel_rfl) (fun _ _ _ h => h) (Or.inl ⟨by rfl, ?_⟩) (by with_reducible assumption) ?_
                  rotate_left
                  · (intro w' hSw; (try dsimp only at hSw); first | (go_simp; done) | (go_simp; with_reducible rfl))
                  (try simp only [Act.put, List.setIfInBounds_toArray, List.set_cons_zero, List.set_cons_succ])
                  refine wpAnyH_take (i := 1) (oi := { dst := some 68, op := Op.move (Operand.tmp 0), type := 9, pos := "ref.go:151", after := #[], guard := none }) (v := ?_) rfl (by kernel_rfl) (by kernel_rfl) (by kernel_rfl) (fun _ _ _ h => h) (Or.inl ⟨by rfl, ?_⟩) (by with_reducible assumption) ?_
                  rotate_left
                  · (intro w' hSw; (try dsimp only at hSw); first | (go_simp; done) | (go_simp; with_reducible rfl))
                  (try simp only [Act.put, List.setIfInBounds_toArray, List.set_cons_zero, List.set_cons_succ])
                  refine wpAnyH_take (i := 2) (oi := { dst := some 69, op := Op.move (Operand.tmp 4), type := 3, pos := "ref.go:151", after := #[], guard := none }) (v := ?_) rfl (by kernel_rfl) (by kernel_rfl) (by kernel_rfl) (fun _ _ _ h => h) (Or.inl ⟨by rfl, ?_⟩) (by with_reducible assumption) ?_
                  rotate_left
                  · (intro w' hSw; (try dsimp only at hSw); first | (go_simp; done) | (go_simp; with_reducible rfl))
                  (try simp only [Act.put, List.setIfInBounds_toArray, List.set_cons_zero, List.set_cons_succ])
                  refine wpAnyH_take (i := 3) (oi := { dst := some 70, op := Op.binOp BinOp.add 3 (Operand.tmp 69) (Operand.const (Value.int IntKind.i64 4)) 3, type := 3, pos := "ref.go:151", after := #[{ on := 2, ground := Ground.data }], guard := none }) (v := ?_) rfl (by kernel_rfl) (by kernel_rfl) (by kernel_rfl) (fun _ _ _ h => h) (Or.inl ⟨by rfl, ?_⟩) (by with_reducible assumption) ?_
                  rotate_left
                  · (intro w' hSw; (try dsimp only at hSw); first | (go_simp; done) | (go_simp; with_reducible rfl))
                  (try simp only [Act.put, List.setIfInBounds_toArray, List.set_cons_zero, List.set_cons_succ])
                  refine wpAnyH_take (i := 4) (oi := { dst := some 71, op := Op.index 9 (Operand.tmp 68) (Operand.tmp 70), type := 5, pos := "ref.go:151", after := #[{ on := 1, ground := Ground.data }, { on := 3, ground := Ground.data }], guard := none }) (v := ?_) rfl (by kernel_rfl) (by kernel_rfl) (by kernel_rfl) (fun _ _ _ h => h) (Or.inl ⟨by rfl, ?_⟩) (by with_reducible assumption) ?_
                  rotate_left
                  · (intro w' hSw; (try dsimp only at hSw); first | (go_simp; done) | (go_simp; with_reducible rfl))
                  (try simp only [Act.put, List.setIfInBounds_toArray, List.set_cons_zero, List.set_cons_succ])
                  refine wpAnyH_take (i := 7) (oi := { dst := some 74, op := Op.move (Operand.tmp 0), type := 9, pos := "ref.go:151", after := #[], guard := none }) (v := ?_) rfl (by kernel_rfl) (by kernel_rfl) (by kernel_rfl) (fun _ _ _ h => h) (Or.inl ⟨by rfl, ?_⟩) (by with_reducible assumption) ?_
                  rotate_left
                  · (intro w' hSw; (try dsimp only at hSw); first | (go_simp; done) | (go_simp; with_reducible rfl))
                  (try simp only [Act.put, List.setIfInBounds_toArray, List.set_cons_zero, List.set_cons_succ])
                  refine wpAnyH_take (i := 8) (oi := { dst := some 75, op := Op.move (Operand.tmp 4), type := 3, pos := "ref.go:151", after := #[], guard := none }) (v := ?_) rfl (by kernel_rfl) (by kernel_rfl) (by kernel_rfl) (fun _ _ _ h => h) (Or.inl ⟨by rfl, ?_⟩) (by with_reducible assumption) ?_
                  rotate_left
                  · (intro w' hSw; (try dsimp only at hSw); first | (go_simp; done) | (go_simp; with_reducible rfl))
                  (try simp only [Act.put, List.setIfInBounds_toArray, List.set_cons_zero, List.set_cons_succ])
                  refine wpAnyH_take (i := 9) (oi := { dst := some 76, op := Op.binOp BinOp.add 3 (Operand.tmp 75) (Operand.const (Value.int IntKind.i64 5)) 3, type := 3, pos := "ref.go:151", after := #[{ on := 8, ground := Ground.data }], guard := none }) (v := ?_) rfl (by kernel_rfl) (by kernel_rfl) (by kernel_rfl) (fun _ _ _ h => h) (Or.inl ⟨by rfl, ?_⟩) (by with_reducible assumption) ?_
                  rotate_left
                  · (intro w' hSw; (try dsimp only at hSw); first | (go_simp; done) | (go_simp; with_reducible rfl))
                  (try simp only [Act.put, List.setIfInBounds_toArray, List.set_cons_zero, List.set_cons_succ])
                  refine wpAnyH_take (i := 10) (oi := { dst := some 77, op := Op.index 9 (Operand.tmp 74) (Operand.tmp 76), type := 5, pos := "ref.go:151", after := #[{ on := 7, ground := Ground.data }, { on := 9, ground := Ground.data }], guard := none }) (v := ?_) rfl (by kernel_rfl) (by kernel_rfl) (by kernel_rfl) (fun _ _ _ h => h) (Or.inl ⟨by rfl, ?_⟩) (by with_reducible assumption) ?_
                  rotate_left
                  · (intro w' hSw; (try dsimp only at hSw); first | (go_simp; done) | (go_simp; with_reducible rfl))
                  (try simp only [Act.put, List.setIfInBounds_toArray, List.set_cons_zero, List.set_cons_succ])
                  refine wpAnyH_ready (rs := [5]) (by kernel_rfl) (by simp) ?_
                  refine AllReadyH.cons (o := { dst := some 72, op := Op.call { callee := Callee.value (Operand.func 67), args := #[Operand.tmp 71], argTypes := #[5] }, type := 3, pos := "ref.go:151", after := #[{ on := 4, ground := Ground.data }], guard := none }) rfl (fun K hK => ?_) AllReadyH.nil
                  go_simp
                  (first
                      | (with_reducible refine (HH4.out _).mono ?_; rintro e' wz ⟨rfl, rfl⟩)
                      | (with_reducible refine (HH5.out _).mono ?_; rintro e' wz ⟨rfl, rfl⟩))
                  go_wp2_with fail
                  refine hK.out _ _ (hHeld) (fun hHeld => ?_)
                  clear hK K
                  (try simp only [Act.put, List.setIfInBounds_toArray, List.set_cons_zero, List.set_cons_succ])
                  refine wpAnyH_take (i := 6) (oi := { dst := some 73, op := Op.binOp BinOp.mul 3 (Operand.const (Value.int IntKind.i64 16)) (Operand.tmp 72) 3, type := 3, pos := "ref.go:151", after := #[{ on := 5, ground := Ground.data }], guard := none }) (v := ?_) rfl (by kernel_rfl) (by kernel_rfl) (by kernel_rfl) (fun _ _ _ h => h) (Or.inl ⟨by rfl, ?_⟩) (by with_reducible assumption) ?_
                  rotate_left
                  · (intro w' hSw; (try dsimp only at hSw); first | (go_simp; done) | (go_simp; with_reducible rfl))
                  (try simp only [Act.put, List.setIfInBounds_toArray, List.set_cons_zero, List.set_cons_succ])
                  refine wpAnyH_ready (rs := [11]) (by kernel_rfl) (by simp) ?_
                  refine AllReadyH.cons (o := { dst := some 78, op := Op.call { callee := Callee.value (Operand.func 67), args := #[Operand.tmp 77], argTypes := #[5] }, type := 3, pos := "ref.go:151", after := #[{ on := 10, ground := Ground.data }, { on := 5, ground := Ground.chain }], guard := none }) rfl (fun K hK => ?_) AllReadyH.nil
                  go_simp
                  (first
                      | (with_reducible refine (HH4.out _).mono ?_; rintro e' wz ⟨rfl, rfl⟩)
                      | (with_reducible refine (HH5.out _).mono ?_; rintro e' wz ⟨rfl, rfl⟩))
                  go_wp2_with fail
                  refine hK.out _ _ (hHeld) (fun hHeld => ?_)
                  clear hK K
                  (try simp only [Act.put, List.setIfInBounds_toArray, List.set_cons_zero, List.set_cons_succ])
                  refine wpAnyH_take (i := 12) (oi := { dst := some 79, op := Op.binOp BinOp.add 3 (Operand.tmp 73) (Operand.tmp 78) 3, type := 3, pos := "ref.go:151", after := #[{ on := 6, ground := Ground.data }, { on := 11, ground := Ground.data }], guard := none }) (v := ?_) rfl (by kernel_rfl) (by kernel_rfl) (by kernel_rfl) (fun _ _ _ h => h) (Or.inl ⟨by rfl, ?_⟩) (by with_reducible assumption) ?_
                  rotate_left
                  · (intro w' hSw; (try dsimp only at hSw); first | (go_simp; done) | (go_simp; with_reducible rfl))
                  (try simp only [Act.put, List.setIfInBounds_toArray, List.set_cons_zero, List.set_cons_succ])
                  refine wpAnyH_take (i := 13) (oi := { dst := some 80, op := Op.convert 3 5 (Operand.tmp 79), type := 5, pos := "ref.go:151", after := #[{ on := 12, ground := Ground.data }], guard := none }) (v := ?_) rfl (by kernel_rfl) (by kernel_rfl) (by kernel_rfl) (fun _ _ _ h => h) (Or.inl ⟨by rfl, ?_⟩) (by with_reducible assumption) ?_
                  rotate_left
                  · (intro w' hSw; (try dsimp only at hSw); first | (go_simp; done) | (go_simp; with_reducible rfl))
                  (try simp only [Act.put, List.setIfInBounds_toArray, List.set_cons_zero, List.set_cons_succ])
                  refine wpAnyH_ready (rs := [14]) (by kernel_rfl) (by simp) ?_
                  refine AllReadyH.cons (o := { dst := some 81, op := Op.buildSlice 24 1 #[(0, Operand.tmp 80)], type := 24, pos := "ref.go:151", after := #[{ on := 13, ground := Ground.data }], guard := none }) rfl (fun K hK => ?_) AllReadyH.nil
                  go_simp
                  refine hK.out _ _ (⟨trivial, hid ((HSd.out _).only)⟩) (fun hHeld => ?_)
                  clear hK K
                  (try simp only [Act.put, List.setIfInBounds_toArray, List.set_cons_zero, List.set_cons_succ])
                  refine wpAnyH_ready (rs := [15]) (by kernel_rfl) (by simp) ?_
                  refine AllReadyH.cons (o := { dst := some 82, op := Op.call { callee := Callee.builtin Builtin.append, args := #[Operand.tmp 67, Operand.tmp 81], argTypes := #[24, 24] }, type := 24, pos := "ref.go:151", after := #[{ on := 0, ground := Ground.data }, { on := 14, ground := Ground.data }, { on := 11, ground := Ground.chain }], guard := none }) rfl (fun K hK => ?_) AllReadyH.nil
                  refine step_addY (by rfl) w _ _ rfl v0 l (by rfl) (hid (HSd.out _)) [q] _ 1 1 (by rfl) rfl (hid (new_rd wr [q] _ _ rfl)) (by omega) ?_
                  intro v3 w3 HS3
                  refine hK.out _ _ (⟨trivial, hid HS3.out.only⟩) (fun hHeld => ?_)
                  clear hK K
                  (try simp only [Act.put, List.setIfInBounds_toArray, List.set_cons_zero, List.set_cons_succ])
                  refine wpAnyH_take (i := 16) (oi := { dst := some 3, op := Op.assign (Operand.tmp 82), type := 24, pos := "ref.go:151", after := #[{ on := 15, ground := Ground.data }, { on := 15, ground := Ground.chain }, { on := 0, ground := Ground.phase }, { on := 1, ground := Ground.phase }, { on := 2, ground := Ground.phase }, { on := 3, ground := Ground.phase }, { on := 4, ground := Ground.phase }, { on := 5, ground := Ground.phase }, { on := 6, ground := Ground.phase }, { on := 7, ground := Ground.phase }, { on := 8, ground := Ground.phase }, { on := 9, ground := Ground.phase }, { on := 10, ground := Ground.phase }, { on := 11, ground := Ground.phase }, { on := 12, ground := Ground.phase }, { on := 13, ground := Ground.phase }, { on := 14, ground := Ground.phase }, { on := 15, ground := Ground.phase }], guard := none }) (v := ?_) rfl (by kernel_rfl) (by kernel_rfl) (by kernel_rfl) (fun _ _ _ h => h) (Or.inl ⟨by rfl, ?_⟩) (by with_reducible assumption) ?_
                  rotate_left
                  · (intro w' hSw; (try dsimp only at hSw); first | (go_simp; done) | (go_simp; with_reducible rfl))
                  (try simp only [Act.put, List.setIfInBounds_toArray, List.set_cons_zero, List.set_cons_succ])
                  refine wpAnyH_done (by kernel_rfl) ?_ _
                  refine NoPanic.normal ?_
                  go_wp2_with fail
                  go_roundw
                  case rel => exact ⟨k + 6, _, _, rfl, by go_num, by omega, HS3, HA2⟩
                  case measure => simp [intOf]; omega
                · have hq := hA 117 2 (by unfold bkF; rw [if_neg ha, if_neg (fun h => g5 h.2.2.2), if_neg (by omega), if_neg (by omega), h117])
                  have HA2 := hid hq
                  have b4 : (0 : Int) ≤ hexR z4.toNat := g4
                  have b5 : ¬ (0 : Int) ≤ hexR z5.toNat := g5
                  generalize hexR z4.toNat = a4 at *
                  generalize hexR z5.toNat = a5 at *
                  clear hA hg0 hg1 hg4 hg5 e4 e5 g4 g5 hq ha h92 h117 HD HE HG HA l4 l5
                  go_wp2_with (first
                    | (go_at_call 67; first
                      | (with_reducible refine (HH4.out _).mono ?_; rintro e' wz ⟨rfl, rfl⟩)
                      | (with_reducible refine (HH5.out _).mono ?_; rintro e' wz ⟨rfl, rfl⟩))
                    | (at_builtin; refine wpList_addY w _ rfl _ _ rfl v0 l rfl (hid (HSa.out _)) [117] _ 1 1 rfl rfl (hid (new_rd wr [117] _ _ rfl)) (by omega) ?_; intro v3 w3 HS3))
                  go_roundw
                  case rel => exact ⟨k + 2, _, _, rfl, by go_num, by omega, HS3, HA2⟩
                  case measure => simp [intOf]; omega
              · have hq := hA 117 2 (by unfold bkF; rw [if_neg ha, if_neg (fun h => g4 h.2.2.1), if_neg (by omega), if_neg (by omega), h117])
                have HA2 := hid hq
                have b4 : ¬ (0 : Int) ≤ hexR z4.toNat := g4
                generalize hexR z4.toNat = a4 at *
                clear hA hg0 hg1 hg4 hg5 e4 e5 g4 hq ha h92 h117 HD HE HG HA l4 l5 HH5
                go_wp2_with (first
                  | (go_at_call 67; refine (HH4.out _).mono ?_; rintro e' wz ⟨rfl, rfl⟩)
                  | (at_builtin; refine wpList_addY w _ rfl _ _ rfl v0 l rfl (hid (HSa.out _)) [117] _ 1 1 rfl rfl (hid (new_rd wr [117] _ _ rfl)) (by omega) ?_; intro v3 w3 HS3))
                go_roundw
                case rel => exact ⟨k + 2, _, _, rfl, by go_num, by omega, HS3, HA2⟩
                case measure => simp [intOf]; omega
            · have h5' : ¬ (k : Int) + 5 < (s.size : Int) := by omega
              have hq := hA 117 2 (by unfold bkF; rw [if_neg ha, if_neg (fun h => by have := h.2.1; omega), if_neg (by omega), if_neg (by omega), h117])
              have HA2 := hid hq
              clear hA hg0 hg1 hq ha h92 h117 HD HE HG HA h5
              go_wp2_with (at_builtin; refine wpList_addY w _ rfl _ _ rfl v0 l rfl (hid (HSa.out _)) [117] _ 1 1 rfl rfl (hid (new_rd wr [117] _ _ rfl)) (by omega) ?_; intro v3 w3 HS3)
              go_roundw
              case rel => exact ⟨k + 2, _, _, rfl, by go_num, by omega, HS3, HA2⟩
              case measure => simp [intOf]; omega
          have g117 : ((y.toNat : Int) == 117) = false := by rw [beq_eq_false_iff_ne]; omega
          by_cases h110 : y.toNat = 110
          · have q110 : (y.toNat : Int) = 110 := by omega
            have hq := hA 10 2 (by unfold bkF; rw [if_neg ha, if_neg (fun h => h117 h.1), if_pos h110])
            have HA2 := hid hq
            clear hA hg0 hg1 hq ha h92 h117 h110 HD HE HG HA g117
            go_wp2_with (at_builtin; refine wpList_addY w _ rfl _ _ rfl v0 l rfl (hid (HSa.out _)) [10] _ 1 1 rfl rfl (hid (new_rd wr [10] _ _ rfl)) (by omega) ?_; intro v3 w3 HS3)
            go_roundw
            case rel => exact ⟨k + 2, _, _, rfl, by go_num, by omega, HS3, HA2⟩
            case measure => simp [intOf]; omega
          have g110 : ((y.toNat : Int) == 110) = false := by rw [beq_eq_false_iff_ne]; omega
          by_cases h114 : y.toNat = 114
          · have q114 : (y.toNat : Int) = 114 := by omega
            have hq := hA 13 2 (by unfold bkF; rw [if_neg ha, if_neg (fun h => h117 h.1), if_neg h110, if_pos h114])
            have HA2 := hid hq
            clear hA hg0 hg1 hq ha h92 h117 h110 h114 HD HE HG HA g117 g110
            go_wp2_with (at_builtin; refine wpList_addY w _ rfl _ _ rfl v0 l rfl (hid (HSa.out _)) [13] _ 1 1 rfl rfl (hid (new_rd wr [13] _ _ rfl)) (by omega) ?_; intro v3 w3 HS3)
            go_roundw
            case rel => exact ⟨k + 2, _, _, rfl, by go_num, by omega, HS3, HA2⟩
            case measure => simp [intOf]; omega
          have g114 : ((y.toNat : Int) == 114) = false := by rw [beq_eq_false_iff_ne]; omega
          have hq := hA y.toNat 2 (by unfold bkF; rw [if_neg ha, if_neg (fun h => h117 h.1), if_neg h110, if_neg h114])
          have HA2 := hid hq
          clear hA hg0 hg1 hq ha h92 h117 h110 h114 HD HE HG HA
          go_wp2_with (at_builtin; refine wpList_addY w _ rfl _ _ rfl v0 l rfl (hid (HSa.out _)) [y.toNat] _ 1 1 rfl rfl (hid (new_rd wr [y.toNat] _ _ rfl)) (by omega) ?_; intro v3 w3 HS3)
          go_roundw
          case rel => exact ⟨k + 2, _, _, rfl, by go_num, by omega, HS3, HA2⟩
          case measure => simp [intOf]; omega
        · have gn : ((k : Int) + 1 == (s.size : Int)) = true := by rw [beq_iff_eq]; omega
          have hq := hA 92 1 (by unfold bkF; rw [if_pos (.inr (by omega)), h92])
          have HA2 := hid hq
          have w2 : IntKind.i64.wrap ((k : Int) + 1) = ((k + 1 : Nat) : Int) := by rw [IntKind.wrap_i64]; omega
          have hkn : k + 1 = s.size := by omega
          have HKN := hid hkn
          clear hA hg0 hq h92 HD HE HG HA hn hkn
          go_wp2_with (at_builtin; refine wpList_addY w _ rfl _ _ rfl v0 l rfl (hid (HSa.out _)) [92] _ 1 1 rfl rfl (hid (new_rd wr [92] _ _ rfl)) (by omega) ?_; intro v3 w3 HS3)
          go_roundw
          case rel => exact ⟨k + 1, _, _, rfl, by go_num, by omega, HS3, HA2⟩
          case measure => simp [intOf]; omega
      · have g92 : ((x.toNat : Int) == 92) = false := by rw [beq_eq_false_iff_ne]; omega
        have hq := hA x.toNat 1 (by unfold bkF; rw [if_pos (.inl h92)])
        have HA2 := hid hq
        clear hA hg0 hq h92 HD HE HG HA
        go_wp2_with (at_builtin; refine wpList_addY w _ rfl _ _ rfl v0 l rfl (hid (HSa.out _)) [x.toNat] _ 1 1 rfl rfl (hid (new_rd wr [x.toNat] _ _ rfl)) (by omega) ?_; intro v3 w3 HS3)
        go_roundw
        case rel => exact ⟨k + 1, _, _, rfl, by go_num, by omega, HS3, HA2⟩
        case measure => simp [intOf]; omega
    · obtain rfl : k = s.size := by omega
      have hcv := str_own HS.out
      have HF := hid (HE.out l HA.out)
      have HO := hid HS.out.only
      clear HS HA HD HE HG
      go_wp2_with fail
      go_ret
      exact ⟨by rw [HF.out]; rfl, HO⟩
end Go.Proofs.YtefcnaccemefnaaGreatDoor
