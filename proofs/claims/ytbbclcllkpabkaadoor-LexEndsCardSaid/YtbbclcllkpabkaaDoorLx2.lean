/- Words of lines: tokens and lines, plain mathematics. -/
import Derived.Test.YtbbclcllkpabkaaDoorLx1
namespace Go.Proofs.YtbbclcllkpabkaaDoor.X
open U

abbrev Tk := Nat × List Nat × Nat
def allG (ns : List Nat) : Bool := ns.all fun n => decide (sgn n)
theorem allG_iff {ns : List Nat} : allG ns = true ↔ ∀ n ∈ ns, sgn n := by simp [allG]
def inn (lit : Bool) (kd : Nat) (r : List Nat) : Option Tk :=
  match unt lit r with
  | none => none
  | some q => if allG q.1 = true then some (kd, encL q.1, 1 + q.2) else none
/-- The token that a text begins with: its kind, its text, and how many bytes it has. -/
def tok (l : List Nat) : Option Tk :=
  if l.getD 0 0 = 60 then inn false 1 (l.drop 1)
  else if l.getD 0 0 = 95 ∧ l.getD 1 0 = 58 then (if lab (l.drop 2) = 0 then none else some (2, (l.drop 2).take (lab (l.drop 2)), 2 + lab (l.drop 2)))
  else if l.getD 0 0 = 34 then inn true 3 (l.drop 1)
  else if l.getD 0 0 = 64 then (if tag (l.drop 1) = 0 then none else some (4, (l.drop 1).take (tag (l.drop 1)), 1 + tag (l.drop 1)))
  else if l.getD 0 0 = 94 ∧ l.getD 1 0 = 94 then some (5, [], 2)
  else if l.getD 0 0 = 46 then some (6, [], 1)
  else none
theorem inn_some {lit : Bool} {kd k m : Nat} {r x : List Nat} (h : inn lit kd r = some (k, x, m)) : ∃ ns j, unt lit r = some (ns, j) ∧ (∀ n ∈ ns, sgn n) ∧ k = kd ∧ x = encL ns ∧ m = 1 + j := by
  unfold inn at h
  cases hu : unt lit r with
  | none => rw [hu] at h; cases h
  | some q =>
    obtain ⟨ns, j⟩ := q
    rw [hu] at h
    simp only at h
    split at h
    · rename_i hg
      simp only [Option.some.injEq, Prod.mk.injEq] at h
      exact ⟨ns, j, rfl, allG_iff.1 hg, h.1.symm, h.2.1.symm, h.2.2.symm⟩
    · cases h
theorem inn_of {lit : Bool} {kd j : Nat} {r ns : List Nat} (h : unt lit r = some (ns, j)) (hg : ∀ n ∈ ns, sgn n) : inn lit kd r = some (kd, encL ns, 1 + j) := by
  unfold inn
  rw [h]
  simp only
  rw [if_pos (allG_iff.2 hg)]
/-- The ways in which a text begins with a token. -/
inductive TokR : List Nat → Tk → Prop
  | iri {r ns j} : unt false r = some (ns, j) → (∀ n ∈ ns, sgn n) → TokR (60 :: r) (1, encL ns, 1 + j)
  | lab {r} : U.lab r ≠ 0 → TokR (95 :: 58 :: r) (2, r.take (U.lab r), 2 + U.lab r)
  | text {r ns j} : unt true r = some (ns, j) → (∀ n ∈ ns, sgn n) → TokR (34 :: r) (3, encL ns, 1 + j)
  | tag {r} : U.tag r ≠ 0 → TokR (64 :: r) (4, r.take (U.tag r), 1 + U.tag r)
  | caret {r} : TokR (94 :: 94 :: r) (5, [], 2)
  | dot {r} : TokR (46 :: r) (6, [], 1)
theorem TokR.tok {l : List Nat} {q : Tk} (h : TokR l q) : tok l = some q := by
  cases h with
  | iri h1 h2 => unfold X.tok; rw [if_pos (by simp)]; exact inn_of h1 h2
  | lab h => unfold X.tok; rw [if_neg (by simp), if_pos (by simp)]; simp only [List.drop_succ_cons, List.drop_zero]; rw [if_neg h]
  | text h1 h2 => unfold X.tok; rw [if_neg (by simp), if_neg (by simp), if_pos (by simp)]; exact inn_of h1 h2
  | tag h => unfold X.tok; rw [if_neg (by simp), if_neg (by simp), if_neg (by simp), if_pos (by simp)]; simp only [List.drop_succ_cons, List.drop_zero]; rw [if_neg h]
  | caret => unfold X.tok; rw [if_neg (by simp), if_neg (by simp), if_neg (by simp), if_neg (by simp), if_pos (by simp)]
  | dot => unfold X.tok; rw [if_neg (by simp), if_neg (by simp), if_neg (by simp), if_neg (by simp), if_neg (by simp), if_pos (by simp)]
theorem cons_of {l : List Nat} {c : Nat} (h : l.getD 0 0 = c) (hc : c ≠ 0) : ∃ r, l = c :: r := by
  cases l with
  | nil => exact absurd h.symm hc
  | cons x r => exact ⟨r, by simpa using h⟩
theorem tokR_of {l : List Nat} {q : Tk} (h : tok l = some q) : TokR l q := by
  obtain ⟨k, x, m⟩ := q
  unfold tok at h
  split at h
  · rename_i h1
    obtain ⟨r, rfl⟩ := cons_of h1 (by decide)
    obtain ⟨ns, j, a, b, rfl, rfl, rfl⟩ := inn_some h
    exact .iri a b
  · split at h
    · rename_i h1
      obtain ⟨r, rfl⟩ := cons_of h1.1 (by decide)
      obtain ⟨r2, rfl⟩ := cons_of (l := r) (c := 58) (by simpa using h1.2) (by decide)
      simp only [List.drop_succ_cons, List.drop_zero] at h
      split at h
      · cases h
      · rename_i hl
        injection h with h
        rw [← h]
        exact .lab hl
    · split at h
      · rename_i h1
        obtain ⟨r, rfl⟩ := cons_of h1 (by decide)
        obtain ⟨ns, j, a, b, rfl, rfl, rfl⟩ := inn_some h
        exact .text a b
      · split at h
        · rename_i h1
          obtain ⟨r, rfl⟩ := cons_of h1 (by decide)
          simp only [List.drop_succ_cons, List.drop_zero] at h
          split at h
          · cases h
          · rename_i hl
            injection h with h
            rw [← h]
            exact .tag hl
        · split at h
          · rename_i h1
            obtain ⟨r, rfl⟩ := cons_of h1.1 (by decide)
            obtain ⟨r2, rfl⟩ := cons_of (l := r) (c := 94) (by simpa using h1.2) (by decide)
            injection h with h
            rw [← h]
            exact .caret
          · split at h
            · rename_i h1
              obtain ⟨r, rfl⟩ := cons_of h1 (by decide)
              injection h with h
              rw [← h]
              exact .dot
            · cases h
theorem Good.lab {y : List Nat} (h : Good y) : U.lab y = 0 := by
  rcases h with rfl | ⟨c, t, rfl, h⟩
  · exact lab_nil
  · unfold U.lab
    rw [nxt_asc (by omega)]
    rcases h with rfl | rfl | rfl <;> rw [if_neg (by decide)]
theorem Good.tag {y : List Nat} (h : Good y) : U.tag y = 0 := h.shutT 0 0 0
theorem take_cons {c : Nat} {r : List Nat} {m : Nat} : (c :: r).take (1 + m) = c :: r.take m := by rw [Nat.add_comm, List.take_succ_cons]
theorem drop_cons {c : Nat} {r : List Nat} {m : Nat} : (c :: r).drop (1 + m) = r.drop m := by rw [Nat.add_comm, List.drop_succ_cons]
theorem take_cons2 {c d : Nat} {r : List Nat} {m : Nat} : (c :: d :: r).take (2 + m) = c :: d :: r.take m := by rw [show 2 + m = m + 1 + 1 by omega, List.take_succ_cons, List.take_succ_cons]
theorem drop_cons2 {c d : Nat} {r : List Nat} {m : Nat} : (c :: d :: r).drop (2 + m) = r.drop m := by rw [show 2 + m = m + 1 + 1 by omega, List.drop_succ_cons, List.drop_succ_cons]
theorem take_take_app {r y : List Nat} {m : Nat} (h : m ≤ r.length) : (r.take m ++ y).take m = r.take m := by
  rw [List.take_append_of_le_length (by rw [List.length_take]; omega), List.take_of_length_le (by rw [List.length_take]; omega)]
theorem bys_tail {c : Nat} {r : List Nat} (h : Bys (c :: r)) : Bys r := fun x hx => h x (by simp [hx])
/-- How a token stands in its text. -/
theorem tok_size {l : List Nat} {k m : Nat} {x : List Nat} (hb : Bys l) (h : tok l = some (k, x, m)) : 1 ≤ m ∧ m ≤ l.length ∧ Val (l.take m) ∧ Val x ∧ x.length ≤ 4 * m ∧ 1 ≤ k ∧ k ≤ 6 := by
  have h' := tokR_of h
  have inner : ∀ {lit c r ns j}, c < 128 → unt lit r = some (ns, j) → (∀ n ∈ ns, sgn n) → Bys (c :: r) → 1 ≤ 1 + j ∧ 1 + j ≤ (c :: r).length ∧ Val ((c :: r).take (1 + j)) ∧ Val (encL ns) ∧ (encL ns).length ≤ 4 * (1 + j) := by
    intro lit c r ns j hc hu hg hb
    obtain ⟨h1, h2, h3, _, h5, _⟩ := unt_cut _ r ns j (Nat.le_refl _) (bys_tail hb) hu
    have := encL_len ns
    refine ⟨by omega, by simp; omega, ?_, ⟨ns, hg, rfl⟩, by omega⟩
    rw [take_cons]
    exact (Val.asc (l := [c]) (by simpa using hc)).app h3
  cases h' with
  | iri h1 h2 => obtain ⟨a, b, c, d, e⟩ := inner (by decide) h1 h2 hb; exact ⟨a, b, c, d, e, by omega, by omega⟩
  | text h1 h2 => obtain ⟨a, b, c, d, e⟩ := inner (by decide) h1 h2 hb; exact ⟨a, b, c, d, e, by omega, by omega⟩
  | @lab r h =>
    have hr := bys_tail (bys_tail hb)
    have hl := lab_le hr
    have hv := lab_val hr
    refine ⟨by omega, by simp; omega, ?_, hv, by rw [List.length_take]; omega, by omega, by omega⟩
    rw [take_cons2]
    exact (Val.asc (l := [95, 58]) (by simp)).app hv
  | @tag r h =>
    have hl := tag_le r
    have ha := tag_asc r
    refine ⟨by omega, by simp; omega, ?_, Val.asc ha, by rw [List.length_take]; omega, by omega, by omega⟩
    rw [take_cons]
    exact (Val.asc (l := [64]) (by simp)).app (Val.asc ha)
  | caret => exact ⟨by omega, by simp, Val.asc (by simp), .nil, by simp, by omega, by omega⟩
  | dot => exact ⟨by omega, by simp, Val.asc (by simp), .nil, by simp, by omega, by omega⟩
theorem tok_head {l : List Nat} {q : Tk} (h : tok l = some q) : ∃ c t, l = c :: t ∧ c ≠ 35 ∧ c ≠ 32 ∧ c ≠ 9 := by
  cases tokR_of h <;> exact ⟨_, _, rfl, by decide, by decide, by decide⟩
/-- A token alone, with something behind it that goes on with none. -/
theorem tok_cut {l : List Nat} {k m : Nat} {x y : List Nat} (hb : Bys l) (h : tok l = some (k, x, m)) (hy : Good y) : tok (l.take m ++ y) = some (k, x, m) := by
  cases tokR_of h with
  | iri h1 h2 =>
    obtain ⟨_, _, _, h4, _, _⟩ := unt_cut _ _ _ _ (Nat.le_refl _) (bys_tail hb) h1
    rw [take_cons]
    exact (TokR.iri (h4 y) h2).tok
  | text h1 h2 =>
    obtain ⟨_, _, _, h4, _, _⟩ := unt_cut _ _ _ _ (Nat.le_refl _) (bys_tail hb) h1
    rw [take_cons]
    exact (TokR.text (h4 y) h2).tok
  | @lab r hne =>
    have hr := bys_tail (bys_tail hb)
    have e := (lab_cut hr hy.shut hy.lab).1
    have := (TokR.lab (r := r.take (U.lab r) ++ y) (by rw [e]; exact hne)).tok
    rw [e, take_take_app (lab_le hr)] at this
    rw [take_cons2]
    exact this
  | @tag r hne =>
    have e := (tag_cut (l := r) hy.shutT).1
    have := (TokR.tag (r := r.take (U.tag r) ++ y) (by rw [e]; exact hne)).tok
    rw [e, take_take_app (tag_le r)] at this
    rw [take_cons]
    exact this
  | caret => exact (TokR.caret (r := y)).tok
  | dot => exact (TokR.dot (r := y)).tok
/-- .. with some of what stands behind it. -/
theorem tok_mid {l : List Nat} {k m : Nat} {x : List Nat} (hb : Bys l) (h : tok l = some (k, x, m)) (j : Nat) : tok (l.take m ++ (l.drop m).take j) = some (k, x, m) := by
  cases tokR_of h with
  | iri h1 h2 =>
    obtain ⟨_, _, _, h4, _, _⟩ := unt_cut _ _ _ _ (Nat.le_refl _) (bys_tail hb) h1
    rw [take_cons]
    exact (TokR.iri (h4 _) h2).tok
  | text h1 h2 =>
    obtain ⟨_, _, _, h4, _, _⟩ := unt_cut _ _ _ _ (Nat.le_refl _) (bys_tail hb) h1
    rw [take_cons]
    exact (TokR.text (h4 _) h2).tok
  | @lab r hne =>
    have hr := bys_tail (bys_tail hb)
    have e : U.lab (r.take (U.lab r) ++ (r.drop (U.lab r)).take j) = U.lab r := by
      have e1 := (lab_cut (y := []) hr shut_nil lab_nil).1
      rw [List.append_nil] at e1
      have l1 := lab_more (bys_take hr (U.lab r)) ((r.drop (U.lab r)).take j)
      have l2 := lab_more (l := r.take (U.lab r) ++ (r.drop (U.lab r)).take j) (bys_app (bys_take hr _) (bys_take (bys_drop hr _) _)) ((r.drop (U.lab r)).drop j)
      rw [List.append_assoc, List.take_append_drop, List.take_append_drop] at l2
      omega
    have := (TokR.lab (r := r.take (U.lab r) ++ (r.drop (U.lab r)).take j) (by rw [e]; exact hne)).tok
    rw [e, take_take_app (lab_le hr)] at this
    rw [take_cons2, drop_cons2]
    exact this
  | @tag r hne =>
    have e : U.tag (r.take (U.tag r) ++ (r.drop (U.tag r)).take j) = U.tag r := by
      have e1 := (tag_cut (l := r) (y := []) shutT_nil).1
      rw [List.append_nil] at e1
      have l1 := tag_more (r.take (U.tag r)) ((r.drop (U.tag r)).take j)
      have l2 := tag_more (r.take (U.tag r) ++ (r.drop (U.tag r)).take j) ((r.drop (U.tag r)).drop j)
      rw [List.append_assoc, List.take_append_drop, List.take_append_drop] at l2
      omega
    have := (TokR.tag (r := r.take (U.tag r) ++ (r.drop (U.tag r)).take j) (by rw [e]; exact hne)).tok
    rw [e, take_take_app (tag_le r)] at this
    rw [take_cons, drop_cons]
    exact this
  | caret => exact TokR.caret.tok
  | dot => exact TokR.dot.tok
/-- .. with something behind all. -/
theorem tok_app {l : List Nat} {q : Tk} {y : List Nat} (hv : Val l) (h : tok l = some q) (hy : Good y) : tok (l ++ y) = some q := by
  have hb := hv.bys
  cases tokR_of h with
  | @iri r ns j h1 h2 =>
    obtain ⟨_, _, _, h4, _, _⟩ := unt_cut _ _ _ _ (Nat.le_refl _) (bys_tail hb) h1
    refine (TokR.iri (r := r ++ y) ?_ h2).tok
    rw [← List.take_append_drop j r, List.append_assoc]
    exact h4 _
  | @text r ns j h1 h2 =>
    obtain ⟨_, _, _, h4, _, _⟩ := unt_cut _ _ _ _ (Nat.le_refl _) (bys_tail hb) h1
    refine (TokR.text (r := r ++ y) ?_ h2).tok
    rw [← List.take_append_drop j r, List.append_assoc]
    exact h4 _
  | @lab r hne =>
    have hr : Val r := asc_left (by decide) (asc_left (by decide) hv)
    have e := lab_app hy.shut hr hne
    have := (TokR.lab (r := r ++ y) (by rw [e]; exact hne)).tok
    rw [e, List.take_append_of_le_length (lab_le hr.bys)] at this
    exact this
  | @tag r hne =>
    have e := tag_app hy.shutT r
    have := (TokR.tag (r := r ++ y) (by rw [e]; exact hne)).tok
    rw [e, List.take_append_of_le_length (tag_le r)] at this
    exact this
  | caret => exact TokR.caret.tok
  | dot => exact TokR.dot.tok

/-! A line: its tokens with their places; and 0: it ends there, 1: it ends with a remark, 2 and more: that place less 2 has no token. -/
def linF : Nat → List Nat → Nat → List Tk × Nat
  | 0, _, _ => ([], 0)
  | _ + 1, [], _ => ([], 0)
  | f + 1, c :: t, a =>
    if c = 35 then ([], 1)
    else if c = 32 ∨ c = 9 then linF f t (a + 1)
    else match tok (c :: t) with
      | none => ([], a + 2)
      | some q => ((q.1, q.2.1, a) :: (linF f ((c :: t).drop q.2.2) (a + q.2.2)).1, (linF f ((c :: t).drop q.2.2) (a + q.2.2)).2)
theorem tok_pos {l : List Nat} {q : Tk} (h : tok l = some q) : 1 ≤ q.2.2 := by
  cases tokR_of h <;> simp <;> omega
theorem linF_any : ∀ (f g : Nat) (l : List Nat) (a : Nat), l.length ≤ f → l.length ≤ g → linF f l a = linF g l a
  | f, g, [], a, _, _ => by cases f <;> cases g <;> rfl
  | 0, _, c :: t, a, h, _ => by simp at h
  | _ + 1, 0, c :: t, a, _, h => by simp at h
  | f + 1, g + 1, c :: t, a, hf, hg => by
    simp only [List.length_cons] at hf hg
    unfold linF
    by_cases h1 : c = 35
    · rw [if_pos h1, if_pos h1]
    · rw [if_neg h1, if_neg h1]
      by_cases h2 : c = 32 ∨ c = 9
      · rw [if_pos h2, if_pos h2]
        exact linF_any f g t _ (by omega) (by omega)
      · rw [if_neg h2, if_neg h2]
        cases ht : tok (c :: t) with
        | none => rfl
        | some q =>
          have := tok_pos ht
          simp only
          rw [linF_any f g ((c :: t).drop q.2.2) _ (by rw [List.length_drop, List.length_cons]; omega) (by rw [List.length_drop, List.length_cons]; omega)]
def lin (l : List Nat) (a : Nat) : List Tk × Nat := linF l.length l a
theorem lin_nil (a : Nat) : lin [] a = ([], 0) := rfl
theorem lin_rem (t : List Nat) (a : Nat) : lin (35 :: t) a = ([], 1) := rfl
theorem lin_blank {c : Nat} (h : c = 32 ∨ c = 9) (t : List Nat) (a : Nat) : lin (c :: t) a = lin t (a + 1) := by
  show linF (t.length + 1) _ _ = _
  unfold linF
  rw [if_neg (by omega), if_pos h]
  rfl
theorem lin_none {l : List Nat} {c : Nat} {t : List Nat} (hl : l = c :: t) (h1 : c ≠ 35) (h2 : ¬ (c = 32 ∨ c = 9)) (h : tok l = none) (a : Nat) : lin l a = ([], a + 2) := by
  subst hl
  show linF (t.length + 1) _ _ = _
  unfold linF
  rw [if_neg h1, if_neg h2, h]
theorem lin_tok {l : List Nat} {k m : Nat} {x : List Nat} (h : tok l = some (k, x, m)) (a : Nat) : lin l a = ((k, x, a) :: (lin (l.drop m) (a + m)).1, (lin (l.drop m) (a + m)).2) := by
  obtain ⟨c, t, rfl, h1, h2, h3⟩ := tok_head h
  have hp := tok_pos h
  show linF (t.length + 1) _ _ = _
  unfold linF
  rw [if_neg h1, if_neg (by omega), h]
  simp only
  unfold lin
  rw [linF_any t.length _ _ _ (by rw [List.length_drop, List.length_cons]; simp only at hp; omega) (Nat.le_refl _)]
/-- A line, one step on. -/
theorem lin_cases (l : List Nat) : l = [] ∨ (∃ t, l = 35 :: t) ∨ (∃ c t, l = c :: t ∧ (c = 32 ∨ c = 9)) ∨ (∃ c t, l = c :: t ∧ c ≠ 35 ∧ ¬ (c = 32 ∨ c = 9) ∧ tok l = none) ∨ ∃ k x m, tok l = some (k, x, m) := by
  cases l with
  | nil => exact .inl rfl
  | cons c t =>
    by_cases h1 : c = 35
    · subst h1; exact .inr (.inl ⟨t, rfl⟩)
    · by_cases h2 : c = 32 ∨ c = 9
      · exact .inr (.inr (.inl ⟨c, t, rfl, h2⟩))
      · cases h : tok (c :: t) with
        | none => exact .inr (.inr (.inr (.inl ⟨c, t, rfl, h1, h2, rfl⟩)))
        | some q => exact .inr (.inr (.inr (.inr ⟨_, _, _, rfl⟩)))
theorem Val.tail {l : List Nat} {k m : Nat} {x : List Nat} (hv : Val l) (h : tok l = some (k, x, m)) : Val (l.drop m) := by
  obtain ⟨_, _, h3, _⟩ := tok_size hv.bys h
  exact h3.right (by rw [List.take_append_drop]; exact hv)
theorem blank_lt {c : Nat} (h : c = 32 ∨ c = 9) : c < 128 := by omega
/-- Tokens' number and places, kinds, texts. -/
theorem lin_in : ∀ (n : Nat) (l : List Nat) (a : Nat), l.length ≤ n → Bys l → (lin l a).1.length ≤ l.length ∧ (∀ q ∈ (lin l a).1, a ≤ q.2.2 ∧ q.2.2 < a + l.length ∧ Val q.2.1 ∧ q.2.1.length ≤ 4 * l.length ∧ 1 ≤ q.1 ∧ q.1 ≤ 6) ∧ (lin l a).2 < a + l.length + 2
  | n, l, a, hn, hb => by
    rcases lin_cases l with rfl | ⟨t, rfl⟩ | ⟨c, t, rfl, hc⟩ | ⟨c, t, hl, h1, h2, h3⟩ | ⟨k, x, m, h⟩
    · rw [lin_nil]; exact ⟨by simp, by simp, by simp⟩
    · rw [lin_rem]; exact ⟨by simp, by simp, by simp⟩
    · rw [lin_blank hc]
      cases n with
      | zero => simp at hn
      | succ n =>
        obtain ⟨i1, i2, i3⟩ := lin_in n t (a + 1) (by simpa using hn) (bys_tail hb)
        refine ⟨by simp; omega, fun q hq => ?_, by simp; omega⟩
        have := i2 q hq
        simp only [List.length_cons]
        refine ⟨by omega, by omega, this.2.2.1, by omega, this.2.2.2.2⟩
    · rw [lin_none hl h1 h2 h3]
      subst hl
      exact ⟨by simp, by simp, by simp⟩
    · rw [lin_tok h]
      obtain ⟨s1, s2, s3, s4, s5, s6, s7⟩ := tok_size hb h
      cases n with
      | zero => omega
      | succ n =>
        have hd : (l.drop m).length = l.length - m := List.length_drop ..
        obtain ⟨i1, i2, i3⟩ := lin_in n (l.drop m) (a + m) (by omega) (bys_drop hb _)
        refine ⟨by simp; omega, fun q hq => ?_, by simp only; omega⟩
        rcases List.mem_cons.1 hq with rfl | hq
        · exact ⟨Nat.le_refl _, by simp only; omega, s4, by simp only; omega, s6, s7⟩
        · have := i2 q hq
          refine ⟨by omega, by omega, this.2.2.1, by omega, this.2.2.2.2⟩
theorem lin_shift : ∀ (n : Nat) (l : List Nat) (a d : Nat), l.length ≤ n → lin l (a + d) = ((lin l a).1.map (fun q => (q.1, q.2.1, q.2.2 + d)), if (lin l a).2 < 2 then (lin l a).2 else (lin l a).2 + d)
  | n, l, a, d, hn => by
    rcases lin_cases l with rfl | ⟨t, rfl⟩ | ⟨c, t, rfl, hc⟩ | ⟨c, t, hl, h1, h2, h3⟩ | ⟨k, x, m, h⟩
    · rfl
    · rfl
    · rw [lin_blank hc, lin_blank hc]
      cases n with
      | zero => simp at hn
      | succ n =>
        rw [show a + d + 1 = a + 1 + d by omega]
        exact lin_shift n t (a + 1) d (by simpa using hn)
    · rw [lin_none hl h1 h2 h3, lin_none hl h1 h2 h3]
      simp only [List.map_nil]
      rw [if_neg (by omega)]
      congr 1
      omega
    · rw [lin_tok h, lin_tok h]
      have hp := tok_pos h
      obtain ⟨c, t, rfl, _⟩ := tok_head h
      cases n with
      | zero => simp at hn
      | succ n =>
        simp only [List.length_cons] at hn
        simp only at hp
        rw [show a + d + m = a + m + d by omega, lin_shift n ((c :: t).drop m) (a + m) d (by rw [List.length_drop, List.length_cons]; omega)]
        rfl
/-- Something behind a line that ends with no remark; behind one that does. -/
theorem lin_app {y : List Nat} (hy : Good y) : ∀ (n : Nat) (l : List Nat) (a : Nat), l.length ≤ n → Val l → (lin l a).2 = 0 → lin (l ++ y) a = ((lin l a).1 ++ (lin y (a + l.length)).1, (lin y (a + l.length)).2)
  | n, l, a, hn, hv, h0 => by
    rcases lin_cases l with rfl | ⟨t, rfl⟩ | ⟨c, t, rfl, hc⟩ | ⟨c, t, hl, h1, h2, h3⟩ | ⟨k, x, m, h⟩
    · rfl
    · rw [lin_rem] at h0; cases h0
    · rw [lin_blank hc] at h0 ⊢
      rw [List.cons_append, lin_blank hc]
      cases n with
      | zero => simp at hn
      | succ n =>
        rw [lin_app hy n t (a + 1) (by simpa using hn) (asc_left (blank_lt hc) hv) h0, List.length_cons, show a + (t.length + 1) = a + 1 + t.length by omega]
    · rw [lin_none hl h1 h2 h3] at h0; simp at h0
    · obtain ⟨s1, s2, _⟩ := tok_size hv.bys h
      rw [lin_tok h] at h0 ⊢
      rw [lin_tok (tok_app hv h hy), List.drop_append_of_le_length s2]
      cases n with
      | zero => omega
      | succ n =>
        rw [lin_app hy n (l.drop m) (a + m) (by rw [List.length_drop]; omega) (hv.tail h) h0, List.length_drop, show a + m + (l.length - m) = a + l.length by omega]
        rfl
theorem lin_app1 {y : List Nat} (hy : Good y) : ∀ (n : Nat) (l : List Nat) (a : Nat), l.length ≤ n → Val l → (lin l a).2 = 1 → lin (l ++ y) a = lin l a
  | n, l, a, hn, hv, h0 => by
    rcases lin_cases l with rfl | ⟨t, rfl⟩ | ⟨c, t, rfl, hc⟩ | ⟨c, t, hl, h1, h2, h3⟩ | ⟨k, x, m, h⟩
    · rw [lin_nil] at h0; cases h0
    · rfl
    · rw [lin_blank hc] at h0 ⊢
      rw [List.cons_append, lin_blank hc]
      cases n with
      | zero => simp at hn
      | succ n => exact lin_app1 hy n t (a + 1) (by simpa using hn) (asc_left (blank_lt hc) hv) h0
    · rw [lin_none hl h1 h2 h3] at h0; simp at h0
    · obtain ⟨s1, s2, _⟩ := tok_size hv.bys h
      rw [lin_tok h] at h0 ⊢
      rw [lin_tok (tok_app hv h hy), List.drop_append_of_le_length s2]
      cases n with
      | zero => omega
      | succ n => rw [lin_app1 hy n (l.drop m) (a + m) (by rw [List.length_drop]; omega) (hv.tail h) h0]
/-- Where there is no token: what stands ahead, and what stands from there on. -/
theorem lin_bad : ∀ (n : Nat) (l : List Nat) (a p : Nat), l.length ≤ n → Val l → (lin l a).2 = p + 2 → a ≤ p ∧ p < a + l.length ∧ Val (l.take (p - a)) ∧ Val (l.drop (p - a)) ∧ lin (l.take (p - a)) a = ((lin l a).1, 0) ∧ (∀ b, lin (l.drop (p - a)) b = ([], b + 2)) ∧ (lin l a).1.length ≤ p - a
  | n, l, a, p, hn, hv, h0 => by
    rcases lin_cases l with rfl | ⟨t, rfl⟩ | ⟨c, t, rfl, hc⟩ | ⟨c, t, hl, h1, h2, h3⟩ | ⟨k, x, m, h⟩
    · rw [lin_nil] at h0; simp at h0
    · rw [lin_rem] at h0; simp at h0
    · rw [lin_blank hc] at h0 ⊢
      cases n with
      | zero => simp at hn
      | succ n =>
        obtain ⟨i1, i2, i3, i4, i5, i6, i7⟩ := lin_bad n t (a + 1) p (by simpa using hn) (asc_left (blank_lt hc) hv) h0
        have e1 : (c :: t).take (p - a) = c :: t.take (p - (a + 1)) := by rw [show p - a = 1 + (p - (a + 1)) by omega, take_cons]
        have e2 : (c :: t).drop (p - a) = t.drop (p - (a + 1)) := by rw [show p - a = 1 + (p - (a + 1)) by omega, drop_cons]
        rw [e1, e2, lin_blank hc]
        exact ⟨by omega, by simp; omega, (Val.asc (l := [c]) (by simpa using blank_lt hc)).app i3, i4, i5, i6, by omega⟩
    · rw [lin_none hl h1 h2 h3] at h0 ⊢
      have : a = p := by simpa using h0
      subst this
      rw [Nat.sub_self]
      refine ⟨Nat.le_refl _, by rw [hl]; simp, .nil, by simpa using hv, rfl, fun b => ?_, by simp⟩
      rw [List.drop_zero, lin_none hl h1 h2 h3]
    · obtain ⟨s1, s2, s3, _⟩ := tok_size hv.bys h
      have hmid := tok_mid hv.bys h
      rw [lin_tok h] at h0 ⊢
      cases n with
      | zero => omega
      | succ n =>
        have hd : (l.drop m).length = l.length - m := List.length_drop ..
        obtain ⟨i1, i2, i3, i4, i5, i6, i7⟩ := lin_bad n (l.drop m) (a + m) p (by omega) (hv.tail h) h0
        have e1 : l.take (p - a) = l.take m ++ (l.drop m).take (p - (a + m)) := by rw [← List.take_add]; congr 1; omega
        have e2 : l.drop (p - a) = (l.drop m).drop (p - (a + m)) := by rw [List.drop_drop]; congr 1; omega
        rw [e1, e2, lin_tok (hmid _)]
        have e3 : (l.take m ++ (l.drop m).take (p - (a + m))).drop m = (l.drop m).take (p - (a + m)) := by
          rw [List.drop_append, List.length_take, List.drop_eq_nil_of_le (by rw [List.length_take]; omega), show m - min m l.length = 0 by omega]
          rfl
        rw [e3, i5]
        exact ⟨by omega, by omega, s3.app i3, i4, rfl, i6, by simp; omega⟩
/-- Up to the first token, or the end. -/
def firE (q : List Tk) (b e : Nat) : Nat := match q with | [] => e | t :: _ => t.2.2 - b
theorem lin_gap : ∀ (n : Nat) (l : List Nat) (b : Nat), l.length ≤ n → Val l → (lin l b).2 < 2 → firE (lin l b).1 b l.length ≤ l.length ∧ Good (l.take (firE (lin l b).1 b l.length)) ∧ Val (l.take (firE (lin l b).1 b l.length)) ∧ (∀ a, (lin (l.take (firE (lin l b).1 b l.length)) a).1 = [] ∧ (lin (l.take (firE (lin l b).1 b l.length)) a).2 < 2) ∧ ((lin l b).1 ≠ [] → ∀ x ∈ l.take (firE (lin l b).1 b l.length), x = 32 ∨ x = 9)
  | n, l, b, hn, hv, h0 => by
    rcases lin_cases l with rfl | ⟨t, rfl⟩ | ⟨c, t, rfl, hc⟩ | ⟨c, t, hl, h1, h2, h3⟩ | ⟨k, x, m, h⟩
    · exact ⟨by simp [lin_nil, firE], .inl (by simp), by simpa using Val.nil, fun a => by simp [lin_nil], fun h => absurd rfl h⟩
    · rw [lin_rem]
      show t.length + 1 ≤ _ ∧ _
      simp only [firE, List.take_length]
      exact ⟨by simp, .inr ⟨35, t, rfl, by omega⟩, hv, fun a => by rw [lin_rem]; simp, fun h => absurd rfl h⟩
    · rw [lin_blank hc] at h0 ⊢
      cases n with
      | zero => simp at hn
      | succ n =>
        have hn' : t.length ≤ n := by simpa using hn
        have hvt := asc_left (blank_lt hc) hv
        obtain ⟨i1, i2, i3, i4, i5⟩ := lin_gap n t (b + 1) hn' hvt h0
        have hin := lin_in n t (b + 1) hn' hvt.bys
        have e : firE (lin t (b + 1)).1 b (c :: t).length = 1 + firE (lin t (b + 1)).1 (b + 1) t.length := by
          cases hq : (lin t (b + 1)).1 with
          | nil => simp [firE]; omega
          | cons q qs =>
            have := hin.2.1 q (by rw [hq]; simp)
            simp only [firE]
            omega
        rw [e, take_cons]
        refine ⟨by simp; omega, .inr ⟨c, _, rfl, by omega⟩, (Val.asc (l := [c]) (by simpa using blank_lt hc)).app i3, fun a => ?_, fun h x hx => ?_⟩
        · rw [lin_blank hc]; exact i4 _
        · rcases List.mem_cons.1 hx with rfl | hx
          · exact hc
          · exact i5 h x hx
    · rw [lin_none hl h1 h2 h3] at h0; simp only at h0; omega
    · rw [lin_tok h]
      simp only [firE, Nat.sub_self, List.take_zero]
      exact ⟨by omega, .inl rfl, .nil, fun a => by simp [lin_nil], fun _ => by simp⟩
/-- Where a token's part ends. -/
def endE (ts : List Tk) (i e : Nat) : Nat := if i + 1 < ts.length then (ts.getD (i + 1) (0, [], 0)).2.2 else e
/-- Each token alone, up to the next one. -/
theorem lin_part : ∀ (n : Nat) (l : List Nat) (a : Nat), l.length ≤ n → Val l → (lin l a).2 < 2 → ∀ i, i < (lin l a).1.length →
    a ≤ ((lin l a).1.getD i (0, [], 0)).2.2 ∧ ((lin l a).1.getD i (0, [], 0)).2.2 < endE (lin l a).1 i (a + l.length) ∧ endE (lin l a).1 i (a + l.length) ≤ a + l.length ∧
    Val ((l.take (endE (lin l a).1 i (a + l.length) - a)).drop (((lin l a).1.getD i (0, [], 0)).2.2 - a)) ∧
    (lin ((l.take (endE (lin l a).1 i (a + l.length) - a)).drop (((lin l a).1.getD i (0, [], 0)).2.2 - a)) 0).1 = [(((lin l a).1.getD i (0, [], 0)).1, ((lin l a).1.getD i (0, [], 0)).2.1, 0)] ∧
    (lin ((l.take (endE (lin l a).1 i (a + l.length) - a)).drop (((lin l a).1.getD i (0, [], 0)).2.2 - a)) 0).2 < 2
  | n, l, a, hn, hv, h0, i, hi => by
    rcases lin_cases l with rfl | ⟨t, rfl⟩ | ⟨c, t, rfl, hc⟩ | ⟨c, t, hl, h1, h2, h3⟩ | ⟨k, x, m, h⟩
    · rw [lin_nil] at hi; simp at hi
    · rw [lin_rem] at hi; simp at hi
    · rw [lin_blank hc] at h0 hi ⊢
      cases n with
      | zero => simp at hn
      | succ n =>
        obtain ⟨i1, i2, i3, i4, i5, i6⟩ := lin_part n t (a + 1) (by simpa using hn) (asc_left (blank_lt hc) hv) h0 i hi
        rw [List.length_cons, show a + (t.length + 1) = a + 1 + t.length by omega]
        generalize endE (lin t (a + 1)).1 i (a + 1 + t.length) = e at *
        generalize (lin t (a + 1)).1.getD i (0, [], 0) = q at *
        have e1 : ((c :: t).take (e - a)).drop (q.2.2 - a) = (t.take (e - (a + 1))).drop (q.2.2 - (a + 1)) := by
          rw [show e - a = 1 + (e - (a + 1)) by omega, take_cons, show q.2.2 - a = 1 + (q.2.2 - (a + 1)) by omega, drop_cons]
        rw [e1]
        exact ⟨by omega, i2, i3, i4, i5, i6⟩
    · rw [lin_none hl h1 h2 h3] at h0; simp only at h0; omega
    · obtain ⟨s1, s2, s3, _⟩ := tok_size hv.bys h
      have hd : (l.drop m).length = l.length - m := List.length_drop ..
      rw [lin_tok h] at h0 hi ⊢
      simp only at h0 hi ⊢
      have hvd := hv.tail h
      cases n with
      | zero => omega
      | succ n =>
        cases i with
        | zero =>
          have hg := lin_gap n (l.drop m) (a + m) (by omega) hvd h0
          have hin := lin_in n (l.drop m) (a + m) (by omega) hvd.bys
          have e : endE ((k, x, a) :: (lin (l.drop m) (a + m)).1) 0 (a + l.length) = a + m + firE (lin (l.drop m) (a + m)).1 (a + m) (l.drop m).length := by
            cases hq : (lin (l.drop m) (a + m)).1 with
            | nil => simp only [endE, firE]; rw [if_neg (by simp)]; omega
            | cons q qs =>
              have := hin.2.1 q (by rw [hq]; simp)
              simp only [endE, firE]
              rw [if_pos (by simp)]
              simp
              omega
          rw [e]
          obtain ⟨g1, g2, g3, g4, g5⟩ := hg
          generalize firE (lin (l.drop m) (a + m)).1 (a + m) (l.drop m).length = j at *
          simp only [List.getD_cons_zero, Nat.sub_self, List.drop_zero]
          have e1 : l.take (a + m + j - a) = l.take m ++ (l.drop m).take j := by rw [← List.take_add]; congr 1; omega
          have e2 : (l.take m ++ (l.drop m).take j).drop m = (l.drop m).take j := by
            rw [List.drop_append, List.length_take, List.drop_eq_nil_of_le (by rw [List.length_take]; omega), show m - min m l.length = 0 by omega]
            rfl
          rw [e1, lin_tok (tok_cut hv.bys h g2), e2]
          refine ⟨Nat.le_refl _, by omega, by omega, s3.app g3, ?_, (g4 _).2⟩
          simp only
          rw [(g4 _).1]
        | succ i =>
          obtain ⟨i1, i2, i3, i4, i5, i6⟩ := lin_part n (l.drop m) (a + m) (by omega) hvd h0 i (by simpa using hi)
          rw [hd, show a + m + (l.length - m) = a + l.length by omega] at i2 i3 i4 i5 i6
          have e0 : endE ((k, x, a) :: (lin (l.drop m) (a + m)).1) (i + 1) (a + l.length) = endE (lin (l.drop m) (a + m)).1 i (a + l.length) := by
            simp only [endE, List.length_cons, List.getD_cons_succ]
            by_cases hlt : i + 1 < (lin (l.drop m) (a + m)).1.length
            · rw [if_pos hlt, if_pos (by omega)]
            · rw [if_neg hlt, if_neg (by omega)]
          rw [e0, List.getD_cons_succ]
          generalize endE (lin (l.drop m) (a + m)).1 i (a + l.length) = e at *
          generalize (lin (l.drop m) (a + m)).1.getD i (0, [], 0) = q at *
          have e1 : (l.take (e - a)).drop (q.2.2 - a) = ((l.drop m).take (e - (a + m))).drop (q.2.2 - (a + m)) := by
            rw [List.take_drop, List.drop_drop, List.drop_take, List.drop_take]
            rw [show m + (q.2.2 - (a + m)) = q.2.2 - a by omega, show m + (e - (a + m)) = e - a by omega]
          rw [e1]
          exact ⟨by omega, i2, by omega, i4, i5, i6⟩
end Go.Proofs.YtbbclcllkpabkaaDoor.X
