/- Lengths of trees: what they are, how they are found by a heap of rows and by the deepest pair, what they fill. No program. -/
import Derived.WalkKit
namespace Go.Proofs.Ythfnpgmjbfbocaa

/-- The lengths of a tree whose root stands that deep. -/
inductive Tr : Int → List Int → Prop
  | one (d : Int) : Tr d [d]
  | two {d : Int} {l r : List Int} : Tr (d + 1) l → Tr (d + 1) r → Tr d (l ++ r)

theorem Tr.pos {d : Int} {l : List Int} (h : Tr d l) : 1 ≤ l.length := by
  induction h with
  | one => simp
  | two _ _ i1 i2 => rw [List.length_append]; omega
theorem Tr.ge {d : Int} {l : List Int} (h : Tr d l) : ∀ e ∈ l, d ≤ e ∧ e < d + l.length := by
  induction h with
  | one d => intro e he; simp at he; subst he; simp; omega
  | @two d l r h1 h2 i1 i2 =>
    intro e he
    have p1 := h1.pos
    have p2 := h2.pos
    rw [List.length_append]
    rcases List.mem_append.1 he with h | h
    · have := i1 e h; omega
    · have := i2 e h; omega
theorem Tr.single {d z : Int} (h : Tr d [z]) : z = d := by
  generalize hl : [z] = l at h
  cases h with
  | one => simpa using hl
  | two h1 h2 =>
    have p1 := h1.pos
    have p2 := h2.pos
    have := congrArg List.length hl
    simp at this
    omega
theorem Tr.reverse {d : Int} {l : List Int} (h : Tr d l) : Tr d l.reverse := by
  induction h with
  | one d => exact .one d
  | two _ _ i1 i2 => rw [List.reverse_append]; exact .two i2 i1

/-- The deepest two, side by side, the first of all that deep. -/
theorem Tr.deep {d : Int} {l : List Int} (h : Tr d l) :
    l = [d] ∨ ∃ x m y, l = x ++ m :: m :: y ∧ (∀ e ∈ x, e < m) ∧ (∀ e ∈ y, e ≤ m) ∧ d < m ∧ Tr d (x ++ (m - 1) :: y) := by
  induction h with
  | one d => exact .inl rfl
  | @two d l r h1 h2 i1 i2 =>
    right
    rcases i1 with rfl | ⟨x1, m1, y1, rfl, a1, b1, c1, t1⟩
    · rcases i2 with rfl | ⟨x2, m2, y2, rfl, a2, b2, c2, t2⟩
      · refine ⟨[], d + 1, [], rfl, by simp, by simp, by omega, ?_⟩
        have e : d + 1 - 1 = d := by omega
        rw [e]; exact .one d
      · refine ⟨(d + 1) :: x2, m2, y2, rfl, ?_, b2, by omega, ?_⟩
        · intro e he
          rcases List.mem_cons.1 he with rfl | he
          · exact c2
          · exact a2 e he
        · exact Tr.two (l := [d + 1]) (.one _) t2
    · rcases i2 with rfl | ⟨x2, m2, y2, rfl, a2, b2, c2, t2⟩
      · refine ⟨x1, m1, y1 ++ [d + 1], by simp, a1, ?_, by omega, ?_⟩
        · intro e he
          rcases List.mem_append.1 he with he | he
          · exact b1 e he
          · simp at he; omega
        · have := Tr.two t1 (.one (d + 1))
          simpa using this
      · by_cases hm : m2 ≤ m1
        · refine ⟨x1, m1, y1 ++ (x2 ++ m2 :: m2 :: y2), by simp, a1, ?_, by omega, ?_⟩
          · intro e he
            rcases List.mem_append.1 he with he | he
            · exact b1 e he
            · rcases List.mem_append.1 he with he | he
              · have := a2 e he; omega
              · simp only [List.mem_cons] at he
                rcases he with rfl | rfl | he
                · omega
                · omega
                · have := b2 e he; omega
          · have := Tr.two t1 h2
            simpa using this
        · refine ⟨x1 ++ m1 :: m1 :: y1 ++ x2, m2, y2, by simp, ?_, b2, by omega, ?_⟩
          · intro e he
            rcases List.mem_append.1 he with he | he
            · rcases List.mem_append.1 he with he | he
              · have := a1 e he; omega
              · simp only [List.mem_cons] at he
                rcases he with rfl | rfl | he
                · omega
                · omega
                · have := b1 e he; omega
            · exact a2 e he
          · have := Tr.two h1 t2
            simpa using this
/-- A leaf may be parted in two. -/
theorem Tr.part {d : Int} {l : List Int} (h : Tr d l) : ∀ x e y, l = x ++ e :: y → Tr d (x ++ (e + 1) :: (e + 1) :: y) := by
  induction h with
  | one d =>
    intro x e y hl
    have hx : x = [] ∧ e = d ∧ y = [] := by
      cases x with
      | nil => simp at hl; exact ⟨rfl, hl.1.symm, hl.2⟩
      | cons a t => simp at hl
    obtain ⟨rfl, rfl, rfl⟩ := hx
    exact Tr.two (l := [e + 1]) (.one _) (.one _)
  | @two d l r h1 h2 i1 i2 =>
    intro x e y hl
    rcases List.append_eq_append_iff.1 hl with ⟨a, rfl, hr⟩ | ⟨c, rfl, hr⟩
    · have := Tr.two h1 (i2 a e y hr)
      simpa using this
    · cases c with
      | nil =>
        simp at hr
        have := Tr.two h1 (i2 [] e y (by simpa using hr.symm))
        simpa using this
      | cons z c =>
        simp at hr
        obtain ⟨rfl, rfl⟩ := hr
        have := Tr.two (i1 x e c rfl) h2
        simpa using this

theorem split_one {x1 x2 : List Int} {m1 m2 : Int} {y1 y2 : List Int} (h : x1 ++ m1 :: y1 = x2 ++ m2 :: y2) (a1 : ∀ e ∈ x1, e < m1) (b1 : ∀ e ∈ y1, e ≤ m1) (a2 : ∀ e ∈ x2, e < m2) (b2 : ∀ e ∈ y2, e ≤ m2) : x1 = x2 ∧ m1 = m2 ∧ y1 = y2 := by
  rcases List.append_eq_append_iff.1 h with ⟨a, rfl, hr⟩ | ⟨a, rfl, hr⟩
  · cases a with
    | nil => simp at hr; simp [hr]
    | cons z a =>
      simp at hr
      obtain ⟨rfl, rfl⟩ := hr
      have h1 := a2 m1 (by simp)
      have h2 := b1 m2 (by simp)
      omega
  · cases a with
    | nil => simp at hr; simp [hr]
    | cons z a =>
      simp at hr
      obtain ⟨rfl, rfl⟩ := hr
      have h1 := a1 m2 (by simp)
      have h2 := b2 m1 (by simp)
      omega
/-- The deepest place, the first of them: where it has no fellow, there is no tree; where it has, both are as good as one less deep. -/
theorem Tr.step {x y : List Int} {m : Int} (ha : ∀ e ∈ x, e < m) (hb : ∀ e ∈ y, e ≤ m) (hl : 2 ≤ (x ++ m :: y).length) (h : Tr 0 (x ++ m :: y)) : 1 ≤ m ∧ ∃ z, y = m :: z ∧ Tr 0 (x ++ (m - 1) :: z) := by
  rcases h.deep with h1 | ⟨x2, m2, y2, h1, a2, b2, c2, t2⟩
  · have := congrArg List.length h1
    rw [this] at hl
    simp at hl
  · have h3 := split_one h1 ha hb a2 (fun e he => by
      rcases List.mem_cons.1 he with rfl | he
      · exact Int.le_refl _
      · exact b2 e he)
    obtain ⟨rfl, rfl, rfl⟩ := h3
    exact ⟨by omega, y2, rfl, t2⟩
theorem Tr.step_iff {x z : List Int} {m : Int} (ha : ∀ e ∈ x, e < m) (hb : ∀ e ∈ z, e ≤ m) : Tr 0 (x ++ m :: m :: z) ↔ Tr 0 (x ++ (m - 1) :: z) := by
  constructor
  · intro h
    obtain ⟨_, z2, h2, h3⟩ := Tr.step ha (fun e he => by
      rcases List.mem_cons.1 he with rfl | he
      · exact Int.le_refl _
      · exact hb e he) (by simp; omega) h
    simp at h2
    subst h2
    exact h3
  · intro h
    have := h.part x (m - 1) z rfl
    have e : m - 1 + 1 = m := by omega
    rwa [e] at this

/-! A heap of rows, its top first. -/
def i64w (z : Int) : Int := Go.RowKit.wrap64 z
theorem i64w_fit {z : Int} (h1 : -9223372036854775808 ≤ z) (h2 : z ≤ 9223372036854775807) : i64w z = z := by
  unfold i64w Go.RowKit.wrap64
  omega
theorem i64w_bounds (z : Int) : -9223372036854775808 ≤ i64w z ∧ i64w z ≤ 9223372036854775807 := by
  unfold i64w Go.RowKit.wrap64
  omega
theorem i64w_min : i64w (-9223372036854775808 - 1) = 9223372036854775807 := by
  unfold i64w Go.RowKit.wrap64
  omega
def push : List Int → Int → List Int
  | [], d => [d]
  | t :: s, d => if t = d then push s (i64w (d - 1)) else d :: t :: s
theorem push_len : ∀ (s : List Int) (d : Int), 1 ≤ (push s d).length ∧ (push s d).length ≤ s.length + 1
  | [], d => by simp [push]
  | t :: s, d => by
    unfold push
    split
    · have := push_len s (i64w (d - 1)); simp only [List.length_cons]; omega
    · simp
def pushes (s l : List Int) : List Int := l.foldl push s
theorem pushes_append (s l r : List Int) : pushes s (l ++ r) = pushes (pushes s l) r := List.foldl_append ..
theorem pushes_one (s : List Int) (d : Int) : pushes s [d] = push s d := rfl
/-- A tree whose depths wrap. -/
inductive TrW : Int → List Int → Prop
  | one (d : Int) : TrW d [d]
  | two {d : Int} {l r : List Int} : TrW d l → TrW d r → TrW (i64w (d - 1)) (l ++ r)
inductive Stk : List Int → List Int → Prop
  | nil : Stk [] []
  | cons {s l p : List Int} {d : Int} : Stk s l → TrW d p → Stk (d :: s) (l ++ p)
theorem Stk.push {s l : List Int} (h : Stk s l) : ∀ {d : Int} {p : List Int}, TrW d p → Stk (Go.Proofs.Ythfnpgmjbfbocaa.push s d) (l ++ p) := by
  induction h with
  | nil => intro d p hp; exact .cons .nil hp
  | @cons s l q t hs hq ih =>
    intro d p hp
    unfold Go.Proofs.Ythfnpgmjbfbocaa.push
    split
    · rename_i e
      subst e
      rw [List.append_assoc]
      exact ih (.two hq hp)
    · exact .cons (.cons hs hq) hp
theorem Stk.pushes {s l : List Int} (h : Stk s l) : ∀ r, Stk (Go.Proofs.Ythfnpgmjbfbocaa.pushes s r) (l ++ r)
  | [] => by simpa [Go.Proofs.Ythfnpgmjbfbocaa.pushes] using h
  | d :: r => by
    have h1 := h.push (TrW.one d)
    have := h1.pushes r
    simpa [Go.Proofs.Ythfnpgmjbfbocaa.pushes] using this
theorem TrW.pos {d : Int} {l : List Int} (h : TrW d l) : 1 ≤ l.length := by
  induction h with
  | one => simp
  | two _ _ i1 i2 => rw [List.length_append]; omega
def InI (l : List Int) : Prop := ∀ z ∈ l, -9223372036854775808 ≤ z ∧ z ≤ 9223372036854775807
theorem TrW.fit {d : Int} {l : List Int} (h : TrW d l) : InI l → -9223372036854775808 ≤ d ∧ d ≤ 9223372036854775807 := by
  induction h with
  | one d => intro hl; exact hl d (by simp)
  | two => intro _; exact i64w_bounds _
theorem TrW.tr {d : Int} {l : List Int} (h : TrW d l) : InI l → 0 ≤ d → d + l.length ≤ 9223372036854775807 → Tr d l := by
  induction h with
  | one d => intro _ _ _; exact .one d
  | @two d l r h1 h2 i1 i2 =>
    intro hl h0 hm
    have hl1 : InI l := fun z hz => hl z (by simp [hz])
    have hl2 : InI r := fun z hz => hl z (by simp [hz])
    have hf := h1.fit hl1
    have p1 := h1.pos
    have p2 := h2.pos
    rw [List.length_append] at hm
    by_cases hd : d = -9223372036854775808
    · subst hd
      rw [i64w_min] at hm
      omega
    · rw [i64w_fit (by omega) (by omega)] at h0 hm ⊢
      have e : d = d - 1 + 1 := by omega
      have t1 : Tr (d - 1 + 1) l := by rw [← e]; exact i1 hl1 (by omega) (by omega)
      have t2 : Tr (d - 1 + 1) r := by rw [← e]; exact i2 hl2 (by omega) (by omega)
      exact .two t1 t2
theorem Tr.pushes {d : Int} {l : List Int} (h : Tr d l) : ∀ s, (∀ t ∈ s.head?, t ≤ d) → 0 ≤ d → d + l.length ≤ 9223372036854775807 → Go.Proofs.Ythfnpgmjbfbocaa.pushes s l = push s d := by
  induction h with
  | one d => intro s _ _ _; rfl
  | @two d l r h1 h2 i1 i2 =>
    intro s hs h0 hm
    have p1 := h1.pos
    have p2 := h2.pos
    rw [List.length_append] at hm
    rw [pushes_append, i1 s (fun t ht => by have := hs t ht; omega) (by omega) (by omega)]
    have e : push s (d + 1) = (d + 1) :: s := by
      cases s with
      | nil => rfl
      | cons t s =>
        have := hs t (by simp)
        unfold push
        rw [if_neg (by omega)]
    rw [e, i2 _ (fun t ht => by simp at ht; omega) (by omega) (by omega)]
    show (if d + 1 = d + 1 then push s (i64w (d + 1 - 1)) else _) = _
    rw [if_pos rfl, i64w_fit (by omega) (by omega)]
    congr 1
    omega
theorem pushes_iff {l : List Int} (hl : InI l) (hn : l.length ≤ 1000000) : Go.Proofs.Ythfnpgmjbfbocaa.pushes [] l = [0] ↔ Tr 0 l := by
  constructor
  · intro h
    have h1 := (Stk.nil).pushes l
    rw [h] at h1
    generalize hq : [] ++ l = q at h1
    simp at hq
    subst hq
    generalize hz : ([0] : List Int) = z at h1
    cases h1 with
    | nil => simp at hz
    | @cons s a p d hs hp =>
      injection hz with e1 e2
      subst e1
      subst e2
      cases hs
      simp at hl hn ⊢
      exact hp.tr hl (by omega) (by omega)
  · intro h
    rw [h.pushes [] (by simp) (by omega) (by omega)]
    rfl

/-- Whether lengths are those of a tree. -/
def Fit (l : List Int) : Prop := (l.length = 1 ∧ l = [1]) ∨ (2 ≤ l.length ∧ l.length ≤ 257 ∧ Tr 0 l)
noncomputable def fitB (l : List Int) : Bool := @decide (Fit l) (Classical.propDecidable _)
theorem fitB_true {l : List Int} : fitB l = true ↔ Fit l := by unfold fitB; exact @decide_eq_true_iff _ (Classical.propDecidable _)
theorem fitB_of {l : List Int} {b : Bool} (h : b = true ↔ Fit l) : b = fitB l := by
  have := fitB_true (l := l)
  cases b <;> cases hf : fitB l <;> simp_all
theorem Fit.few {l : List Int} (h : Fit l) : 1 ≤ l.length ∧ l.length ≤ 257 := by
  rcases h with h | h <;> omega
theorem Fit.small {l : List Int} (h : Fit l) : ∀ e ∈ l, 0 ≤ e ∧ e ≤ 256 := by
  rcases h with ⟨_, rfl⟩ | ⟨_, h2, h3⟩
  · intro e he; simp at he; omega
  · intro e he
    have := h3.ge e he
    omega

/-! What lengths fill. -/
def fil (M : Nat) : List Int → Nat
  | [] => 0
  | e :: l => 2 ^ (M - e.toNat) + fil M l
theorem fil_append (M : Nat) : ∀ l r, fil M (l ++ r) = fil M l + fil M r
  | [], r => by simp [fil]
  | e :: l, r => by simp only [List.cons_append, fil, fil_append M l r]; omega
theorem Tr.fil {d : Int} {l : List Int} (h : Tr d l) : ∀ M : Nat, 0 ≤ d → d + l.length ≤ M + 1 → Go.Proofs.Ythfnpgmjbfbocaa.fil M l = 2 ^ (M - d.toNat) := by
  induction h with
  | one d => intro M _ _; simp [Go.Proofs.Ythfnpgmjbfbocaa.fil]
  | @two d l r h1 h2 i1 i2 =>
    intro M h0 hm
    have p1 := h1.pos
    have p2 := h2.pos
    rw [List.length_append] at hm
    rw [fil_append, i1 M (by omega) (by omega), i2 M (by omega) (by omega)]
    have e : M - d.toNat = (M - (d + 1).toNat) + 1 := by omega
    rw [e, Nat.pow_succ]
    omega
end Go.Proofs.Ythfnpgmjbfbocaa
