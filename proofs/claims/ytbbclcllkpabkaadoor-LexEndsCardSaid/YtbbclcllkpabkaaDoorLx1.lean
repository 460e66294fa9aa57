/- Words of lines: plain mathematics of lists of numbers. -/
import Derived.Test.YtbbclcllkpabkaaDoorUt7
namespace Go.Proofs.YtbbclcllkpabkaaDoor.X
open U

/-! Texts all of which are signs. -/
def Val (l : List Nat) : Prop := ∃ ns, (∀ n ∈ ns, sgn n) ∧ l = encL ns
theorem Val.nil : Val [] := ⟨[], by simp, rfl⟩
theorem Val.app {a b : List Nat} (h : Val a) (k : Val b) : Val (a ++ b) := by
  obtain ⟨x, hx, rfl⟩ := h
  obtain ⟨y, hy, rfl⟩ := k
  refine ⟨x ++ y, fun n hn => ?_, by rw [encL_app]⟩
  rcases List.mem_append.1 hn with h | h
  · exact hx n h
  · exact hy n h
theorem Val.bys {l : List Nat} (h : Val l) : Bys l := by
  obtain ⟨x, hx, rfl⟩ := h
  exact encL_bys hx
theorem Val.one {n : Nat} (h : sgn n) : Val (encN n) := ⟨[n], by simpa using h, by simp [encL]⟩
theorem Val.asc : ∀ {l : List Nat}, (∀ x ∈ l, x < 128) → Val l
  | [], _ => .nil
  | x :: l, h => by
    have hx : x < 128 := h x (by simp)
    have e : encN x = [x] := by unfold encN; rw [if_pos (by omega)]
    have := (Val.one (n := x) (by unfold sgn; omega)).app (Val.asc (l := l) fun y hy => h y (by simp [hy]))
    rwa [e] at this
theorem Val.sgs {l : List Nat} (h : Val l) : (sgsL l).2 = l.length := by
  obtain ⟨x, hx, rfl⟩ := h
  have := sgsL_enc x [] hx
  rw [List.append_nil] at this
  rw [this]
  have e : (sgsL ([] : List Nat)).2 = 0 := by rw [sgsL_end (by rw [nxt_nil])]
  simp [e]
theorem val_of {l : List Nat} (hb : Bys l) (h : (sgsL l).2 = l.length) : Val l := by
  obtain ⟨h1, h2, h3, _⟩ := sgsL_of _ l (Nat.le_refl _) hb
  refine ⟨_, h1, ?_⟩
  rw [h, List.drop_length, List.append_nil] at h3
  exact h3
theorem sgs_app {a : List Nat} (h : Val a) (b : List Nat) : (sgsL (a ++ b)).2 = a.length + (sgsL b).2 := by
  obtain ⟨x, hx, rfl⟩ := h
  rw [sgsL_enc x b hx]
theorem Val.right {a b : List Nat} (h : Val a) (k : Val (a ++ b)) : Val b := by
  have h1 := k.sgs
  rw [sgs_app h, List.length_append] at h1
  exact val_of (fun x hx => k.bys x (by simp [hx])) (by omega)
theorem Val.nxt {l : List Nat} (h : Val l) (h0 : l ≠ []) : (nxt l).2 ≠ 0 := by
  obtain ⟨x, hx, rfl⟩ := h
  cases x with
  | nil => exact absurd rfl h0
  | cons n x =>
    have e : encL (n :: x) = encN n ++ encL x := by simp [encL]
    rw [e, nxt_enc (hx n (by simp))]
    have := encN_len n
    show (encN n).length ≠ 0
    omega
/-- Of a text: its first sign, and what stands behind it. -/
theorem nxt_cut {l : List Nat} (hb : Bys l) (h : (nxt l).2 ≠ 0) : sgn (nxt l).1 ∧ (nxt l).2 = (encN (nxt l).1).length ∧ l = encN (nxt l).1 ++ l.drop (nxt l).2 ∧ (nxt l).2 ≤ l.length := by
  obtain ⟨h1, h2, h3⟩ := nxt_of hb h
  exact ⟨h1, h2, h3, nxt_le hb⟩
theorem Val.drop {l : List Nat} (h : Val l) (h0 : (U.nxt l).2 ≠ 0) : Val (l.drop (U.nxt l).2) := by
  obtain ⟨h1, h2, h3, h4⟩ := nxt_cut h.bys h0
  refine (Val.one h1).right (b := l.drop (U.nxt l).2) ?_
  rw [← h3]; exact h
theorem asc_left {x : Nat} {l : List Nat} (hx : x < 128) (h : Val (x :: l)) : Val l :=
  (Val.asc (l := [x]) (by simpa using hx)).right (b := l) h

/-! Escapes. -/
def hxV (c : Nat) : Nat := if 48 ≤ c ∧ c ≤ 57 then c - 48 else if 65 ≤ c ∧ c ≤ 70 then c - 55 else if 97 ≤ c ∧ c ≤ 102 then c - 87 else 16
def hxP : List Nat → Nat → Option Nat
  | [], n => some n
  | c :: r, n => if hxV c < 16 then hxP r (n * 16 + hxV c) else none
def hxN (m : Nat) (r : List Nat) : Option Nat := if r.length < m then none else hxP (r.take m) 0
def lzC (c : Nat) : Option Nat := if c = 116 then some 9 else if c = 98 then some 8 else if c = 110 then some 10 else if c = 114 then some 13 else if c = 102 then some 12 else if c = 34 ∨ c = 39 ∨ c = 92 then some c else none
def oth (lit : Bool) (c : Nat) : Option Nat := if lit then lzC c else none
/-- The number of an escape whose \ is read, and how many bytes it has. -/
def esc (lit : Bool) : List Nat → Option (Nat × Nat)
  | [] => none
  | c :: r => if c = 117 then (hxN 4 r).map fun n => (n, 5) else if c = 85 then (hxN 8 r).map fun n => (n, 9) else (oth lit c).map fun n => (n, 1)
theorem esc_cons (lit : Bool) (c : Nat) (r : List Nat) : esc lit (c :: r) = if c = 117 then (hxN 4 r).map fun n => (n, 5) else if c = 85 then (hxN 8 r).map fun n => (n, 9) else (oth lit c).map fun n => (n, 1) := rfl
theorem hxV_lt {c : Nat} (h : hxV c < 16) : c < 128 := by
  unfold hxV at h
  split at h
  · omega
  · split at h
    · omega
    · split at h
      · omega
      · omega
theorem hxP_asc : ∀ (l : List Nat) (m n : Nat), hxP l m = some n → ∀ x ∈ l, x < 128
  | [], _, _, _ => by simp
  | c :: r, m, n, h => by
    unfold hxP at h
    split at h
    · intro x hx
      rcases List.mem_cons.1 hx with rfl | hx
      · exact hxV_lt ‹_›
      · exact hxP_asc r _ n h x hx
    · cases h
theorem hxP_lt : ∀ (l : List Nat) (n m : Nat), hxP l n = some m → m < (n + 1) * 16 ^ l.length
  | [], n, m, h => by simp only [hxP, Option.some.injEq] at h; subst h; simp
  | c :: r, n, m, h => by
    unfold hxP at h
    split at h
    · have := hxP_lt r _ m h
      rw [List.length_cons, Nat.pow_succ]
      have h2 : (n * 16 + hxV c + 1) * 16 ^ r.length ≤ (n + 1) * 16 * 16 ^ r.length := Nat.mul_le_mul_right _ (by omega)
      rw [Nat.mul_assoc (n + 1)] at h2
      rw [Nat.mul_comm (16 ^ r.length) 16]
      omega
    · cases h
theorem hxN_cut {m n : Nat} {r : List Nat} (h : hxN m r = some n) : m ≤ r.length ∧ (∀ x ∈ r.take m, x < 128) ∧ (∀ y, hxN m (r.take m ++ y) = some n) ∧ n < 16 ^ m := by
  unfold hxN at h
  split at h
  · cases h
  · have hl : (r.take m).length = m := by rw [List.length_take]; omega
    refine ⟨by omega, hxP_asc _ _ _ h, fun y => ?_, ?_⟩
    · unfold hxN
      rw [if_neg (by rw [List.length_append, hl]; omega), List.take_append_of_le_length (by omega), List.take_of_length_le (by omega)]
      exact h
    · have := hxP_lt _ _ _ h
      rw [hl] at this
      omega
theorem lzC_lt {c n : Nat} (h : lzC c = some n) : c < 128 ∧ n < 128 := by
  unfold lzC at h
  (repeat' split at h) <;> first | cases h; done | (injection h with h; omega)
theorem oth_lt {lit : Bool} {c n : Nat} (h : oth lit c = some n) : c < 128 ∧ n < 128 := by
  unfold oth at h
  split at h
  · exact lzC_lt h
  · cases h
theorem esc_cut {lit : Bool} {r : List Nat} {n k : Nat} (h : esc lit r = some (n, k)) : 1 ≤ k ∧ k ≤ r.length ∧ (∀ x ∈ r.take k, x < 128) ∧ (∀ y, esc lit (r.take k ++ y) = some (n, k)) ∧ n < 4294967296 := by
  cases r with
  | nil => cases h
  | cons c r =>
    rw [esc_cons] at h
    have num : ∀ m, (hxN m r).map (fun n => (n, m + 1)) = some (n, k) → m ≤ 8 → c < 128 → (∀ y, esc lit (c :: (r.take m ++ y)) = (hxN m (r.take m ++ y)).map fun n => (n, m + 1)) → 1 ≤ k ∧ k ≤ (c :: r).length ∧ (∀ x ∈ (c :: r).take k, x < 128) ∧ (∀ y, esc lit ((c :: r).take k ++ y) = some (n, k)) ∧ n < 4294967296 := by
      intro m hm h8 hc he
      cases hx : hxN m r with
      | none => rw [hx] at hm; cases hm
      | some n' =>
        rw [hx] at hm
        simp only [Option.map_some, Option.some.injEq, Prod.mk.injEq] at hm
        obtain ⟨rfl, rfl⟩ := hm
        obtain ⟨h1, h2, h3, h4⟩ := hxN_cut hx
        refine ⟨by omega, by simp; omega, ?_, fun y => ?_, ?_⟩
        · intro x hx
          rw [List.take_succ_cons] at hx
          rcases List.mem_cons.1 hx with rfl | hx
          · exact hc
          · exact h2 x hx
        · rw [List.take_succ_cons, List.cons_append, he y, h3 y]; rfl
        · exact Nat.lt_of_lt_of_le h4 (Nat.le_trans (Nat.pow_le_pow_right (by omega) h8) (by decide))
    split at h
    · rename_i hc
      exact num 4 h (by omega) (by omega) fun y => by rw [esc_cons]; rw [if_pos hc]
    · split at h
      · rename_i hc0 hc
        exact num 8 h (by omega) (by omega) fun y => by rw [esc_cons]; rw [if_neg hc0, if_pos hc]
      · rename_i hc0 hc1
        cases hx : oth lit c with
        | none => rw [hx] at h; cases h
        | some n' =>
          rw [hx] at h
          simp only [Option.map_some, Option.some.injEq, Prod.mk.injEq] at h
          obtain ⟨rfl, rfl⟩ := h
          have := oth_lt hx
          refine ⟨by omega, by simp, ?_, fun y => ?_, by omega⟩
          · intro x hx
            simp only [List.take_succ_cons, List.take_zero, List.mem_singleton] at hx
            omega
          · simp only [List.take_succ_cons, List.take_zero, List.singleton_append]
            rw [esc_cons]
            rw [if_neg hc0, if_neg hc1, hx]; rfl

/-! What stands in an IRI, a literal. -/
def endC (lit : Bool) : Nat := if lit then 34 else 62
def rawB (lit : Bool) (n : Nat) : Bool := if lit then decide (n ≠ 10) && decide (n ≠ 13) else rawZ (n : Int)
def untF (lit : Bool) : Nat → List Nat → Option (List Nat × Nat)
  | 0, _ => none
  | f + 1, l =>
    if (nxt l).2 = 0 then none
    else if (nxt l).1 = endC lit then some ([], 1)
    else if (nxt l).1 = 92 then
      match esc lit (l.drop 1) with
      | none => none
      | some q => (untF lit f (l.drop (1 + q.2))).map fun r => (q.1 :: r.1, 1 + q.2 + r.2)
    else if rawB lit (nxt l).1 then (untF lit f (l.drop (nxt l).2)).map fun r => ((nxt l).1 :: r.1, (nxt l).2 + r.2)
    else none
theorem untF_any (lit : Bool) : ∀ (f g : Nat) (l : List Nat), l.length ≤ f → l.length ≤ g → untF lit f l = untF lit g l
  | 0, 0, _, _, _ => rfl
  | 0, g + 1, l, hf, _ => by
    have : l = [] := List.length_eq_zero_iff.1 (by omega)
    subst this
    unfold untF
    rw [if_pos (by rw [nxt_nil])]
  | f + 1, 0, l, _, hg => by
    have : l = [] := List.length_eq_zero_iff.1 (by omega)
    subst this
    unfold untF
    rw [if_pos (by rw [nxt_nil])]
  | f + 1, g + 1, l, hf, hg => by
    unfold untF
    by_cases h : (nxt l).2 = 0
    · rw [if_pos h, if_pos h]
    · rw [if_neg h, if_neg h]
      by_cases h1 : (nxt l).1 = endC lit
      · rw [if_pos h1, if_pos h1]
      · rw [if_neg h1, if_neg h1]
        by_cases h2 : (nxt l).1 = 92
        · rw [if_pos h2, if_pos h2]
          cases he : esc lit (l.drop 1) with
          | none => rfl
          | some q =>
            show Option.map _ _ = Option.map _ _
            have hl : 0 < l.length := by
              cases l with
              | nil => exact absurd (by rw [nxt_nil]) h
              | cons => simp
            rw [untF_any lit f g _ (by rw [List.length_drop]; omega) (by rw [List.length_drop]; omega)]
        · rw [if_neg h2, if_neg h2]
          rw [untF_any lit f g _ (by rw [List.length_drop]; omega) (by rw [List.length_drop]; omega)]
def unt (lit : Bool) (l : List Nat) : Option (List Nat × Nat) := untF lit l.length l
theorem unt_nil {lit : Bool} {l : List Nat} (h : (nxt l).2 = 0) : unt lit l = none := by
  unfold unt
  cases l.length with
  | zero => rfl
  | succ => unfold untF; rw [if_pos h]
theorem unt_step (lit : Bool) {l : List Nat} (h : (nxt l).2 ≠ 0) : unt lit l =
    if (nxt l).1 = endC lit then some ([], 1)
    else if (nxt l).1 = 92 then
      match esc lit (l.drop 1) with
      | none => none
      | some q => (unt lit (l.drop (1 + q.2))).map fun r => (q.1 :: r.1, 1 + q.2 + r.2)
    else if rawB lit (nxt l).1 then (unt lit (l.drop (nxt l).2)).map fun r => ((nxt l).1 :: r.1, (nxt l).2 + r.2)
    else none := by
  cases l with
  | nil => exact absurd (by rw [nxt_nil]) h
  | cons c t =>
    show untF lit (t.length + 1) _ = _
    unfold untF
    rw [if_neg h]
    by_cases h1 : (nxt (c :: t)).1 = endC lit
    · rw [if_pos h1, if_pos h1]
    · rw [if_neg h1, if_neg h1]
      by_cases h2 : (nxt (c :: t)).1 = 92
      · rw [if_pos h2, if_pos h2]
        cases he : esc lit ((c :: t).drop 1) with
        | none => rfl
        | some q =>
          show Option.map _ _ = Option.map _ _
          unfold unt
          rw [untF_any lit t.length _ _ (by rw [List.length_drop, List.length_cons]; omega) (Nat.le_refl _)]
      · rw [if_neg h2, if_neg h2]
        unfold unt
        rw [untF_any lit t.length _ _ (by rw [List.length_drop, List.length_cons]; omega) (Nat.le_refl _)]
theorem endC_lt (lit : Bool) : endC lit < 128 := by cases lit <;> decide
theorem encN_asc {n : Nat} (h : n < 128) : encN n = [n] := by unfold encN; rw [if_pos (by omega)]
theorem unt_enc (lit : Bool) {n : Nat} (hn : sgn n) (t : List Nat) : unt lit (encN n ++ t) =
    if n = endC lit then some ([], 1)
    else if n = 92 then
      match esc lit t with
      | none => none
      | some q => (unt lit (t.drop q.2)).map fun r => (q.1 :: r.1, 1 + q.2 + r.2)
    else if rawB lit n then (unt lit t).map fun r => (n :: r.1, (encN n).length + r.2)
    else none := by
  have h0 : (nxt (encN n ++ t)).2 ≠ 0 := by
    rw [nxt_enc hn]
    have := encN_len n
    show (encN n).length ≠ 0
    omega
  rw [unt_step lit h0, nxt_enc hn]
  simp only [List.drop_left]
  by_cases h1 : n = endC lit
  · rw [if_pos h1, if_pos h1]
  · rw [if_neg h1, if_neg h1]
    by_cases h2 : n = 92
    · rw [if_pos h2, if_pos h2]
      subst h2
      rw [encN_asc (by decide)]
      show (match esc lit t with | none => none | some q => _) = _
      cases esc lit t with
      | none => rfl
      | some q =>
        show Option.map _ _ = Option.map _ _
        rw [Nat.add_comm 1 q.2]
        rfl
    · rw [if_neg h2, if_neg h2]
theorem front {l : List Nat} (hb : Bys l) (h : (nxt l).2 ≠ 0) : ∃ n t, sgn n ∧ l = encN n ++ t ∧ Bys t := by
  obtain ⟨h1, _, h3, _⟩ := nxt_cut hb h
  exact ⟨_, _, h1, h3, bys_drop hb _⟩
/-- What was read is read again, whatever stands behind it. -/
theorem unt_cut {lit : Bool} : ∀ (f : Nat) (l : List Nat) (ns : List Nat) (m : Nat), l.length ≤ f → Bys l → unt lit l = some (ns, m) →
    1 ≤ m ∧ m ≤ l.length ∧ Val (l.take m) ∧ (∀ y, unt lit (l.take m ++ y) = some (ns, m)) ∧ ns.length < m ∧ ∀ n ∈ ns, n < 4294967296
  | f, l, ns, m, hf, hb, h => by
    by_cases h0 : (nxt l).2 = 0
    · rw [unt_nil h0] at h; cases h
    · obtain ⟨n, t, hn, rfl, ht⟩ := front hb h0
      have hl := encN_len n
      rw [List.length_append] at hf
      match f with
      | 0 => omega
      | f + 1 =>
        rw [unt_enc lit hn] at h
        by_cases h1 : n = endC lit
        · rw [if_pos h1] at h
          simp only [Option.some.injEq, Prod.mk.injEq] at h
          obtain ⟨rfl, rfl⟩ := h
          have hlt : n < 128 := by rw [h1]; exact endC_lt lit
          have e := encN_asc hlt
          refine ⟨by omega, by rw [List.length_append]; omega, ?_, fun y => ?_, by simp, by simp⟩
          · rw [e]
            exact Val.asc (by simpa using hlt)
          · have e2 : (encN n ++ t).take 1 = encN n := by rw [e]; rfl
            rw [e2, unt_enc lit hn, if_pos h1]
        · rw [if_neg h1] at h
          by_cases h2 : n = 92
          · rw [if_pos h2] at h
            cases he : esc lit t with
            | none => rw [he] at h; cases h
            | some q =>
              obtain ⟨c, k⟩ := q
              rw [he] at h
              simp only at h
              cases hu : unt lit (t.drop k) with
              | none => rw [hu] at h; cases h
              | some r =>
                obtain ⟨rs, rm⟩ := r
                rw [hu] at h
                simp only [Option.map_some, Option.some.injEq, Prod.mk.injEq] at h
                obtain ⟨rfl, rfl⟩ := h
                obtain ⟨c1, c2, c3, c4, c5⟩ := esc_cut he
                obtain ⟨i1, i2, i3, i4, i5, i6⟩ := unt_cut f (t.drop k) rs rm (by rw [List.length_drop]; omega) (bys_drop ht _) hu
                rw [List.length_drop] at i2
                have e := encN_asc (show n < 128 by omega)
                have e2 : (encN n ++ t).take (1 + k + rm) = encN n ++ (t.take k ++ (t.drop k).take rm) := by
                  rw [e, ← List.take_add, Nat.add_assoc, Nat.add_comm 1]
                  rfl
                refine ⟨by omega, by rw [List.length_append]; omega, ?_, fun y => ?_, by simp; omega, ?_⟩
                · rw [e2]
                  exact (Val.one hn).app ((Val.asc c3).app i3)
                · rw [e2, List.append_assoc, List.append_assoc, unt_enc lit hn, if_neg h1, if_pos h2, c4]
                  have hk : (t.take k).length = k := by rw [List.length_take]; omega
                  have : (t.take k ++ ((t.drop k).take rm ++ y)).drop k = (t.drop k).take rm ++ y := by
                    conv => lhs; rw [← hk]
                    rw [hk, List.drop_append, hk, List.drop_eq_nil_of_le (by omega)]
                    simp
                  simp only [this, i4 y]
                  rfl
                · intro x hx
                  rcases List.mem_cons.1 hx with rfl | hx
                  · exact c5
                  · exact i6 x hx
          · rw [if_neg h2] at h
            by_cases h3 : rawB lit n = true
            · rw [if_pos h3] at h
              cases hu : unt lit t with
              | none => rw [hu] at h; cases h
              | some r =>
                obtain ⟨rs, rm⟩ := r
                rw [hu] at h
                simp only [Option.map_some, Option.some.injEq, Prod.mk.injEq] at h
                obtain ⟨rfl, rfl⟩ := h
                obtain ⟨i1, i2, i3, i4, i5, i6⟩ := unt_cut f t rs rm (by omega) ht hu
                have e2 : (encN n ++ t).take ((encN n).length + rm) = encN n ++ t.take rm := by
                  rw [List.take_append, List.take_of_length_le (by omega)]
                  congr 2
                  omega
                refine ⟨by omega, by rw [List.length_append]; omega, ?_, fun y => ?_, by simp; omega, ?_⟩
                · rw [e2]
                  exact (Val.one hn).app i3
                · rw [e2, List.append_assoc, unt_enc lit hn, if_neg h1, if_neg h2, if_pos h3, i4]
                  rfl
                · intro x hx
                  rcases List.mem_cons.1 hx with rfl | hx
                  · unfold sgn at hn; omega
                  · exact i6 x hx
            · rw [if_neg h3] at h; cases h

/-! Labels and tags. -/
def Good (y : List Nat) : Prop := y = [] ∨ ∃ c t, y = c :: t ∧ (c = 32 ∨ c = 9 ∨ c = 35)
theorem Good.shut {y : List Nat} (h : Good y) : U.Shut y := by
  rcases h with rfl | ⟨c, t, rfl, h⟩
  · exact shut_nil
  · intro a b
    refine labW_stop (.inr ?_)
    rw [nxt_asc (by omega)]
    rcases h with rfl | rfl | rfl
    · exact ⟨by decide, by decide⟩
    · exact ⟨by decide, by decide⟩
    · exact ⟨by decide, by decide⟩
theorem okc_no (ph : Nat) {c : Nat} (h : c = 32 ∨ c = 9 ∨ c = 35) : okc ph c = false := by
  unfold okc
  rcases h with rfl | rfl | rfl
  all_goals (repeat' split) <;> decide
theorem Good.shutT {y : List Nat} (h : Good y) : ShutT y := by
  rcases h with rfl | ⟨c, t, rfl, h⟩
  · exact shutT_nil
  · intro ph a b
    unfold tagM
    rw [okc_no ph h, if_neg (by simp), if_neg (by omega)]
theorem labW_app {y : List Nat} (hy : U.Shut y) : ∀ (n : Nat) (l : List Nat) (a b : Nat), Val l → l.length ≤ n → labW (l ++ y) a b = labW l a b
  | n, l, a, b, hv, hn => by
    by_cases h0 : l = []
    · subst h0
      rw [List.nil_append, hy, shut_nil]
    · have h := hv.nxt h0
      have hb := hv.bys
      match n with
      | 0 => exact absurd (List.length_eq_zero_iff.1 (by omega)) h0
      | n + 1 =>
        have hl : (l.drop (nxt l).2).length ≤ n := by rw [List.length_drop]; omega
        obtain ⟨e1, e2⟩ := nxt_app hb h y
        cases hc : letZ ((nxt l).1 : Int) with
        | true =>
          rw [labW_let h hc, labW_let (l := l ++ y) (by rw [e1]; exact h) (by rw [e1]; exact hc), e1, e2]
          exact labW_app hy n _ _ _ (hv.drop h) hl
        | false =>
          by_cases h46 : (nxt l).1 = 46
          · rw [labW_pt h h46, labW_pt (l := l ++ y) (by rw [e1]; exact h) (by rw [e1]; exact h46), e1, e2]
            exact labW_app hy n _ _ _ (hv.drop h) hl
          · rw [labW_stop (l := l) (.inr ⟨hc, h46⟩), labW_stop (l := l ++ y) (.inr (by rw [e1]; exact ⟨hc, h46⟩))]
theorem lab_app {l y : List Nat} (hy : U.Shut y) (hv : Val l) (h0 : lab l ≠ 0) : lab (l ++ y) = lab l := by
  have hq : (nxt l).2 ≠ 0 ∧ opnZ ((nxt l).1 : Int) = true := by
    unfold lab at h0
    by_cases h : (nxt l).2 ≠ 0 ∧ opnZ ((nxt l).1 : Int) = true
    · exact h
    · rw [if_neg h] at h0; exact absurd rfl h0
  obtain ⟨e1, e2⟩ := nxt_app hv.bys hq.1 y
  unfold lab
  rw [e1, e2, if_pos hq, if_pos hq]
  exact labW_app hy _ _ _ _ (hv.drop hq.1) (Nat.le_refl _)
theorem labW_val : ∀ (n : Nat) (l : List Nat) (a b : Nat), Bys l → l.length ≤ n → labW l a b = b ∨ ∃ k, labW l a b = a + k ∧ k ≤ l.length ∧ Val (l.take k)
  | n, l, a, b, hb, hn => by
    by_cases h : (nxt l).2 = 0
    · exact .inl (labW_stop (.inl h))
    · obtain ⟨c, t, hc, rfl, ht⟩ := front hb h
      have hl := encN_len c
      rw [List.length_append] at hn
      have up : ∀ k, k ≤ t.length → Val (t.take k) → (encN c).length + k ≤ (encN c ++ t).length ∧ Val ((encN c ++ t).take ((encN c).length + k)) := fun k hk hv => by
        rw [List.length_append, List.take_append, List.take_of_length_le (by omega), show (encN c).length + k - (encN c).length = k by omega]
        exact ⟨by omega, (Val.one hc).app hv⟩
      match n with
      | 0 => omega
      | n + 1 =>
        cases hz : letZ (c : Int) with
        | true =>
          rw [labW_let h (by rw [nxt_enc hc]; exact hz), nxt_enc hc]
          simp only [List.drop_left]
          right
          rcases labW_val n t (a + (encN c).length) (a + (encN c).length) ht (by omega) with e | ⟨k, e, hk, hv⟩
          · rw [e]
            exact ⟨(encN c).length, rfl, by rw [List.length_append]; omega, by simpa using (up 0 (by omega) (by simpa using Val.nil)).2⟩
          · rw [e]
            exact ⟨(encN c).length + k, by omega, up k hk hv⟩
        | false =>
          by_cases h46 : c = 46
          · rw [labW_pt h (by rw [nxt_enc hc]; exact h46), nxt_enc hc]
            simp only [List.drop_left]
            rcases labW_val n t (a + (encN c).length) b ht (by omega) with e | ⟨k, e, hk, hv⟩
            · exact .inl e
            · right
              rw [e]
              exact ⟨(encN c).length + k, by omega, up k hk hv⟩
          · exact .inl (labW_stop (.inr (by rw [nxt_enc hc]; exact ⟨hz, h46⟩)))
theorem lab_val {l : List Nat} (hb : Bys l) : Val (l.take (lab l)) := by
  unfold lab
  by_cases h : (nxt l).2 ≠ 0 ∧ opnZ ((nxt l).1 : Int) = true
  · rw [if_pos h]
    obtain ⟨c, t, hc, rfl, ht⟩ := front hb h.1
    rw [nxt_enc hc]
    simp only [List.drop_left]
    have up : ∀ k, Val (t.take k) → Val ((encN c ++ t).take ((encN c).length + k)) := fun k hv => by
      rw [List.take_append, List.take_of_length_le (by omega), show (encN c).length + k - (encN c).length = k by omega]
      exact (Val.one hc).app hv
    rcases labW_val _ t (encN c).length (encN c).length ht (Nat.le_refl _) with e | ⟨k, e, hk, hv⟩
    · rw [e]; simpa using up 0 (by simpa using Val.nil)
    · rw [e]; exact up k hv
  · rw [if_neg h]; simpa using Val.nil
theorem tagM_app {y : List Nat} (hy : ShutT y) : ∀ (l : List Nat) (ph a b : Nat), tagM ph (l ++ y) a b = tagM ph l a b
  | [], ph, a, b => by rw [List.nil_append, hy, shutT_nil]
  | c :: t, ph, a, b => by
    rw [List.cons_append]
    unfold tagM
    split
    · exact tagM_app hy t _ _ _
    · split
      · exact tagM_app hy t _ _ _
      · rfl
theorem tag_app {y : List Nat} (hy : ShutT y) (l : List Nat) : tag (l ++ y) = tag l := tagM_app hy l 0 0 0
theorem tagM_asc : ∀ (l : List Nat) (ph a b : Nat), tagM ph l a b = b ∨ ∃ k, tagM ph l a b = a + k ∧ ∀ x ∈ l.take k, x < 128
  | [], ph, a, b => .inl rfl
  | c :: t, ph, a, b => by
    unfold tagM
    split
    · rename_i h
      have hc := (okc_let h).1
      right
      rcases tagM_asc t (nph ph) (a + 1) (a + 1) with e | ⟨k, e, hk⟩
      · exact ⟨1, e, by simpa using hc⟩
      · refine ⟨k + 1, by rw [e]; omega, ?_⟩
        intro x hx
        rw [List.take_succ_cons] at hx
        rcases List.mem_cons.1 hx with rfl | hx
        · exact hc
        · exact hk x hx
    · split
      · rename_i h
        rcases tagM_asc t 2 (a + 1) b with e | ⟨k, e, hk⟩
        · exact .inl e
        · right
          refine ⟨k + 1, by rw [e]; omega, ?_⟩
          intro x hx
          rw [List.take_succ_cons] at hx
          rcases List.mem_cons.1 hx with rfl | hx
          · omega
          · exact hk x hx
      · exact .inl rfl
theorem tag_asc (l : List Nat) : ∀ x ∈ l.take (tag l), x < 128 := by
  unfold tag
  rcases tagM_asc l 0 0 0 with e | ⟨k, e, hk⟩
  · rw [e]; simp
  · rw [e, Nat.zero_add]; exact hk
end Go.Proofs.YtbbclcllkpabkaaDoor.X
