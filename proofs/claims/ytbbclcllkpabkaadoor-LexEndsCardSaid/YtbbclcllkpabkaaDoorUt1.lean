/- Signs and their bytes: plain mathematics of lists of numbers. No program. -/
namespace Go.Proofs.YtbbclcllkpabkaaDoor.U
def sgn (n : Nat) : Prop := n < 55296 ∨ (57343 < n ∧ n ≤ 1114111)
instance (n : Nat) : Decidable (sgn n) := by unfold sgn; infer_instance
/-- A sign's bytes. -/
def encN (n : Nat) : List Nat :=
  if n ≤ 127 then [n] else if n ≤ 2047 then [192 + n / 64, 128 + n % 64]
  else if n ≤ 65535 then [224 + n / 4096, 128 + n / 64 % 64, 128 + n % 64]
  else [240 + n / 262144, 128 + n / 4096 % 64, 128 + n / 64 % 64, 128 + n % 64]
/-- The sign with whose bytes a row begins, and how many these are; nought of none. -/
def nxtB (n b0 b1 b2 b3 : Nat) : Nat × Nat :=
  if b0 < 128 then (if 0 < n then (b0, 1) else (0, 0))
  else if b0 / 32 = 6 ∧ (1 < n ∧ b1 / 64 = 2) then
    (if 128 ≤ b0 % 32 * 64 + b1 % 64 then (b0 % 32 * 64 + b1 % 64, 2) else (0, 0))
  else if b0 / 16 = 14 ∧ (1 < n ∧ b1 / 64 = 2) ∧ (2 < n ∧ b2 / 64 = 2) then
    (if 2048 ≤ b0 % 16 * 4096 + b1 % 64 * 64 + b2 % 64 ∧ sgn (b0 % 16 * 4096 + b1 % 64 * 64 + b2 % 64)
     then (b0 % 16 * 4096 + b1 % 64 * 64 + b2 % 64, 3) else (0, 0))
  else if b0 / 8 = 30 ∧ (1 < n ∧ b1 / 64 = 2) ∧ (2 < n ∧ b2 / 64 = 2) ∧ (3 < n ∧ b3 / 64 = 2) then
    (if 65536 ≤ b0 % 8 * 262144 + b1 % 64 * 4096 + b2 % 64 * 64 + b3 % 64 ∧ sgn (b0 % 8 * 262144 + b1 % 64 * 4096 + b2 % 64 * 64 + b3 % 64)
     then (b0 % 8 * 262144 + b1 % 64 * 4096 + b2 % 64 * 64 + b3 % 64, 4) else (0, 0))
  else (0, 0)
def nxt (l : List Nat) : Nat × Nat := nxtB l.length (l.getD 0 0) (l.getD 1 0) (l.getD 2 0) (l.getD 3 0)
def Bys (l : List Nat) : Prop := ∀ x ∈ l, x < 256
theorem encN_len (n : Nat) : 1 ≤ (encN n).length ∧ (encN n).length ≤ 4 := by unfold encN; (repeat' split) <;> simp
theorem nxt_enc {n : Nat} (h : sgn n) (r : List Nat) : nxt (encN n ++ r) = (n, (encN n).length) := by
  unfold sgn at h
  unfold nxt encN
  by_cases h1 : n ≤ 127
  · simp only [h1, if_true]
    simp [nxtB, show n < 128 by omega]
  · by_cases h2 : n ≤ 2047
    · simp only [h1, h2, if_true, if_false]
      have e : (192 + n / 64) % 32 * 64 + (128 + n % 64) % 64 = n := by omega
      simp only [List.cons_append, List.nil_append, List.getD_cons_zero, List.getD_cons_succ, List.length_cons, List.length_nil, nxtB, e]
      rw [if_neg (by omega), if_pos (by omega), if_pos (by omega)]
    · by_cases h3 : n ≤ 65535
      · simp only [h1, h2, h3, if_true, if_false]
        have e : (224 + n / 4096) % 16 * 4096 + (128 + n / 64 % 64) % 64 * 64 + (128 + n % 64) % 64 = n := by omega
        simp only [List.cons_append, List.nil_append, List.getD_cons_zero, List.getD_cons_succ, List.length_cons, List.length_nil, nxtB, e]
        rw [if_neg (by omega), if_neg (by omega), if_pos (by omega), if_pos (by unfold sgn; omega)]
      · simp only [h1, h2, h3, if_false]
        have e : (240 + n / 262144) % 8 * 262144 + (128 + n / 4096 % 64) % 64 * 4096 + (128 + n / 64 % 64) % 64 * 64 + (128 + n % 64) % 64 = n := by omega
        simp only [List.cons_append, List.nil_append, List.getD_cons_zero, List.getD_cons_succ, List.length_cons, List.length_nil, nxtB, e]
        rw [if_neg (by omega), if_neg (by omega), if_neg (by omega), if_pos (by omega), if_pos (by unfold sgn; omega)]
theorem bys_get {l : List Nat} (h : Bys l) (i : Nat) : l.getD i 0 < 256 := by
  by_cases hi : i < l.length
  · simp only [List.getD, List.getElem?_eq_getElem hi, Option.getD_some]
    exact h _ (List.getElem_mem hi)
  · simp [List.getD, List.getElem?_eq_none (by omega : l.length ≤ i)]
theorem list1 {l : List Nat} (h : 0 < l.length) : l = l.getD 0 0 :: l.drop 1 := by
  match l, h with
  | a :: t, _ => simp
theorem list2 {l : List Nat} (h : 1 < l.length) : l = l.getD 0 0 :: l.getD 1 0 :: l.drop 2 := by
  match l, h with
  | a :: b :: t, _ => simp
theorem list3 {l : List Nat} (h : 2 < l.length) : l = l.getD 0 0 :: l.getD 1 0 :: l.getD 2 0 :: l.drop 3 := by
  match l, h with
  | a :: b :: c :: t, _ => simp
theorem list4 {l : List Nat} (h : 3 < l.length) : l = l.getD 0 0 :: l.getD 1 0 :: l.getD 2 0 :: l.getD 3 0 :: l.drop 4 := by
  match l, h with
  | a :: b :: c :: d :: t, _ => simp
theorem nxt_of {l : List Nat} (hb : Bys l) (h : (nxt l).2 ≠ 0) : sgn (nxt l).1 ∧ (nxt l).2 = (encN (nxt l).1).length ∧ l = encN (nxt l).1 ++ l.drop (nxt l).2 := by
  have g0 := bys_get hb 0
  have g1 := bys_get hb 1
  have g2 := bys_get hb 2
  have g3 := bys_get hb 3
  have l1 := @list1 l
  have l2 := @list2 l
  have l3 := @list3 l
  have l4 := @list4 l
  unfold nxt at h ⊢
  generalize l.getD 0 0 = b0 at *
  generalize l.getD 1 0 = b1 at *
  generalize l.getD 2 0 = b2 at *
  generalize l.getD 3 0 = b3 at *
  unfold nxtB at h ⊢
  split at h
  · split at h
    · rename_i c1 c2
      rw [if_pos c1, if_pos c2]
      have e : encN b0 = [b0] := by unfold encN; rw [if_pos (by omega)]
      refine ⟨by unfold sgn; omega, by simp [e], ?_⟩
      simpa [e] using l1 c2
    · exact absurd rfl h
  · rename_i c1
    split at h
    · rename_i c2
      split at h
      · rename_i c3
        rw [if_neg c1, if_pos c2, if_pos c3]
        have e : encN (b0 % 32 * 64 + b1 % 64) = [b0, b1] := by
          unfold encN
          rw [if_neg (by omega), if_pos (by omega), show 192 + (b0 % 32 * 64 + b1 % 64) / 64 = b0 by omega, show 128 + (b0 % 32 * 64 + b1 % 64) % 64 = b1 by omega]
        refine ⟨by unfold sgn; omega, by simp [e], ?_⟩
        simpa [e] using l2 c2.2.1
      · exact absurd rfl h
    · rename_i c2
      split at h
      · rename_i c3
        split at h
        · rename_i c4
          rw [if_neg c1, if_neg c2, if_pos c3, if_pos c4]
          have e : encN (b0 % 16 * 4096 + b1 % 64 * 64 + b2 % 64) = [b0, b1, b2] := by
            unfold encN
            rw [if_neg (by omega), if_neg (by omega), if_pos (by omega), show 224 + (b0 % 16 * 4096 + b1 % 64 * 64 + b2 % 64) / 4096 = b0 by omega, show 128 + (b0 % 16 * 4096 + b1 % 64 * 64 + b2 % 64) / 64 % 64 = b1 by omega, show 128 + (b0 % 16 * 4096 + b1 % 64 * 64 + b2 % 64) % 64 = b2 by omega]
          refine ⟨c4.2, by simp [e], ?_⟩
          simpa [e] using l3 c3.2.2.1
        · exact absurd rfl h
      · rename_i c3
        split at h
        · rename_i c4
          split at h
          · rename_i c5
            rw [if_neg c1, if_neg c2, if_neg c3, if_pos c4, if_pos c5]
            have e : encN (b0 % 8 * 262144 + b1 % 64 * 4096 + b2 % 64 * 64 + b3 % 64) = [b0, b1, b2, b3] := by
              unfold encN
              rw [if_neg (by omega), if_neg (by omega), if_neg (by omega), show 240 + (b0 % 8 * 262144 + b1 % 64 * 4096 + b2 % 64 * 64 + b3 % 64) / 262144 = b0 by omega, show 128 + (b0 % 8 * 262144 + b1 % 64 * 4096 + b2 % 64 * 64 + b3 % 64) / 4096 % 64 = b1 by omega, show 128 + (b0 % 8 * 262144 + b1 % 64 * 4096 + b2 % 64 * 64 + b3 % 64) / 64 % 64 = b2 by omega, show 128 + (b0 % 8 * 262144 + b1 % 64 * 4096 + b2 % 64 * 64 + b3 % 64) % 64 = b3 by omega]
            refine ⟨c5.2, by simp [e], ?_⟩
            simpa [e] using l4 c4.2.2.2.1
          · exact absurd rfl h
        · exact absurd rfl h
theorem nxt_nil : nxt [] = (0, 0) := by simp [nxt, nxtB]
theorem nxt_le {l : List Nat} (hb : Bys l) : (nxt l).2 ≤ l.length := by
  by_cases h : (nxt l).2 = 0
  · omega
  · obtain ⟨_, h2, h3⟩ := nxt_of hb h
    have h4 : l.length = (encN (nxt l).1 ++ l.drop (nxt l).2).length := congrArg List.length h3
    rw [List.length_append, List.length_drop, ← h2] at h4
    omega
theorem nxt_zero {l : List Nat} (h : (nxt l).2 = 0) : nxt l = (0, 0) := by
  have key : ∀ n b0 b1 b2 b3, (nxtB n b0 b1 b2 b3).2 = 0 → nxtB n b0 b1 b2 b3 = (0, 0) := by
    intro n b0 b1 b2 b3 h
    unfold nxtB at h ⊢
    repeat' split
    all_goals first | rfl | skip
    all_goals
      exfalso
      simp_all
  exact key _ _ _ _ _ h
theorem bys_drop {l : List Nat} (h : Bys l) (k : Nat) : Bys (l.drop k) := fun x hx => h x (List.mem_of_mem_drop hx)
theorem bys_take {l : List Nat} (h : Bys l) (k : Nat) : Bys (l.take k) := fun x hx => h x (List.mem_of_mem_take hx)
theorem bys_app {l m : List Nat} (h : Bys l) (h' : Bys m) : Bys (l ++ m) := fun x hx => by
  rcases List.mem_append.1 hx with hx | hx
  · exact h x hx
  · exact h' x hx
theorem encN_bys {n : Nat} (h : sgn n) : Bys (encN n) := by
  unfold sgn at h
  intro x hx
  unfold encN at hx
  repeat' split at hx
  all_goals simp at hx; omega
/-! A text's signs. -/
def sgsF : Nat → List Nat → List Nat × Nat
  | 0, _ => ([], 0)
  | f + 1, l => if (nxt l).2 = 0 then ([], 0) else ((nxt l).1 :: (sgsF f (l.drop (nxt l).2)).1, (nxt l).2 + (sgsF f (l.drop (nxt l).2)).2)
theorem sgsF_any : ∀ (f g : Nat) (l : List Nat), l.length ≤ f → l.length ≤ g → sgsF f l = sgsF g l
  | 0, 0, _, _, _ => rfl
  | 0, g + 1, l, h, _ => by
    have : l = [] := List.length_eq_zero_iff.1 (by omega)
    subst this
    simp [sgsF, nxt_nil]
  | f + 1, 0, l, _, h => by
    have : l = [] := List.length_eq_zero_iff.1 (by omega)
    subst this
    simp [sgsF, nxt_nil]
  | f + 1, g + 1, l, h, h' => by
    unfold sgsF
    by_cases e : (nxt l).2 = 0
    · rw [if_pos e, if_pos e]
    · have hl : (l.drop (nxt l).2).length ≤ f ∧ (l.drop (nxt l).2).length ≤ g := by rw [List.length_drop]; omega
      rw [if_neg e, if_neg e, sgsF_any f g _ hl.1 hl.2]
def sgsL (l : List Nat) : List Nat × Nat := sgsF l.length l
theorem sgsL_end {l : List Nat} (h : (nxt l).2 = 0) : sgsL l = ([], 0) := by
  unfold sgsL
  cases e : l.length with
  | zero => rfl
  | succ n => simp [sgsF, h]
theorem sgsL_step {l : List Nat} (h : (nxt l).2 ≠ 0) : sgsL l = ((nxt l).1 :: (sgsL (l.drop (nxt l).2)).1, (nxt l).2 + (sgsL (l.drop (nxt l).2)).2) := by
  unfold sgsL
  cases e : l.length with
  | zero =>
    have : l = [] := List.length_eq_zero_iff.1 e
    subst this
    exact absurd (by rw [nxt_nil]) h
  | succ n =>
    rw [show sgsF (n + 1) l = _ from by unfold sgsF; rw [if_neg h], sgsF_any n (l.drop (nxt l).2).length _ (by rw [List.length_drop]; omega) (Nat.le_refl _)]
def encL (ns : List Nat) : List Nat := ns.flatMap encN
theorem sgsL_enc : ∀ (ns : List Nat) (r : List Nat), (∀ n ∈ ns, sgn n) → sgsL (encL ns ++ r) = (ns ++ (sgsL r).1, (encL ns).length + (sgsL r).2)
  | [], r, _ => by simp [encL]
  | n :: ns, r, h => by
    have hn := h n (by simp)
    have e : encL (n :: ns) ++ r = encN n ++ (encL ns ++ r) := by simp [encL]
    have hx := nxt_enc hn (encL ns ++ r)
    have hl := (encN_len n).1
    rw [e, sgsL_step (by rw [hx]; show (encN n).length ≠ 0; omega), hx]
    simp only [List.drop_left]
    rw [sgsL_enc ns r fun m hm => h m (by simp [hm])]
    have e2 : (encL (n :: ns)).length = (encN n).length + (encL ns).length := by simp [encL]
    rw [e2]
    simp [Nat.add_assoc]
theorem sgsL_of : ∀ (k : Nat) (l : List Nat), l.length ≤ k → Bys l → (∀ n ∈ (sgsL l).1, sgn n) ∧ (sgsL l).2 = (encL (sgsL l).1).length ∧ l = encL (sgsL l).1 ++ l.drop (sgsL l).2 ∧ (nxt (l.drop (sgsL l).2)).2 = 0
  | k, l, hk, hb => by
    by_cases h : (nxt l).2 = 0
    · rw [sgsL_end h]
      simp [encL, h]
    · obtain ⟨h1, h2, h3⟩ := nxt_of hb h
      have hle := nxt_le hb
      match k with
      | 0 => exact absurd (by omega) h
      | k + 1 =>
        have hl2 : (l.drop (nxt l).2).length ≤ k := by rw [List.length_drop]; omega
        obtain ⟨i1, i2, i3, i4⟩ := sgsL_of k (l.drop (nxt l).2) hl2 (bys_drop hb _)
        rw [sgsL_step h]
        generalize nxt l = p at *
        generalize sgsL (l.drop p.2) = q at *
        have e : encL (p.1 :: q.1) = encN p.1 ++ encL q.1 := by simp [encL]
        refine ⟨fun n hn => ?_, ?_, ?_, ?_⟩
        · simp only [List.mem_cons] at hn
          rcases hn with rfl | hn
          · exact h1
          · exact i1 n hn
        · show p.2 + q.2 = (encL (p.1 :: q.1)).length
          rw [e, List.length_append, ← h2, ← i2]
        · show l = encL (p.1 :: q.1) ++ l.drop (p.2 + q.2)
          rw [e, List.append_assoc, ← List.drop_drop, ← i3]
          exact h3
        · show (nxt (l.drop (p.2 + q.2))).2 = 0
          rw [← List.drop_drop]
          exact i4
theorem sgsL_le {l : List Nat} (hb : Bys l) : (sgsL l).2 ≤ l.length := by
  obtain ⟨_, h2, h3, _⟩ := sgsL_of l.length l (Nat.le_refl _) hb
  have h4 := congrArg List.length h3
  rw [List.length_append, List.length_drop, ← h2] at h4
  omega
theorem sgsL_take {l : List Nat} (hb : Bys l) : l.take (sgsL l).2 = encL (sgsL l).1 := by
  obtain ⟨_, h2, h3, _⟩ := sgsL_of l.length l (Nat.le_refl _) hb
  generalize sgsL l = p at *
  rw [h3, List.take_append_of_le_length (by omega), List.take_of_length_le (by omega)]
/-! Order. -/
def lessL : List Nat → List Nat → Bool
  | [], [] => false
  | [], _ :: _ => true
  | _ :: _, [] => false
  | a :: x, b :: y => if a < b then true else if b < a then false else lessL x y
theorem lessL_app : ∀ (p x y : List Nat), lessL (p ++ x) (p ++ y) = lessL x y
  | [], _, _ => rfl
  | a :: p, x, y => by simp [lessL, lessL_app p x y]
theorem encN_less {n m : Nat} (h : n < m) (x y : List Nat) : lessL (encN n ++ x) (encN m ++ y) = true ∧ lessL (encN m ++ y) (encN n ++ x) = false := by
  unfold encN
  constructor
  all_goals
    repeat' split
    all_goals first
      | (exfalso; omega)
      | skip
    all_goals
      simp only [List.cons_append, List.nil_append, lessL]
      repeat' split
      all_goals first
        | rfl
        | (exfalso; omega)
theorem encL_less : ∀ (a b : List Nat), (∀ n ∈ a, sgn n) → (∀ n ∈ b, sgn n) → lessL (encL a) (encL b) = lessL a b
  | [], [], _, _ => rfl
  | [], m :: b, _, h => by
    have e : encL (m :: b) = encN m ++ encL b := by simp [encL]
    have := (encN_len m).1
    rw [e]
    cases hc : encN m with
    | nil => rw [hc] at this; simp at this
    | cons c t => simp [encL, lessL]
  | m :: b, [], h, _ => by
    have e : encL (m :: b) = encN m ++ encL b := by simp [encL]
    have := (encN_len m).1
    rw [e]
    cases hc : encN m with
    | nil => rw [hc] at this; simp at this
    | cons c t => simp [encL, lessL]
  | n :: a, m :: b, h1, h2 => by
    have e1 : encL (n :: a) = encN n ++ encL a := by simp [encL]
    have e2 : encL (m :: b) = encN m ++ encL b := by simp [encL]
    have i1 := h1 n (by simp)
    have i2 := h2 m (by simp)
    rw [e1, e2]
    show _ = if n < m then true else if m < n then false else lessL a b
    rcases Nat.lt_trichotomy n m with h | h | h
    · rw [if_pos h, (encN_less h _ _).1]
    · subst h
      rw [lessL_app, if_neg (by omega), if_neg (by omega), encL_less a b (fun k hk => h1 k (by simp [hk])) fun k hk => h2 k (by simp [hk])]
    · rw [if_neg (by omega), if_pos h, (encN_less h _ _).2]
end Go.Proofs.YtbbclcllkpabkaaDoor.U
namespace Go.Proofs.YtbbclcllkpabkaaDoor.U
/-- Is a number in one of some ranges? -/
def inZ (rs : List (Int × Int)) (z : Int) : Bool := rs.any fun r => decide (r.1 ≤ z) && decide (z ≤ r.2)
def isZ (z : Int) : Bool := inZ [(0, 55295), (57344, 1114111)] z
def latZ (z : Int) : Bool := inZ [(65, 90), (97, 122)] z
def ldZ (z : Int) : Bool := latZ z || inZ [(48, 57)] z
def opnR : List (Int × Int) := [(192, 214), (216, 246), (248, 767), (880, 893), (895, 8191), (8204, 8205), (8304, 8591), (11264, 12271), (12289, 55295), (63744, 64975), (65008, 65533), (65536, 983039)]
def opnZ (z : Int) : Bool := ldZ z || (decide (z = 95) || (decide (z = 58) || inZ opnR z))
def letZ (z : Int) : Bool := opnZ z || (decide (z = 45) || inZ [(183, 183), (768, 879), (8255, 8256)] z)
theorem inZ_cons (r : Int × Int) (rs : List (Int × Int)) (z : Int) : inZ (r :: rs) z = ((decide (r.1 ≤ z) && decide (z ≤ r.2)) || inZ rs z) := by simp [inZ]
theorem inZ_nil (z : Int) : inZ [] z = false := rfl
theorem isZ_iff (z : Int) : isZ z = true ↔ 0 ≤ z ∧ sgn z.toNat := by
  unfold isZ sgn
  simp only [inZ_cons, inZ_nil, Bool.or_eq_true, Bool.and_eq_true, decide_eq_true_eq, Bool.false_eq_true, or_false]
  omega
theorem opn_let {z : Int} (h : opnZ z = true) : letZ z = true := by unfold letZ; rw [h]; rfl
theorem lat_lt {z : Int} (h : latZ z = true) : 65 ≤ z ∧ z ≤ 122 := by
  unfold latZ at h
  simp only [inZ_cons, inZ_nil, Bool.or_eq_true, Bool.and_eq_true, decide_eq_true_eq, Bool.false_eq_true, or_false] at h
  omega
theorem ld_lt {z : Int} (h : ldZ z = true) : 48 ≤ z ∧ z ≤ 122 := by
  unfold ldZ latZ at h
  simp only [inZ_cons, inZ_nil, Bool.or_eq_true, Bool.and_eq_true, decide_eq_true_eq, Bool.false_eq_true, or_false] at h
  omega
theorem ld_opn {z : Int} (h : ldZ z = true) : opnZ z = true := by unfold opnZ; rw [h]; rfl
theorem lat_ld {z : Int} (h : latZ z = true) : ldZ z = true := by unfold ldZ; rw [h]; rfl
theorem let_hy : letZ 45 = true := by decide
theorem let_pt : letZ 46 = false := by decide
theorem let_sp : letZ 32 = false := by decide
theorem ld_hy : ldZ 45 = false := by decide
/-! One byte alone. -/
theorem nxt_asc {b : Nat} (h : b < 128) (t : List Nat) : nxt (b :: t) = (b, 1) := by
  simp only [nxt, List.getD_cons_zero, List.length_cons, nxtB]
  rw [if_pos h, if_pos (by omega)]
theorem nxt_high {b : Nat} {t : List Nat} (hb : Bys (b :: t)) (h : 128 ≤ b) (h0 : (nxt (b :: t)).2 ≠ 0) : 128 ≤ (nxt (b :: t)).1 := by
  obtain ⟨_, _, h3⟩ := nxt_of hb h0
  rcases Nat.lt_or_ge (nxt (b :: t)).1 128 with h4 | h4
  · have e : encN (nxt (b :: t)).1 = [(nxt (b :: t)).1] := by unfold encN; rw [if_pos (by omega)]
    rw [e] at h3
    simp only [List.cons_append, List.cons.injEq] at h3
    omega
  · exact h4
theorem nxt_one {l : List Nat} (hb : Bys l) (h0 : (nxt l).2 ≠ 0) (h : (nxt l).1 < 128) : (nxt l).2 = 1 ∧ l = (nxt l).1 :: l.drop 1 := by
  obtain ⟨_, h2, h3⟩ := nxt_of hb h0
  have e : encN (nxt l).1 = [(nxt l).1] := by unfold encN; rw [if_pos (by omega)]
  rw [e] at h2
  have h2 : (nxt l).2 = 1 := h2
  rw [e, h2] at h3
  exact ⟨h2, h3⟩
/-! As many signs as are such: how many bytes these are. -/
def runF : Nat → (Int → Bool) → List Nat → Nat
  | 0, _, _ => 0
  | f + 1, p, r => if (nxt r).2 = 0 then 0 else if p ((nxt r).1 : Int) then (nxt r).2 + runF f p (r.drop (nxt r).2) else 0
theorem runF_any (p : Int → Bool) : ∀ (f g : Nat) (l : List Nat), l.length ≤ f → l.length ≤ g → runF f p l = runF g p l
  | 0, 0, _, _, _ => rfl
  | 0, g + 1, l, h, _ => by
    have : l = [] := List.length_eq_zero_iff.1 (by omega)
    subst this
    simp [runF, nxt_nil]
  | f + 1, 0, l, _, h => by
    have : l = [] := List.length_eq_zero_iff.1 (by omega)
    subst this
    simp [runF, nxt_nil]
  | f + 1, g + 1, l, h, h' => by
    unfold runF
    by_cases e : (nxt l).2 = 0
    · rw [if_pos e, if_pos e]
    · have hl : (l.drop (nxt l).2).length ≤ f ∧ (l.drop (nxt l).2).length ≤ g := by rw [List.length_drop]; omega
      rw [if_neg e, if_neg e, runF_any p f g _ hl.1 hl.2]
def runS (p : Int → Bool) (l : List Nat) : Nat := runF l.length p l
theorem runS_stop {p : Int → Bool} {l : List Nat} (h : (nxt l).2 = 0 ∨ p ((nxt l).1 : Int) = false) : runS p l = 0 := by
  unfold runS
  cases e : l.length with
  | zero => rfl
  | succ n =>
    unfold runF
    rcases h with h | h
    · rw [if_pos h]
    · by_cases h0 : (nxt l).2 = 0
      · rw [if_pos h0]
      · rw [if_neg h0, h, if_neg (by decide)]
theorem runS_step {p : Int → Bool} {l : List Nat} (h : (nxt l).2 ≠ 0) (hp : p ((nxt l).1 : Int) = true) : runS p l = (nxt l).2 + runS p (l.drop (nxt l).2) := by
  unfold runS
  cases e : l.length with
  | zero =>
    have : l = [] := List.length_eq_zero_iff.1 e
    subst this
    exact absurd (by rw [nxt_nil]) h
  | succ n =>
    rw [show runF (n + 1) p l = _ from by unfold runF; rw [if_neg h, if_pos hp], runF_any p n (l.drop (nxt l).2).length _ (by rw [List.length_drop]; omega) (Nat.le_refl _)]
/-! The longest label. -/
def labF : Nat → List Nat → Nat → Nat → Nat
  | 0, _, _, best => best
  | f + 1, r, at_, best => if (nxt r).2 = 0 then best else if letZ ((nxt r).1 : Int) then labF f (r.drop (nxt r).2) (at_ + (nxt r).2) (at_ + (nxt r).2) else if (nxt r).1 = 46 then labF f (r.drop (nxt r).2) (at_ + (nxt r).2) best else best
theorem labF_any : ∀ (f g : Nat) (l : List Nat) (a b : Nat), l.length ≤ f → l.length ≤ g → labF f l a b = labF g l a b
  | 0, 0, _, _, _, _, _ => rfl
  | 0, g + 1, l, a, b, h, _ => by
    have : l = [] := List.length_eq_zero_iff.1 (by omega)
    subst this
    simp [labF, nxt_nil]
  | f + 1, 0, l, a, b, _, h => by
    have : l = [] := List.length_eq_zero_iff.1 (by omega)
    subst this
    simp [labF, nxt_nil]
  | f + 1, g + 1, l, a, b, h, h' => by
    unfold labF
    by_cases e : (nxt l).2 = 0
    · rw [if_pos e, if_pos e]
    · have hl : (l.drop (nxt l).2).length ≤ f ∧ (l.drop (nxt l).2).length ≤ g := by rw [List.length_drop]; omega
      rw [if_neg e, if_neg e, labF_any f g _ _ _ hl.1 hl.2, labF_any f g _ _ _ hl.1 hl.2]
def labW (l : List Nat) (a b : Nat) : Nat := labF l.length l a b
theorem labW_stop {l : List Nat} {a b : Nat} (h : (nxt l).2 = 0 ∨ (letZ ((nxt l).1 : Int) = false ∧ (nxt l).1 ≠ 46)) : labW l a b = b := by
  unfold labW
  cases e : l.length with
  | zero => rfl
  | succ n =>
    unfold labF
    by_cases h0 : (nxt l).2 = 0
    · rw [if_pos h0]
    · have h := h.resolve_left h0
      rw [if_neg h0, h.1, if_neg (by decide), if_neg h.2]
theorem labW_let {l : List Nat} {a b : Nat} (h : (nxt l).2 ≠ 0) (hp : letZ ((nxt l).1 : Int) = true) : labW l a b = labW (l.drop (nxt l).2) (a + (nxt l).2) (a + (nxt l).2) := by
  unfold labW
  cases e : l.length with
  | zero =>
    have : l = [] := List.length_eq_zero_iff.1 e
    subst this
    exact absurd (by rw [nxt_nil]) h
  | succ n =>
    rw [show labF (n + 1) l a b = _ from by unfold labF; rw [if_neg h, if_pos hp], labF_any n (l.drop (nxt l).2).length _ _ _ (by rw [List.length_drop]; omega) (Nat.le_refl _)]
theorem labW_pt {l : List Nat} {a b : Nat} (h : (nxt l).2 ≠ 0) (hp : (nxt l).1 = 46) : labW l a b = labW (l.drop (nxt l).2) (a + (nxt l).2) b := by
  unfold labW
  cases e : l.length with
  | zero =>
    have : l = [] := List.length_eq_zero_iff.1 e
    subst this
    exact absurd (by rw [nxt_nil]) h
  | succ n =>
    rw [show labF (n + 1) l a b = _ from by unfold labF; rw [if_neg h, hp, if_neg (by decide), if_pos rfl], labF_any n (l.drop (nxt l).2).length _ _ _ (by rw [List.length_drop]; omega) (Nat.le_refl _)]
def lab (l : List Nat) : Nat := if (nxt l).2 ≠ 0 ∧ opnZ ((nxt l).1 : Int) = true then labW (l.drop (nxt l).2) (nxt l).2 (nxt l).2 else 0
/-- Letters, taken at once. -/
theorem labW_lets : ∀ (n : Nat) (l : List Nat) (a b : Nat), l.length ≤ n → labW l a b = labW (l.drop (runS letZ l)) (a + runS letZ l) (if runS letZ l = 0 then b else a + runS letZ l)
  | n, l, a, b, hn => by
    by_cases h : (nxt l).2 ≠ 0 ∧ letZ ((nxt l).1 : Int) = true
    · match n with
      | 0 =>
        have : l = [] := List.length_eq_zero_iff.1 (by omega)
        subst this
        exact absurd (by rw [nxt_nil]) h.1
      | n + 1 =>
        rw [labW_let h.1 h.2, runS_step h.1 h.2, labW_lets n (l.drop (nxt l).2) _ _ (by rw [List.length_drop]; have := h.1; omega), List.drop_drop]
        generalize runS letZ (l.drop (nxt l).2) = q
        have h1 := h.1
        generalize (nxt l).2 = k at *
        rw [if_neg (by omega : ¬ k + q = 0)]
        by_cases hq : q = 0
        · subst hq; simp
        · rw [if_neg hq, Nat.add_assoc]
    · have h0 : runS letZ l = 0 := runS_stop (by
        by_cases h1 : (nxt l).2 = 0
        · exact .inl h1
        · right
          cases hc : letZ ((nxt l).1 : Int) with
          | false => rfl
          | true => exact absurd ⟨h1, hc⟩ h)
      rw [h0]; simp
def ptZ (z : Int) : Bool := decide (z = 46)
def hyZ (z : Int) : Bool := decide (z = 45)
theorem labW_pts : ∀ (n : Nat) (l : List Nat) (a b : Nat), l.length ≤ n → labW l a b = labW (l.drop (runS ptZ l)) (a + runS ptZ l) b
  | n, l, a, b, hn => by
    by_cases h : (nxt l).2 ≠ 0 ∧ ptZ ((nxt l).1 : Int) = true
    · match n with
      | 0 =>
        have : l = [] := List.length_eq_zero_iff.1 (by omega)
        subst this
        exact absurd (by rw [nxt_nil]) h.1
      | n + 1 =>
        have h46 : (nxt l).1 = 46 := by have := h.2; unfold ptZ at this; simp at this; omega
        rw [labW_pt h.1 h46, runS_step h.1 h.2, labW_pts n (l.drop (nxt l).2) _ _ (by rw [List.length_drop]; have := h.1; omega), List.drop_drop, Nat.add_assoc]
    · have h0 : runS ptZ l = 0 := runS_stop (by
        by_cases h1 : (nxt l).2 = 0
        · exact .inl h1
        · right
          cases hc : ptZ ((nxt l).1 : Int) with
          | false => rfl
          | true => exact absurd ⟨h1, hc⟩ h)
      rw [h0]; simp
/-- Behind as many as are such there is no such. -/
theorem runS_done (p : Int → Bool) : ∀ (n : Nat) (l : List Nat), l.length ≤ n → (nxt (l.drop (runS p l))).2 = 0 ∨ p ((nxt (l.drop (runS p l))).1 : Int) = false
  | n, l, hn => by
    by_cases h : (nxt l).2 ≠ 0 ∧ p ((nxt l).1 : Int) = true
    · match n with
      | 0 =>
        have : l = [] := List.length_eq_zero_iff.1 (by omega)
        subst this
        exact absurd (by rw [nxt_nil]) h.1
      | n + 1 =>
        rw [runS_step h.1 h.2, ← List.drop_drop]
        exact runS_done p n _ (by rw [List.length_drop]; have := h.1; omega)
    · have h1 : (nxt l).2 = 0 ∨ p ((nxt l).1 : Int) = false := by
        by_cases h1 : (nxt l).2 = 0
        · exact .inl h1
        · right
          cases hc : p ((nxt l).1 : Int) with
          | false => rfl
          | true => exact absurd ⟨h1, hc⟩ h
      rw [runS_stop h1]
      exact h1
theorem runS_le (p : Int → Bool) : ∀ (n : Nat) (l : List Nat), Bys l → l.length ≤ n → runS p l ≤ l.length
  | n, l, hb, hn => by
    by_cases h : (nxt l).2 ≠ 0 ∧ p ((nxt l).1 : Int) = true
    · match n with
      | 0 =>
        have : l = [] := List.length_eq_zero_iff.1 (by omega)
        subst this
        exact absurd (by rw [nxt_nil]) h.1
      | n + 1 =>
        have h1 := h.1
        have h2 := nxt_le hb
        have h3 := runS_le p n (l.drop (nxt l).2) (bys_drop hb _) (by rw [List.length_drop]; omega)
        rw [runS_step h.1 h.2]
        rw [List.length_drop] at h3
        omega
    · rw [runS_stop (by
        by_cases h1 : (nxt l).2 = 0
        · exact .inl h1
        · right
          cases hc : p ((nxt l).1 : Int) with
          | false => rfl
          | true => exact absurd ⟨h1, hc⟩ h)]
      omega
/-! What a label is. -/
theorem labW_ge : ∀ (n : Nat) (l : List Nat) (a b : Nat), l.length ≤ n → b ≤ a → b ≤ labW l a b ∧ (labW l a b = b ∨ a < labW l a b)
  | n, l, a, b, hn, hab => by
    by_cases h : (nxt l).2 = 0
    · rw [labW_stop (.inl h)]; exact ⟨Nat.le_refl _, .inl rfl⟩
    · match n with
      | 0 =>
        have : l = [] := List.length_eq_zero_iff.1 (by omega)
        subst this
        exact absurd (by rw [nxt_nil]) h
      | n + 1 =>
        have hl : (l.drop (nxt l).2).length ≤ n := by rw [List.length_drop]; omega
        cases hc : letZ ((nxt l).1 : Int) with
        | true =>
          rw [labW_let h hc]
          have := labW_ge n _ (a + (nxt l).2) (a + (nxt l).2) hl (Nat.le_refl _)
          exact ⟨by omega, .inr (by omega)⟩
        | false =>
          by_cases h46 : (nxt l).1 = 46
          · rw [labW_pt h h46]
            have := labW_ge n _ (a + (nxt l).2) b hl (by omega)
            exact ⟨this.1, this.2.imp id (by omega)⟩
          · rw [labW_stop (.inr ⟨hc, h46⟩)]; exact ⟨Nat.le_refl _, .inl rfl⟩
theorem labW_up : ∀ (n : Nat) (l : List Nat) (a b : Nat), Bys l → l.length ≤ n → b ≤ a → labW l a b ≤ a + l.length
  | n, l, a, b, hb, hn, hab => by
    by_cases h : (nxt l).2 = 0
    · rw [labW_stop (.inl h)]; omega
    · match n with
      | 0 =>
        have : l = [] := List.length_eq_zero_iff.1 (by omega)
        subst this
        exact absurd (by rw [nxt_nil]) h
      | n + 1 =>
        have hl : (l.drop (nxt l).2).length ≤ n := by rw [List.length_drop]; omega
        have hle := nxt_le hb
        cases hc : letZ ((nxt l).1 : Int) with
        | true =>
          rw [labW_let h hc]
          have := labW_up n _ (a + (nxt l).2) (a + (nxt l).2) (bys_drop hb _) hl (Nat.le_refl _)
          rw [List.length_drop] at this
          omega
        | false =>
          by_cases h46 : (nxt l).1 = 46
          · rw [labW_pt h h46]
            have := labW_up n _ (a + (nxt l).2) b (bys_drop hb _) hl (by omega)
            rw [List.length_drop] at this
            omega
          · rw [labW_stop (.inr ⟨hc, h46⟩)]; omega
/-- A row behind which no label goes on. -/
def Shut (y : List Nat) : Prop := ∀ a b, labW y a b = b
theorem shut_nil : Shut [] := fun a b => labW_stop (.inl (by rw [nxt_nil]))
theorem shut_sp (y : List Nat) : Shut (32 :: y) := fun a b => labW_stop (by rw [nxt_asc (by decide)]; exact .inr ⟨by decide, by decide⟩)
theorem shut_pt (y : List Nat) : Shut (46 :: 32 :: y) := fun a b => by
  rw [labW_pt (by rw [nxt_asc (by decide)]; decide) (by rw [nxt_asc (by decide)]), nxt_asc (by decide)]
  exact shut_sp y _ _
theorem labW_cut {y : List Nat} (hy : Shut y) : ∀ (n : Nat) (l : List Nat) (a b : Nat), Bys l → l.length ≤ n → b ≤ a → a < labW l a b → labW (l.take (labW l a b - a) ++ y) a b = labW l a b ∧ l.getD (labW l a b - a - 1) 0 ≠ 46
  | n, l, a, b, hb, hn, hab, hlt => by
    by_cases h : (nxt l).2 = 0
    · rw [labW_stop (.inl h)] at hlt; omega
    · match n with
      | 0 =>
        have : l = [] := List.length_eq_zero_iff.1 (by omega)
        subst this
        exact absurd (by rw [nxt_nil]) h
      | n + 1 =>
        have hl : (l.drop (nxt l).2).length ≤ n := by rw [List.length_drop]; omega
        have hle := nxt_le hb
        obtain ⟨h1, h2, h3⟩ := nxt_of hb h
        have htake : ∀ m, (nxt l).2 ≤ m → ∀ z, l.take m ++ z = encN (nxt l).1 ++ ((l.drop (nxt l).2).take (m - (nxt l).2) ++ z) := fun m hm z => by
          generalize nxt l = p at *
          rw [← List.append_assoc]
          congr 1
          rw [h3, List.take_append, List.take_of_length_le (by omega), ← h2]
          congr 1
          rw [← h3]
        have hget : ∀ m, (nxt l).2 ≤ m → l.getD m 0 = (l.drop (nxt l).2).getD (m - (nxt l).2) 0 := fun m hm => by
          simp only [List.getD, List.getElem?_drop]
          congr 2
          omega
        cases hc : letZ ((nxt l).1 : Int) with
        | true =>
          have hB := labW_let (a := a) (b := b) h hc
          have hge := labW_ge n _ (a + (nxt l).2) (a + (nxt l).2) hl (Nat.le_refl _)
          rw [hB] at hlt ⊢
          by_cases hlt2 : a + (nxt l).2 < labW (l.drop (nxt l).2) (a + (nxt l).2) (a + (nxt l).2)
          · obtain ⟨i1, i2⟩ := labW_cut hy n _ _ _ (bys_drop hb _) hl (Nat.le_refl _) hlt2
            generalize labW (l.drop (nxt l).2) (a + (nxt l).2) (a + (nxt l).2) = m at *
            constructor
            · rw [htake _ (by omega), labW_let (by rw [nxt_enc h1]; show (encN (nxt l).1).length ≠ 0; rw [← h2]; exact h) (by rw [nxt_enc h1]; exact hc), nxt_enc h1, ← h2]
              simp only
              rw [h2, List.drop_left, ← h2, show m - a - (nxt l).2 = m - (a + (nxt l).2) by omega]
              exact i1
            · rw [hget _ (by omega), show m - a - 1 - (nxt l).2 = m - (a + (nxt l).2) - 1 by omega]
              exact i2
          · have hm : labW (l.drop (nxt l).2) (a + (nxt l).2) (a + (nxt l).2) = a + (nxt l).2 := by omega
            rw [hm]
            constructor
            · rw [htake _ (by omega), labW_let (by rw [nxt_enc h1]; show (encN (nxt l).1).length ≠ 0; rw [← h2]; exact h) (by rw [nxt_enc h1]; exact hc), nxt_enc h1, ← h2]
              simp only
              rw [h2, List.drop_left, ← h2, show a + (nxt l).2 - a - (nxt l).2 = 0 by omega, List.take_zero, List.nil_append]
              exact hy _ _
            · have e : l.getD (a + (nxt l).2 - a - 1) 0 = (encN (nxt l).1).getD ((encN (nxt l).1).length - 1) 0 := by
                rw [show a + (nxt l).2 - a - 1 = (encN (nxt l).1).length - 1 by omega]
                generalize nxt l = p at *
                conv => lhs; rw [h3]
                simp only [List.getD]
                rw [List.getElem?_append_left (by omega)]
              rw [e]
              have hne : (nxt l).1 ≠ 46 := fun e => by rw [e] at hc; exact absurd hc (by decide)
              unfold encN
              (repeat' split) <;> simp <;> omega
        | false =>
          by_cases h46 : (nxt l).1 = 46
          · have hB := labW_pt (a := a) (b := b) h h46
            have hge := labW_ge n (l.drop (nxt l).2) (a + (nxt l).2) b hl (by omega)
            rw [hB] at hlt ⊢
            have hlt2 : a + (nxt l).2 < labW (l.drop (nxt l).2) (a + (nxt l).2) b := by omega
            obtain ⟨i1, i2⟩ := labW_cut hy n _ _ _ (bys_drop hb _) hl (by omega) hlt2
            generalize labW (l.drop (nxt l).2) (a + (nxt l).2) b = m at *
            constructor
            · rw [htake _ (by omega), labW_pt (by rw [nxt_enc h1]; show (encN (nxt l).1).length ≠ 0; rw [← h2]; exact h) (by rw [nxt_enc h1]; exact h46), nxt_enc h1, ← h2]
              simp only
              rw [h2, List.drop_left, ← h2, show m - a - (nxt l).2 = m - (a + (nxt l).2) by omega]
              exact i1
            · rw [hget _ (by omega), show m - a - 1 - (nxt l).2 = m - (a + (nxt l).2) - 1 by omega]
              exact i2
          · rw [labW_stop (.inr ⟨hc, h46⟩)] at hlt; omega
theorem nxt_app {l : List Nat} (hb : Bys l) (h : (nxt l).2 ≠ 0) (m : List Nat) : nxt (l ++ m) = nxt l ∧ (l ++ m).drop (nxt l).2 = l.drop (nxt l).2 ++ m := by
  obtain ⟨h1, h2, h3⟩ := nxt_of hb h
  have hle := nxt_le hb
  refine ⟨?_, by rw [List.drop_append_of_le_length hle]⟩
  have e : l ++ m = encN (nxt l).1 ++ (l.drop (nxt l).2 ++ m) := by rw [← List.append_assoc, ← h3]
  rw [e, nxt_enc h1]
  exact Prod.ext rfl h2.symm
theorem labW_more (m : List Nat) : ∀ (n : Nat) (l : List Nat) (a b : Nat), Bys l → l.length ≤ n → b ≤ a → labW l a b ≤ labW (l ++ m) a b
  | n, l, a, b, hb, hn, hab => by
    by_cases h : (nxt l).2 = 0
    · rw [labW_stop (l := l) (.inl h)]; exact (labW_ge (l ++ m).length _ a b (Nat.le_refl _) hab).1
    · match n with
      | 0 =>
        have : l = [] := List.length_eq_zero_iff.1 (by omega)
        subst this
        exact absurd (by rw [nxt_nil]) h
      | n + 1 =>
        have hl : (l.drop (nxt l).2).length ≤ n := by rw [List.length_drop]; omega
        obtain ⟨e1, e2⟩ := nxt_app hb h m
        cases hc : letZ ((nxt l).1 : Int) with
        | true =>
          rw [labW_let h hc, labW_let (l := l ++ m) (by rw [e1]; exact h) (by rw [e1]; exact hc), e1, e2]
          exact labW_more m n _ _ _ (bys_drop hb _) hl (Nat.le_refl _)
        | false =>
          by_cases h46 : (nxt l).1 = 46
          · rw [labW_pt h h46, labW_pt (l := l ++ m) (by rw [e1]; exact h) (by rw [e1]; exact h46), e1, e2]
            exact labW_more m n _ _ _ (bys_drop hb _) hl (by omega)
          · rw [labW_stop (l := l) (.inr ⟨hc, h46⟩)]; exact (labW_ge (l ++ m).length _ a b (Nat.le_refl _) hab).1
theorem lab_le {l : List Nat} (hb : Bys l) : lab l ≤ l.length := by
  unfold lab
  have hle := nxt_le hb
  split
  · have := labW_up l.length (l.drop (nxt l).2) (nxt l).2 (nxt l).2 (bys_drop hb _) (by rw [List.length_drop]; omega) (Nat.le_refl _)
    rw [List.length_drop] at this
    omega
  · omega
theorem lab_cut {l y : List Nat} (hb : Bys l) (hy : Shut y) (h0 : lab y = 0) : lab (l.take (lab l) ++ y) = lab l ∧ (lab l ≠ 0 → l.getD (lab l - 1) 0 ≠ 46) := by
  by_cases h : (nxt l).2 ≠ 0 ∧ opnZ ((nxt l).1 : Int) = true
  · have e : lab l = labW l 0 0 := by unfold lab; rw [if_pos h, labW_let h.1 (opn_let h.2)]; simp
    have hge := labW_ge l.length l 0 0 (Nat.le_refl _) (Nat.le_refl _)
    have hpos : 0 < labW l 0 0 := by
      rw [labW_let h.1 (opn_let h.2)]
      have := (labW_ge l.length (l.drop (nxt l).2) (0 + (nxt l).2) (0 + (nxt l).2) (by rw [List.length_drop]; omega) (Nat.le_refl _)).1
      have := h.1
      omega
    obtain ⟨c1, c2⟩ := labW_cut hy l.length l 0 0 hb (Nat.le_refl _) (Nat.le_refl _) hpos
    rw [e]
    rw [Nat.sub_zero] at c1 c2
    refine ⟨?_, fun _ => c2⟩
    have hk : (nxt l).2 ≤ labW l 0 0 := by
      rw [labW_let h.1 (opn_let h.2)]
      have := (labW_ge l.length (l.drop (nxt l).2) (0 + (nxt l).2) (0 + (nxt l).2) (by rw [List.length_drop]; omega) (Nat.le_refl _)).1
      omega
    generalize labW l 0 0 = m at *
    have hn : nxt (l.take m ++ y) = nxt l := by
      obtain ⟨h1, h2, h3⟩ := nxt_of hb h.1
      have : l.take m ++ y = encN (nxt l).1 ++ ((l.drop (nxt l).2).take (m - (nxt l).2) ++ y) := by
        generalize nxt l = p at *
        rw [← List.append_assoc]
        congr 1
        rw [h3, List.take_append, List.take_of_length_le (by omega), ← h2]
        congr 1
        rw [← h3]
      rw [this, nxt_enc h1]
      exact Prod.ext rfl h2.symm
    unfold lab
    rw [hn, if_pos h]
    rw [labW_let (by rw [hn]; exact h.1) (by rw [hn]; exact opn_let h.2), hn] at c1
    simpa using c1
  · have e : lab l = 0 := by unfold lab; rw [if_neg h]
    rw [e]
    exact ⟨by simpa using h0, fun h => absurd rfl h⟩
theorem lab_nil : lab [] = 0 := by unfold lab; rw [nxt_nil]; simp
theorem lab_sp (y : List Nat) : lab (32 :: y) = 0 := by unfold lab; rw [nxt_asc (by decide), if_neg (by decide)]
theorem lab_pt (y : List Nat) : lab (46 :: y) = 0 := by unfold lab; rw [nxt_asc (by decide), if_neg (by decide)]
theorem lab_more {l : List Nat} (hb : Bys l) (m : List Nat) : lab l ≤ lab (l ++ m) := by
  by_cases h : (nxt l).2 ≠ 0 ∧ opnZ ((nxt l).1 : Int) = true
  · obtain ⟨e1, e2⟩ := nxt_app hb h.1 m
    unfold lab
    rw [if_pos h, e1, if_pos h, e2]
    exact labW_more m l.length _ _ _ (bys_drop hb _) (by rw [List.length_drop]; omega) (Nat.le_refl _)
  · unfold lab
    rw [if_neg h]
    omega
/-! The longest tag, byte by byte: 0 the start, 1 the first part, 2 behind a hyphen, 3 a later part, 4 where only a hyphen goes on. -/
def okc (ph b : Nat) : Bool := if ph ≤ 1 then latZ (b : Int) else if ph ≤ 3 then ldZ (b : Int) else false
def hyc (ph : Nat) : Bool := decide (ph = 1) || decide (3 ≤ ph)
def nph (ph : Nat) : Nat := if ph ≤ 1 then 1 else 3
def tagM : Nat → List Nat → Nat → Nat → Nat
  | _, [], _, best => best
  | ph, b :: t, a, best => if okc ph b then tagM (nph ph) t (a + 1) (a + 1) else if hyc ph ∧ b = 45 then tagM 2 t (a + 1) best else best
def tag (l : List Nat) : Nat := tagM 0 l 0 0
theorem tagM_ge : ∀ (l : List Nat) (ph a b : Nat), b ≤ a → b ≤ tagM ph l a b ∧ (tagM ph l a b = b ∨ a < tagM ph l a b) ∧ tagM ph l a b ≤ a + l.length
  | [], ph, a, b, h => ⟨Nat.le_refl _, .inl rfl, by simpa [tagM] using h⟩
  | c :: t, ph, a, b, h => by
    unfold tagM
    rw [List.length_cons]
    split
    · have := tagM_ge t (nph ph) (a + 1) (a + 1) (Nat.le_refl _)
      exact ⟨by omega, .inr (by omega), by omega⟩
    · split
      · have := tagM_ge t 2 (a + 1) b (by omega)
        exact ⟨this.1, this.2.1.imp id (by omega), by omega⟩
      · exact ⟨Nat.le_refl _, .inl rfl, by omega⟩
def ShutT (y : List Nat) : Prop := ∀ ph a b, tagM ph y a b = b
theorem shutT_nil : ShutT [] := fun _ _ _ => rfl
theorem okc_sp (ph : Nat) : okc ph 32 = false := by
  unfold okc
  (repeat' split) <;> decide
theorem shutT_sp (y : List Nat) : ShutT (32 :: y) := fun ph a b => by
  unfold tagM
  rw [okc_sp, if_neg (by decide), if_neg (by simp)]
theorem okc_hy (ph : Nat) : okc ph 45 = false := by
  unfold okc
  (repeat' split) <;> decide
theorem tagM_cut {y : List Nat} (hy : ShutT y) : ∀ (l : List Nat) (ph a b : Nat), b ≤ a → a < tagM ph l a b → tagM ph (l.take (tagM ph l a b - a) ++ y) a b = tagM ph l a b ∧ l.getD (tagM ph l a b - a - 1) 0 ≠ 45
  | [], ph, a, b, h, h2 => by simp [tagM] at h2; omega
  | c :: t, ph, a, b, h, h2 => by
    unfold tagM at h2
    by_cases h1 : okc ph c = true
    · rw [if_pos h1] at h2
      have e : tagM ph (c :: t) a b = tagM (nph ph) t (a + 1) (a + 1) := by conv => lhs; unfold tagM; rw [if_pos h1]
      rw [e]
      have hge := tagM_ge t (nph ph) (a + 1) (a + 1) (Nat.le_refl _)
      by_cases h3 : a + 1 < tagM (nph ph) t (a + 1) (a + 1)
      · obtain ⟨i1, i2⟩ := tagM_cut hy t (nph ph) (a + 1) (a + 1) (Nat.le_refl _) h3
        generalize tagM (nph ph) t (a + 1) (a + 1) = m at *
        obtain ⟨d, rfl⟩ : ∃ d, m = a + 1 + (d + 1) := ⟨m - a - 2, by omega⟩
        rw [show a + 1 + (d + 1) - (a + 1) = d + 1 by omega] at i1 i2
        rw [show a + 1 + (d + 1) - a = d + 1 + 1 by omega, List.take_succ_cons, List.cons_append]
        constructor
        · conv => lhs; unfold tagM; rw [if_pos h1]
          exact i1
        · simpa using i2
      · have hm : tagM (nph ph) t (a + 1) (a + 1) = a + 1 := by omega
        rw [hm, show a + 1 - a = 1 by omega]
        constructor
        · show tagM ph (c :: (t.take 0 ++ y)) a b = a + 1
          conv => lhs; unfold tagM; rw [if_pos h1]
          simpa using hy _ _ _
        · intro e2
          have : c = 45 := by simpa using e2
          subst this
          rw [okc_hy] at h1
          cases h1
    · rw [if_neg h1] at h2
      by_cases h3 : hyc ph = true ∧ c = 45
      · rw [if_pos h3] at h2
        have e : tagM ph (c :: t) a b = tagM 2 t (a + 1) b := by conv => lhs; unfold tagM; rw [if_neg h1, if_pos h3]
        rw [e]
        have hge := tagM_ge t 2 (a + 1) b (by omega)
        have h4 : a + 1 < tagM 2 t (a + 1) b := by omega
        obtain ⟨i1, i2⟩ := tagM_cut hy t 2 (a + 1) b (by omega) h4
        generalize tagM 2 t (a + 1) b = m at *
        obtain ⟨d, rfl⟩ : ∃ d, m = a + 1 + (d + 1) := ⟨m - a - 2, by omega⟩
        rw [show a + 1 + (d + 1) - (a + 1) = d + 1 by omega] at i1 i2
        rw [show a + 1 + (d + 1) - a = d + 1 + 1 by omega, List.take_succ_cons, List.cons_append]
        constructor
        · conv => lhs; unfold tagM; rw [if_neg h1, if_pos h3]
          exact i1
        · simpa using i2
      · rw [if_neg h3] at h2
        omega
theorem tagM_more (m : List Nat) : ∀ (l : List Nat) (ph a b : Nat), b ≤ a → tagM ph l a b ≤ tagM ph (l ++ m) a b
  | [], ph, a, b, h => (tagM_ge m ph a b h).1
  | c :: t, ph, a, b, h => by
    show tagM ph (c :: t) a b ≤ tagM ph (c :: (t ++ m)) a b
    unfold tagM
    split
    · exact tagM_more m t _ _ _ (Nat.le_refl _)
    · split
      · exact tagM_more m t _ _ _ (by omega)
      · exact Nat.le_refl _
theorem okc_let {ph b : Nat} (h : okc ph b = true) : b < 128 ∧ letZ (b : Int) = true ∧ opnZ (b : Int) = true := by
  unfold okc at h
  have key : ldZ (b : Int) = true := by
    (repeat' split at h)
    · exact lat_ld h
    · exact h
    · cases h
  have := ld_lt key
  exact ⟨by omega, opn_let (ld_opn key), ld_opn key⟩
theorem tag_lab : ∀ (l : List Nat) (ph a b b' : Nat), b ≤ b' → b' ≤ a → tagM ph l a b ≤ labW l a b'
  | [], ph, a, b, b', h, _ => by rw [shut_nil]; exact h
  | c :: t, ph, a, b, b', h, ha => by
    unfold tagM
    split
    · rename_i h1
      obtain ⟨h2, h3, _⟩ := okc_let h1
      have e := nxt_asc h2 t
      rw [labW_let (l := c :: t) (by rw [e]; simp) (by rw [e]; exact h3), e]
      exact tag_lab t _ _ _ _ (Nat.le_refl _) (Nat.le_refl _)
    · split
      · rename_i h1
        obtain ⟨_, rfl⟩ := h1
        have e := nxt_asc (b := 45) (by decide) t
        rw [labW_let (l := 45 :: t) (by rw [e]; decide) (by rw [e]; decide), e]
        exact tag_lab t _ _ _ _ (by omega) (Nat.le_refl _)
      · exact Nat.le_trans h (labW_ge _ (c :: t) a b' (Nat.le_refl _) ha).1
theorem tag_le_lab (l : List Nat) : tag l ≤ lab l := by
  unfold tag
  cases l with
  | nil => simp [tagM]
  | cons c t =>
    unfold tagM
    split
    · rename_i h1
      obtain ⟨h2, h3, h4⟩ := okc_let h1
      have e := nxt_asc h2 t
      unfold lab
      rw [e, if_pos ⟨by simp, h4⟩]
      exact tag_lab t _ _ _ _ (by simp) (by simp)
    · rw [if_neg (by simp [hyc])]
      omega
theorem tag_cut {l y : List Nat} (hy : ShutT y) : tag (l.take (tag l) ++ y) = tag l ∧ (tag l ≠ 0 → l.getD (tag l - 1) 0 ≠ 45) := by
  unfold tag
  have hge := tagM_ge l 0 0 0 (Nat.le_refl _)
  by_cases h : 0 < tagM 0 l 0 0
  · have := tagM_cut hy l 0 0 0 (Nat.le_refl _) h
    rw [Nat.sub_zero] at this
    exact ⟨this.1, fun _ => this.2⟩
  · have e : tagM 0 l 0 0 = 0 := by omega
    rw [e]
    exact ⟨by simpa using hy 0 0 0, fun h => absurd rfl h⟩
theorem tag_more (l m : List Nat) : tag l ≤ tag (l ++ m) := tagM_more m l 0 0 0 (Nat.le_refl _)
theorem tag_le (l : List Nat) : tag l ≤ l.length := by
  have := (tagM_ge l 0 0 0 (Nat.le_refl _)).2.2
  unfold tag
  omega
end Go.Proofs.YtbbclcllkpabkaaDoor.U
