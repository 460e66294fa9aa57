/- Plain mathematics of a row of bits: the number that some bits in a row are; numbers of one width side by side. No program. -/
import Derived.WalkKit
import Derived.Lib.ItoaNum
namespace Go.Proofs.YtbbclcllkpabkaaDoor.Bit

/-- The number of the m bits from a on, the lowest first. -/
def ofB (f : Nat → Bool) (a : Nat) : Nat → Nat
  | 0 => 0
  | k + 1 => ofB f a k + if f (a + k) then 2 ^ k else 0
theorem ofB_lt (f : Nat → Bool) (a k : Nat) : ofB f a k < 2 ^ k := by
  induction k with
  | zero => simp [ofB]
  | succ k ih => simp only [ofB]; rw [Nat.pow_succ]; split <;> omega
theorem testBit_ofB (f : Nat → Bool) (a k i : Nat) : (ofB f a k).testBit i = (decide (i < k) && f (a + i)) := by
  induction k with
  | zero => simp [ofB]
  | succ k ih =>
    have e : ofB f a (k + 1) = 2 ^ k * (if f (a + k) then 1 else 0) + ofB f a k := by
      simp only [ofB]; split <;> omega
    rw [e, Nat.testBit_two_pow_mul_add _ (ofB_lt f a k)]
    by_cases h : i < k
    · rw [if_pos h, ih]
      have h1 : i < k + 1 := by omega
      simp [h, h1]
    · rw [if_neg h]
      by_cases h2 : i = k
      · subst h2
        simp
        split <;> simp_all
      · have h3 : ¬ i < k + 1 := by omega
        have h4 : (if f (a + k) = true then 1 else 0 : Nat) < 2 ^ (i - k) := by
          have := Nat.one_lt_two_pow (n := i - k) (by omega)
          split <;> omega
        rw [Nat.testBit_lt_two_pow h4]
        simp [h3]
theorem ofB_ext {f g : Nat → Bool} {a b k : Nat} (h : ∀ i, i < k → f (a + i) = g (b + i)) : ofB f a k = ofB g b k := by
  apply Nat.eq_of_testBit_eq
  intro i
  rw [testBit_ofB, testBit_ofB]
  by_cases hi : i < k
  · rw [h i hi]
  · simp [hi]
theorem ofB_of {f : Nat → Bool} {a k x : Nat} (hx : x < 2 ^ k) (h : ∀ i, i < k → f (a + i) = x.testBit i) : ofB f a k = x := by
  apply Nat.eq_of_testBit_eq
  intro i
  rw [testBit_ofB]
  by_cases hi : i < k
  · rw [h i hi]; simp [hi]
  · have : x < 2 ^ i := Nat.lt_of_lt_of_le hx (Nat.pow_le_pow_right (by decide) (by omega))
    rw [Nat.testBit_lt_two_pow this]
    simp [hi]

def word (f : Nat → Bool) (j : Nat) : Nat := ofB f (64 * j) 64
def byt (f : Nat → Bool) (j : Nat) : Nat := ofB f (8 * j) 8
def dig (f : Nat → Bool) (w k : Nat) : Nat := ofB f (w * k) w
theorem word_lt (f : Nat → Bool) (j : Nat) : word f j < 18446744073709551616 := ofB_lt f _ 64
theorem byt_lt (f : Nat → Bool) (j : Nat) : byt f j < 256 := ofB_lt f _ 8
theorem dig_lt (f : Nat → Bool) (w k : Nat) : dig f w k < 2 ^ w := ofB_lt f _ w
theorem testBit_word (f : Nat → Bool) (j i : Nat) : (word f j).testBit i = (decide (i < 64) && f (64 * j + i)) := testBit_ofB f _ 64 i
theorem testBit_byt (f : Nat → Bool) (j i : Nat) : (byt f j).testBit i = (decide (i < 8) && f (8 * j + i)) := testBit_ofB f _ 8 i
theorem testBit_dig (f : Nat → Bool) (w k i : Nat) : (dig f w k).testBit i = (decide (i < w) && f (w * k + i)) := testBit_ofB f _ w i
theorem word_none (j : Nat) : word (fun _ => false) j = 0 := by
  apply Nat.eq_of_testBit_eq
  intro i
  rw [testBit_word]; simp
theorem word_far {f : Nat → Bool} {m j : Nat} (hf : ∀ i, m ≤ i → f i = false) (h : m ≤ 64 * j) : word f j = 0 := by
  apply Nat.eq_of_testBit_eq
  intro i
  rw [testBit_word, hf _ (by omega)]; simp

/-- A number laid at a place. -/
def orAt (f : Nat → Bool) (at_ x : Nat) (i : Nat) : Bool := f i || (decide (at_ ≤ i) && x.testBit (i - at_))
theorem word_or_lo (f : Nat → Bool) (a x : Nat) : word (orAt f a x) (a / 64) = word f (a / 64) ||| x * 2 ^ (a % 64) % 2 ^ 64 := by
  apply Nat.eq_of_testBit_eq
  intro i
  rw [Nat.testBit_or, testBit_word, testBit_word, Nat.testBit_mod_two_pow, Nat.mul_comm x, Nat.testBit_two_pow_mul]
  unfold orAt
  by_cases hi : i < 64
  · have e1 : decide (a ≤ 64 * (a / 64) + i) = decide (i ≥ a % 64) := by rw [decide_eq_decide]; omega
    have e2 : 64 * (a / 64) + i - a = i - a % 64 := by omega
    rw [e1, e2]; simp [hi]
  · simp [hi]
theorem word_or_hi (f : Nat → Bool) (a x : Nat) : word (orAt f a x) (a / 64 + 1) = word f (a / 64 + 1) ||| x / 2 ^ (64 - a % 64) % 2 ^ 64 := by
  apply Nat.eq_of_testBit_eq
  intro i
  rw [Nat.testBit_or, testBit_word, testBit_word, Nat.testBit_mod_two_pow, Nat.testBit_div_two_pow]
  unfold orAt
  by_cases hi : i < 64
  · have e1 : decide (a ≤ 64 * (a / 64 + 1) + i) = true := by rw [decide_eq_true_eq]; omega
    have e2 : 64 * (a / 64 + 1) + i - a = i + (64 - a % 64) := by omega
    rw [e1, e2]; simp [hi]
  · simp [hi]
theorem word_or_far (f : Nat → Bool) {a x j : Nat} (hx : x < 2 ^ 64) (h1 : j ≠ a / 64) (h2 : j ≠ a / 64 + 1) : word (orAt f a x) j = word f j := by
  apply Nat.eq_of_testBit_eq
  intro i
  rw [testBit_word, testBit_word]
  unfold orAt
  by_cases hi : i < 64
  · by_cases hj : j < a / 64
    · have : ¬ a ≤ 64 * j + i := by omega
      simp [this]
    · have : x < 2 ^ (64 * j + i - a) := Nat.lt_of_lt_of_le hx (Nat.pow_le_pow_right (by decide) (by omega))
      rw [Nat.testBit_lt_two_pow this]; simp
  · simp [hi]
/-- A number's digits, taken out of one word, or out of two. -/
theorem take_one (f : Nat → Bool) (a w : Nat) (h : a % 64 + w ≤ 64) : (word f (a / 64) / 2 ^ (a % 64)) &&& (2 ^ w - 1) = ofB f a w := by
  apply Nat.eq_of_testBit_eq
  intro i
  rw [Nat.testBit_and, Nat.testBit_two_pow_sub_one, Nat.testBit_div_two_pow, testBit_word, testBit_ofB]
  by_cases hi : i < w
  · have h1 : i + a % 64 < 64 := by omega
    rw [show 64 * (a / 64) + (i + a % 64) = a + i by omega]; simp [hi, h1]
  · simp [hi]
theorem take_two (f : Nat → Bool) (a w : Nat) (hw : w ≤ 64) : ((word f (a / 64) / 2 ^ (a % 64)) ||| (word f (a / 64 + 1) * 2 ^ (64 - a % 64)) % 2 ^ 64) &&& (2 ^ w - 1) = ofB f a w := by
  apply Nat.eq_of_testBit_eq
  intro i
  rw [Nat.testBit_and, Nat.testBit_two_pow_sub_one, Nat.testBit_or, Nat.testBit_mod_two_pow, Nat.mul_comm (word f _), Nat.testBit_two_pow_mul, Nat.testBit_div_two_pow, testBit_word, testBit_word, testBit_ofB]
  by_cases hi : i < w
  · by_cases h1 : i + a % 64 < 64
    · have h2 : ¬ i ≥ 64 - a % 64 := by omega
      rw [show 64 * (a / 64) + (i + a % 64) = a + i by omega]; simp [hi, h1, h2]
    · have h2 : i ≥ 64 - a % 64 := by omega
      have h3 : i - (64 - a % 64) < 64 := by omega
      have h4 : i < 64 := by omega
      rw [show 64 * (a / 64 + 1) + (i - (64 - a % 64)) = a + i by omega]; simp [hi, h1, h2, h3, h4]
  · simp [hi]
theorem byt_of_word (f : Nat → Bool) (k : Nat) : word f (k / 8) / 2 ^ (k % 8 * 8) % 256 = byt f k := by
  apply Nat.eq_of_testBit_eq
  intro i
  rw [show (256 : Nat) = 2 ^ 8 by rfl, Nat.testBit_mod_two_pow, Nat.testBit_div_two_pow, testBit_word, testBit_byt]
  by_cases hi : i < 8
  · have h1 : i + k % 8 * 8 < 64 := by omega
    rw [show 64 * (k / 8) + (i + k % 8 * 8) = 8 * k + i by omega]; simp [hi, h1]
  · simp [hi]

/-- Numbers of one width, side by side: the first k of them. -/
def fS (w : Nat) (l : Nat → Nat) (k i : Nat) : Bool := decide (i < w * k) && (l (i / w)).testBit (i % w)
theorem fS_zero (w : Nat) (l : Nat → Nat) : fS w l 0 = fun _ => false := by funext i; simp [fS]
theorem fS_far {w : Nat} {l : Nat → Nat} {k i : Nat} (h : w * k ≤ i) : fS w l k i = false := by
  have : ¬ i < w * k := by omega
  simp [fS, this]
theorem mul_div_mod (w k i : Nat) (hi : i < w) : (w * k + i) / w = k ∧ (w * k + i) % w = i := by
  constructor
  · rw [Nat.mul_add_div (by omega), Nat.div_eq_of_lt hi]; rfl
  · rw [Nat.mul_add_mod, Nat.mod_eq_of_lt hi]
theorem fS_step {w : Nat} {l : Nat → Nat} {k : Nat} (hw : 1 ≤ w) (h : l k < 2 ^ w) : fS w l (k + 1) = orAt (fS w l k) (w * k) (l k) := by
  funext i
  unfold fS orAt
  by_cases h1 : i < w * k
  · have h2 : i < w * (k + 1) := by rw [Nat.mul_succ]; omega
    have h3 : ¬ w * k ≤ i := by omega
    simp [h1, h2, h3]
  · have h3 : w * k ≤ i := by omega
    by_cases h2 : i < w * (k + 1)
    · obtain ⟨d, hd⟩ : ∃ d, i = w * k + d := ⟨i - w * k, by omega⟩
      subst hd
      have hdw : d < w := by rw [Nat.mul_succ] at h2; omega
      obtain ⟨e1, e2⟩ := mul_div_mod w k d hdw
      rw [e1, e2, show w * k + d - w * k = d by omega]
      simp [h2]
      exact fun hh => absurd hh h1
    · have h4 : l k < 2 ^ (i - w * k) := Nat.lt_of_lt_of_le h (Nat.pow_le_pow_right (by decide) (by rw [Nat.mul_succ] at h2; omega))
      rw [Nat.testBit_lt_two_pow h4]
      simp [h1, h2]
theorem dig_fS {w : Nat} {l : Nat → Nat} {n k : Nat} (hk : k < n) (h : l k < 2 ^ w) : dig (fS w l n) w k = l k := by
  refine ofB_of h fun i hi => ?_
  obtain ⟨e1, e2⟩ := mul_div_mod w k i hi
  have h1 : w * (k + 1) ≤ w * n := Nat.mul_le_mul_left w hk
  have h2 : w * k + i < w * n := by rw [Nat.mul_succ] at h1; omega
  unfold fS
  rw [e1, e2]; simp [h2]
/-- Bits are those of their numbers. -/
theorem fS_dig {w : Nat} {f : Nat → Bool} {n : Nat} (hw : 1 ≤ w) (hf : ∀ i, w * n ≤ i → f i = false) : fS w (dig f w) n = f := by
  funext i
  unfold fS
  by_cases h : i < w * n
  · rw [testBit_dig]
    have h1 : i % w < w := Nat.mod_lt _ (by omega)
    rw [Nat.div_add_mod]; simp [h, h1]
  · rw [hf i (by omega)]; simp [h]

/-! How many digits. -/
def len1 (x : Nat) : Nat := max 1 (Lib.bitLen x)
theorem bitLen_lt (x : Nat) (h : x < 2 ^ 64) : x < 2 ^ Lib.bitLen x := by
  by_cases h0 : x = 0
  · subst h0; exact Nat.two_pow_pos _
  · exact (Lib.bitLenAux_bounds 64 x h h0).2.2
theorem len1_lt (x : Nat) (h : x < 2 ^ 64) : x < 2 ^ len1 x := by
  refine Nat.lt_of_lt_of_le (bitLen_lt x h) (Nat.pow_le_pow_right (by decide) ?_)
  unfold len1; omega
theorem len1_le {x k : Nat} (h1 : 1 ≤ k) (hk : k ≤ 64) (h : x < 2 ^ k) : len1 x ≤ k := by
  have := Lib.bitLen_le x k hk h
  unfold len1; omega
theorem len1_iff {x k : Nat} (h1 : 1 ≤ k) (hk : k ≤ 64) (h : x < 2 ^ 64) : len1 x ≤ k ↔ x < 2 ^ k :=
  ⟨fun hl => Nat.lt_of_lt_of_le (len1_lt x h) (Nat.pow_le_pow_right (by decide) hl), len1_le h1 hk⟩
theorem len1_pos (x : Nat) : 1 ≤ len1 x := by unfold len1; omega
theorem len1_small {x : Nat} (h : x ≤ 1) : len1 x = 1 := by
  have := len1_le (x := x) (k := 1) (by omega) (by omega) (by omega)
  have := len1_pos x
  omega
theorem len1_half {x : Nat} (h : 1 < x) (h64 : x < 2 ^ 64) : len1 x = len1 (x / 2) + 1 := by
  have h1 := Lib.bitLen_half x (by omega) h64
  have h2 : 1 ≤ Lib.bitLen (x / 2) := (Lib.bitLenAux_bounds 64 (x / 2) (by omega) (by omega)).1
  unfold len1; omega
/-- Numbers that may be in a row of that width. -/
def good (w : Nat) (z : Int) : Bool := decide (0 ≤ z) && decide (z < 2 ^ w)
theorem good_nat {w : Nat} {z : Int} : good w z = true ↔ 0 ≤ z ∧ z.toNat < 2 ^ w := by
  have e : ((2 ^ w : Nat) : Int) = (2 : Int) ^ w := by simp
  unfold good
  rw [Bool.and_eq_true, decide_eq_true_eq, decide_eq_true_eq, ← e]
  omega
theorem good_mono {v w : Nat} {z : Int} (h : v ≤ w) (hg : good v z = true) : good w z = true := by
  rw [good_nat] at hg ⊢
  exact ⟨hg.1, Nat.lt_of_lt_of_le hg.2 (Nat.pow_le_pow_right (by decide) h)⟩
def wid (zs : List Int) : Nat := zs.foldl (fun m z => max m (len1 z.toNat)) 1
theorem foldl_max_le (g : Int → Nat) (zs : List Int) (m : Nat) : m ≤ zs.foldl (fun m z => max m (g z)) m := by
  induction zs generalizing m with
  | nil => simp
  | cons z zs ih => simp only [List.foldl_cons]; have := ih (max m (g z)); omega
theorem foldl_max_mem (g : Int → Nat) (zs : List Int) (m : Nat) {z : Int} (h : z ∈ zs) : g z ≤ zs.foldl (fun m z => max m (g z)) m := by
  induction zs generalizing m with
  | nil => cases h
  | cons y zs ih =>
    simp only [List.foldl_cons]
    rcases List.mem_cons.1 h with rfl | h
    · have := foldl_max_le g zs (max m (g z)); omega
    · exact ih _ h
theorem foldl_max_bound (g : Int → Nat) (zs : List Int) (m k : Nat) (hm : m ≤ k) (h : ∀ z ∈ zs, g z ≤ k) : zs.foldl (fun m z => max m (g z)) m ≤ k := by
  induction zs generalizing m with
  | nil => simpa
  | cons y zs ih =>
    simp only [List.foldl_cons]
    exact ih _ (by have := h y (by simp); omega) fun z hz => h z (by simp [hz])
theorem foldl_max_hit (g : Int → Nat) (zs : List Int) (m : Nat) : zs.foldl (fun m z => max m (g z)) m = m ∨ ∃ z ∈ zs, zs.foldl (fun m z => max m (g z)) m = g z := by
  induction zs generalizing m with
  | nil => exact .inl rfl
  | cons y zs ih =>
    simp only [List.foldl_cons]
    rcases ih (max m (g y)) with h | ⟨z, hz, h⟩
    · by_cases hm : g y ≤ m
      · exact .inl (by rw [h]; omega)
      · exact .inr ⟨y, by simp, by rw [h]; omega⟩
    · exact .inr ⟨z, by simp [hz], h⟩
theorem wid_pos (zs : List Int) : 1 ≤ wid zs := foldl_max_le _ zs 1
theorem wid_le {zs : List Int} {k : Nat} (h1 : 1 ≤ k) (hk : k ≤ 64) (h : ∀ z ∈ zs, good k z = true) : wid zs ≤ k :=
  foldl_max_bound _ zs 1 k h1 fun z hz => len1_le h1 hk (good_nat.1 (h z hz)).2
theorem wid_good {zs : List Int} {k : Nat} (hk : k ≤ 64) (h : ∀ z ∈ zs, good k z = true) : ∀ z ∈ zs, good (wid zs) z = true := fun z hz => by
  have h1 := good_nat.1 (h z hz)
  have h2 : z.toNat < 2 ^ 64 := Nat.lt_of_lt_of_le h1.2 (Nat.pow_le_pow_right (by decide) hk)
  exact good_nat.2 ⟨h1.1, Nat.lt_of_lt_of_le (len1_lt _ h2) (Nat.pow_le_pow_right (by decide) (foldl_max_mem (fun z => len1 z.toNat) zs 1 hz))⟩
/-- Is there a row of that width? Just if the least width is at most that. -/
theorem wid_iff {zs : List Int} {k : Nat} (h1 : 1 ≤ k) (hk : k ≤ 60) (h : ∀ z ∈ zs, good 60 z = true) : (∀ z ∈ zs, good k z = true) ↔ wid zs ≤ k :=
  ⟨fun hg => wid_le h1 (by omega) hg, fun hw z hz => good_mono hw (wid_good (by omega) h z hz)⟩
theorem wid_snoc (zs : List Int) (z : Int) : wid (zs ++ [z]) = max (wid zs) (len1 z.toNat) := by
  unfold wid; rw [List.foldl_append]; rfl

end Go.Proofs.YtbbclcllkpabkaaDoor.Bit
