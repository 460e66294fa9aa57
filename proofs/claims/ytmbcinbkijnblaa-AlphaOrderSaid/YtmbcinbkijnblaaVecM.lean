/- Plain mathematics of a row of bits in words: which word has which bits, how many ones stand below a place, where the one stands below which k ones stand. No program. -/
import Derived.Test.YtmbcinbkijnblaaPop
namespace Go.Proofs.Ytmbcinbkijnblaa.V1.Fen

theorem C_zero {c : Nat → Nat} {n : Nat} (h : ∀ i, i < n → c i = 0) : C c n = 0 := by
  induction n with
  | zero => rfl
  | succ n ih => simp only [C]; rw [ih (fun i hi => h i (by omega)), h n (by omega)]
theorem C_stop {c : Nat → Nat} {n m : Nat} (hm : n ≤ m) (h : ∀ i, n ≤ i → c i = 0) : C c m = C c n := by
  obtain ⟨k, rfl⟩ : ∃ k, m = n + k := ⟨m - n, by omega⟩
  have e : C (fun i => c (n + i)) k = 0 := C_zero fun i _ => h (n + i) (by omega)
  rw [C_split, e, Nat.add_zero]
theorem C_hit {c : Nat → Nat} (h1 : ∀ i, c i ≤ 1) {k n : Nat} (h : k < C c n) : ∃ p, p < n ∧ c p = 1 ∧ C c p = k := by
  induction n with
  | zero => simp [C] at h
  | succ n ih =>
    by_cases h2 : k < C c n
    · obtain ⟨p, a, b, d⟩ := ih h2
      exact ⟨p, by omega, b, d⟩
    · simp only [C] at h
      have := h1 n
      exact ⟨n, by omega, by omega, by omega⟩
theorem C_one {c : Nat → Nat} {p q : Nat} (hp : c p = 1) (hq : c q = 1) (h : C c p = C c q) : p = q := by
  rcases Nat.lt_trichotomy p q with a | a | a
  · have := C_mono c (show p + 1 ≤ q by omega)
    simp only [C] at this; omega
  · exact a
  · have := C_mono c (show q + 1 ≤ p by omega)
    simp only [C] at this; omega

/-! A row of bits. -/
def cf (f : Nat → Bool) (i : Nat) : Nat := if f i then 1 else 0
theorem cf_le (f : Nat → Bool) (i : Nat) : cf f i ≤ 1 := by unfold cf; split <;> omega
theorem cf_one {f : Nat → Bool} {i : Nat} : cf f i = 1 ↔ f i = true := by unfold cf; split <;> simp_all
def wsum (f : Nat → Bool) (j : Nat) : Nat → Nat
  | 0 => 0
  | k + 1 => wsum f j k + if f (64 * j + k) then 2 ^ k else 0
def wordOf (f : Nat → Bool) (j : Nat) : Nat := wsum f j 64

theorem wsum_lt (f : Nat → Bool) (j k : Nat) : wsum f j k < 2 ^ k := by
  induction k with
  | zero => simp [wsum]
  | succ k ih => simp only [wsum]; rw [Nat.pow_succ]; split <;> omega
theorem wordOf_lt (f : Nat → Bool) (j : Nat) : wordOf f j < 18446744073709551616 := wsum_lt f j 64
theorem testBit_wsum (f : Nat → Bool) (j k i : Nat) : (wsum f j k).testBit i = (decide (i < k) && f (64 * j + i)) := by
  induction k with
  | zero => simp [wsum]
  | succ k ih =>
    have e : wsum f j (k + 1) = 2 ^ k * (if f (64 * j + k) then 1 else 0) + wsum f j k := by
      simp only [wsum]; split <;> omega
    rw [e, Nat.testBit_two_pow_mul_add _ (wsum_lt f j k)]
    by_cases h : i < k
    · rw [if_pos h, ih]
      have h1 : i < k + 1 := by omega
      simp [h, h1]
    · rw [if_neg h]
      by_cases h2 : i = k
      · subst h2
        simp
        split <;> simp_all
      · have h3 : ¬ i < k + 1 := by omega
        have h4 : (if f (64 * j + k) = true then 1 else 0 : Nat) < 2 ^ (i - k) := by
          have := Nat.one_lt_two_pow (n := i - k) (by omega)
          split <;> omega
        rw [Nat.testBit_lt_two_pow h4]
        simp [h3]
theorem testBit_wordOf (f : Nat → Bool) (j i : Nat) : (wordOf f j).testBit i = (decide (i < 64) && f (64 * j + i)) := testBit_wsum f j 64 i
theorem bitN_wordOf (f : Nat → Bool) (j i : Nat) (h : i < 64) : bitN (wordOf f j) i = cf f (64 * j + i) := by
  unfold bitN cf; rw [testBit_wordOf]; simp [h]
theorem pc_wordOf (f : Nat → Bool) (j : Nat) : pc (wordOf f j) = C (fun k => cf f (64 * j + k)) 64 := C_ext fun i hi => bitN_wordOf f j i hi
def pw (f : Nat → Bool) (j : Nat) : Nat := pc (wordOf f j)
theorem C_words (f : Nat → Bool) (m : Nat) : C (cf f) (64 * m) = C (pw f) m := by
  rw [C_parts]; exact C_ext fun i _ => (pc_wordOf f i).symm
def blk (f : Nat → Bool) (b : Nat) : Nat := C (fun j => pw f (8 * b + j)) 8
theorem C_blocks (f : Nat → Bool) (m : Nat) : C (blk f) m = C (pw f) (8 * m) := (C_parts (pw f) 8 m).symm
theorem C_blk (f : Nat → Bool) (m : Nat) : C (blk f) m = C (cf f) (512 * m) := by
  rw [C_blocks, ← C_words, ← Nat.mul_assoc]
theorem pw_le (f : Nat → Bool) (j : Nat) : pw f j ≤ 64 := pc_le _
theorem C_bound {c : Nat → Nat} {d : Nat} (h : ∀ i, c i ≤ d) (n : Nat) : C c n ≤ d * n := by
  induction n with
  | zero => simp [C]
  | succ n ih => simp only [C]; have := h n; rw [Nat.mul_succ]; omega
theorem blk_le (f : Nat → Bool) (b : Nat) : blk f b ≤ 512 := C_bound (d := 64) (fun _ => pw_le f _) 8

theorem rank_split (f : Nat → Bool) (i : Nat) : C (cf f) i = C (pw f) (i / 64) + C (bitN (wordOf f (i / 64))) (i % 64) := by
  have e : i = 64 * (i / 64) + i % 64 := by omega
  conv => lhs; rw [e]
  rw [C_split, C_words]
  congr 1
  exact C_ext fun k hk => (bitN_wordOf f _ k (by omega)).symm

theorem pc_mask (x m : Nat) (hm : m ≤ 64) : pc (x &&& (2 ^ m - 1)) = C (bitN x) m := by
  unfold pc
  rw [C_stop (n := m) hm (fun i hi => by unfold bitN; rw [Nat.testBit_and, Nat.testBit_two_pow_sub_one]; simp; omega)]
  exact C_ext fun i hi => by unfold bitN; rw [Nat.testBit_and, Nat.testBit_two_pow_sub_one]; simp [hi]

/-! The lowest one away. -/
theorem testBit_clear (t m p : Nat) : (2 ^ t * (2 * m + 1) &&& (2 ^ t * (2 * m + 1) - 1)).testBit p = ((2 ^ t * (2 * m + 1)).testBit p && decide (p ≠ t)) := by
  have hp : 0 < 2 ^ t := Nat.two_pow_pos t
  have e1 : 2 ^ t * (2 * m + 1) - 1 = 2 ^ t * (2 * m) + (2 ^ t - 1) := by rw [Nat.mul_succ]; omega
  rw [Nat.testBit_and, e1, Nat.testBit_two_pow_mul_add _ (by omega), Nat.testBit_two_pow_mul, Nat.testBit_two_pow_sub_one]
  by_cases h1 : p < t
  · have h2 : ¬ p ≥ t := by omega
    simp [h1, h2]
  · have h2 : p ≥ t := by omega
    rw [if_neg h1]
    by_cases h3 : p = t
    · subst h3; simp
    · obtain ⟨q, hq⟩ : ∃ q, p - t = q + 1 := ⟨p - t - 1, by omega⟩
      have h4 : (2 * m + 1) / 2 = m := by omega
      have h5 : 2 * m / 2 = m := by omega
      rw [hq]; simp [h3, Nat.testBit_succ, h4, h5]

theorem ctz_bits (x : Nat) (h0 : x ≠ 0) (h : x < 18446744073709551616) : Lib.ctz 64 x < 64 ∧ x.testBit (Lib.ctz 64 x) = true ∧ (∀ p, p < Lib.ctz 64 x → x.testBit p = false) ∧
    ∀ p, (x &&& (x - 1)).testBit p = (x.testBit p && decide (p ≠ Lib.ctz 64 x)) := by
  obtain ⟨m, hm, hk⟩ := Lib.ctzFrom_spec 64 x (by omega) (by omega)
  have e : Lib.ctz 64 x = Lib.ctzFrom 64 x := by simp [Lib.ctz, h0]
  rw [e]
  generalize Lib.ctzFrom 64 x = t at hm hk
  refine ⟨hk, ?_, fun p hp => ?_, fun p => ?_⟩
  · rw [hm, Nat.testBit_two_pow_mul]; simp
  · rw [hm, Nat.testBit_two_pow_mul]; simp; omega
  · have := testBit_clear t m p
    rwa [← hm] at this

/-- What is left when k lowest ones are away. -/
def Left (x k y : Nat) : Prop := y < 18446744073709551616 ∧ ∀ p, y.testBit p = (x.testBit p && decide (k ≤ C (bitN x) p))
theorem Left.zero (x : Nat) (h : x < 18446744073709551616) : Left x 0 x := ⟨h, fun p => by simp⟩
theorem bitN_one {x p : Nat} : bitN x p = 1 ↔ x.testBit p = true := by unfold bitN; split <;> simp_all
theorem Left.low {x k y : Nat} (h : Left x k y) (hk : k < pc x) : y ≠ 0 ∧ C (bitN x) (Lib.ctz 64 y) = k ∧ x.testBit (Lib.ctz 64 y) = true ∧ Lib.ctz 64 y < 64 ∧ Left x (k + 1) (y &&& (y - 1)) := by
  obtain ⟨hy, hb⟩ := h
  obtain ⟨p, hp, h1, h2⟩ := C_hit (bitN_le x) hk
  have hyp : y.testBit p = true := by rw [hb, bitN_one.1 h1, h2]; simp
  have h0 : y ≠ 0 := by rintro rfl; simp at hyp
  obtain ⟨c1, c2, c3, c4⟩ := ctz_bits y h0 hy
  generalize Lib.ctz 64 y = t at c1 c2 c3 c4
  have ht : p = t := by
    have hxt := c2
    rw [hb] at hxt
    simp only [Bool.and_eq_true, decide_eq_true_eq] at hxt
    rcases Nat.lt_trichotomy p t with a | a | a
    · rw [c3 p a] at hyp; cases hyp
    · exact a
    · have := C_mono (bitN x) (show t + 1 ≤ p by omega)
      simp only [C] at this
      rw [bitN_one.2 hxt.1] at this
      omega
  subst ht
  refine ⟨h0, h2, bitN_one.1 h1, c1, ?_, fun q => ?_⟩
  · exact Nat.lt_of_le_of_lt Nat.and_le_left hy
  · rw [c4, hb]
    by_cases hxq : x.testBit q = true
    · rw [hxq]
      simp only [Bool.true_and]
      rw [Bool.eq_iff_iff]
      simp only [Bool.and_eq_true, decide_eq_true_eq]
      constructor
      · rintro ⟨a, b⟩
        rcases Nat.lt_or_ge k (C (bitN x) q) with d | d
        · omega
        · exact absurd (C_one (bitN_one.2 hxq) h1 (by omega)) b
      · intro a
        exact ⟨by omega, by rintro rfl; omega⟩
    · simp at hxq
      rw [hxq]; simp

/-! Places. -/
theorem place_of (f : Nat → Bool) (w p k : Nat) (hp : p < 64) (h : (wordOf f w).testBit p = true) (hk : C (pw f) w + C (bitN (wordOf f w)) p = k) : f (64 * w + p) = true ∧ C (cf f) (64 * w + p) = k := by
  rw [testBit_wordOf] at h
  simp [hp] at h
  refine ⟨h, ?_⟩
  rw [rank_split, show (64 * w + p) / 64 = w by omega, show (64 * w + p) % 64 = p by omega]
  exact hk

/-! How the block is found that holds the one below which k ones stand. -/
def Inv (c : Nat → Nat) (k S B x st : Nat) : Prop :=
  ∃ m q, st = 2 ^ m / 2 ∧ B = 2 ^ m * q ∧ B < S ∧ x + C c B = k ∧ (S ≤ B + 2 ^ m ∨ k < C c (B + 2 ^ m))
theorem Inv.begin {c : Nat → Nat} {k S L : Nat} (h : S ≤ 2 ^ (L + 1)) (h0 : 0 < S) : Inv c k S 0 k (2 ^ L) :=
  ⟨L + 1, 0, by rw [Nat.pow_succ]; omega, by simp, h0, by simp [C], .inl (by omega)⟩
theorem Inv.lt {c : Nat → Nat} {k S B x st : Nat} (h : Inv c k S B x st) : B < S ∧ x ≤ k := by
  obtain ⟨m, q, _, _, h3, h4, _⟩ := h
  exact ⟨h3, by omega⟩
theorem Inv.up {c : Nat → Nat} {k S B x st : Nat} (h : Inv c k S B x st) (hst : 0 < st) :
    fen c (B + st) = C c (B + st) - C c B ∧ (B + st < S → fen c (B + st) ≤ x → Inv c k S (B + st) (x - fen c (B + st)) (st / 2)) ∧ ((S ≤ B + st ∨ x < fen c (B + st)) → Inv c k S B x (st / 2)) := by
  obtain ⟨m, q, h1, h2, h3, h4, h5⟩ := h
  obtain ⟨m, rfl⟩ : ∃ j, m = j + 1 := by
    cases m with
    | zero => simp at h1; omega
    | succ m => exact ⟨m, rfl⟩
  have e2 : 2 ^ (m + 1) = 2 * 2 ^ m := by rw [Nat.pow_succ]; omega
  have es : st = 2 ^ m := by omega
  have eB : B = 2 ^ m * (2 * q) := by rw [h2, Nat.pow_succ, Nat.mul_assoc]
  have en : B + st = 2 ^ m * (2 * q + 1) := by rw [eB, es, Nat.mul_succ]
  have el : lb (B + st) = st := by rw [en, lb_step, es]
  have ef : fen c (B + st) = C c (B + st) - C c B := by
    unfold fen; rw [el, show B + st - st = B by omega]
  have hmono := C_mono c (show B ≤ B + st by omega)
  refine ⟨ef, fun a b => ?_, fun a => ?_⟩
  · refine ⟨m, 2 * q + 1, by omega, en, a, by omega, ?_⟩
    rw [show B + st + 2 ^ m = B + 2 ^ (m + 1) by omega]
    exact h5
  · refine ⟨m, 2 * q, by omega, eB, h3, h4, ?_⟩
    rw [← es]
    rcases a with a | a
    · exact .inl a
    · exact .inr (by omega)
theorem Inv.done {c : Nat → Nat} {k S B x : Nat} (h : Inv c k (S + 1) B x 0) (hk : k < C c S) : B < S ∧ x + C c B = k ∧ k < C c (B + 1) := by
  obtain ⟨m, q, h1, h2, h3, h4, h5⟩ := h
  obtain rfl : m = 0 := by
    cases m with
    | zero => rfl
    | succ m => rw [Nat.pow_succ] at h1; have := Nat.two_pow_pos m; omega
  have hB : B < S := by
    rcases Nat.lt_or_ge B S with a | a
    · exact a
    · have := C_mono c a; omega
  refine ⟨hB, h4, ?_⟩
  rcases h5 with a | a
  · simp at a; omega
  · exact a

end Go.Proofs.Ytmbcinbkijnblaa.V1.Fen
