/- Plain mathematics of bits read again, of the order of numbers and of gammas. No program. -/
import Derived.Test.YtgdfiopdkidhfaaFl7
import Derived.Test.YtgdfiopdkidhfaaFr2
namespace Go.Proofs.Ytgdfiopdkidhfaa
open Go.RowKit

/-! Order. -/
def lessS : List Bool → List Bool → Bool
  | x :: xs, y :: ys => if x = y then lessS xs ys else y
  | _, _ => false
theorem num_fold : ∀ (l : List Bool) (a : Nat), l.foldl (fun a b => 2 * a + b.toNat) a = a * 2 ^ l.length + num l
  | [], a => by simp [num]
  | b :: l, a => by
    have h1 := num_fold l (2 * a + b.toNat)
    have h2 := num_fold l (2 * 0 + b.toNat)
    have e : num (b :: l) = l.foldl (fun a b => 2 * a + b.toNat) (2 * 0 + b.toNat) := rfl
    rw [e, h2, List.foldl_cons, h1, List.length_cons, Nat.pow_succ]
    generalize 2 ^ l.length = p
    rw [Nat.add_mul, Nat.mul_zero, Nat.zero_add, ← Nat.add_assoc, Nat.mul_comm 2 a, Nat.mul_assoc, Nat.mul_comm 2 p]
theorem num_cons (b : Bool) (l : List Bool) : num (b :: l) = b.toNat * 2 ^ l.length + num l := by
  have e : num (b :: l) = l.foldl (fun a b => 2 * a + b.toNat) (2 * 0 + b.toNat) := rfl
  rw [e, num_fold]; simp
theorem lessS_num : ∀ (xs ys : List Bool), xs.length = ys.length → lessS xs ys = decide (num xs < num ys)
  | [], [], _ => by simp [lessS]
  | x :: xs, y :: ys, h => by
    have hl : xs.length = ys.length := by simpa using h
    have h1 := num_lt xs
    have h2 := num_lt ys
    rw [hl] at h1
    rw [num_cons, num_cons, hl, lessS, lessS_num xs ys hl]
    cases x <;> cases y
    · simp
    · simp; omega
    · simp; omega
    · simp
  | [], _ :: _, h => by simp at h
  | _ :: _, [], h => by simp at h
theorem lessS_step {xs ys : List Bool} {k : Nat} (h1 : k < xs.length) (h2 : k < ys.length) : lessS (xs.drop k) (ys.drop k) = if bf xs k = bf ys k then lessS (xs.drop (k + 1)) (ys.drop (k + 1)) else bf ys k := by
  rw [List.drop_eq_getElem_cons h1, List.drop_eq_getElem_cons h2]
  simp [lessS, bf, List.getD, h1, h2]
theorem lessS_end {xs ys : List Bool} {k : Nat} (h : xs.length ≤ k ∨ ys.length ≤ k) : lessS (xs.drop k) (ys.drop k) = false := by
  rcases h with h | h
  · rw [List.drop_eq_nil_of_le h]
    cases ys.drop k <;> rfl
  · rw [List.drop_eq_nil_of_le h]
    cases xs.drop k <;> rfl

/-! A gamma's noughts. -/
theorem nd_low {n : Nat} (h : 0 < n) (h2 : n < 18446744073709551616) : 2 ^ (nd n - 1) ≤ n := by
  have := (Lib.bitLenAux_bounds 64 n (by omega) (by omega)).2
  exact this.1
theorem nd_bit {n : Nat} (h : 0 < n) (h2 : n < 18446744073709551616) : n.testBit (nd n - 1) = true := by
  have h1 := nd_low h h2
  have h3 := nd_lt n h2
  have h4 := nd_pos h h2
  rw [Nat.testBit_eq_decide_div_mod_eq, decide_eq_true_eq]
  have e : 2 ^ nd n = 2 ^ (nd n - 1) * 2 := by rw [← Nat.pow_succ, Nat.succ_eq_add_one, Nat.sub_add_cancel h4]
  rw [e] at h3
  have h5 : n / 2 ^ (nd n - 1) < 2 := by rw [Nat.div_lt_iff_lt_mul (Nat.two_pow_pos _)]; omega
  have h6 : 1 ≤ n / 2 ^ (nd n - 1) := by rw [Nat.le_div_iff_mul_le (Nat.two_pow_pos _)]; omega
  omega
theorem gma_bf {n i : Nat} (hi : i < gln n) : bf (gma n) i = n.testBit (gln n - 1 - i) := dgs_bf n hi
theorem gma_zero {n i : Nat} (h : 0 < n) (h2 : n < 18446744073709551616) (hi : i < nd n - 1) : bf (gma n) i = false := by
  have h4 := nd_pos h h2
  rw [gma_bf (by unfold gln; omega)]
  refine Nat.testBit_lt_two_pow (Nat.lt_of_lt_of_le (nd_lt n h2) (Nat.pow_le_pow_right (by decide) ?_))
  unfold gln; omega
theorem gma_one {n : Nat} (h : 0 < n) (h2 : n < 18446744073709551616) : bf (gma n) (nd n - 1) = true := by
  have h4 := nd_pos h h2
  rw [gma_bf (by unfold gln; omega), show gln n - 1 - (nd n - 1) = nd n - 1 by unfold gln; omega]
  exact nd_bit h h2
theorem gma_differ {a b : Nat} (ha : 0 < a) (ha2 : a < 18446744073709551616) (hb : 0 < b) (hb2 : b < 18446744073709551616) (h : ∀ i, i < gln a → i < gln b → bf (gma a) i = bf (gma b) i) : a = b := by
  have h1 := nd_pos ha ha2
  have h2 := nd_pos hb hb2
  have hn : nd a = nd b := by
    rcases Nat.lt_trichotomy (nd a) (nd b) with h3 | h3 | h3
    · have h4 := h (nd a - 1) (by unfold gln; omega) (by unfold gln; omega)
      rw [gma_one ha ha2, gma_zero hb hb2 (by omega)] at h4
      cases h4
    · exact h3
    · have h4 := h (nd b - 1) (by unfold gln; omega) (by unfold gln; omega)
      rw [gma_one hb hb2, gma_zero ha ha2 (by omega)] at h4
      cases h4
  have hg : gln a = gln b := by unfold gln; rw [hn]
  have e : gma a = gma b := bf_ext (by rw [gma_len, gma_len, hg]) fun i hi => by
    rw [gma_len] at hi
    exact h i hi (by omega)
  have ea : num (gma a) = a := num_all (Nat.lt_of_lt_of_le (nd_lt a ha2) (Nat.pow_le_pow_right (by decide) (by unfold gln; omega)))
  have eb : num (gma b) = b := num_all (Nat.lt_of_lt_of_le (nd_lt b hb2) (Nat.pow_le_pow_right (by decide) (by unfold gln; omega)))
  rw [← ea, ← eb, e]

/-! Read again. -/
/-- At a place stand these bits. -/
def Has (f : Nat → Bool) (a : Nat) (ys : List Bool) : Prop := ∀ i, i < ys.length → f (a + i) = bf ys i
theorem Has.left {f : Nat → Bool} {a : Nat} {ys zs : List Bool} (h : Has f a (ys ++ zs)) : Has f a ys := fun i hi => by
  have := h i (by rw [List.length_append]; omega)
  rwa [bf_append, if_pos hi] at this
theorem Has.right {f : Nat → Bool} {a : Nat} {ys zs : List Bool} (h : Has f a (ys ++ zs)) : Has f (a + ys.length) zs := fun i hi => by
  have := h (ys.length + i) (by rw [List.length_append]; omega)
  rw [bf_append, if_neg (by omega), Nat.add_sub_cancel_left] at this
  rwa [← Nat.add_assoc] at this
theorem Has.self (xs : List Bool) : Has (bf xs) 0 xs := fun i _ => by rw [Nat.zero_add]
theorem Has.seg {f : Nat → Bool} {a : Nat} {ys : List Bool} (h : Has f a ys) : seg f a ys.length = ys := by
  refine bf_ext (seg_len _ _ _) fun i hi => ?_
  rw [seg_len] at hi
  rw [← h i hi]
  simp [bf, Go.Proofs.Ytgdfiopdkidhfaa.seg, List.getD, hi]
theorem next_has {f : Nat → Bool} {n at_ : Nat} {b : Bool} (h : f at_ = b) (hn : at_ + 1 ≤ n) : numR f n (0, at_) 1 = (((b.toNat : Nat) : Int), 0, at_ + 1) := by
  have e : seg f at_ 1 = [b] := by simp [Go.Proofs.Ytgdfiopdkidhfaa.seg, h]
  have h1 : okW 1 = true := by decide
  have h2 : ¬ (okW 1 = false ∨ n < at_ + 0 + (1 : Int).toNat) := by
    rintro (h | h)
    · rw [h1] at h; cases h
    · simp at h; omega
  simp only [numR, takeR]
  rw [if_neg (by simp), if_neg h2]
  show (((num (seg f at_ 1) : Nat) : Int), 0, at_ + 1) = _
  rw [e]
  simp [num]
theorem num_has {f : Nat → Bool} {n at_ wd : Nat} {z : Int} (hw : wd ≤ 60) (hz : 0 ≤ z) (hz2 : z.toNat < 2 ^ wd) (h : Has f at_ (dgs wd z.toNat)) (hn : at_ + wd ≤ n) : numR f n (0, at_) (wd : Int) = (z, 0, at_ + wd) := by
  have e : seg f at_ wd = dgs wd z.toNat := by have := h.seg; rwa [dgs_len] at this
  have h1 : okW (wd : Int) = true := by simp [okW]; omega
  have h2 : ¬ (okW (wd : Int) = false ∨ n < at_ + 0 + (wd : Int).toNat) := by
    rintro (h | h)
    · rw [h1] at h; cases h
    · simp at h; omega
  simp only [numR, takeR]
  rw [if_neg (by simp), if_neg h2]
  show (((num (seg f (at_ + 0) (wd : Int).toNat) : Nat) : Int), 0, at_ + 0 + (wd : Int).toNat) = _
  rw [Int.toNat_natCast, Nat.add_zero, e, num_all hz2, Int.toNat_of_nonneg hz]
theorem gam_has {f : Nat → Bool} {n at_ : Nat} {z : Int} (hz : 1 ≤ z) (hz2 : z < 1152921504606846976) (h : Has f at_ (gma z.toNat)) (hn : at_ + gln z.toNat ≤ n) : gamR f n (0, at_) = (z, 0, at_ + gln z.toNat) := by
  obtain ⟨m, rfl⟩ := Int.eq_ofNat_of_zero_le (a := z) (by omega)
  rw [Int.toNat_natCast] at h hn ⊢
  have hm : 0 < m := by omega
  have hm2 : m < 18446744073709551616 := by omega
  have hp := nd_pos hm hm2
  have h60 : nd m ≤ 60 := Lib.bitLen_le m 60 (by omega) (by omega)
  have hg : gln m = 2 * nd m - 1 := rfl
  have hzr : zr f n at_ = nd m - 1 := by
    unfold zr
    refine zrs_stop f _ _ _ (by omega) (fun j hj => ?_) ?_
    · rw [h j (by rw [gma_len]; omega)]; exact gma_zero hm hm2 hj
    · right
      rw [h (nd m - 1) (by rw [gma_len]; omega)]; exact gma_one hm hm2
  have h2 : Has f (at_ + (nd m - 1)) (dgs (nd m) m) := fun i hi => by
    rw [dgs_len] at hi
    have h3 := h (nd m - 1 + i) (by rw [gma_len]; omega)
    rw [gma_bf (by omega), ← Nat.add_assoc] at h3
    rw [h3, dgs_bf m hi]
    congr 1
    omega
  have e : seg f (at_ + (nd m - 1)) (nd m) = dgs (nd m) m := by have := h2.seg; rwa [dgs_len] at this
  have ew : (((nd m - 1 : Nat) : Int) + 1) = ((nd m : Nat) : Int) := by omega
  have h1 : okW ((nd m : Nat) : Int) = true := by simp [okW]; omega
  have h4 : ¬ (okW ((nd m : Nat) : Int) = false ∨ n < at_ + (nd m - 1) + ((nd m : Nat) : Int).toNat) := by
    rintro (h | h)
    · rw [h1] at h; cases h
    · rw [Int.toNat_natCast] at h; omega
  simp only [gamR, takeR]
  rw [if_neg (by simp), hzr, ew, if_neg h4, Int.toNat_natCast, e, num_all (nd_lt m hm2)]
  rw [show at_ + (nd m - 1) + nd m = at_ + gln m by omega]
end Go.Proofs.Ytgdfiopdkidhfaa
