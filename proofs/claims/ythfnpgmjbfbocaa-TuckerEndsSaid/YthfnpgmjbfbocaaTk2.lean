/- The best trees of all rows: their costs, where they are parted, the bounds of that place, their lengths. No program. -/
import Derived.Test.YthfnpgmjbfbocaaTk1
namespace Go.Proofs.Ythfnpgmjbfbocaa

/-- The first place of the least, of m + 1 places from a on. -/
def leastK (f : Nat → Int) (a : Nat) : Nat → Nat
  | 0 => a
  | m + 1 => if f (a + m + 1) < f (leastK f a m) then a + m + 1 else leastK f a m
theorem leastK_spec (f : Nat → Int) (a : Nat) : ∀ m, a ≤ leastK f a m ∧ leastK f a m ≤ a + m ∧ (∀ k, a ≤ k → k ≤ a + m → f (leastK f a m) ≤ f k) ∧ (∀ k, a ≤ k → k < leastK f a m → f (leastK f a m) < f k)
  | 0 => ⟨Nat.le_refl _, Nat.le_refl _, fun k h1 h2 => by
      obtain rfl : k = a := by omega
      exact Int.le_refl _, fun k h1 h2 => by simp only [leastK] at h2; omega⟩
  | m + 1 => by
    have ⟨h1, h2, h3, h4⟩ := leastK_spec f a m
    unfold leastK
    split
    · rename_i hlt
      refine ⟨by omega, by omega, fun k k1 k2 => ?_, fun k k1 k2 => ?_⟩
      · by_cases e : k = a + m + 1
        · subst e; exact Int.le_refl _
        · have := h3 k k1 (by omega); omega
      · have := h3 k k1 (by omega); omega
    · rename_i hlt
      refine ⟨h1, by omega, fun k k1 k2 => ?_, h4⟩
      by_cases e : k = a + m + 1
      · subst e; omega
      · exact h3 k k1 (by omega)
theorem leastK_eq {f : Nat → Int} {a m K : Nat} (h1 : a ≤ K) (h2 : K ≤ a + m) (h3 : ∀ k, a ≤ k → k ≤ a + m → f K ≤ f k) (h4 : ∀ k, a ≤ k → k < K → f K < f k) : leastK f a m = K := by
  have ⟨g1, g2, g3, g4⟩ := leastK_spec f a m
  rcases Nat.lt_trichotomy (leastK f a m) K with h | h | h
  · have := h4 _ g1 h
    have := g3 K h1 h2
    omega
  · exact h
  · have := g4 _ h1 h
    have := h3 _ g1 g2
    omega
theorem leastK_congr {f g : Nat → Int} {a : Nat} : ∀ m, (∀ k, a ≤ k → k ≤ a + m → f k = g k) → leastK f a m = leastK g a m
  | 0, _ => rfl
  | m + 1, h => by
    have e := leastK_congr m fun k k1 k2 => h k k1 (by omega)
    have ⟨h1, h2, _, _⟩ := leastK_spec g a m
    unfold leastK
    rw [e, h (a + m + 1) (by omega) (by omega), h (leastK g a m) h1 (by omega)]

section
variable (S : Nat → Int)
/-- The table of the rows of at most so many: by size and place, the cost and the place where it is parted. -/
def tabT : Nat → Nat → Nat → Int × Nat
  | 0 => fun _ i => (0, i + 1)
  | n + 1 => fun size i =>
    if size ≤ n ∨ n = 0 then tabT n size i
    else
      let T := tabT n
      let f := fun k => (T (k - i) i).1 + (T (i + (n + 1) - k) k).1
      let k := leastK f (i + 1) (n - 1)
      (S (i + (n + 1)) - S i + f k, k)
/-- What the best tree of the row from i up to j costs; where its right row begins. -/
def ct (i j : Nat) : Int := (tabT S (j - i) (j - i) i).1
def rt (i j : Nat) : Nat := (tabT S (j - i) (j - i) i).2
theorem tabT_more {size i : Nat} (h1 : 1 ≤ size) : ∀ n, size ≤ n → tabT S n size i = tabT S size size i
  | 0, h => by omega
  | n + 1, h => by
    by_cases e : size = n + 1
    · rw [e]
    · have : tabT S (n + 1) size i = tabT S n size i := by
        show (if size ≤ n ∨ n = 0 then tabT S n size i else _) = _
        rw [if_pos (.inl (by omega))]
      rw [this]
      exact tabT_more h1 n (by omega)
theorem ct_one (i : Nat) : ct S i (i + 1) = 0 := by
  have e : i + 1 - i = 1 := by omega
  unfold ct
  rw [e]
  rfl
theorem rt_one (i : Nat) : rt S i (i + 1) = i + 1 := by
  have e : i + 1 - i = 1 := by omega
  unfold rt
  rw [e]
  rfl
theorem ct_rt {i j : Nat} (h : i + 2 ≤ j) : ct S i j = S j - S i + (ct S i (rt S i j) + ct S (rt S i j) j) ∧ rt S i j = leastK (fun k => ct S i k + ct S k j) (i + 1) (j - i - 2) := by
  obtain ⟨n, rfl⟩ : ∃ n, j = i + (n + 2) := ⟨j - i - 2, by omega⟩
  have e1 : i + (n + 2) - i = n + 2 := by omega
  have e2 : i + (n + 2) - i - 2 = n := by omega
  rw [e2]
  have hf : ∀ k, i + 1 ≤ k → k ≤ i + 1 + n → (tabT S (n + 1) (k - i) i).1 + (tabT S (n + 1) (i + (n + 2) - k) k).1 = ct S i k + ct S k (i + (n + 2)) := by
    intro k k1 k2
    unfold ct
    rw [tabT_more S (by omega) (n + 1) (by omega), tabT_more S (by omega) (n + 1) (by omega)]
  have hk : leastK (fun k => (tabT S (n + 1) (k - i) i).1 + (tabT S (n + 1) (i + (n + 2) - k) k).1) (i + 1) n = leastK (fun k => ct S i k + ct S k (i + (n + 2))) (i + 1) n := leastK_congr n hf
  have hT : tabT S (n + 2) (n + 2) i = (S (i + (n + 2)) - S i + ((tabT S (n + 1) (leastK (fun k => (tabT S (n + 1) (k - i) i).1 + (tabT S (n + 1) (i + (n + 2) - k) k).1) (i + 1) n - i) i).1 + (tabT S (n + 1) (i + (n + 2) - leastK (fun k => (tabT S (n + 1) (k - i) i).1 + (tabT S (n + 1) (i + (n + 2) - k) k).1) (i + 1) n) (leastK (fun k => (tabT S (n + 1) (k - i) i).1 + (tabT S (n + 1) (i + (n + 2) - k) k).1) (i + 1) n)).1), leastK (fun k => (tabT S (n + 1) (k - i) i).1 + (tabT S (n + 1) (i + (n + 2) - k) k).1) (i + 1) n) := by
    show (if n + 2 ≤ n + 1 ∨ n + 1 = 0 then _ else _) = _
    rw [if_neg (by omega)]
    rfl
  have hr : rt S i (i + (n + 2)) = leastK (fun k => ct S i k + ct S k (i + (n + 2))) (i + 1) n := by
    unfold rt
    rw [e1, hT]
    exact hk
  refine ⟨?_, hr⟩
  rw [hr]
  conv => lhs; unfold ct; rw [e1, hT, hk]
  have ⟨h1, h2, _, _⟩ := leastK_spec (fun k => ct S i k + ct S k (i + (n + 2))) (i + 1) n
  rw [hf _ h1 h2]

variable {S : Nat → Int}
theorem rt_in {i j : Nat} (h : i + 2 ≤ j) : i < rt S i j ∧ rt S i j < j := by
  have := leastK_spec (fun k => ct S i k + ct S k j) (i + 1) (j - i - 2)
  rw [← (ct_rt S h).2] at this
  omega
theorem ct_le {i j k : Nat} (h1 : i < k) (h2 : k < j) : ct S i j ≤ S j - S i + (ct S i k + ct S k j) := by
  have h := ct_rt S (i := i) (j := j) (by omega)
  have := (leastK_spec (fun k => ct S i k + ct S k j) (i + 1) (j - i - 2)).2.2.1 k (by omega) (by omega)
  rw [← h.2] at this
  omega
theorem ct_lt {i j k : Nat} (h1 : i < k) (h2 : k < rt S i j) (h3 : i + 2 ≤ j) : ct S i (rt S i j) + ct S (rt S i j) j < ct S i k + ct S k j := by
  have h := ct_rt S h3
  have := (leastK_spec (fun k => ct S i k + ct S k j) (i + 1) (j - i - 2)).2.2.2 k (by omega) (by rw [← h.2]; exact h2)
  rw [← h.2] at this
  exact this
theorem ct_least {i j k : Nat} (h1 : i < k) (h2 : k < j) : ct S i (rt S i j) + ct S (rt S i j) j ≤ ct S i k + ct S k j := by
  have h := ct_rt S (i := i) (j := j) (by omega)
  have := ct_le (S := S) h1 h2
  omega

/-- Longer rows inside of each other cost more together than rows across. -/
theorem quad (hS : ∀ i j, i ≤ j → S i ≤ S j) : ∀ n a b e d, d - a ≤ n → a ≤ b → b < e → e ≤ d → ct S a e + ct S b d ≤ ct S b e + ct S a d := by
  intro n
  induction n with
  | zero => intro a b e d h1 h2 h3 h4; omega
  | succ n ih =>
    intro a b e d hn hab hbe hed
    by_cases h1 : a = b
    · subst h1; omega
    by_cases h2 : e = d
    · subst h2; omega
    have hz := rt_in (S := S) (i := a) (j := d) (by omega)
    have cz := (ct_rt S (i := a) (j := d) (by omega)).1
    generalize rt S a d = z at hz cz
    by_cases h3 : e = b + 1
    · subst h3
      have c0 := ct_one S b
      by_cases hk : z ≤ b
      · have := ct_le (S := S) (i := a) (j := b + 1) (k := z) (by omega) (by omega)
        have := ih z b (b + 1) d (by omega) hk (by omega) hed
        have := hS (b + 1) d (by omega)
        omega
      · have := ct_le (S := S) (i := b) (j := d) (k := z) (by omega) (by omega)
        have := ih a b (b + 1) z (by omega) hab (by omega) (by omega)
        have := hS a b hab
        omega
    · have hy := rt_in (S := S) (i := b) (j := e) (by omega)
      have cy := (ct_rt S (i := b) (j := e) (by omega)).1
      generalize rt S b e = y at hy cy
      by_cases hk : z ≤ y
      · have := ct_le (S := S) (i := a) (j := e) (k := z) (by omega) (by omega)
        have := ct_le (S := S) (i := b) (j := d) (k := y) (by omega) (by omega)
        have := ih z y e d (by omega) hk (by omega) hed
        omega
      · have := ct_le (S := S) (i := a) (j := e) (k := y) (by omega) (by omega)
        have := ct_le (S := S) (i := b) (j := d) (k := z) (by omega) (by omega)
        have := ih a b y z (by omega) hab (by omega) (by omega)
        omega
theorem quad' (hS : ∀ i j, i ≤ j → S i ≤ S j) {a b e d : Nat} (h1 : a ≤ b) (h2 : b < e) (h3 : e ≤ d) : ct S a e + ct S b d ≤ ct S b e + ct S a d := quad hS (d - a) a b e d (Nat.le_refl _) h1 h2 h3
/-- One more behind does not move the place ahead. -/
theorem rt_right (hS : ∀ i j, i ≤ j → S i ≤ S j) {i j : Nat} (h : i + 2 ≤ j) : rt S i j ≤ rt S i (j + 1) := by
  rcases Nat.lt_or_ge (rt S i (j + 1)) (rt S i j) with hlt | hge
  · have h1 := rt_in (S := S) h
    have h2 := rt_in (S := S) (i := i) (j := j + 1) (by omega)
    have h3 := ct_lt (S := S) h2.1 hlt h
    have h4 := ct_least (S := S) (i := i) (j := j + 1) (k := rt S i j) h1.1 (by omega)
    generalize rt S i j = p at h1 h3 h4 hlt
    generalize rt S i (j + 1) = q at h2 h3 h4 hlt
    have := quad' hS (a := q) (b := p) (e := j) (d := j + 1) (by omega) (by omega) (by omega)
    omega
  · exact hge
/-- One less in front does not move it ahead either. -/
theorem rt_left (hS : ∀ i j, i ≤ j → S i ≤ S j) {i j : Nat} (h : i + 3 ≤ j) : rt S i j ≤ rt S (i + 1) j := by
  rcases Nat.lt_or_ge (rt S (i + 1) j) (rt S i j) with hlt | hge
  · have h1 := rt_in (S := S) (i := i) (j := j) (by omega)
    have h2 := rt_in (S := S) (i := i + 1) (j := j) (by omega)
    have h3 := ct_lt (S := S) (i := i) (j := j) (k := rt S (i + 1) j) (by omega) hlt (by omega)
    have h4 := ct_least (S := S) (i := i + 1) (j := j) (k := rt S i j) (by omega) (by omega)
    generalize rt S i j = p at h1 h3 h4 hlt
    generalize rt S (i + 1) j = q at h2 h3 h4 hlt
    have := quad' hS (a := i) (b := i + 1) (e := q) (d := p) (by omega) (by omega) (by omega)
    omega
  · exact hge
/-- The place is found within its bounds. -/
theorem least_bound (hS : ∀ i j, i ≤ j → S i ≤ S j) {i j : Nat} (h : i + 2 ≤ j) :
    i < rt S i (j - 1) ∧ rt S i (j - 1) ≤ min (rt S (i + 1) j) (j - 1) ∧ leastK (fun k => ct S i k + ct S k j) (rt S i (j - 1)) (min (rt S (i + 1) j) (j - 1) - rt S i (j - 1)) = rt S i j := by
  have hr := rt_in (S := S) h
  have hlo : i < rt S i (j - 1) ∧ rt S i (j - 1) ≤ rt S i j := by
    by_cases e : j = i + 2
    · subst e
      have e1 : i + 2 - 1 = i + 1 := by omega
      rw [e1, rt_one]
      omega
    · obtain ⟨j', rfl⟩ : ∃ j', j = j' + 1 := ⟨j - 1, by omega⟩
      have e1 : j' + 1 - 1 = j' := by omega
      rw [e1]
      exact ⟨(rt_in (S := S) (i := i) (j := j') (by omega)).1, rt_right hS (by omega)⟩
  have hhi : rt S i j ≤ min (rt S (i + 1) j) (j - 1) := by
    by_cases e : j = i + 2
    · subst e
      have : rt S (i + 1) (i + 2) = i + 2 := rt_one S (i + 1)
      omega
    · have := rt_left hS (i := i) (j := j) (by omega)
      omega
  refine ⟨hlo.1, by omega, ?_⟩
  refine leastK_eq hlo.2 (by omega) (fun k k1 k2 => ?_) (fun k k1 k2 => ?_)
  · exact ct_least (by omega) (by omega)
  · exact ct_lt (by omega) k2 h

/-- Costs are no less than nought, and not too great. -/
theorem ct_bound {M : Int} (hS : ∀ i j, i ≤ j → S i ≤ S j) : ∀ n i j, j - i ≤ n → i < j → S j - S i ≤ M → 0 ≤ ct S i j ∧ ct S i j ≤ ((j - i - 1 : Nat) : Int) * M := by
  intro n
  induction n with
  | zero => intro i j h1 h2; omega
  | succ n ih =>
    intro i j h1 h2 h3
    by_cases hj : j = i + 1
    · subst hj
      rw [ct_one]
      have e : i + 1 - i - 1 = 0 := by omega
      rw [e]
      simp
    · have hr := rt_in (S := S) (i := i) (j := j) (by omega)
      have cr := (ct_rt S (i := i) (j := j) (by omega)).1
      generalize rt S i j = r at hr cr
      have a0 := hS i r (by omega)
      have a1 := hS r j (by omega)
      have b0 := ih i r (by omega) (by omega) (by omega)
      have b1 := ih r j (by omega) (by omega) (by omega)
      have e : ((j - i - 1 : Nat) : Int) = ((r - i - 1 : Nat) : Int) + ((j - r - 1 : Nat) : Int) + 1 := by omega
      rw [e, Int.add_mul, Int.add_mul, Int.one_mul]
      omega

/-! Lengths, from where rows are parted. -/
/-- How often a weight's row is parted, within the row from a up to b. -/
def dp (r : Nat → Nat → Nat) : Nat → Nat → Nat → Nat → Int
  | 0, _, _, _ => 0
  | n + 1, a, b, k => if b - a < 2 then 0 else (if a ≤ k ∧ k < b then 1 else 0) + dp r n a (r a b) k + dp r n (r a b) b k
theorem dp_out {r : Nat → Nat → Nat} (hr : ∀ i j, i + 2 ≤ j → i < r i j ∧ r i j < j) : ∀ n a b k, k < a ∨ b ≤ k → dp r n a b k = 0
  | 0, _, _, _, _ => rfl
  | n + 1, a, b, k, h => by
    unfold dp
    split
    · rfl
    · have := hr a b (by omega)
      rw [if_neg (by omega), dp_out hr n a (r a b) k (by omega), dp_out hr n (r a b) b k (by omega)]
      rfl
theorem dp_fuel {r : Nat → Nat → Nat} (hr : ∀ i j, i + 2 ≤ j → i < r i j ∧ r i j < j) : ∀ n m a b k, b - a ≤ n + 1 → b - a ≤ m + 1 → dp r n a b k = dp r m a b k
  | 0, 0, _, _, _, _, _ => rfl
  | 0, m + 1, a, b, k, h, _ => by unfold dp; rw [if_pos (by omega)]
  | n + 1, 0, a, b, k, _, h => by unfold dp; rw [if_pos (by omega)]
  | n + 1, m + 1, a, b, k, h1, h2 => by
    unfold dp
    split
    · rfl
    · have := hr a b (by omega)
      rw [dp_fuel hr n m a (r a b) k (by omega) (by omega), dp_fuel hr n m (r a b) b k (by omega) (by omega)]
def dpt (r : Nat → Nat → Nat) (a b k : Nat) : Int := dp r (b - a) a b k
theorem dpt_small {r : Nat → Nat → Nat} {a b k : Nat} (h : b - a < 2) : dpt r a b k = 0 := by
  unfold dpt
  generalize e : b - a = m at h
  match m with
  | 0 => rfl
  | m + 1 => unfold dp; rw [if_pos (by omega)]
theorem dpt_out {r : Nat → Nat → Nat} (hr : ∀ i j, i + 2 ≤ j → i < r i j ∧ r i j < j) {a b k : Nat} (h : k < a ∨ b ≤ k) : dpt r a b k = 0 := dp_out hr _ a b k h
theorem dpt_eq {r : Nat → Nat → Nat} (hr : ∀ i j, i + 2 ≤ j → i < r i j ∧ r i j < j) {a b k : Nat} (h : a + 2 ≤ b) : dpt r a b k = (if a ≤ k ∧ k < b then 1 else 0) + dpt r a (r a b) k + dpt r (r a b) b k := by
  have := hr a b h
  obtain ⟨m, hm⟩ : ∃ m, b - a = m + 1 := ⟨b - a - 1, by omega⟩
  have e : dpt r a b k = dp r (m + 1) a b k := by unfold dpt; rw [hm]
  rw [e]
  unfold dp
  rw [if_neg (by omega)]
  unfold dpt
  rw [dp_fuel hr m (r a b - a) a (r a b) k (by omega) (by omega), dp_fuel hr m (b - r a b) (r a b) b k (by omega) (by omega)]
theorem dpt_bound {r : Nat → Nat → Nat} (hr : ∀ i j, i + 2 ≤ j → i < r i j ∧ r i j < j) : ∀ n a b k, b - a ≤ n → 0 ≤ dpt r a b k ∧ dpt r a b k ≤ (b - a : Nat)
  | 0, a, b, k, h => by rw [dpt_small (by omega)]; omega
  | n + 1, a, b, k, h => by
    by_cases hb : b - a < 2
    · rw [dpt_small hb]; omega
    · have hc := hr a b (by omega)
      rw [dpt_eq hr (by omega)]
      have h1 := dpt_bound hr n a (r a b) k (by omega)
      have h2 := dpt_bound hr n (r a b) b k (by omega)
      by_cases hk : k < r a b
      · rw [dpt_out hr (a := r a b) (b := b) (.inl hk)]
        split <;> omega
      · rw [dpt_out hr (a := a) (b := r a b) (.inr (by omega))]
        split <;> omega

/-- Values at places from a on, as a list. -/
def seg (f : Nat → Int) (a : Nat) : Nat → List Int
  | 0 => []
  | n + 1 => f a :: seg f (a + 1) n
theorem seg_len (f : Nat → Int) : ∀ a n, (seg f a n).length = n
  | _, 0 => rfl
  | a, n + 1 => by simp [seg, seg_len f (a + 1) n]
theorem seg_get (f : Nat → Int) : ∀ a n k, k < n → (seg f a n).getD k 0 = f (a + k)
  | a, n + 1, 0, _ => rfl
  | a, n + 1, k + 1, h => by
    have := seg_get f (a + 1) n k (by omega)
    have e : a + 1 + k = a + (k + 1) := by omega
    rw [e] at this
    simpa [seg] using this
theorem seg_add (f : Nat → Int) : ∀ a n m, seg f a (n + m) = seg f a n ++ seg f (a + n) m
  | a, 0, m => by simp [seg]
  | a, n + 1, m => by
    have e : n + 1 + m = (n + m) + 1 := by omega
    have e2 : a + 1 + n = a + (n + 1) := by omega
    rw [e]
    show f a :: seg f (a + 1) (n + m) = f a :: seg f (a + 1) n ++ _
    rw [seg_add f (a + 1) n m, e2]
    rfl
theorem seg_congr {f g : Nat → Int} : ∀ a n, (∀ k, a ≤ k → k < a + n → f k = g k) → seg f a n = seg g a n
  | _, 0, _ => rfl
  | a, n + 1, h => by
    show f a :: seg f (a + 1) n = g a :: seg g (a + 1) n
    rw [h a (by omega) (by omega), seg_congr (a + 1) n fun k k1 k2 => h k (by omega) (by omega)]
theorem seg_of_list (l : List Int) : seg (fun k => l.getD k 0) 0 l.length = l := by
  have h : ∀ (l : List Int) (a : Nat) (f : Nat → Int), (∀ k, k < l.length → f (a + k) = l.getD k 0) → seg f a l.length = l := by
    intro l
    induction l with
    | nil => intro a f _; rfl
    | cons x t ih =>
      intro a f hf
      show f a :: seg f (a + 1) t.length = x :: t
      have h0 := hf 0 (by simp)
      simp at h0
      rw [h0, ih (a + 1) f fun k hk => by
        have := hf (k + 1) (by simpa using hk)
        have e : a + 1 + k = a + (k + 1) := by omega
        rw [e, this]; simp]
  exact h l 0 _ fun k _ => by simp

theorem seg_tree {r : Nat → Nat → Nat} (hr : ∀ i j, i + 2 ≤ j → i < r i j ∧ r i j < j) : ∀ n a b d, b - a ≤ n → a < b → Tr d (seg (fun k => d + dpt r a b k) a (b - a))
  | 0, a, b, d, h1, h2 => by omega
  | n + 1, a, b, d, h1, h2 => by
    by_cases hb : b - a < 2
    · have e : b - a = 1 := by omega
      rw [e]
      show Tr d [d + dpt r a b a]
      rw [dpt_small hb, Int.add_zero]
      exact .one d
    · have hc := hr a b (by omega)
      have t1 := seg_tree hr n a (r a b) (d + 1) (by omega) (by omega)
      have t2 := seg_tree hr n (r a b) b (d + 1) (by omega) (by omega)
      have e : b - a = (r a b - a) + (b - r a b) := by omega
      have ea : a + (r a b - a) = r a b := by omega
      rw [e, seg_add, ea]
      have s1 : seg (fun k => d + dpt r a b k) a (r a b - a) = seg (fun k => d + 1 + dpt r a (r a b) k) a (r a b - a) := seg_congr _ _ fun k k1 k2 => by
        rw [dpt_eq hr (by omega), if_pos (by omega), dpt_out hr (a := r a b) (b := b) (.inl (by omega))]
        omega
      have s2 : seg (fun k => d + dpt r a b k) (r a b) (b - r a b) = seg (fun k => d + 1 + dpt r (r a b) b k) (r a b) (b - r a b) := seg_congr _ _ fun k k1 k2 => by
        rw [dpt_eq hr (by omega), if_pos (by omega), dpt_out hr (a := a) (b := r a b) (.inr (by omega))]
        omega
      rw [s1, s2]
      exact .two t1 t2

/-! What lengths cost. -/
/-- The sum of each weight, from place a on, by its length. -/
def wsum (w : Nat → Int) (a : Nat) : List Int → Int
  | [] => 0
  | x :: l => w a * x + wsum w (a + 1) l
theorem wsum_append (w : Nat → Int) : ∀ l a r, wsum w a (l ++ r) = wsum w a l + wsum w (a + l.length) r
  | [], a, r => by simp [wsum]
  | x :: l, a, r => by
    have e : a + (l.length + 1) = a + 1 + l.length := by omega
    simp only [List.cons_append, wsum, wsum_append w l, List.length_cons, e]
    omega
/-- The sums of the weights ahead of each place. -/
def sumW (w : Nat → Int) : Nat → Int
  | 0 => 0
  | n + 1 => sumW w n + w n
theorem sumW_mono {w : Nat → Int} (h : ∀ k, 0 ≤ w k) : ∀ i j, i ≤ j → sumW w i ≤ sumW w j
  | i, 0, hj => by have : i = 0 := by omega
                   subst this; exact Int.le_refl _
  | i, j + 1, hj => by
    by_cases e : i = j + 1
    · subst e; exact Int.le_refl _
    · have := sumW_mono h i j (by omega)
      have := h j
      show _ ≤ sumW w j + w j
      omega
theorem sumW_bound {w : Nat → Int} {B : Int} (h : ∀ k, w k ≤ B) : ∀ n : Nat, sumW w n ≤ (n : Int) * B
  | 0 => by simp [sumW]
  | n + 1 => by
    have := sumW_bound h n
    have := h n
    have e : ((n + 1 : Nat) : Int) * B = (n : Int) * B + B := by
      have : ((n + 1 : Nat) : Int) = (n : Int) + 1 := by omega
      rw [this, Int.add_mul, Int.one_mul]
    rw [e]
    show sumW w n + w n ≤ _
    omega
/-- No tree's lengths cost less. -/
theorem tree_cost (w : Nat → Int) {d : Int} {l : List Int} (h : Tr d l) : ∀ a, d * (sumW w (a + l.length) - sumW w a) + ct (sumW w) a (a + l.length) ≤ wsum w a l := by
  induction h with
  | one d =>
    intro a
    have e : sumW w (a + 1) = sumW w a + w a := rfl
    simp only [List.length_cons, List.length_nil, Nat.zero_add, ct_one, wsum, e]
    have e2 : sumW w a + w a - sumW w a = w a := by omega
    have e3 : d * w a = w a * d := Int.mul_comm _ _
    rw [e2, e3]
    omega
  | @two d l r h1 h2 i1 i2 =>
    intro a
    have p1 := h1.pos
    have p2 := h2.pos
    have c1 := i1 a
    have c2 := i2 (a + l.length)
    have c3 := ct_le (S := sumW w) (i := a) (j := a + (l ++ r).length) (k := a + l.length) (by omega) (by rw [List.length_append]; omega)
    rw [wsum_append]
    rw [List.length_append, ← Nat.add_assoc] at c3 ⊢
    generalize sumW w a = A at *
    generalize sumW w (a + l.length) = B at *
    generalize sumW w (a + l.length + r.length) = D at *
    have e1 : (d + 1) * (B - A) = d * (B - A) + (B - A) := by rw [Int.add_mul, Int.one_mul]
    have e2 : (d + 1) * (D - B) = d * (D - B) + (D - B) := by rw [Int.add_mul, Int.one_mul]
    have e3 : d * (D - A) = d * (B - A) + d * (D - B) := by rw [← Int.mul_add]; congr 1; omega
    rw [e1] at c1
    rw [e2] at c2
    rw [e3]
    omega
/-- The best tree's lengths cost what the table has. -/
theorem best_cost (w : Nat → Int) : ∀ n a b d, b - a ≤ n → a < b → wsum w a (seg (fun k => d + dpt (rt (sumW w)) a b k) a (b - a)) = d * (sumW w b - sumW w a) + ct (sumW w) a b
  | 0, a, b, d, h1, h2 => by omega
  | n + 1, a, b, d, h1, h2 => by
    have hr : ∀ i j, i + 2 ≤ j → i < rt (sumW w) i j ∧ rt (sumW w) i j < j := fun i j h => rt_in h
    by_cases hb : b - a < 2
    · have e : b - a = 1 := by omega
      obtain rfl : b = a + 1 := by omega
      rw [e]
      show w a * (d + dpt _ a (a + 1) a) + 0 = _
      rw [dpt_small hb, ct_one]
      have e : sumW w (a + 1) = sumW w a + w a := rfl
      have e2 : sumW w a + w a - sumW w a = w a := by omega
      rw [e, e2, Int.add_zero, Int.add_zero, Int.add_zero, Int.mul_comm]
    · have hc := hr a b (by omega)
      have t1 := best_cost w n a (rt (sumW w) a b) (d + 1) (by omega) (by omega)
      have t2 := best_cost w n (rt (sumW w) a b) b (d + 1) (by omega) (by omega)
      have c := (ct_rt (sumW w) (i := a) (j := b) (by omega)).1
      have e : b - a = (rt (sumW w) a b - a) + (b - rt (sumW w) a b) := by omega
      have ea : a + (rt (sumW w) a b - a) = rt (sumW w) a b := by omega
      rw [e, seg_add, wsum_append, seg_len, ea]
      have s1 : seg (fun k => d + dpt (rt (sumW w)) a b k) a (rt (sumW w) a b - a) = seg (fun k => d + 1 + dpt (rt (sumW w)) a (rt (sumW w) a b) k) a (rt (sumW w) a b - a) := seg_congr _ _ fun k k1 k2 => by
        rw [dpt_eq hr (by omega), if_pos (by omega), dpt_out hr (a := rt (sumW w) a b) (b := b) (.inl (by omega))]
        omega
      have s2 : seg (fun k => d + dpt (rt (sumW w)) a b k) (rt (sumW w) a b) (b - rt (sumW w) a b) = seg (fun k => d + 1 + dpt (rt (sumW w)) (rt (sumW w) a b) b k) (rt (sumW w) a b) (b - rt (sumW w) a b) := seg_congr _ _ fun k k1 k2 => by
        rw [dpt_eq hr (by omega), if_pos (by omega), dpt_out hr (a := a) (b := rt (sumW w) a b) (.inr (by omega))]
        omega
      rw [s1, s2, t1, t2, c]
      generalize sumW w a = A at *
      generalize sumW w (rt (sumW w) a b) = B at *
      generalize sumW w b = D at *
      have e1 : (d + 1) * (B - A) = d * (B - A) + (B - A) := by rw [Int.add_mul, Int.one_mul]
      have e2 : (d + 1) * (D - B) = d * (D - B) + (D - B) := by rw [Int.add_mul, Int.one_mul]
      have e3 : d * (D - A) = d * (B - A) + d * (D - B) := by rw [← Int.mul_add]; congr 1; omega
      rw [e1, e2, e3]
      omega

/-! The answers. -/
def isW (l : List Int) : Bool := decide (1 ≤ l.length ∧ l.length ≤ 257) && l.all fun z => decide (0 ≤ z ∧ z ≤ 4294967296)
def wt (l : List Int) (k : Nat) : Int := l.getD k 0
/-- The lengths in the best tree. -/
def bestL (l : List Int) : List Int := if l.length = 1 then [1] else seg (fun k => dpt (rt (sumW (wt l))) 0 l.length k) 0 l.length
theorem isW_of {l : List Int} (h : isW l = true) : 1 ≤ l.length ∧ l.length ≤ 257 ∧ ∀ k, 0 ≤ wt l k ∧ wt l k ≤ 4294967296 := by
  unfold isW at h
  simp only [Bool.and_eq_true, decide_eq_true_eq, List.all_eq_true] at h
  refine ⟨h.1.1, h.1.2, fun k => ?_⟩
  unfold wt
  by_cases hk : k < l.length
  · have : l.getD k 0 ∈ l := by simp [List.getD, hk]
    exact h.2 _ this
  · simp [List.getD, List.getElem?_eq_none (by omega : l.length ≤ k)]
theorem bestL_len (l : List Int) : (bestL l).length = l.length := by
  unfold bestL
  split
  · rename_i h; rw [h]; rfl
  · exact seg_len ..
theorem bestL_fit {l : List Int} (h : isW l = true) : Fit (bestL l) := by
  have hw := isW_of h
  unfold bestL
  split
  · exact .inl ⟨rfl, rfl⟩
  · refine .inr ?_
    rw [seg_len]
    have := seg_tree (r := rt (sumW (wt l))) (fun i j h => rt_in h) l.length 0 l.length 0 (by omega) (by omega)
    simp only [Int.zero_add, Nat.sub_zero] at this
    exact ⟨by omega, hw.2.1, this⟩
/-- The sum of each weight by its length. -/
def costL (w l : List Int) : Int := wsum (wt w) 0 l
theorem bestL_cost {l : List Int} (h2 : 2 ≤ l.length) : costL l (bestL l) = ct (sumW (wt l)) 0 l.length := by
  unfold bestL costL
  rw [if_neg (by omega)]
  have := best_cost (wt l) l.length 0 l.length 0 (by omega) (by omega)
  simp only [Int.zero_add, Nat.sub_zero, Int.zero_mul] at this
  exact this
theorem bestL_least {w l : List Int} (hl : l.length = w.length) (h : Fit l) : costL w (bestL w) ≤ costL w l := by
  rcases h with ⟨h1, rfl⟩ | ⟨h2, _, h3⟩
  · unfold bestL
    rw [if_pos (by omega)]
    exact Int.le_refl _
  · rw [bestL_cost (by omega)]
    have := tree_cost (wt w) h3 0
    simp only [Int.zero_mul, Nat.zero_add, Int.zero_add, hl] at this
    exact this
end
end Go.Proofs.Ythfnpgmjbfbocaa
