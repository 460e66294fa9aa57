/- Plain mathematics of the ones of a word: how many there are (C over its bits), by the adding of neighbours, and which one is the lowest. No program. -/
import Derived.Test.YtmbcinbkijnblaaFen
import Derived.Laws.BitsAllLaws
import Derived.Laws.BitsLemmas
import Derived.Laws.Bits64
import Derived.Lib.TrailingZeros
namespace Go.Proofs.Ytmbcinbkijnblaa.V1.Fen

def bitN (x i : Nat) : Nat := if x.testBit i then 1 else 0
/-- How many ones a word has. -/
def pc (x : Nat) : Nat := C (bitN x) 64

theorem bitN_le (x i : Nat) : bitN x i ≤ 1 := by unfold bitN; split <;> omega
theorem C_le {c : Nat → Nat} (h : ∀ i, c i ≤ 1) (n : Nat) : C c n ≤ n := by
  induction n with
  | zero => simp [C]
  | succ n ih => simp only [C]; have := h n; omega
theorem pc_le (x : Nat) : pc x ≤ 64 := C_le (bitN_le x) 64
theorem C_split (c : Nat → Nat) (m n : Nat) : C c (m + n) = C c m + C (fun i => c (m + i)) n := by
  induction n with
  | zero => simp [C]
  | succ n ih => rw [← Nat.add_assoc]; simp only [C]; rw [ih]; omega
/-- In parts of k: the sums of the parts. -/
theorem C_parts (c : Nat → Nat) (k m : Nat) : C c (k * m) = C (fun i => C (fun j => c (k * i + j)) k) m := by
  induction m with
  | zero => simp [C]
  | succ m ih => rw [Nat.mul_succ, C_split, ih]; rfl

/-! Byte by byte. -/
def mk (m : Nat) : Nat → Nat
  | 0 => 0
  | n + 1 => m + 256 * mk m n
def bw (f : Nat → Nat) : Nat → Nat → Nat
  | 0, _ => 0
  | n + 1, x => f (x % 256) + 256 * bw f n (x / 256)

theorem and_parts (a b m M : Nat) (ha : a < 256) (hm : m < 256) : (a + 256 * b) &&& (m + 256 * M) = (a &&& m) + 256 * (b &&& M) := by
  have hx : (a &&& m) < 2 ^ 8 := Nat.and_lt_two_pow _ (by omega)
  apply Nat.eq_of_testBit_eq
  intro i
  rw [show a + 256 * b = 2 ^ 8 * b + a by omega, show m + 256 * M = 2 ^ 8 * M + m by omega, show (a &&& m) + 256 * (b &&& M) = 2 ^ 8 * (b &&& M) + (a &&& m) by omega]
  rw [Nat.testBit_and, Nat.testBit_two_pow_mul_add _ (by omega), Nat.testBit_two_pow_mul_add _ (by omega), Nat.testBit_two_pow_mul_add _ hx]
  split <;> simp [Nat.testBit_and]

theorem and_bytes (x m M : Nat) (hm : m < 256) : x &&& (m + 256 * M) = (x % 256 &&& m) + 256 * (x / 256 &&& M) := by
  have := and_parts (x % 256) (x / 256) m M (by omega) hm
  rwa [show x % 256 + 256 * (x / 256) = x by omega] at this

def s1 (b : Nat) : Nat := (b / 2 &&& 85) + (b &&& 85)
def s2 (b : Nat) : Nat := (b / 4 &&& 51) + (b &&& 51)
def s3 (b : Nat) : Nat := (b + b / 16) % 16

theorem mask1 : ∀ c, c < 128 → (c + 128 &&& 85) = (c &&& 85) := by decide +kernel
theorem mask2 : ∀ c, c < 64 → ∀ d, d < 4 → (c + 64 * d &&& 51) = (c &&& 51) := by decide +kernel

theorem step1 (n : Nat) : ∀ x, (x / 2 &&& mk 85 n) + (x &&& mk 85 n) = bw s1 n x := by
  induction n with
  | zero => intro x; simp [mk, bw]
  | succ n ih =>
    intro x
    simp only [mk, bw]
    rw [and_bytes (x / 2) 85 _ (by omega), and_bytes x 85 _ (by omega), ← ih (x / 256), show x / 2 / 256 = x / 256 / 2 by omega]
    have e : (x / 2 % 256 &&& 85) = (x % 256 / 2 &&& 85) := by
      rcases Nat.mod_two_eq_zero_or_one (x / 256) with h | h
      · rw [show x / 2 % 256 = x % 256 / 2 by omega]
      · rw [show x / 2 % 256 = x % 256 / 2 + 128 by omega]
        exact mask1 _ (by omega)
    rw [e]
    unfold s1
    omega

theorem step2 (n : Nat) : ∀ x, (x / 4 &&& mk 51 n) + (x &&& mk 51 n) = bw s2 n x := by
  induction n with
  | zero => intro x; simp [mk, bw]
  | succ n ih =>
    intro x
    simp only [mk, bw]
    rw [and_bytes (x / 4) 51 _ (by omega), and_bytes x 51 _ (by omega), ← ih (x / 256), show x / 4 / 256 = x / 256 / 4 by omega]
    have e : (x / 4 % 256 &&& 51) = (x % 256 / 4 &&& 51) := by
      rw [show x / 4 % 256 = x % 256 / 4 + 64 * (x / 256 % 4) by omega]
      exact mask2 _ (by omega) _ (by omega)
    rw [e]
    unfold s2
    omega

theorem bw_bw (f g : Nat → Nat) (hf : ∀ b, b < 256 → f b < 256) (n : Nat) : ∀ x, bw g n (bw f n x) = bw (fun b => g (f b)) n x := by
  induction n with
  | zero => intro x; rfl
  | succ n ih =>
    intro x
    have h1 := hf (x % 256) (by omega)
    simp only [bw]
    rw [show (f (x % 256) + 256 * bw f n (x / 256)) % 256 = f (x % 256) by omega, show (f (x % 256) + 256 * bw f n (x / 256)) / 256 = bw f n (x / 256) by omega, ih]

theorem bw_lt (f : Nat → Nat) (hf : ∀ b, b < 256 → f b < 256) (n : Nat) : ∀ x, bw f n x < 256 ^ n := by
  induction n with
  | zero => intro x; simp [bw]
  | succ n ih =>
    intro x
    have h1 := hf (x % 256) (by omega)
    have h2 := ih (x / 256)
    simp only [bw]
    rw [Nat.pow_succ]; omega

theorem bw_low (f : Nat → Nat) (hf : ∀ b, b < 256 → f b % 16 ≤ 4) (n x : Nat) : bw f n x % 16 ≤ 4 := by
  cases n with
  | zero => simp [bw]
  | succ n =>
    have h1 := hf (x % 256) (by omega)
    simp only [bw]; omega

theorem step3 (f : Nat → Nat) (h1 : ∀ b, b < 256 → f b % 16 ≤ 4) (h2 : ∀ b, b < 256 → f b / 16 ≤ 4) (n : Nat) : ∀ x, (bw f n x / 16 + bw f n x &&& mk 15 n) = bw (fun b => s3 (f b)) n x := by
  induction n with
  | zero => intro x; simp [mk, bw]
  | succ n ih =>
    intro x
    have a1 := h1 (x % 256) (by omega)
    have a2 := h2 (x % 256) (by omega)
    have a3 := bw_low f h1 n (x / 256)
    simp only [mk, bw]
    rw [← ih (x / 256)]
    generalize bw f n (x / 256) = y at a3 ⊢
    generalize f (x % 256) = c at a1 a2 ⊢
    rw [show (c + 256 * y) / 16 + (c + 256 * y) = (c + c / 16 + 16 * (y % 16)) + 256 * (y / 16 + y) by omega]
    rw [and_parts _ _ _ _ (by omega) (by omega)]
    have e : (c + c / 16 + 16 * (y % 16) &&& 15) = s3 c := by
      rw [show (15 : Nat) = 2 ^ 4 - 1 by rfl, Nat.and_two_pow_sub_one_eq_mod]
      unfold s3
      omega
    rw [e]

def pcb (b : Nat) : Nat := C (bitN b) 8
theorem pcb_swar : ∀ b, b < 256 → s3 (s2 (s1 b)) = pcb b := by decide +kernel
theorem s1_lt : ∀ b, b < 256 → s1 b < 256 := by decide +kernel
theorem s21_lt : ∀ b, b < 256 → s2 (s1 b) < 256 := by decide +kernel
theorem s21_low : ∀ b, b < 256 → s2 (s1 b) % 16 ≤ 4 := by decide +kernel
theorem s21_high : ∀ b, b < 256 → s2 (s1 b) / 16 ≤ 4 := by decide +kernel
theorem pcb_le (b : Nat) : pcb b ≤ 8 := C_le (bitN_le b) 8

theorem bw_congr {f g : Nat → Nat} (h : ∀ b, b < 256 → f b = g b) (n : Nat) : ∀ x, bw f n x = bw g n x := by
  induction n with
  | zero => intro x; rfl
  | succ n ih => intro x; simp only [bw]; rw [ih, h _ (by omega)]

theorem bitN_up (x i : Nat) : bitN x (8 + i) = bitN (x / 256) i := by
  unfold bitN
  rw [show x / 256 = x / 2 ^ 8 by rfl, Nat.testBit_div_two_pow, Nat.add_comm]
theorem bitN_low (x i : Nat) (h : i < 8) : bitN x i = bitN (x % 256) i := by
  unfold bitN
  rw [show x % 256 = x % 2 ^ 8 by rfl, Nat.testBit_mod_two_pow]
  simp [h]
theorem C_byte (x n : Nat) : C (bitN x) (8 + n) = pcb (x % 256) + C (bitN (x / 256)) n := by
  rw [C_split, pcb, C_ext (fun i hi => bitN_low x i hi), C_ext (fun i _ => bitN_up x i)]

theorem pc_bytes (x : Nat) : pc x = pcb (x % 256) + (pcb (x / 256 % 256) + (pcb (x / 256 / 256 % 256) + (pcb (x / 256 / 256 / 256 % 256) + (pcb (x / 256 / 256 / 256 / 256 % 256) + (pcb (x / 256 / 256 / 256 / 256 / 256 % 256) +
    (pcb (x / 256 / 256 / 256 / 256 / 256 / 256 % 256) + pcb (x / 256 / 256 / 256 / 256 / 256 / 256 / 256 % 256))))))) := by
  unfold pc
  rw [show (64 : Nat) = 8 + (8 + (8 + (8 + (8 + (8 + (8 + (8 + 0))))))) by rfl]
  simp only [C_byte]
  simp [C]

theorem div_lo (d v a q : Nat) (ha : a < d) (h : v = a + d * q) : v / d = q := by
  rw [h, Nat.add_mul_div_left _ _ (by omega), Nat.div_eq_of_lt ha, Nat.zero_add]
theorem mod_lo (d v a q : Nat) (ha : a < d) (h : v = a + d * q) : v % d = a := by
  rw [h, Nat.add_mul_mod_self_left, Nat.mod_eq_of_lt ha]

theorem fold_bytes (p0 p1 p2 p3 p4 p5 p6 p7 : Nat) (h0 : p0 ≤ 8) (h1 : p1 ≤ 8) (h2 : p2 ≤ 8) (h3 : p3 ≤ 8) (h4 : p4 ≤ 8) (h5 : p5 ≤ 8) (h6 : p6 ≤ 8) (h7 : p7 ≤ 8) (x : Nat)
    (hx : x = p0 + 256 * (p1 + 256 * (p2 + 256 * (p3 + 256 * (p4 + 256 * (p5 + 256 * (p6 + 256 * (p7 + 256 * 0)))))))) :
    x + x / 256 < 2000000000000000000 ∧ (x + x / 256) + (x + x / 256) / 65536 < 4000000000000000000 ∧
    ((x + x / 256) + (x + x / 256) / 65536) + ((x + x / 256) + (x + x / 256) / 65536) / 4294967296 < 8000000000000000000 ∧
    (((x + x / 256) + (x + x / 256) / 65536) + ((x + x / 256) + (x + x / 256) / 65536) / 4294967296) % 128 = p0 + (p1 + (p2 + (p3 + (p4 + (p5 + (p6 + p7)))))) := by
  have ex : x / 256 = p1 + 256 * (p2 + 256 * (p3 + 256 * (p4 + 256 * (p5 + 256 * (p6 + 256 * p7))))) := by
    exact div_lo 256 x p0 _ (by omega) (by omega)
  rw [ex]
  clear ex
  obtain ⟨y, hy⟩ : ∃ y, y = x + (p1 + 256 * (p2 + 256 * (p3 + 256 * (p4 + 256 * (p5 + 256 * (p6 + 256 * p7)))))) := ⟨_, rfl⟩
  rw [← hy]
  have ey : y / 65536 = (p2 + p3) + 256 * ((p3 + p4) + 256 * ((p4 + p5) + 256 * ((p5 + p6) + 256 * ((p6 + p7) + 256 * p7)))) := by
    exact div_lo 65536 y (p0 + p1 + 256 * (p1 + p2)) _ (by omega) (by omega)
  rw [ey]
  clear ey
  obtain ⟨z, hz⟩ : ∃ z, z = y + ((p2 + p3) + 256 * ((p3 + p4) + 256 * ((p4 + p5) + 256 * ((p5 + p6) + 256 * ((p6 + p7) + 256 * p7))))) := ⟨_, rfl⟩
  rw [← hz]
  have ez : z / 4294967296 = (p4 + p5 + p6 + p7) + 256 * ((p5 + p6 + p7) + 256 * ((p6 + p7) + 256 * p7)) := by
    exact div_lo 4294967296 z (p0 + p1 + p2 + p3 + 256 * ((p1 + p2 + p3 + p4) + 256 * ((p2 + p3 + p4 + p5) + 256 * (p3 + p4 + p5 + p6)))) _ (by omega) (by omega)
  rw [ez]
  clear ez
  refine ⟨by omega, by omega, by omega, ?_⟩
  refine mod_lo 128 _ (p0 + (p1 + (p2 + (p3 + (p4 + (p5 + (p6 + p7))))))) (2 * ((p1 + p2 + p3 + p4) + 256 * ((p2 + p3 + p4 + p5) + 256 * ((p3 + p4 + p5 + p6) + 256 * ((p4 + p5 + p6 + p7) + 256 * ((p5 + p6 + p7) + 256 * ((p6 + p7) + 256 * p7))))) + ((p5 + p6 + p7) + 256 * ((p6 + p7) + 256 * p7)))) (by omega) (by omega)

theorem swar (x y z : Nat) (hy : y = (x / 2 &&& mk 85 8) + (x &&& mk 85 8)) (hz : z = (y / 4 &&& mk 51 8) + (y &&& mk 51 8)) :
    y < 18446744073709551616 ∧ z < 18446744073709551616 ∧ z / 16 + z < 18446744073709551616 ∧
    (z / 16 + z &&& mk 15 8) = bw pcb 8 x := by
  have ey : y = bw s1 8 x := by rw [hy, step1]
  have ez : z = bw (fun b => s2 (s1 b)) 8 x := by rw [hz, step2, ey, bw_bw _ _ s1_lt]
  have hz' : z ≤ 4919131752989213764 := by
    rw [ez]
    have h : ∀ n x, bw (fun b => s2 (s1 b)) n x ≤ mk 68 n := by
      intro n
      induction n with
      | zero => intro x; simp [bw, mk]
      | succ n ih =>
        intro x
        have h1 := ih (x / 256)
        have h2 := s21_low (x % 256) (by omega)
        have h3 := s21_high (x % 256) (by omega)
        simp only [bw, mk]
        omega
    exact Nat.le_trans (h 8 x) (by decide)
  refine ⟨?_, ?_, ?_, ?_⟩
  · rw [ey]; exact bw_lt s1 s1_lt 8 x
  · omega
  · omega
  · rw [ez, step3 _ s21_low s21_high]
    exact bw_congr pcb_swar 8 x

/-- The whole of it: neighbours added, six times. -/
theorem swar_pc (x y z u : Nat) (hy : y = (x / 2 &&& 6148914691236517205) + (x &&& 6148914691236517205)) (hz : z = (y / 4 &&& 3689348814741910323) + (y &&& 3689348814741910323)) (hu : u = (z / 16 + z &&& 1085102592571150095)) :
    y < 18446744073709551616 ∧ z < 18446744073709551616 ∧ z / 16 + z < 18446744073709551616 ∧ u < 18446744073709551616 ∧ u + u / 256 < 2000000000000000000 ∧ (u + u / 256) + (u + u / 256) / 65536 < 4000000000000000000 ∧
    ((u + u / 256) + (u + u / 256) / 65536) + ((u + u / 256) + (u + u / 256) / 65536) / 4294967296 < 8000000000000000000 ∧
    (((u + u / 256) + (u + u / 256) / 65536) + ((u + u / 256) + (u + u / 256) / 65536) / 4294967296) % 128 = pc x := by
  obtain ⟨a, b, c, d⟩ := swar x y z hy hz
  have hu' : u = bw pcb 8 x := by rw [hu, ← d]; rfl
  rw [pc_bytes]
  have hx := fold_bytes (pcb (x % 256)) (pcb (x / 256 % 256)) (pcb (x / 256 / 256 % 256)) (pcb (x / 256 / 256 / 256 % 256)) (pcb (x / 256 / 256 / 256 / 256 % 256)) (pcb (x / 256 / 256 / 256 / 256 / 256 % 256))
    (pcb (x / 256 / 256 / 256 / 256 / 256 / 256 % 256)) (pcb (x / 256 / 256 / 256 / 256 / 256 / 256 / 256 % 256)) (pcb_le _) (pcb_le _) (pcb_le _) (pcb_le _) (pcb_le _) (pcb_le _) (pcb_le _) (pcb_le _) u
    (by rw [hu']; rfl)
  exact ⟨a, b, c, by have := hx.1; omega, hx⟩

/-! In the machine's own spelling. -/
theorem wrap_fit (n : Nat) (h : n < 18446744073709551616) : IntKind.u64.wrap (n : Int) = (n : Int) := by rw [IntKind.wrap_u64]; omega
theorem and_i64 (a b : Nat) (ha : a < 9223372036854775808) (hb : b < 9223372036854775808) : bits .and .i64 (a : Int) (b : Int) = ((a &&& b : Nat) : Int) := by
  have ofi : ∀ a : Nat, a < 9223372036854775808 → (BitVec.ofInt 64 (a : Int)).toNat = a := by
    intro a ha
    rw [BitVec.ofInt_natCast, BitVec.toNat_ofNat]; exact Nat.mod_eq_of_lt (by omega)
  have hx : a &&& b < 2 ^ 63 := Nat.and_lt_two_pow _ (by omega)
  show IntKind.i64.wrap ((BitVec.ofInt 64 (a : Int) &&& BitVec.ofInt 64 (b : Int)).toNat : Int) = _
  rw [BitVec.toNat_and, ofi a ha, ofi b hb, IntKind.wrap_i64]
  omega

/-- i & -i, of a number that has a lowest one. -/
theorem and_minus (i : Nat) (h0 : 0 < i) (h : i < 9223372036854775808) : bits .and .i64 (i : Int) (-(i : Int)) = ((lb i : Nat) : Int) := by
  have h1 : (BitVec.ofInt 64 (i : Int)).toNat = i := by
    rw [BitVec.ofInt_natCast, BitVec.toNat_ofNat]; exact Nat.mod_eq_of_lt (by omega)
  have h2 : (BitVec.ofInt 64 (-(i : Int))).toNat = 2 ^ 64 - i := by
    rw [BitVec.toNat_ofInt]
    omega
  obtain ⟨m, hm, hk⟩ := Lib.ctzFrom_spec 64 i h0 (by omega)
  have h3 := Lib.and_neg 64 (Lib.ctzFrom 64 i) m (by rw [← hm]; omega)
  rw [← hm] at h3
  have h4 : lb i = 2 ^ Lib.ctzFrom 64 i := by
    have := lb_step m (Lib.ctzFrom 64 i)
    rwa [← hm] at this
  show IntKind.i64.wrap ((BitVec.ofInt 64 (i : Int) &&& BitVec.ofInt 64 (-(i : Int))).toNat : Int) = _
  rw [BitVec.toNat_and, h1, h2, h3, IntKind.wrap_i64, ← h4]
  have := lb_le i
  omega

end Go.Proofs.Ytmbcinbkijnblaa.V1.Fen
