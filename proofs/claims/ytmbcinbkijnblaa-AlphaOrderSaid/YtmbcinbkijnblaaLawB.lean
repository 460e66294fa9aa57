/- The law BitsBytes. -/
import Derived.Test.YtmbcinbkijnblaaKitB
import Derived.Test.YtmbcinbkijnblaaVecSet
namespace Go.Proofs.Ytmbcinbkijnblaa.V1
open Go.RowKit
open Fen

theorem RdB.only {S : Nat → Prop} {w w' : World} {A : Option Addr} {xs : List Bool} (h : RdB w A xs) (ho : Only S w w') (hS : ∀ b off, A = some ⟨b, off, none⟩ → b < w.heap.size → ¬ S b) : RdB w' A xs := by
  intro j hj
  obtain ⟨b, off, hA, hc⟩ := h j hj
  refine ⟨b, off, hA, fun i hi => ?_⟩
  have hci := hc i hi
  rw [ho.cell (cell_lt hci) (hS b off hA (cell_lt hci)), hci]

/-- The bytes of a vector, as a list. -/
def bytesL (n : Nat) (f : Nat → Bool) : List Nat := (List.range ((n + 7) / 8)).map (byteOf f)
theorem bytesL_len (n : Nat) (f : Nat → Bool) : (bytesL n f).length = (n + 7) / 8 := by simp [bytesL]
theorem bytesL_get (n : Nat) (f : Nat → Bool) (j : Nat) (h : j < (n + 7) / 8) : (bytesL n f).getD j 0 = byteOf f j := by
  simp [bytesL, List.getD, h]
theorem bytesL_rd {w w' : World} {n : Nat} {f : Nat → Bool} (h : BytR w w' ((n + 7) / 8) f ((n + 7) / 8)) : RdY w' (some ⟨w.heap.size, 0, none⟩) (bytesL n f) := by
  refine ⟨fun j => ?_, fun j hj => ⟨w.heap.size, 0, rfl, fun i hi => ?_⟩⟩
  · by_cases hj : j < (n + 7) / 8
    · rw [bytesL_get n f j hj]; exact byteOf_lt f j
    · rw [getDn_far _ _ (by rw [bytesL_len]; omega)]; omega
  · rw [bytesL_len] at hi
    have := h.2.1.cell hi
    rw [Nat.zero_add, this, if_pos hi, bytesL_get n f i hi]
theorem fB_bytesL {n : Nat} {f : Nat → Bool} (hf : ∀ i, n ≤ i → f i = false) : fB (bytesL n f) = f := by
  funext i
  unfold fB
  by_cases h : i / 8 < (n + 7) / 8
  · rw [bytesL_get n f _ h, testBit_byteOf, show 8 * (i / 8) + i % 8 = i by omega]
    have : i % 8 < 8 := by omega
    simp [this]
  · rw [getDn_far _ _ (by rw [bytesL_len]; omega), hf i (by omega)]; simp
theorem shape_bytesL {n : Nat} {f : Nat → Bool} (hf : ∀ i, n ≤ i → f i = false) : shapeOk n (bytesL n f) := by
  refine ⟨bytesL_len n f, ?_⟩
  by_cases hm : n % 8 = 0
  · exact .inl hm
  · right
    rw [bytesL_len, bytesL_get n f _ (by omega)]
    apply Nat.div_eq_of_lt
    apply Nat.lt_pow_two_of_testBit
    intro i hi
    rw [testBit_byteOf]
    by_cases h8 : i < 8
    · rw [hf _ (by omega)]; simp
    · simp [h8]
/-- What bytes are read to has these bytes. -/
theorem bytesL_fB {n : Nat} {bs : List Nat} (hb : ∀ j, bs.getD j 0 < 256) (hs : shapeOk n bs) : bytesL n (fB bs) = bs := by
  apply List.ext_getElem
  · rw [bytesL_len, hs.1]
  · intro j h1 h2
    have h3 : j < (n + 7) / 8 := by rw [← hs.1]; exact h2
    have e1 : (bytesL n (fB bs))[j] = byteOf (fB bs) j := by simp [bytesL]
    have e2 : bs[j] = bs.getD j 0 := by simp [List.getD, h2]
    rw [e1, e2]
    apply Nat.eq_of_testBit_eq
    intro i
    rw [testBit_byteOf]
    unfold fB
    by_cases h8 : i < 8
    · rw [show (8 * j + i) / 8 = j by omega, show (8 * j + i) % 8 = i by omega]; simp [h8]
    · have h4 : bs.getD j 0 < 2 ^ i := by
        have := hb j
        have h5 : 2 ^ 8 ≤ 2 ^ i := Nat.pow_le_pow_right (by decide) (by omega)
        omega
      rw [Nat.testBit_lt_two_pow h4]; simp [h8]

/-- A step that turns nothing below a block that the call made. -/
theorem Below.only {B : Nat} {a b w : World} {S : Nat → Prop} (h : Below B a b) (o : Only S b w) (hS : ∀ k, S k → B ≤ k) (hB : B ≤ b.heap.size) : Below B a w := h.trans (o.to_below hS hB)
theorem read_bytes {w w4 w5 : World} {n : Nat} {f : Nat → Bool} (hn : n ≤ 16777216) (hf : ∀ i, n ≤ i → f i = false) (h : BytR w4 w5 ((n + 7) / 8) f ((n + 7) / 8)) (_u : w = w) :
    Calls Try.prog 65 #[.int .i64 (n : Int), .slice (some ⟨w4.heap.size, 0, none⟩) ((n + 7) / 8) ((n + 7) / 8)] w5 (Made w5 n f) := by
  have h1 := read_ok n ((n + 7) / 8) (some ⟨w4.heap.size, 0, none⟩) (bytesL n f) w5 (bytesL_rd h) hn (shape_bytesL hf)
  rw [bytesL_len, fB_bytesL hf] at h1
  exact h1
theorem RdI_one (w : World) (t : TypeId) (k : Int) : RdI (w.alloc (Obj.cells #[.int .i64 k] t)) (some ⟨w.heap.size, 0, none⟩) [k] := by
  intro _ _
  refine ⟨w.heap.size, 0, rfl, fun j hj => ?_⟩
  have hj0 : j = 0 := by simp at hj; omega
  subst hj0
  exact (World.rowIs_alloc w #[.int .i64 k] t (fun _ => .int .i64 k) (fun i hi => by
    match i, hi with
    | 0, _ => rfl
    | i + 1, hi => exact absurd (show i + 1 < 1 from hi) (by omega))).cell (i := 0) (by simp)

end Go.Proofs.Ytmbcinbkijnblaa.V1
