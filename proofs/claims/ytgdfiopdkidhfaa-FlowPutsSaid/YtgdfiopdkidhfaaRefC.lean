/- The document's vector: Bytes. -/
import Derived.Test.YtgdfiopdkidhfaaRefB
namespace Go.Proofs.Ytgdfiopdkidhfaa.V1
open Go.RowKit
open Fen

/-- The first i bits. -/
def fH (f : Nat → Bool) (i j : Nat) : Bool := decide (j < i) && f j
theorem fH_far (f : Nat → Bool) {i j : Nat} (h : i ≤ j) : fH f i j = false := by
  have : decide (j < i) = false := by rw [decide_eq_false_iff_not]; omega
  simp [fH, this]
theorem fH_same (f : Nat → Bool) {i j : Nat} (h : j ≠ i) : fH f (i + 1) j = fH f i j := by
  unfold fH
  rw [show decide (j < i + 1) = decide (j < i) by rw [decide_eq_decide]; omega]
theorem fH_at (f : Nat → Bool) (i : Nat) : fH f (i + 1) i = f i := by simp [fH]
theorem fH_all {f : Nat → Bool} {n : Nat} (h : ∀ i, n ≤ i → f i = false) : fH f n = f := by
  funext j
  by_cases hj : n ≤ j
  · rw [fH_far f hj, h j hj]
  · have : j < n := by omega
    simp [fH, this]
theorem byteOf_ext {f g : Nat → Bool} {k : Nat} (h : ∀ j, j < 8 → f (8 * k + j) = g (8 * k + j)) : byteOf f k = byteOf g k := by
  apply Nat.eq_of_testBit_eq
  intro i
  rw [testBit_byteOf, testBit_byteOf]
  by_cases hi : i < 8
  · rw [h i hi]
  · simp [hi]
theorem byteOf_H_no {f : Nat → Bool} {i : Nat} (hf : f i = false) (k : Nat) : byteOf (fH f (i + 1)) k = byteOf (fH f i) k :=
  byteOf_ext fun j _ => by
    by_cases e : 8 * k + j = i
    · rw [e, fH_at, hf, fH_far f (Nat.le_refl _)]
    · exact fH_same f e
theorem byteOf_H_ne (f : Nat → Bool) {i k : Nat} (hk : k ≠ i / 8) : byteOf (fH f (i + 1)) k = byteOf (fH f i) k :=
  byteOf_ext fun j hj => fH_same f (by omega)
theorem byteOf_H_lt (f : Nat → Bool) (i : Nat) : byteOf (fH f i) (i / 8) < 2 ^ (i % 8) := by
  apply Nat.lt_pow_two_of_testBit
  intro j hj
  rw [testBit_byteOf, fH_far f (by omega)]
  simp
theorem byteOf_H_yes {f : Nat → Bool} {i : Nat} (hf : f i = true) : byteOf (fH f (i + 1)) (i / 8) = byteOf (fH f i) (i / 8) + 2 ^ (i % 8) := by
  have h1 := Nat.two_pow_add_eq_or_of_lt (byteOf_H_lt f i) 1
  rw [Nat.mul_one] at h1
  rw [Nat.add_comm (byteOf _ _), h1]
  clear h1
  apply Nat.eq_of_testBit_eq
  intro j
  rw [Nat.testBit_or, Nat.testBit_two_pow, testBit_byteOf, testBit_byteOf]
  by_cases e : i % 8 = j
  · subst e
    have h8 : i % 8 < 8 := by omega
    rw [show 8 * (i / 8) + i % 8 = i by omega, fH_at, hf]
    simp [h8]
  · rw [fH_same f (by omega)]
    simp [e]

def BytH (w wr : World) (m : Nat) (f : Nat → Bool) (i : Nat) : Prop :=
  wr.heap.size = w.heap.size + 1 ∧ wr.rowIs w.heap.size 5 m (fun k => .int .u8 ((byteOf (fH f i) k : Nat) : Int)) ∧ Only (fun _ => False) w wr
theorem BytH.begin (w : World) (m : Nat) (f : Nat → Bool) : BytH w (w.alloc (Obj.cells (madeCells #[Value.int IntKind.u8 0] m) 5)) m f 0 :=
  ⟨by simp, (World.rowIs_made w _ _ _).congr fun i _ => by
    have : byteOf (fH f 0) i = 0 := by
      apply Nat.eq_of_testBit_eq
      intro j
      rw [testBit_byteOf, fH_far f (Nat.zero_le _)]; simp
    rw [this]; rfl, (Only.refl _ w).alloc _⟩
theorem BytH.skip {w wr : World} {m i : Nat} {f : Nat → Bool} (h : BytH w wr m f i) (hf : f i = false) : BytH w wr m f (i + 1) :=
  ⟨h.1, h.2.1.congr fun k _ => by rw [byteOf_H_no hf], h.2.2⟩
theorem BytH.store {w wr : World} {m i : Nat} {f : Nat → Bool} (h : BytH w wr m f i) (hf : f i = true) (z : Int) (hz : z = ((byteOf (fH f i) (i / 8) + 2 ^ (i % 8) : Nat) : Int)) : BytH w (wr.setCell ⟨w.heap.size, i / 8, none⟩ (.int .u8 z)) m f (i + 1) := by
  subst hz
  refine ⟨by simpa [World.setCell] using h.1, (h.2.1.set (i / 8) _).congr fun k _ => ?_, h.2.2.setCell (.inr (Nat.le_refl _)) _⟩
  by_cases e : k = i / 8
  · subst e; rw [if_pos rfl, byteOf_H_yes hf]
  · rw [if_neg e, byteOf_H_ne f e]
theorem BytH.done {w wr : World} {m n : Nat} {f : Nat → Bool} (h : BytH w wr m f n) (hf : ∀ i, n ≤ i → f i = false) : BytR w wr m f m := by
  rw [BytH, fH_all hf] at h
  exact ⟨h.1, h.2.1.congr fun k hk => by rw [if_pos hk], h.2.2⟩
theorem BytH.drew {w wr : World} {m i : Nat} {f : Nat → Bool} (h : BytH w wr m f i) : BytH w wr.drew m f i := ⟨h.1, h.2.1, h.2.2.drew⟩
theorem add_byte (x m : Nat) (hx : x < 2 ^ m) (hm : m < 8) : ((x : Int) + (2 : Int) ^ m) % 256 = ((x + 2 ^ m : Nat) : Int) := by
  have h7 : 2 ^ m ≤ 2 ^ 7 := Nat.pow_le_pow_right (by decide) (by omega)
  have e : (2 : Int) ^ m = ((2 ^ m : Nat) : Int) := by simp
  rw [e]
  generalize 2 ^ m = q at h7 hx
  omega

set_option maxHeartbeats 1000000 in
theorem refBytes_any {r gl n cap : Nat} {f : Nat → Bool} {w : World} (h : IsRef w r gl n cap f) :
    Calls Try.prog 21 #[.pointer (some ⟨r, 0, none⟩)] w fun e w' => e = .returned (.slice (some ⟨w.heap.size, 0, none⟩) ((n + 7) / 8) ((n + 7) / 8)) ∧ Hid (BytR w w' ((n + 7) / 8) f ((n + 7) / 8)) := by
  have hn := h.small
  obtain ⟨m, hm⟩ : ∃ m, m = (n + 7) / 8 := ⟨_, rfl⟩
  rw [← hm]
  have hKe : (((n : Nat) : Int) + 7) / 8 = (m : Int) := by omega
  have hmk := fun W => run_make_row' (P := Try.prog) 52 5 (.int .u8 0) 1 Try.underlying52 uint8Info rfl .i64 .i64 m (by omega) (by omega) W
  have hmW : Hid (∀ k, k < n → k / 8 < m) := hid (fun k hk => by omega)
  have hm' : m ≤ 2097152 := by omega
  clear hm
  have HV := hid h
  have hc0 := h.head
  clear h
  go_enter Try.func21, Try.ntmps21
  go_wp2_with fail
  clear hmk hKe
  go_loopw [4] (fun s wr => ∃ k : Nat, k ≤ n ∧ s = .int .i64 k ∧ Hid (BytH w wr m f k)) (fun s _ => n - (intOf s).toNat)
  case atStart => exact ⟨0, by omega, rfl, hid (BytH.begin w m f)⟩
  case round =>
    obtain ⟨k, hk, rfl, HR⟩ := hrel
    have hcr := (HV.out.same HR.out.2.2).head
    by_cases hp : k < n
    · have hkm := hmW.out k hp
      have ck := (HV.out.same HR.out.2.2).cell hp
      cases hf : f k with
      | true =>
        rw [hf] at ck
        have db := HR.out.2.1.cell hkm
        have fb := HR.out.2.1.frozen (k / 8)
        have hlt := byteOf_H_lt f k
        have HN : Hid (∀ z : Int, z = ((byteOf (fH f k) (k / 8) + 2 ^ (k % 8) : Nat) : Int) → BytH w (wr.setCell ⟨w.heap.size, k / 8, none⟩ (.int .u8 z)) m f (k + 1)) := hid fun z hz => HR.out.store hf z hz
        clear HR hf
        generalize byteOf (fH f k) (k / 8) = x at db hlt HN
        have HA := hid (add_byte x (k % 8) hlt (by omega))
        clear hlt
        have hwk : IntKind.i64.wrap ((k : Int) / 8) = (k : Int) / 8 := by rw [IntKind.wrap_i64]; omega
        have hk0 : 0 ≤ (k : Int) / 8 := by omega
        have hkm' : (k : Int) / 8 < (m : Int) := by omega
        have hkn : ((k : Int) / 8).toNat = k / 8 := by omega
        go_wp2
        go_region
        all_goals go_wp2
        go_roundw
        case rel => exact ⟨k + 1, by omega, by go_num, hid (HN.out _ HA.out).drew⟩
        case measure => simp [intOf]; omega
      | false =>
        rw [hf] at ck
        have HN := hid (HR.out.skip hf)
        clear HR hf
        go_wp2
        go_roundw
        case rel => exact ⟨k + 1, by omega, by go_num, HN⟩
        case measure => simp [intOf]; omega
    · obtain rfl : k = n := by omega
      have HD := hid (HR.out.done HV.out.out)
      clear HR
      go_wp2
      go_ret
      exact ⟨rfl, HD⟩
end Go.Proofs.Ytgdfiopdkidhfaa.V1
