/- Bytes of a vector. -/
import Derived.Test.YtmbcinbkijnblaaVecN
namespace Go.Proofs.Ytmbcinbkijnblaa.V1
open Go.RowKit
open Fen

def byteOf (f : Nat → Bool) (i : Nat) : Nat := wordOf f (i / 8) / 2 ^ (i % 8 * 8) % 256
theorem byteOf_lt (f : Nat → Bool) (i : Nat) : byteOf f i < 256 := Nat.mod_lt _ (by decide)
theorem testBit_byteOf (f : Nat → Bool) (i j : Nat) : (byteOf f i).testBit j = (decide (j < 8) && f (8 * i + j)) := by
  unfold byteOf
  rw [show (256 : Nat) = 2 ^ 8 by rfl, Nat.testBit_mod_two_pow, Nat.testBit_div_two_pow, testBit_wordOf]
  by_cases h : j < 8
  · rw [show 64 * (i / 8) + (j + i % 8 * 8) = 8 * i + j by omega]
    have : j + i % 8 * 8 < 64 := by omega
    simp [h, this]
  · simp [h]

/-- Bytes laid so far. -/
def BytR (w wr : World) (m : Nat) (f : Nat → Bool) (k : Nat) : Prop :=
  wr.heap.size = w.heap.size + 1 ∧ wr.rowIs w.heap.size 5 m (fun i => .int .u8 ((if i < k then byteOf f i else 0 : Nat) : Int)) ∧ Only (fun _ => False) w wr
theorem BytR.begin (w : World) (m : Nat) (f : Nat → Bool) : BytR w (w.alloc (Obj.cells (madeCells #[Value.int IntKind.u8 0] m) 5)) m f 0 :=
  ⟨by simp, (World.rowIs_made w _ _ _).congr fun i _ => by simp, (Only.refl _ w).alloc _⟩
theorem BytR.store {w wr : World} {m k : Nat} {f : Nat → Bool} (h : BytR w wr m f k) (z : Int) (hz : z = ((byteOf f k : Nat) : Int)) : BytR w (wr.setCell ⟨w.heap.size, k, none⟩ (.int .u8 z)) m f (k + 1) := by
  subst hz
  refine ⟨by simpa [World.setCell] using h.1, (h.2.1.set k _).congr fun i _ => ?_, h.2.2.setCell (.inr (Nat.le_refl _)) _⟩
  by_cases e : i = k
  · subst e; simp
  · rw [if_neg e]
    by_cases h1 : i < k
    · have h2 : i < k + 1 := by omega
      simp [h1, h2]
    · have h2 : ¬ i < k + 1 := by omega
      simp [h1, h2]

theorem byte_int (x s : Nat) : (x : Int) / 2 ^ s % 256 = ((x / 2 ^ s % 256 : Nat) : Int) := by
  have e : (x : Int) / 2 ^ s = ((x / 2 ^ s : Nat) : Int) := by simp
  rw [e]; omega

set_option maxHeartbeats 1000000 in
theorem bytes_any {g gs gw n : Nat} {f : Nat → Bool} {w : World} (h : IsVec w g gs gw n f) :
    Calls Try.prog 67 #[.pointer (some ⟨g, 0, none⟩)] w fun e w' => e = .returned (.slice (some ⟨w.heap.size, 0, none⟩) ((n + 7) / 8) ((n + 7) / 8)) ∧ Hid (BytR w w' ((n + 7) / 8) f ((n + 7) / 8)) := by
  have hn := h.small
  obtain ⟨m, hm⟩ : ∃ m, m = (n + 7) / 8 := ⟨_, rfl⟩
  rw [← hm]
  have hKe : Hid ((((n : Nat) : Int) + 8 - 1) / 8 = (m : Int)) := hid (by omega)
  have hmk := fun W => run_make_row' (P := Try.prog) 94 5 (.int .u8 0) 1 Try.underlying94 uint8Info rfl .i64 .i64 m (by omega) (by omega) W
  have hmW : Hid (∀ k, k < m → k / 8 < nw n) := hid (fun k hk => by unfold nw; omega)
  have hm' : m ≤ 2097152 := by omega
  clear hm
  have HV := hid h
  have hself := hid (h.self.cell (i := 2) (by omega))
  have hs : w.cell? ⟨g, 4, none⟩ = some (.int .i64 ((n : Nat) : Int)) := h.self.cell (i := 4) (by omega)
  clear h
  go_enter Try.func67, Try.ntmps67
  go_wp2_with (first | (go_at_call 71; refine (answered_core _ _ hself.out).mono ?_; rintro e w' ⟨rfl, rfl⟩) | (go_at_call 96; refine (pieces_any _ _ _ (by omega) (by omega) (by omega) (by omega)).mono ?_; rintro e w' ⟨rfl, rfl⟩; rw [hKe.out]))
  clear hmk
  go_loopw [16] (fun s wr => ∃ k : Nat, k ≤ m ∧ s = .int .i64 k ∧ Hid (BytR w wr m f k)) (fun s _ => m - (intOf s).toNat)
  case atStart => exact ⟨0, by omega, rfl, hid (BytR.begin w m f)⟩
  case round =>
    obtain ⟨k, hk, rfl, HR⟩ := hrel
    by_cases hp : k < m
    · have hkW := hmW.out k hp
      have c3 : wr.cell? ⟨g, 3, none⟩ = some (.slice (some ⟨gw, 0, none⟩) (nw n) (nw n)) := (HR.out.2.2.row HV.out.self (fun h => h)).cell (i := 3) (by omega)
      have dk := (HR.out.2.2.row HV.out.words (fun h => h)).cell hkW
      have db := HR.out.2.1.cell hp
      have fb := HR.out.2.1.frozen k
      have hv := wordOf_lt f (k / 8)
      have HN : Hid (∀ z : Int, z = ((wordOf f (k / 8) / 2 ^ (k % 8 * 8) % 256 : Nat) : Int) → BytR w (wr.setCell ⟨w.heap.size, k, none⟩ (.int .u8 z)) m f (k + 1)) := hid fun z hz => HR.out.store z hz
      clear HR
      generalize wordOf f (k / 8) = x at dk hv HN
      go_wp2
      go_roundw
      case rel => exact ⟨k + 1, by omega, by go_num, hid (HN.out _ (byte_int x _))⟩
      case measure => simp [intOf]; omega
    · obtain rfl : k = m := by omega
      go_wp2
      go_ret
      exact ⟨rfl, HR⟩
end Go.Proofs.Ytmbcinbkijnblaa.V1
