/- A writer: Grow, pieces, hexadecimal. -/
import Derived.Test.YtefcnaccemefnaaGreatDoorTe4
namespace Go.Proofs.YtefcnaccemefnaaGreatDoor
open Go.RowKit U G

set_option maxHeartbeats 2000000 in
set_option maxRecDepth 1000000 in
theorem grow_any (n : Nat) (w : World) (hn : n ≤ 281474976710656) :
    Calls Tryz.prog 48 #[.pointer (some ⟨w.heap.size, 0, none⟩), .int .i64 n] (w.alloc (.cells #[.pointer none, .slice none 0 0] 59)) fun e w' => e = .returned (.tuple #[]) ∧ Hid (WrS w w' w.heap.size []) := by
  have hbk := heap_new w (.cells #[.pointer none, .slice none 0 0] 59)
  have hB := (Only.refl (fun _ => False) w).alloc (.cells #[.pointer none, .slice none 0 0] 59)
  obtain ⟨b, hb⟩ : ∃ b, b = w.heap.size := ⟨_, rfl⟩
  rw [← hb] at hbk ⊢
  generalize w.alloc (.cells #[.pointer none, .slice none 0 0] 59) = w1 at *
  have hge : w.heap.size ≤ b := by omega
  have hbk1 : (w1.setCell ⟨b, 0, none⟩ (.pointer (some ⟨b, 0, none⟩))).heap[b]? = some (.cells #[.pointer (some ⟨b, 0, none⟩), .slice none 0 0] 59 (0, 0)) := by
    simp [World.setCell, Array.getElem?_modify, hbk]
  have hO1 : Only (fun _ => False) w (w1.setCell ⟨b, 0, none⟩ (.pointer (some ⟨b, 0, none⟩))) := hB.setCell (p := ⟨b, 0, none⟩) (.inr hge) _
  have HChk := check_fresh b w1 (by rw [Lib.cell_of_heap hbk]; rfl) (by simp [World.shape?, hbk]) (Lib.frozen_of_heap hbk 0)
  generalize w1.setCell ⟨b, 0, none⟩ (.pointer (some ⟨b, 0, none⟩)) = w2 at *
  have c1 : w2.cell? ⟨b, 1, none⟩ = some (.slice none 0 0) := by rw [Lib.cell_of_heap hbk1]; rfl
  have c1' : w2.drew.cell? ⟨b, 1, none⟩ = some (.slice none 0 0) := c1
  have HG : Hid (∀ W, Only (fun _ => False) w W → W.heap[b]? = some (.cells #[.pointer (some ⟨b, 0, none⟩), .slice none 0 0] 59 (0, 0)) → Calls Tryz.prog 78 #[.pointer (some ⟨b, 0, none⟩), .int .i64 n] W fun e w' => e = .returned (.tuple #[]) ∧ Hid (WrS w w' b [])) := hid fun W hW hbW => (grow_row w.heap.size b n W hge hbW hW.size hn).mono fun e w' h => by
    obtain ⟨he, ⟨_, v, h1, h2, _⟩, h3⟩ := h
    exact ⟨he, hid ⟨hge, ⟨_, v, .inr rfl, h1, h2⟩, only_below hW h3⟩⟩
  have HF : Hid (∀ k, WrS w (w2.drewN k) b []) := hid fun k => ⟨hge, ⟨_, .slice none 0 0, .inr rfl, hbk1, ⟨rfl, .inl ⟨rfl, rfl⟩⟩⟩, hO1.drewN k⟩
  have HO1 : Hid (∀ k, Only (fun _ => False) w (w2.drewN k)) := hid fun k => hO1.drewN k
  have HK1 : Hid (∀ k, (w2.drewN k).heap[b]? = some (.cells #[.pointer (some ⟨b, 0, none⟩), .slice none 0 0] 59 (0, 0))) := hid fun k => hbk1
  clear hbk hB hbk1 hO1 hge c1' hb
  go_enter Tryz.func48, Tryz.ntmps48
  go_wp2_with (go_at_call 77; refine HChk.mono ?_; rintro e w4 ⟨rfl, rfl⟩)
  go_quiet (fail)
  have HF2 := hid (HF.out nq)
  have HO2 := hid (HO1.out nq)
  have HK2 := hid (HK1.out nq)
  clear HF HO1 HK1 c1
  generalize w4.drewN nq = w3 at *
  go_wp2_with (go_at_call 78; refine (HG.out _ HO2.out HK2.out).mono ?_; rintro e w' ⟨rfl, HX⟩)
  · go_end0
    exact ⟨rfl, HX⟩
  · go_end0
    exact ⟨rfl, HF2⟩
/-- Texts that lie in a row. -/
def vS (ss : List ByteArray) (j : Nat) : Value := .string (ss.getD j ByteArray.empty)
theorem flat_take {ss : List ByteArray} {k : Nat} (h : k < ss.length) : (ss.take (k + 1)).flatMap bl = (ss.take k).flatMap bl ++ bl (ss.getD k ByteArray.empty) := by
  rw [List.take_add_one, List.getElem?_eq_getElem h, List.flatMap_append]
  simp [List.getD, h]
theorem flat_le (ss : List ByteArray) (k : Nat) : ((ss.take k).flatMap bl).length ≤ (ss.flatMap bl).length := by
  have := congrArg (fun l : List ByteArray => (l.flatMap bl).length) (List.take_append_drop k ss)
  simp only [List.flatMap_append, List.length_append] at this
  omega
set_option maxHeartbeats 1000000 in
theorem pieces_any {w0 w : World} {b g n : Nat} {l : List Nat} {ss : List ByteArray} (h : WrS w0 w b l) (hg : w.rowIs g 9 n (vS ss)) (hn : n = ss.length) (hn2 : n ≤ 1000) (hlen : l.length + (ss.flatMap bl).length ≤ 140737488355328) :
    Calls Tryz.prog 50 #[.pointer (some ⟨b, 0, none⟩), .slice (some ⟨g, 0, none⟩) n n] w fun e w' => e = .returned (.tuple #[]) ∧ WrE w0 w b (l ++ ss.flatMap bl) w' := by
  have HC : Hid (∀ W, FrT Tw w0.heap.size w W → ∀ k, k < n → W.cell? ⟨g, k, none⟩ = some (.string (ss.getD k ByteArray.empty))) := hid fun W hW k hk => World.rowIs.cell (hW.row hg (by decide)) hk
  have HW : Hid (∀ W k, k < n → WrE w0 w b (l ++ (ss.take k).flatMap bl) W → Calls Tryz.prog 82 #[.pointer (some ⟨b, 0, none⟩), .string (ss.getD k ByteArray.empty)] W fun e w' => e = .returned (.tuple #[.int .i64 (ss.getD k ByteArray.empty).size, .nilIface]) ∧ WrE w0 w b (l ++ (ss.take (k + 1)).flatMap bl) w') := hid fun W k hk hW => by
    have h1 := flat_le ss (k + 1)
    have h2 := flat_take (ss := ss) (k := k) (by omega)
    rw [h2, List.length_append, bl_len] at h1
    refine (writeString_any hW.out.1 (by rw [List.length_append]; omega)).mono fun e w' h3 => ⟨h3.1, hid ⟨?_, hW.out.2.trans h3.2.out.2⟩⟩
    rw [h2, ← List.append_assoc]
    exact h3.2.out.1
  have H0 : WrE w0 w b (l ++ (ss.take 0).flatMap bl) w := hid ⟨by simpa using h, FrT.refl _ _ _⟩
  have HE : Hid (ss.take n = ss) := hid (by rw [hn, List.take_length])
  clear h hg hn hlen
  go_enter Tryz.func50, Tryz.ntmps50
  go_wp2_with fail
  go_loopw [8] (fun s wr => ∃ k : Nat, k ≤ n ∧ s = .int .i64 (k : Int) ∧ WrE w0 w b (l ++ (ss.take k).flatMap bl) wr) (fun s _ => n - (intOf s).toNat)
  case atStart => exact ⟨0, by omega, rfl, H0⟩
  case round =>
    obtain ⟨k, hk, rfl, HX⟩ := hrel
    clear H0
    by_cases hp : k < n
    · have hp' : (k : Int) < (n : Int) := by omega
      have d := HC.out wr HX.out.2 k hp
      have HWk := hid (HW.out wr k hp HX)
      generalize ss.getD k ByteArray.empty = t at *
      clear HX
      go_wp2_with (go_at_call 82; refine HWk.out.mono ?_; rintro e w2 ⟨rfl, HX2⟩)
      go_roundw
      case rel => exact ⟨k + 1, by omega, by go_num, HX2⟩
      case measure => simp [intOf]; omega
    · obtain rfl : k = n := by omega
      rw [HE.out] at HX
      go_wp2_with fail
      go_end0
      exact ⟨rfl, HX⟩
def hexS : ByteArray := { data := #[48, 49, 50, 51, 52, 53, 54, 55, 56, 57, 65, 66, 67, 68, 69, 70] }
theorem hexS_at : ∀ n : Fin 16, hexS.extract n.val (n.val + 1) = strB [hexD n.val] := by decide +kernel
set_option maxHeartbeats 1000000 in
set_option maxRecDepth 100000 in
theorem hexa_any {n : Nat} (h : n < 16) (w : World) :
    Calls Tryz.prog 81 #[.int .i32 (n : Int)] w fun e w' => e = .returned (.string (strB [hexD n])) ∧ w = w' := by
  have hw : IntKind.i32.wrap ((n : Int) + 1) = (n : Int) + 1 := by rw [IntKind.wrap_i32]; omega
  have hsl : ∀ W, (Instr.slice 9 (.string hexS) (some (.int .i32 (n : Int))) (some (.int .i32 ((n : Int) + 1))) none).run Tryz.prog W = .ok (.string (strB [hexD n])) W := fun W => by
    have h16 : hexS.size = 16 := rfl
    have := run_slice_string (P := Tryz.prog) W 9 hexS .i32 .i32 (n : Int) ((n : Int) + 1) Tryz.underlying9 (by omega) (by omega) (by rw [h16]; omega)
    rw [this, ← hexS_at ⟨n, h⟩]
    congr 3
  generalize strB [hexD n] = r at *
  unfold hexS at hsl
  go_enter Tryz.func81, Tryz.ntmps81
  go_wp2
  go_ret
  exact ⟨rfl, rfl⟩
end Go.Proofs.YtefcnaccemefnaaGreatDoor
