/- pack: Bytes, All. -/
import Derived.Test.YtimkclmaglofaaaPk4
import Derived.Deep.RegionHeld3
namespace Go.Proofs.Ytimkclmaglofaaa
open Go.RowKit
open Bit

/-- Elements laid so far, in a block that the call made. -/
def LaidR (w wr : World) (g : Nat) (t : TypeId) (m : Nat) (V : Nat → Value) (z : Value) (k : Nat) : Prop :=
  w.heap.size ≤ g ∧ wr.rowIs g t m (fun i => if i < k then V i else z) ∧ Only (fun _ => False) w wr
theorem LaidR.begin (w : World) (t : TypeId) (m : Nat) (V : Nat → Value) (z : Value) : LaidR w (w.alloc (Obj.cells (madeCells #[z] m) t)) w.heap.size t m V z 0 :=
  ⟨Nat.le_refl _, (World.rowIs_made w _ _ _).congr fun i _ => by simp, (Only.refl _ w).alloc _⟩
theorem LaidR.store {w wr : World} {g : Nat} {t : TypeId} {m k : Nat} {V : Nat → Value} {z : Value} (h : LaidR w wr g t m V z k) (v : Value) (hv : v = V k) : LaidR w (wr.setCell ⟨g, k, none⟩ v) g t m V z (k + 1) := by
  subst hv
  refine ⟨h.1, (h.2.1.set k _).congr fun i _ => ?_, h.2.2.setCell (.inr h.1) _⟩
  by_cases e : i = k
  · subst e; simp
  · rw [if_neg e]
    by_cases h1 : i < k
    · have h2 : i < k + 1 := by omega
      simp [h1, h2]
    · have h2 : ¬ i < k + 1 := by omega
      simp [h1, h2]
theorem LaidR.drew {w wr : World} {g : Nat} {t : TypeId} {m k : Nat} {V : Nat → Value} {z : Value} (h : LaidR w wr g t m V z k) : LaidR w wr.drew g t m V z k := ⟨h.1, h.2.1, h.2.2.drew⟩
theorem LaidR.drewN {w wr : World} {g : Nat} {t : TypeId} {m k : Nat} {V : Nat → Value} {z : Value} (h : LaidR w wr g t m V z k) (n : Nat) : LaidR w (wr.drewN n) g t m V z k := ⟨h.1, h.2.1, h.2.2.drewN n⟩
/-- A slice of a block that the call made: its elements are V. -/
def NewRow (w : World) (t : TypeId) (m : Nat) (V : Nat → Value) (e : Ending) (w' : World) : Prop :=
  ∃ g : Nat, e = .returned (.slice (some ⟨g, 0, none⟩) m m) ∧ Hid (w.heap.size ≤ g ∧ w'.rowIs g t m V ∧ Below w.heap.size w w')
theorem LaidR.new {w wr : World} {g : Nat} {t : TypeId} {m : Nat} {V : Nat → Value} {z : Value} (h : LaidR w wr g t m V z m) : Hid (w.heap.size ≤ g ∧ wr.rowIs g t m V ∧ Below w.heap.size w wr) :=
  hid ⟨h.1, h.2.1.congr fun _ hi => if_pos hi, h.2.2.to_below (fun _ h => h.elim) (Nat.le_refl _)⟩

theorem byte_int (x s : Nat) : (x : Int) / 2 ^ s % 256 = ((x / 2 ^ s % 256 : Nat) : Int) := by
  rw [divU]; omega
def vYf (f : Nat → Bool) (i : Nat) : Value := .int .u8 ((byt f i : Nat) : Int)
set_option maxHeartbeats 1000000 in
theorem first_any {gw N m : Nat} {f : Nat → Bool} {w : World} (h : w.rowIs gw 79 N fun j => .int .u64 ((word f j : Nat) : Int)) (hm : m ≤ 8 * N) (hN : m ≤ 2097152) :
    Calls Try.prog 55 #[.slice (some ⟨gw, 0, none⟩) N N, .int .i64 (m : Int)] w (NewRow w 5 m (vYf f)) := by
  have hmk := fun W => run_make_row' (P := Try.prog) 41 5 (.int .u8 0) 1 Try.underlying41 uint8Info rfl .i64 .i64 m (by omega) (by omega) W
  have HW := hid h
  clear h
  go_enter Try.func55, Try.ntmps55
  go_wp2_with fail
  clear hmk
  go_loopw [11] (fun s wr => ∃ k : Nat, k ≤ m ∧ s = .int .i64 k ∧ Hid (LaidR w wr w.heap.size 5 m (vYf f) (.int .u8 0) k)) (fun s _ => m - (intOf s).toNat)
  case atStart => exact ⟨0, by omega, rfl, hid (LaidR.begin w _ m _ _)⟩
  case round =>
    obtain ⟨k, hk, rfl, HR⟩ := hrel
    by_cases hp : k < m
    · have hkN : k / 8 < N := by omega
      have dk := (HR.out.2.2.row HW.out no_).cell hkN
      have db := HR.out.2.1.cell hp
      have fb := HR.out.2.1.frozen k
      rw [if_neg (by omega)] at db
      have hb := hid (byt_of_word f k)
      have HN : Hid (∀ z : Int, z = ((word f (k / 8) / 2 ^ (k % 8 * 8) % 256 : Nat) : Int) → LaidR w (wr.setCell ⟨w.heap.size, k, none⟩ (.int .u8 z)) w.heap.size 5 m (vYf f) (.int .u8 0) (k + 1)) := hid fun z hz => HR.out.store _ (by rw [hz, hb.out]; rfl)
      clear HR hb
      generalize word f (k / 8) = x at dk HN
      go_wp2
      go_roundw
      case rel => exact ⟨k + 1, by omega, by go_num, hid (HN.out _ (byte_int x _))⟩
      case measure => simp [intOf]; omega
    · obtain rfl : k = m := by omega
      go_wp2
      go_ret
      exact ⟨w.heap.size, rfl, HR.out.new⟩

set_option maxHeartbeats 400000 in
theorem bytes_core (g gw W wd n m : Nat) (f : Nat → Bool) (w : World) (h : Hid (w.cell? ⟨g, 1, none⟩ = some (.pointer (some ⟨g, 0, none⟩)))) (h0 : w.cell? ⟨g, 0, none⟩ = some (.slice (some ⟨gw, 0, none⟩) W W)) (h2 : w.cell? ⟨g, 2, none⟩ = some (.int .i64 (wd : Int)))
    (h3 : w.cell? ⟨g, 3, none⟩ = some (.int .i64 (n : Int))) (hs : wd * n ≤ 16777216) (HM : Hid (m = (wd * n + 7) / 8)) (HF : Hid (∀ d, Calls Try.prog 55 #[.slice (some ⟨gw, 0, none⟩) W W, .int .i64 (m : Int)] (w.drewN d) (NewRow w 5 m (vYf f)))) :
    Calls Try.prog 30 #[.pointer (some ⟨g, 0, none⟩)] w (NewRow w 5 m (vYf f)) := by
  have hw : IntKind.i64.wrap ((wd : Int) * (n : Int)) = ((wd * n : Nat) : Int) := by rw [show (wd : Int) * (n : Int) = ((wd * n : Nat) : Int) by simp, IntKind.wrap_i64]; omega
  have HS := hid hs
  have HK : Hid (((wd : Int) * (n : Int) + 8 - 1) / 8 = (m : Int)) := hid (by have := HM.out; rw [show (wd : Int) * (n : Int) = ((wd * n : Nat) : Int) by simp]; omega)
  have HP : Hid (∀ v : World, Calls Try.prog 56 #[.int .i64 ((wd : Int) * (n : Int)), .int .i64 8] v fun e w' => e = .returned (.int .i64 (m : Int)) ∧ v = w') := hid fun v => by
    rw [← HK.out]
    have e : (wd : Int) * (n : Int) = ((wd * n : Nat) : Int) := by simp
    exact pieces_any _ _ _ (by rw [e]; omega) (by rw [e]; omega) (by omega) (by omega)
  clear hs
  go_enter Try.func30, Try.ntmps30
  go_wp2_with (first | (go_at_call 51; refine (answered_core _ _ h.out).mono ?_; rintro e w' ⟨rfl, rfl⟩))
  go_region_held3 (fun w' => w'.cell? ⟨g, 0, none⟩ = some (.slice (some ⟨gw, 0, none⟩) W W) ∧ w'.cell? ⟨g, 2, none⟩ = some (.int .i64 (wd : Int)) ∧ w'.cell? ⟨g, 3, none⟩ = some (.int .i64 (n : Int)))
    (first | go_keep | exact ⟨(HB.out.2.2.cell (cell_lt h0)).trans h0, (HB.out.2.2.cell (cell_lt h2)).trans h2, (HB.out.2.2.cell (cell_lt h3)).trans h3⟩) (first | (go_at_call 56; refine (HP.out _).mono ?_; rintro e w' ⟨rfl, rfl⟩) | (go_at_call 55; refine (HF.out 1).mono ?_; rintro e w1 ⟨gb, rfl, HB⟩))
  go_wp2
  go_ret
  exact ⟨gb, rfl, HB⟩
theorem NewRow.drewN {w : World} {t : TypeId} {m : Nat} {V : Nat → Value} {e : Ending} {w' : World} {d : Nat} (h : NewRow (w.drewN d) t m V e w') : NewRow w t m V e w' := by
  obtain ⟨g, h1, h2⟩ := h
  have h3 := h2.out
  exact ⟨g, h1, hid ⟨h3.1, h3.2.1, ⟨h3.2.2.os, h3.2.2.tape, h3.2.2.output, h3.2.2.size, h3.2.2.block⟩⟩⟩
theorem bytes_any {g gw wd n : Nat} {f : Nat → Bool} {w : World} (h : IsRow w g gw wd n f) :
    Calls Try.prog 30 #[.pointer (some ⟨g, 0, none⟩)] w (NewRow w 5 ((wd * n + 7) / 8) (vYf f)) := by
  have hs := h.small
  exact bytes_core g gw _ wd n _ f w (hid (h.self.cell (i := 1) (by omega))) (h.self.cell (i := 0) (by omega)) (h.self.cell (i := 2) (by omega)) (h.self.cell (i := 3) (by omega)) hs (hid rfl) (hid fun d => (first_any (rowIs_drewN h.words d) (by unfold nw; omega) (by omega)).mono fun _ _ hh => hh.drewN)

def vDf (f : Nat → Bool) (wd i : Nat) : Value := .int .i64 ((dig f wd i : Nat) : Int)
set_option maxHeartbeats 1000000 in
theorem all_any {g gw wd n : Nat} {f : Nat → Bool} {w : World} (h : IsRow w g gw wd n f) :
    Calls Try.prog 36 #[.pointer (some ⟨g, 0, none⟩)] w (NewRow w 3 n (vDf f wd)) := by
  have hn := h.few
  have hmk := fun W => run_make_row' (P := Try.prog) 22 3 (.int .i64 0) 8 Try.underlying22 intInfo rfl .i64 .i64 n (by omega) (by omega) W
  have HV := hid h
  have c1 := hid (h.self.cell (i := 1) (by omega))
  have c3 := h.self.cell (i := 3) (by omega)
  simp only [rcell] at c3
  have hlt := h.self.lt
  clear h
  go_enter Try.func36, Try.ntmps36
  go_wp2_with (first | (go_at_call 51; refine (answered_core _ _ c1.out).mono ?_; rintro e w' ⟨rfl, rfl⟩))
  clear hmk
  go_loopw [17] (fun s wr => ∃ k : Nat, k ≤ n ∧ s = .int .i64 k ∧ Hid (LaidR w wr w.heap.size 3 n (vDf f wd) (.int .i64 0) k)) (fun s _ => n - (intOf s).toNat)
  case atStart => exact ⟨0, by omega, rfl, hid (LaidR.begin w _ n _ _)⟩
  case round =>
    obtain ⟨k, hk, rfl, HR⟩ := hrel
    by_cases hp : k < n
    · have HN : Hid (∀ d, Calls Try.prog 54 #[.pointer (some ⟨g, 0, none⟩), .int .i64 (k : Int)] (wr.drewN d) fun e w' => e = .returned (.int .i64 ((dig f wd k : Nat) : Int)) ∧ ∃ n, w' = (wr.drewN d).drewN n) := hid fun d => number_any ((HV.out.only HR.out.2.2 no_ no_).drewN d) hp
      have db := HR.out.2.1.cell hp
      have fb := HR.out.2.1.frozen k
      rw [if_neg (by omega)] at db
      have HS : Hid (∀ d, LaidR w ((wr.drewN d).setCell ⟨w.heap.size, k, none⟩ (.int .i64 ((dig f wd k : Nat) : Int))) w.heap.size 3 n (vDf f wd) (.int .i64 0) (k + 1)) := hid fun d => (HR.out.drewN d).store _ rfl
      clear HR
      generalize dig f wd k = x at HN HS
      go_wp2_with (go_at_call 54; refine (HN.out 0).mono ?_; rintro e w' ⟨rfl, d, rfl⟩)
      go_roundw
      case rel => exact ⟨k + 1, by omega, by go_num, hid (HS.out _)⟩
      case measure => simp [intOf]; omega
    · obtain rfl : k = n := by omega
      go_wp2
      go_ret
      exact ⟨w.heap.size, rfl, HR.out.new⟩
end Go.Proofs.Ytimkclmaglofaaa
