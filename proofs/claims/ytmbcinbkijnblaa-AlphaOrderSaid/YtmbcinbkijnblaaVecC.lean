/- How a vector is made: blank, counted. -/
import Derived.Test.YtmbcinbkijnblaaVecL
import Derived.Deep.RegionWith
namespace Go.Proofs.Ytmbcinbkijnblaa.V1
open Go.RowKit
open Fen

set_option maxHeartbeats 400000 in
theorem allowed_any (n : Int) (w : World) :
    Calls Try.prog 95 #[.int .i64 n] w fun e w' => e = .returned (.int .i64 (if n < 0 then 2 else if 16777216 < n then 3 else 0)) ∧ w = w' := by
  go_enter Try.func95, Try.ntmps95
  go_wp2
  all_goals go_ret
  all_goals exact ⟨rfl, rfl⟩
set_option maxHeartbeats 400000 in
theorem pieces_any (n s : Int) (w : World) (h0 : 0 ≤ n) (h1 : n ≤ 16777216) (h2 : 1 ≤ s) (h3 : s ≤ 64) :
    Calls Try.prog 96 #[.int .i64 n, .int .i64 s] w fun e w' => e = .returned (.int .i64 ((n + s - 1) / s)) ∧ w = w' := by
  go_enter Try.func96, Try.ntmps96
  go_wp2
  go_ret
  exact ⟨rfl, rfl⟩

/-- How many ones of a block the first k words have. -/
def pcnt (p : Nat → Nat) (k b : Nat) : Nat := C p (min k (8 * b + 8)) - C p (min k (8 * b))
theorem pcnt_zero (p : Nat → Nat) (b : Nat) : pcnt p 0 b = 0 := by simp [pcnt]
theorem pcnt_here (p : Nat → Nat) (k : Nat) : pcnt p (k + 1) (k / 8) = pcnt p k (k / 8) + p k := by
  unfold pcnt
  rw [show min (k + 1) (8 * (k / 8) + 8) = k + 1 by omega, show min k (8 * (k / 8) + 8) = k by omega, show min (k + 1) (8 * (k / 8)) = 8 * (k / 8) by omega, show min k (8 * (k / 8)) = 8 * (k / 8) by omega]
  have := C_mono p (show 8 * (k / 8) ≤ k by omega)
  simp only [C]
  omega
theorem pcnt_else (p : Nat → Nat) (k b : Nat) (h : b ≠ k / 8) : pcnt p (k + 1) b = pcnt p k b := by
  unfold pcnt
  rcases Nat.lt_or_ge b (k / 8) with a | a
  · rw [show min (k + 1) (8 * b + 8) = 8 * b + 8 by omega, show min k (8 * b + 8) = 8 * b + 8 by omega, show min (k + 1) (8 * b) = 8 * b by omega, show min k (8 * b) = 8 * b by omega]
  · rw [show min (k + 1) (8 * b + 8) = k + 1 by omega, show min k (8 * b + 8) = k by omega, show min (k + 1) (8 * b) = k + 1 by omega, show min k (8 * b) = k by omega, Nat.sub_self, Nat.sub_self]
theorem pcnt_le {p : Nat → Nat} (hp : ∀ i, p i ≤ 64) (k b : Nat) : pcnt p k b ≤ 512 := by
  unfold pcnt
  have h : ∀ m, C p (8 * b + m) ≤ C p (8 * b) + 64 * m := by
    intro m
    induction m with
    | zero => simp
    | succ m ih => rw [← Nat.add_assoc]; simp only [C]; have := hp (8 * b + m); omega
  rcases Nat.lt_or_ge k (8 * b) with a | a
  · rw [show min k (8 * b + 8) = k by omega, show min k (8 * b) = k by omega]; omega
  · rw [show min k (8 * b) = 8 * b by omega]
    have h1 := C_mono p (show min k (8 * b + 8) ≤ 8 * b + 8 by omega)
    have := h 8
    omega
theorem pcnt_full {f : Nat → Bool} {n : Nat} (hf : ∀ i, n ≤ i → f i = false) (b : Nat) : pcnt (pw f) (nw n) b = blk f b := by
  have hz : ∀ m, C (pw f) (min (nw n) m) = C (pw f) m := by
    intro m
    rcases Nat.le_total (nw n) m with a | a
    · rw [Nat.min_eq_left a]
      refine (C_stop a fun i hi => ?_).symm
      unfold pw
      rw [pc_wordOf]
      exact C_zero fun j _ => by unfold cf; rw [hf _ (by unfold nw at hi; omega)]; rfl
    · rw [Nat.min_eq_right a]
  unfold pcnt blk
  rw [hz, hz, C_split]; omega

def CntR (w wr : World) (K : Nat) (p : Nat → Nat) (k : Nat) : Prop :=
  wr.heap.size = w.heap.size + 1 ∧ wr.rowIs w.heap.size 21 K (fun b => .int .i32 ((pcnt p k b : Nat) : Int)) ∧ Only (fun _ => False) w wr
theorem CntR.begin (w : World) (K : Nat) (p : Nat → Nat) : CntR w (w.alloc (Obj.cells (madeCells #[Value.int IntKind.i32 0] K) 21)) K p 0 :=
  ⟨by simp, (World.rowIs_made w _ _ _).congr fun i _ => by rw [pcnt_zero]; rfl, (Only.refl _ w).alloc _⟩
theorem CntR.store {w wr : World} {K k : Nat} {p : Nat → Nat} (h : CntR w wr K p k) (z : Int) (hz : z = ((pcnt p k (k / 8) + p k : Nat) : Int)) : CntR w (wr.setCell ⟨w.heap.size, k / 8, none⟩ (.int .i32 z)) K p (k + 1) := by
  subst hz
  refine ⟨by simpa [World.setCell] using h.1, (h.2.1.set (k / 8) _).congr fun i _ => ?_, h.2.2.setCell (.inr (Nat.le_refl _)) _⟩
  by_cases e : i = k / 8
  · subst e; rw [if_pos rfl, pcnt_here]
  · rw [if_neg e, pcnt_else p k i e]
theorem CntR.drew {w wr : World} {K k : Nat} {p : Nat → Nat} (h : CntR w wr K p k) : CntR w wr.drew K p k := ⟨h.1, h.2.1, h.2.2.drew⟩
theorem CntR.drewN {w wr : World} {K k : Nat} {p : Nat → Nat} (h : CntR w wr K p k) (d : Nat) : CntR w (wr.drewN d) K p k := ⟨h.1, h.2.1, h.2.2.drewN d⟩

set_option maxHeartbeats 1000000 in
theorem count_any (g gw n : Nat) (f : Nat → Bool) (cs : Nat → Value) (w : World) (hn : n ≤ 16777216) (hf : ∀ i, n ≤ i → f i = false) (hg : w.rowIs g 120 5 cs) (hc3 : cs 3 = .slice (some ⟨gw, 0, none⟩) (nw n) (nw n))
    (hw : w.rowIs gw 134 (nw n) fun j => .int .u64 ((wordOf f j : Nat) : Int)) :
    Calls Try.prog 98 #[.pointer (some ⟨g, 0, none⟩)] w fun e w' => e = .returned (.tuple #[]) ∧ w'.heap.size = w.heap.size + 2 ∧
      w'.rowIs (w.heap.size + 1) 21 (nb n + 1) (fun j => .int .i32 ((fen (blk f) j : Nat) : Int)) ∧ w'.rowIs g 120 5 (layCells (w.heap.size + 1) (nb n) (C (cf f) n) cs) ∧ Only (· = g) w w' := by
  have hN : nw n ≤ 262144 := by unfold nw; omega
  have c3 := hg.cell (i := 3) (by omega)
  rw [hc3] at c3
  have hK : nb n ≤ 32768 := by unfold nb; omega
  have hKe : Hid ((((nw n : Nat) : Int) + 8 - 1) / 8 = ((nb n : Nat) : Int)) := hid (by unfold nb; omega)
  have hKN : nw n ≤ 8 * nb n := by unfold nb; omega
  have hmk := fun W => run_make_row' (P := Try.prog) 115 21 (.int .i32 0) 4 Try.underlying115 int32Info rfl .i64 .i64 (nb n) (by omega) (by omega) W
  have hlt := hg.lt
  have Hw := hid hw
  have Hg := hid hg
  have Hf := hid hf
  clear hw hg hf hc3
  go_enter Try.func98, Try.ntmps98
  go_wp2_with (go_at_call 96; refine (pieces_any _ _ _ (by omega) (by omega) (by omega) (by omega)).mono ?_; rintro e w' ⟨rfl, rfl⟩; rw [hKe.out])
  clear hmk
  go_loopw [17] (fun s wr => ∃ k : Nat, k ≤ nw n ∧ s = .int .i64 k ∧ Hid (CntR w wr (nb n) (pw f) k)) (fun s _ => nw n - (intOf s).toNat)
  case atStart => exact ⟨0, by omega, rfl, hid (CntR.begin w (nb n) (pw f))⟩
  case round =>
    obtain ⟨k, hk, rfl, HR⟩ := hrel
    by_cases hp : k < nw n
    · have hk8 : k / 8 < nb n := by omega
      have dw := (HR.out.2.2.row Hw.out (fun h => h)).cell hp
      have dk := HR.out.2.1.cell hk8
      have fk := HR.out.2.1.frozen (k / 8)
      have hv := wordOf_lt f k
      have hu := pw_le f k
      have Hu : Hid (pc (wordOf f k) = pw f k) := hid rfl
      have hx := pcnt_le (pw_le f) k (k / 8)
      have HN : Hid (∀ z : Int, z = ((pcnt (pw f) k (k / 8) + pw f k : Nat) : Int) → CntR w (wr.setCell ⟨w.heap.size, k / 8, none⟩ (.int .i32 z)) (nb n) (pw f) (k + 1)) := hid (fun z hz => HR.out.store z hz)
      clear HR
      generalize wordOf f k = v at dw hv Hu
      generalize pcnt (pw f) k (k / 8) = x at dk hx HN
      generalize pw f k = u at hu Hu HN
      have hsum : IntKind.i32.wrap ((x : Int) + (u : Int)) = (x : Int) + (u : Int) := by rw [IntKind.wrap_i32]; omega
      have hcv : IntKind.i32.wrap (u : Int) = (u : Int) := by rw [IntKind.wrap_i32]; omega
      have hk8' : (k : Int) / 8 < ((nb n : Nat) : Int) := by omega
      have hk0 : 0 ≤ (k : Int) / 8 := by omega
      have hkn : ((k : Int) / 8).toNat = k / 8 := by omega
      have hwk : IntKind.i64.wrap ((k : Int) / 8) = (k : Int) / 8 := by rw [IntKind.wrap_i64]; omega
      go_wp2
      go_region_with (go_at_call 113; refine (onesCount_any v _ hv).mono ?_; rintro e w' ⟨rfl, rfl⟩; rw [Hu.out])
      all_goals go_wp2
      all_goals exact ⟨⟨k + 1, by omega, by go_num, hid (CntR.drew (HN.out ((x : Int) + (u : Int)) (by omega)))⟩, by simp [intOf]; omega⟩
    · obtain rfl : k = nw n := by omega
      have hgr := HR.out.2.2.row Hg.out (fun h => h)
      have hcr := HR.out.2.1.congr (g := fun b => .int .i32 ((blk f b : Nat) : Int)) fun b _ => by rw [pcnt_full Hf.out]
      have hsz := HR.out.1
      have htot : C (blk f) (nb n) = C (cf f) n := by
        rw [C_blk]; exact C_stop (by unfold nb nw; omega) fun i hi => by unfold cf; rw [Hf.out i hi]; rfl
      have hle := C_le (cf_le f) n
      have HL := hid (fun (_ : Unit) => lay_any g w.heap.size (nb n) (blk f) cs wr hgr hcr hK (by omega))
      have HZ := hid hsz
      have HO := hid HR.out.2.2
      have HT := hid htot
      clear HR hgr hcr hsz htot hle
      go_wp2_with (go_at_call 114; refine (HL.out ()).mono ?_; rintro e w' ⟨rfl, hl⟩)
      go_end0
      have h := hl.out
      unfold LayR at h
      rw [HZ.out, HT.out] at h
      exact ⟨rfl, by omega, h.2.1, h.2.2.1, (HO.out.mono (fun _ _ h => h.elim)).trans h.2.2.2⟩
end Go.Proofs.Ytmbcinbkijnblaa.V1
