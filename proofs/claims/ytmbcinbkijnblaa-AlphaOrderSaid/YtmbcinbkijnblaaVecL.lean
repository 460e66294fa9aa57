/- How sums are laid. -/
import Derived.Test.YtmbcinbkijnblaaVec
namespace Go.Proofs.Ytmbcinbkijnblaa.V1
open Go.RowKit
open Fen

theorem int32Info : (Try.prog.info? 21).map (fun i => (i.zero, i.size, i.bytes)) = some (some (.int .i32 0), 1, 4) := by kernel_rfl
theorem uint64Info : (Try.prog.info? 134).map (fun i => (i.zero, i.size, i.bytes)) = some (some (.int .u64 0), 1, 8) := by kernel_rfl
theorem uint8Info : (Try.prog.info? 5).map (fun i => (i.zero, i.size, i.bytes)) = some (some (.int .u8 0), 1, 1) := by kernel_rfl

def layCells (gs K total : Nat) (cs : Nat → Value) : Nat → Value
  | 0 => .slice (some ⟨gs, 0, none⟩) (K + 1) (K + 1)
  | 1 => .int .i64 (total : Int)
  | j + 2 => cs (j + 2)

/-- What stands there when the first k counts are laid. -/
def sf1 (c : Nat → Nat) (k j : Nat) : Nat := if j ≤ k then (if j = 0 then 0 else c (j - 1)) else 0
theorem sf1_zero (c : Nat → Nat) (j : Nat) : sf1 c 0 j = 0 := by
  unfold sf1; by_cases e : j = 0 <;> simp [e]
theorem sf1_step (c : Nat → Nat) (k j : Nat) : (if j = k + 1 then c k else sf1 c k j) = sf1 c (k + 1) j := by
  by_cases e : j = k + 1
  · subst e; simp [sf1]
  · rw [if_neg e]
    unfold sf1
    by_cases h : j ≤ k
    · have h' : j ≤ k + 1 := by omega
      simp [h, h']
    · have h' : ¬ j ≤ k + 1 := by omega
      simp [h, h']
theorem sf1_full (c : Nat → Nat) (K j : Nat) (h : j < K + 1) : sf1 c K j = Fen.part c 1 j := by
  unfold sf1
  have h' : j ≤ K := by omega
  by_cases e : j = 0
  · subst e; simp [Fen.part]
  · rw [part_one c j (by omega)]; simp [h', e]

def LayR (w wr : World) (g K tot : Nat) (sf : Nat → Nat) (cs : Nat → Value) : Prop :=
  wr.heap.size = w.heap.size + 1 ∧ wr.rowIs w.heap.size 21 (K + 1) (fun j => .int .i32 ((sf j : Nat) : Int)) ∧ wr.rowIs g 120 5 (layCells w.heap.size K tot cs) ∧ Only (· = g) w wr
theorem LayR.begin {w : World} {g K : Nat} {cs : Nat → Value} (hg : w.rowIs g 120 5 cs) :
    LayR w (((w.setCell ⟨g, 0, none⟩ (Value.slice (some ⟨w.heap.size, 0, none⟩) (K + 1) (K + 1))).setCell ⟨g, 1, none⟩ (Value.int IntKind.i64 0)).alloc (Obj.cells (madeCells #[Value.int IntKind.i32 0] (K + 1)) 21)) g K 0 (fun _ => 0) cs := by
  have hlt := hg.lt
  refine ⟨by simp [World.setCell], ?_, ?_, ?_⟩
  · have h := World.rowIs_made ((w.setCell ⟨g, 0, none⟩ (Value.slice (some ⟨w.heap.size, 0, none⟩) (K + 1) (K + 1))).setCell ⟨g, 1, none⟩ (Value.int IntKind.i64 0)) (.int .i32 0) (K + 1) 21
    rwa [show ((w.setCell ⟨g, 0, none⟩ (Value.slice (some ⟨w.heap.size, 0, none⟩) (K + 1) (K + 1))).setCell ⟨g, 1, none⟩ (Value.int IntKind.i64 0)).heap.size = w.heap.size by simp [World.setCell]] at h
  · refine (((hg.set 0 _).set 1 _).alloc _).congr fun i _ => ?_
    match i with
    | 0 => rfl
    | 1 => rfl
    | j + 2 => simp [layCells]
  · exact (((Only.refl (· = g) w).setCell (p := ⟨g, 0, none⟩) (.inl rfl) _).setCell (p := ⟨g, 1, none⟩) (.inl rfl) _).alloc _
theorem LayR.congr {w wr : World} {g K tot : Nat} {sf sg : Nat → Nat} {cs : Nat → Value} (h : LayR w wr g K tot sf cs) (e : ∀ j, j < K + 1 → sf j = sg j) : LayR w wr g K tot sg cs :=
  ⟨h.1, h.2.1.congr fun i hi => by rw [e i hi], h.2.2⟩
theorem LayR.store {w wr : World} {g K tot : Nat} {sf : Nat → Nat} {cs : Nat → Value} (h : LayR w wr g K tot sf cs) (hg : g < w.heap.size) (k v : Nat) (z : Int) (hz : z = (v : Int)) :
    LayR w (wr.setCell ⟨w.heap.size, k, none⟩ (.int .i32 z)) g K tot (fun j => if j = k then v else sf j) cs := by
  subst hz
  refine ⟨by simpa [World.setCell] using h.1, (h.2.1.set k _).congr fun i _ => ?_, h.2.2.1.setOther (by simp; omega) _, h.2.2.2.setCell (.inr (Nat.le_refl _)) _⟩
  by_cases e : i = k <;> simp [e]
theorem LayR.total {w wr : World} {g K tot : Nat} {sf : Nat → Nat} {cs : Nat → Value} (h : LayR w wr g K tot sf cs) (hg : g < w.heap.size) (v : Nat) (z : Int) (hz : z = (v : Int)) :
    LayR w (wr.setCell ⟨g, 1, none⟩ (.int .i64 z)) g K v sf cs := by
  subst hz
  refine ⟨by simpa [World.setCell] using h.1, h.2.1.setOther (by simp; omega) _, (h.2.2.1.set 1 _).congr fun i _ => ?_, h.2.2.2.setCell (.inl rfl) _⟩
  match i with
  | 0 => rfl
  | 1 => rfl
  | j + 2 => rfl
theorem LayR.drew {w wr : World} {g K tot : Nat} {sf : Nat → Nat} {cs : Nat → Value} (h : LayR w wr g K tot sf cs) : LayR w wr.drew g K tot sf cs :=
  ⟨h.1, h.2.1, h.2.2.1, h.2.2.2.drew⟩

set_option maxHeartbeats 1000000 in
theorem lay_any (g gc K : Nat) (c : Nat → Nat) (cs : Nat → Value) (w : World) (hg : w.rowIs g 120 5 cs) (hc : w.rowIs gc 21 K fun j => .int .i32 ((c j : Nat) : Int)) (hK : K ≤ 32768) (hmax : C c K ≤ 16777216) :
    Calls Try.prog 114 #[.pointer (some ⟨g, 0, none⟩), .slice (some ⟨gc, 0, none⟩) K K] w fun e w' => e = .returned (.tuple #[]) ∧ Hid (LayR w w' g K (C c K) (fen c) cs) := by
  have hmk := fun W => run_make_row' (P := Try.prog) 115 21 (.int .i32 0) 4 Try.underlying115 int32Info rfl .i64 .i64 (K + 1) (by omega) (by omega) W
  have ec : ((K + 1 : Nat) : Int) = (K : Int) + 1 := by omega
  rw [ec] at hmk
  clear ec
  have c0 := hg.cell (i := 0) (by omega)
  have c1 := hg.cell (i := 1) (by omega)
  have f0 := hg.frozen 0
  have f1 := hg.frozen 1
  have hlt := hg.lt
  have hne : ¬ g = w.heap.size := by omega
  have hne' : ¬ w.heap.size = g := by omega
  have hcg : gc ≠ g := rowIs_ne hc hg (by decide)
  have HB := hid (LayR.begin (K := K) hg)
  have Hg := hid hg
  have Hc := hid hc
  have Hcg := hid hcg
  have Hmax := hid hmax
  clear hg hc hcg hmax
  go_enter Try.func114, Try.ntmps114
  go_wp2
  clear hmk c0 c1 f0 f1
  go_loopw [20] (fun s wr => ∃ k : Nat, k ≤ K ∧ s = .int .i64 k ∧ Hid (LayR w wr g K (C c k) (sf1 c k) cs)) (fun s _ => K - (intOf s).toNat)
  case atStart => exact ⟨0, by omega, rfl, hid (HB.out.congr fun j _ => (sf1_zero c j).symm)⟩
  case round =>
    obtain ⟨k, hk, rfl, HR⟩ := hrel
    clear HB
    have d0 := HR.out.2.2.1.cell (i := 0) (by omega)
    have d1 := HR.out.2.2.1.cell (i := 1) (by omega)
    have g1 := HR.out.2.2.1.frozen 1
    simp only [layCells] at d0 d1
    by_cases hp : k < K
    · have dc := (HR.out.2.2.2.row Hc.out Hcg.out).cell hp
      obtain ⟨ov, ds⟩ : ∃ v, wr.cell? ⟨w.heap.size, k + 1, none⟩ = some v := ⟨_, HR.out.2.1.cell (i := k + 1) (by omega)⟩
      have gs := HR.out.2.1.frozen (k + 1)
      have hb : C c k + c k ≤ 16777216 := Nat.le_trans (C_mono c (show k + 1 ≤ K by omega)) Hmax.out
      have HN : ∀ wr', wr' = wr → Hid (LayR w ((wr'.setCell ⟨w.heap.size, k + 1, none⟩ (.int .i32 ((c k : Nat) : Int))).setCell ⟨g, 1, none⟩ (.int .i64 (((C c k : Nat) : Int) + ((c k : Nat) : Int)))) g K (C c (k + 1)) (sf1 c (k + 1)) cs) := by
        rintro wr' rfl
        refine hid (((HR.out.store hlt (k + 1) (c k) _ rfl).total hlt (C c k + c k) _ (by omega)).congr fun j _ => ?_)
        exact sf1_step c k j
      have HN' := hid (HN wr rfl)
      clear HN HR
      generalize c k = y at dc hb HN'
      generalize C c k = z at d1 hb HN'
      go_wp2
      go_roundw
      case rel => exact ⟨k + 1, by omega, by go_num, HN'.out⟩
      case measure => simp [intOf]; omega
    · obtain rfl : k = K := by omega
      have HR2 := hid (HR.out.congr fun j hj => sf1_full c k j hj)
      clear HR
      go_wp2
      clear d0 d1 g1
      go_loopw [6] (fun s wr => ∃ i : Nat, 1 ≤ i ∧ i ≤ k + 1 ∧ s = .int .i64 i ∧ Hid (LayR w wr g k (C c k) (Fen.part c i) cs)) (fun s _ => k + 1 - (intOf s).toNat)
      case atStart => exact ⟨1, by omega, by omega, rfl, HR2⟩
      case round =>
        obtain ⟨i, hi1, hi, rfl, HR⟩ := hrel
        clear HR2
        have d0 := HR.out.2.2.1.cell (i := 0) (by omega)
        simp only [layCells] at d0
        by_cases hp : i < k + 1
        · have hand := and_minus i (by omega) (by omega)
          have hl1 := lb_le i
          have hl2 := lb_pos i (by omega)
          by_cases hq : i + lb i < k + 1
          · have dj := HR.out.2.1.cell (i := i + lb i) hq
            have di := HR.out.2.1.cell (i := i) hp
            have fj := HR.out.2.1.frozen (i + lb i)
            simp only [part_self c i (by omega)] at di
            have hnext := part_next c i (by omega)
            have hle := Nat.le_trans (part_le c (i + 1) (i + lb i)) (Nat.le_trans (C_mono c (show i + lb i ≤ k by omega)) Hmax.out)
            rw [hnext] at hle
            have HN := hid (fun z hz => (HR.out.store hlt (i + lb i) (Fen.part c i (i + lb i) + fen c i) z hz).congr (sg := Fen.part c (i + 1)) fun j hj => by
              by_cases e : j = i + lb i
              · rw [if_pos e, e, hnext]
              · rw [if_neg e]; exact (part_other c i j e).symm)
            clear HR hnext
            generalize lb i = l at hand hl1 hl2 hq dj fj hle HN
            generalize Fen.part c i (i + l) = x at dj hle HN
            generalize fen c i = y at di hle HN
            have hsum : IntKind.i32.wrap ((x : Int) + (y : Int)) = (x : Int) + (y : Int) := by rw [IntKind.wrap_i32]; omega
            have hq' : (i : Int) + (l : Int) < (k : Int) + 1 := by omega
            go_wp2
            go_region
            all_goals go_wp2
            go_roundw
            case rel => exact ⟨i + 1, by omega, by omega, by go_num, hid (HN.out _ (by omega)).drew⟩
            case measure => simp [intOf]; omega
          · have HN := hid (HR.out.congr (sg := Fen.part c (i + 1)) fun j hj => (part_other c i j (by omega)).symm)
            clear HR
            generalize lb i = l at hand hl1 hl2 hq
            have hq' : ¬ (i : Int) + (l : Int) < (k : Int) + 1 := by omega
            go_wp2
            go_roundw
            case rel => exact ⟨i + 1, by omega, by omega, by go_num, HN⟩
            case measure => simp [intOf]; omega
        · obtain rfl : i = k + 1 := by omega
          have HN := hid (HR.out.congr (sg := fen c) fun j hj => by
            rcases Nat.eq_zero_or_pos j with h | h
            · subst h; simp [fen, Fen.part, C]
            · exact part_done c j h _ (by omega))
          clear HR
          go_wp2
          go_end0
          exact ⟨rfl, HN⟩
end Go.Proofs.Ytmbcinbkijnblaa.V1
