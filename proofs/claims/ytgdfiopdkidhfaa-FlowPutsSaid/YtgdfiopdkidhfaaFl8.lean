/- NewWriter, Len, Vec. -/
import Derived.Test.YtgdfiopdkidhfaaFl7
import Derived.Test.YtgdfiopdkidhfaaLawB
namespace Go.Proofs.Ytgdfiopdkidhfaa
open Go.RowKit

set_option maxHeartbeats 400000 in
theorem begin_any {g n : Nat} {t : TypeId} {f : Nat → Value} {w : World} (h : w.rowIs g t n f) (hn : 1 < n) :
    Calls Try.prog 29 #[.pointer (some ⟨g, 0, none⟩)] w fun e' w' => e' = .returned (.tuple #[]) ∧ (w.setCell ⟨g, 0, none⟩ (.pointer (some ⟨g, 0, none⟩))).setCell ⟨g, 1, none⟩ (.int .i64 0) = w' := by
  have c0 := h.cell (i := 0) (by omega)
  have c1 := h.cell (i := 1) hn
  have f0 := h.frozen 0
  have f1 := h.frozen 1
  have hlt := h.lt
  clear h
  go_enter Try.func29, Try.ntmps29
  go_wp2
  go_end0
  exact ⟨rfl, rfl⟩
def NewE (w : World) (e' : Ending) (w' : World) : Prop := ∃ g, e' = .returned (.pointer (some ⟨g, 0, none⟩)) ∧ Hid (w.heap.size ≤ g ∧ (∀ B, B ≤ w.heap.size → IsWr B w' g 0 []) ∧ Only (fun _ => False) w w')
set_option maxHeartbeats 400000 in
theorem newWriter_any (w : World) : Calls Try.prog 6 #[] w (NewE w) := by
  have hrow := World.rowIs_alloc w #[.pointer none, .int .i64 0, .slice none 0 0, .int .i64 0] 64 (fun i => match i with | 0 => .pointer none | 1 => .int .i64 0 | 2 => .slice none 0 0 | _ => .int .i64 0) (fun i hi => by
    match i, hi with
    | 0, _ => rfl
    | 1, _ => rfl
    | 2, _ => rfl
    | 3, _ => rfl
    | i + 4, hi => exact absurd (show i + 4 < 4 from hi) (by omega))
  obtain ⟨w1, hw1⟩ : ∃ w1, w1 = w.alloc (.cells #[.pointer none, .int .i64 0, .slice none 0 0, .int .i64 0] 64) := ⟨_, rfl⟩
  have ho : Only (fun _ => False) w w1 := by rw [hw1]; exact (Only.refl _ w).alloc _
  rw [← hw1] at hrow
  have HR := hid hrow
  have HD : Hid (NewE w (.returned (.pointer (some ⟨w.heap.size, 0, none⟩))) ((w1.setCell ⟨w.heap.size, 0, none⟩ (.pointer (some ⟨w.heap.size, 0, none⟩))).setCell ⟨w.heap.size, 1, none⟩ (.int .i64 0))) := hid (by
    refine ⟨w.heap.size, rfl, hid ⟨Nat.le_refl _, fun B hB => ⟨.slice none 0 0, by simp, ((hrow.set 0 _).set 1 _).congr fun i hi => ?_, ⟨rfl, .inl ⟨rfl, rfl⟩⟩, hB⟩, (ho.setCell (.inr (Nat.le_refl _)) _).setCell (.inr (Nat.le_refl _)) _⟩⟩
    match i, hi with
    | 0, _ => rfl
    | 1, _ => rfl
    | 2, _ => rfl
    | 3, _ => rfl
    | i + 4, hi => exact absurd (show i + 4 < 4 from hi) (by omega))
  clear hrow ho
  go_enter Try.func6, Try.ntmps6
  go_wp2_with fail
  rw [← hw1]
  clear hw1
  refine (begin_any HR.out (by decide)).mono ?_
  rintro e' w2 ⟨rfl, rfl⟩
  go_wp2_with fail
  go_ret
  exact HD.out
set_option maxHeartbeats 400000 in
theorem wlen_any {B g : Nat} {e : Int} {xs : List Bool} {w : World} (h : IsWr B w g e xs) (he : e ≠ 1) :
    Calls Try.prog 15 #[.pointer (some ⟨g, 0, none⟩)] w fun e' w' => e' = .returned (.int .i64 ((xs.length : Nat) : Int)) ∧ w = w' := by
  obtain ⟨v, h⟩ := h
  obtain ⟨k0, k1, k2, k3⟩ := h.cells
  have HE := hid (werr_any (hid k0) (hid k1))
  have he2 : (e == 1) = false := beq_eq_false_iff_ne.2 he
  clear h k0 k1 k2
  go_enter Try.func15, Try.ntmps15
  go_wp2_with fail
  refine HE.out.mono ?_
  rintro e' w2 ⟨rfl, rfl⟩
  go_wp2_with fail
  go_ret
  exact ⟨rfl, rfl⟩
/-- A vector of some bits. -/
def IsVecL (w : World) (g gs gw : Nat) (xs : List Bool) : Prop := V1.IsVec w g gs gw xs.length (bf xs)
theorem bytesV {B g : Nat} {e : Int} {v : Value} {xs : List Bool} {w : World} (h : WrS B w g e v xs) : ∃ A cap, v = .slice A (V1.bytesL xs.length (bf xs)).length cap ∧ V1.RdY w A (V1.bytesL xs.length (bf xs)) := by
  have hl := V1.bytesL_len xs.length (bf xs)
  have h8 : ∀ j, (V1.bytesL xs.length (bf xs)).getD j 0 < 256 := fun j => by
    by_cases hj : j < (xs.length + 7) / 8
    · rw [V1.bytesL_get _ _ _ hj]; exact V1.byteOf_lt _ _
    · have : (V1.bytesL xs.length (bf xs)).length ≤ j := by omega
      simp [List.getD, List.getElem?_eq_none this]
  by_cases h0 : nby xs.length = 0
  · rcases h.own.2 with ⟨hv, _⟩ | ⟨gr, cap, cur, hv, _⟩
    · exact ⟨none, 0, by rw [hv, hl]; unfold nby at h0; rw [h0], h8, fun j hj => by unfold nby at h0; omega⟩
    · exact ⟨_, cap, by rw [hv, hl]; rfl, h8, fun j hj => by unfold nby at h0; omega⟩
  · obtain ⟨gr, cap, F, hv, hge, hF, hFV, hle, hcm⟩ := own_at h.own (by omega)
    refine ⟨some ⟨gr, 0, none⟩, cap, by rw [hv, hl]; rfl, h8, fun _ _ => ⟨gr, 0, rfl, fun j hj => ?_⟩⟩
    rw [hl] at hj
    rw [Nat.zero_add, hF.cell (by unfold nby at hle; omega), hFV j (by unfold nby; omega), V1.bytesL_get _ _ _ hj]; rfl
theorem made_drew {w : World} {n : Nat} {f : Nat → Bool} {e : Ending} {w' : World} (h : V1.Made w.drew n f e w') : V1.Made w n f e w' := by
  obtain ⟨g, gs, gw, he, hv, h1, h2, h3, hb⟩ := h
  exact ⟨g, gs, gw, he, hv, h1, h2, h3, ⟨hb.os, hb.tape, hb.output, hb.size, hb.block⟩⟩
theorem made_only {w W : World} {n : Nat} {f : Nat → Bool} {e : Ending} {w' : World} (h : V1.Made W n f e w') (o : Only (fun _ => False) w W) : V1.Made w n f e w' := by
  obtain ⟨g, gs, gw, he, hv, h1, h2, h3, hb⟩ := h
  exact ⟨g, gs, gw, he, hv, Nat.le_trans o.size h1, Nat.le_trans o.size h2, Nat.le_trans o.size h3, (o.to_below (fun _ h => h.elim) (Nat.le_refl _)).trans (hb.mono o.size)⟩
set_option maxHeartbeats 1000000 in
theorem wvec_ok {B g : Nat} {xs : List Bool} {w : World} (h : IsWr B w g 0 xs) :
    Calls Try.prog 17 #[.pointer (some ⟨g, 0, none⟩)] w (V1.Made w xs.length (bf xs)) := by
  obtain ⟨v, h⟩ := h
  obtain ⟨k0, k1, k2, k3⟩ := h.cells
  obtain ⟨A, cap, rfl, hy⟩ := bytesV h
  have HE := hid (werr_any (hid k0) (hid k1))
  have hf : ∀ i, xs.length ≤ i → bf xs i = false := fun i hi => bf_far xs hi
  have HR : Hid (∀ W, Only (fun _ => False) w W → Calls Try.prog 49 #[.int .i64 ((xs.length : Nat) : Int), .slice A (V1.bytesL xs.length (bf xs)).length cap] W (V1.Made W xs.length (bf xs))) := hid fun W o => by
    have := V1.read_ok xs.length cap A _ W (hy.only o fun _ _ _ => no_) h.small (V1.shape_bytesL hf)
    rwa [V1.fB_bytesL hf] at this
  clear h k0 k1 hy hf
  generalize (V1.bytesL xs.length (bf xs)).length = L at HR k2
  generalize xs.length = n at HR k3 ⊢
  go_enter Try.func17, Try.ntmps17
  go_wp2_with fail
  refine HE.out.mono ?_
  rintro e' w2 ⟨rfl, rfl⟩
  go_wp2_with fail
  go_region_with (go_at_call 49; refine (HR.out _ ?_).mono ?_; (first | exact Only.refl _ _ | exact (Only.refl _ _).drew | exact (Only.refl _ _).drew.drew); rintro e' w' hm; obtain ⟨g1, gs1, gw1, rfl, hm2⟩ := hm; have HMd : Hid (V1.Made w n (bf xs) (.returned (.tuple #[.pointer (some ⟨g1, 0, none⟩), .int .i64 0])) w') := hid (made_drew ⟨g1, gs1, gw1, rfl, hm2⟩); clear hm2)
  all_goals
    go_wp2_with fail
    go_ret2
    exact HMd.out
set_option maxHeartbeats 400000 in
theorem wvec_bad {B g : Nat} {e : Int} {xs : List Bool} {w : World} (h : IsWr B w g e xs) (he : e ≠ 0) :
    Calls Try.prog 17 #[.pointer (some ⟨g, 0, none⟩)] w fun e' w' => e' = .returned (.tuple #[.pointer none, .int .i64 e]) ∧ w = w' := by
  obtain ⟨v, h⟩ := h
  obtain ⟨k0, k1, k2, k3⟩ := h.cells
  have HE := hid (werr_any (hid k0) (hid k1))
  have he2 : (e != 0) = true := bne_iff_ne.2 he
  clear h k0 k1 k2 k3
  go_enter Try.func17, Try.ntmps17
  go_wp2_with fail
  refine HE.out.mono ?_
  rintro e' w2 ⟨rfl, rfl⟩
  go_wp2_with fail
  go_ret2
  exact ⟨rfl, rfl⟩
end Go.Proofs.Ytgdfiopdkidhfaa
