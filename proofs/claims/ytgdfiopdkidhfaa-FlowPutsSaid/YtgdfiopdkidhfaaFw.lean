/- awake, whoever's. -/
import Derived.Test.YtgdfiopdkidhfaaFr3
import Derived.Test.YtgdfiopdkidhfaaKt
import Derived.Deep.RegionHeld3
namespace Go.Proofs.Ytgdfiopdkidhfaa
open Go.RowKit

theorem rdI_one (w : World) (t : TypeId) (k : Int) : RdI (w.alloc (Obj.cells #[.int .i64 k] t)) (some ⟨w.heap.size, 0, none⟩) [k] := fun _ => ⟨w.heap.size, 0, rfl, fun j hj => by
  have : j = 0 := by simpa using hj
  subst this
  rw [Nat.zero_add]
  exact (one_row w (.int .i64 k) t).cell (i := 0) (by omega)⟩
def awB : List Bool := [false, false, true, false, true, false, true, false, true]
theorem aw1 : putG (0, []) [5] = (0, [false, false, true, false, true]) := by decide +kernel
theorem aw2 : putN (0, [false, false, true, false, true]) 4 [5] = (0, awB) := by decide +kernel
theorem aw3 : gamR (bf awB) 9 (0, 0) = (5, 0, 5) := by decide +kernel
theorem aw4 : numR (bf awB) 9 (0, 5) 4 = (5, 0, 9) := by decide +kernel
theorem aw5 : numR (bf awB) 9 (0, 9) 1 = (0, 4, 9) := by decide +kernel
theorem aw6 : V1.bytesL 9 (bf awB) = [84, 1] := by decide +kernel
theorem argOne (w : World) (B : Nat) (v : Value) {t : TypeId} (ht : ¬ TW t) : ArgOk (w.alloc (Obj.cells #[v] t)) (some ⟨w.heap.size, 0, none⟩) B := fun b off e _ => .inr (by
  injection e with e
  injection e with e
  subst e
  exact TyAt.not_row (one_row w v t) ht)
theorem rdY_two (w : World) (t : TypeId) (x y : Nat) : RdV (w.alloc (Obj.cells #[.int .u8 (x : Int), .int .u8 (y : Int)] t)) (some ⟨w.heap.size, 0, none⟩) 2 (fun j => .int .u8 (([x, y].getD j 0 : Nat) : Int)) :=
  RdV.of_row (World.rowIs_alloc w #[.int .u8 (x : Int), .int .u8 (y : Int)] t _ (fun i hi => by
    match i, hi with
    | 0, _ => rfl
    | 1, _ => rfl
    | i + 2, hi => exact absurd (show i + 2 < 2 from hi) (by omega)))
set_option maxHeartbeats 2000000 in
theorem awake_any (w : World) : Calls Try.prog 5 #[] w fun e' w' => e' = .returned (.bool true) ∧ Hid (Below w.heap.size w w') := by
  go_enter Try.func5, Try.ntmps5
  go_wp2_with fail
  refine (newWriter_any w).mono ?_
  rintro e' w1 ⟨g, rfl, h1⟩
  have HW1 : Hid (IsWr w.heap.size w1 g 0 [] ∧ Below w.heap.size w w1) := hid ⟨h1.out.2.1 _ (Nat.le_refl _), h1.out.2.2.to_below (fun _ h => h.elim) (Nat.le_refl _)⟩
  clear h1
  go_wp2_with fail
  have ho1 : Only (fun _ => False) w1 (w1.alloc (Obj.cells #[.int .i64 5] 3)) := (Only.refl _ w1).alloc _
  refine (gamma_any (zs := [5]) (cap := 1) (HW1.out.1.same ho1) (Nat.le_trans HW1.out.2.size ho1.size) (rdI_one w1 _ 5) (fun _ => argOne w1 _ _ (by unfold TW; decide)) (by intro z hz; simp at hz; omega) (by simp)).mono ?_
  rw [aw1]
  rintro e' w2 ⟨rfl, h2⟩
  have HW2 : Hid (IsWr w.heap.size w2 g 0 [false, false, true, false, true] ∧ Below w.heap.size w w2) := hid ⟨h2.out.1, (HW1.out.2.trans (ho1.to_below (fun _ h => h.elim) HW1.out.2.size)).trans (h2.out.2.below (Nat.le_trans HW1.out.2.size ho1.size))⟩
  clear h2 HW1 ho1
  go_wp2_with fail
  have ho1 : Only (fun _ => False) w2 (w2.alloc (Obj.cells #[.int .i64 5] 3)) := (Only.refl _ w2).alloc _
  refine (number_any (zs := [5]) (cap := 1) (HW2.out.1.same ho1) (Nat.le_trans HW2.out.2.size ho1.size) (rdI_one w2 _ 5) (fun _ => argOne w2 _ _ (by unfold TW; decide)) (by intro z hz; simp at hz; omega) (by simp)).mono ?_
  rw [aw2]
  rintro e' w3 ⟨rfl, h2⟩
  have HW3 : Hid (IsWr w.heap.size w3 g 0 awB ∧ Below w.heap.size w w3) := hid ⟨h2.out.1, (HW2.out.2.trans (ho1.to_below (fun _ h => h.elim) HW2.out.2.size)).trans (h2.out.2.below (Nat.le_trans HW2.out.2.size ho1.size))⟩
  clear h2 HW2 ho1
  go_wp2_with fail
  refine (wvec_ok HW3.out.1).mono ?_
  rintro e' w4 ⟨g1, gs1, gw1, rfl, hv, hg, hgs, hgw, hb⟩
  have HV4 : Hid (VecB w.heap.size w4 g1 gs1 gw1 9 (bf awB) ∧ Below w.heap.size w w4) := hid ⟨⟨hv, by have := HW3.out.2.size; omega⟩, HW3.out.2.trans (hb.mono HW3.out.2.size)⟩
  clear hv hg hgs hgw hb HW3
  go_wp2_with fail
  refine (newReader_ok (a := 0) HV4.out.1 HV4.out.2.size (by omega)).mono ?_
  rintro e' w5 ⟨r, gb, rfl, h5⟩
  have HR5 : Hid (IsRd w.heap.size w5 r gb 0 (bf awB) 9 0 ∧ V1.IsVec w5 g1 gs1 gw1 9 (bf awB) ∧ Below w.heap.size w w5) := hid ⟨h5.out.1, h5.out.2.1.1, HV4.out.2.trans (h5.out.2.2.1.below HV4.out.2.size)⟩
  clear h5 HV4
  go_wp2_with fail
  refine (V1.bytes_any HR5.out.2.1).mono ?_
  rintro e' w6 ⟨rfl, hby⟩
  have HY : Hid (RdV (w6.alloc (Obj.cells #[.int .u8 84, .int .u8 1] 5)) (some ⟨w5.heap.size, 0, none⟩) 2 (fun j => .int .u8 (([84, 1].getD j 0 : Nat) : Int))) := hid (by
    have h := (RdV.of_row hby.out.2.1).only ((Only.refl (fun _ => False) w6).alloc (Obj.cells #[.int .u8 84, .int .u8 1] 5)) (fun _ _ _ => no_)
    refine h.congr fun j hj => ?_
    match j, hj with
    | 0, _ => exact congrArg (fun z : Nat => Value.int .u8 (z : Int)) (show V1.byteOf (bf awB) 0 = 84 by decide +kernel)
    | 1, _ => exact congrArg (fun z : Nat => Value.int .u8 (z : Int)) (show V1.byteOf (bf awB) 1 = 1 by decide +kernel)
    | j + 2, hj => exact absurd (show j + 2 < 2 from hj) (by omega))
  have HR6 : Hid (IsRd w.heap.size (w6.alloc (Obj.cells #[.int .u8 84, .int .u8 1] 5)) r gb 0 (bf awB) 9 0 ∧ Below w.heap.size w (w6.alloc (Obj.cells #[.int .u8 84, .int .u8 1] 5))) := hid (by
    have o : Only (fun _ => False) w5 (w6.alloc (Obj.cells #[.int .u8 84, .int .u8 1] 5)) := hby.out.2.2.alloc _
    exact ⟨HR5.out.1.same o, HR5.out.2.2.trans (o.to_below (fun _ h => h.elim) HR5.out.2.2.size)⟩)
  clear hby HR5
  go_wp2_with fail
  refine (sameBytes_eq (y := fun j => [84, 1].getD j 0) (fun j => by
    match j with
    | 0 => decide
    | 1 => decide
    | j + 2 => simp) HY.out (rdY_two w6 _ 84 1) (by omega)).mono ?_
  rintro e' w7 ⟨rfl, hq⟩
  have HR7 : Hid (IsRd w.heap.size w7 r gb 0 (bf awB) 9 0 ∧ Below w.heap.size w w7) := hid ⟨HR6.out.1.same (quiet_only hq), HR6.out.2.trans ((quiet_only hq).to_below (fun _ h => h.elim) HR6.out.2.size)⟩
  clear hq HR6 HY
  go_wp2_with fail
  refine (rgam_any HR7.out.1).mono ?_
  rw [aw3]
  rintro e' w8 ⟨rfl, h8⟩
  have HR8 : Hid (IsRd w.heap.size w8 r gb 0 (bf awB) 9 5 ∧ Below w.heap.size w w8) := hid ⟨h8.out.1, HR7.out.2.trans (h8.out.2.below HR7.out.2.size)⟩
  clear h8 HR7
  go_wp2_with fail
  refine (rnum_any 4 HR8.out.1).mono ?_
  rw [aw4]
  rintro e' w9 ⟨rfl, h9⟩
  have HR9 : Hid (IsRd w.heap.size w9 r gb 0 (bf awB) 9 9 ∧ Below w.heap.size w w9) := hid ⟨h9.out.1, HR8.out.2.trans (h9.out.2.below HR8.out.2.size)⟩
  clear h9 HR8
  go_wp2_with fail
  refine (rat_any HR9.out.1 (by decide)).mono ?_
  rintro e' w10 ⟨rfl, rfl⟩
  go_wp2_with fail
  refine (rerr_any HR9.out.1).mono ?_
  rintro e' w10 ⟨rfl, rfl⟩
  go_wp2_with fail
  refine (rnext_any HR9.out.1).mono ?_
  rw [aw5]
  rintro e' w10 ⟨rfl, h10⟩
  have HR10 : Hid (IsRd w.heap.size w10 r gb 4 (bf awB) 9 9 ∧ Below w.heap.size w w10) := hid ⟨h10.out.1, HR9.out.2.trans (h10.out.2.below HR9.out.2.size)⟩
  clear h10 HR9
  go_wp2_with fail
  refine (rerr_any HR10.out.1).mono ?_
  rintro e' w11 ⟨rfl, rfl⟩
  go_wp2_with fail
  go_ret
  exact ⟨rfl, hid HR10.out.2⟩
end Go.Proofs.Ytgdfiopdkidhfaa
