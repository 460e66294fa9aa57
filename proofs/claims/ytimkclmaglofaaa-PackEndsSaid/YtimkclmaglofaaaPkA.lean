/- What the laws' own helper answers: awake. -/
import Derived.Test.YtimkclmaglofaaaKt
import Derived.Test.YtimkclmaglofaaaPk6
import Derived.Test.YtimkclmaglofaaaPk7
namespace Go.Proofs.Ytimkclmaglofaaa
open Go.RowKit
open Bit

def awL : List Int := [5, 0, 3]
def awF : Nat → Bool := fS 3 (zl awL) 3
theorem rd_aw (w : World) (t : TypeId) : RdI (w.alloc (Obj.cells #[.int .i64 5, .int .i64 0, .int .i64 3] t)) (some ⟨w.heap.size, 0, none⟩) awL :=
  RdV.of_row (World.rowIs_alloc w #[.int .i64 5, .int .i64 0, .int .i64 3] t (vI awL) (fun i hi => by
    match i, hi with
    | 0, _ => rfl
    | 1, _ => rfl
    | 2, _ => rfl
    | i + 3, hi => exact absurd (show i + 3 < 3 from hi) (by omega)))
def awB : List Nat := [197, 0]
theorem rd_awB (w : World) (t : TypeId) : RdV (w.alloc (Obj.cells #[.int .u8 197, .int .u8 0] t)) (some ⟨w.heap.size, 0, none⟩) 2 (vYf awF) :=
  RdV.of_row (World.rowIs_alloc w #[.int .u8 197, .int .u8 0] t (vYf awF) (fun i hi => by
    match i, hi with
    | 0, _ => exact (show _ = some (Value.int .u8 ((byt awF 0 : Nat) : Int)) by rw [show byt awF 0 = 197 by decide +kernel]; rfl)
    | 1, _ => exact (show _ = some (Value.int .u8 ((byt awF 1 : Nat) : Int)) by rw [show byt awF 1 = 0 by decide +kernel]; rfl)
    | i + 2, hi => exact absurd (show i + 2 < 2 from hi) (by omega)))
theorem ints_aw : Ints awL := by unfold Ints awL; simp
theorem at_aw {g gw : Nat} {w : World} (h : IsRow w g gw 3 3 awF) :
    Calls Try.prog 34 #[.pointer (some ⟨g, 0, none⟩), .int .i64 2] w fun e w' => e = .returned (.tuple #[.int .i64 3, .bool true]) ∧ Only (fun _ => False) w w' := by
  refine (at_any h 2).mono fun e w' ⟨h1, h2⟩ => ⟨?_, quiet_only h2⟩
  rw [h1, show nAt awF 3 3 2 = 3 by decide +kernel, show isAt 3 2 = true by decide +kernel]

set_option maxHeartbeats 2000000 in
theorem awake_any (w : World) : Calls Try.prog 9 #[] w fun e w' => e = .returned (.bool true) ∧ Hid (Below w.heap.size w w') := by
  go_enter Try.func9, Try.ntmps9
  go_wp2_with fail
  refine (new_ok 3 3 (some ⟨w.heap.size, 0, none⟩) awL _ (by omega) (by omega) (rd_aw w _) ints_aw (by decide +kernel) (by decide)).mono ?_
  rintro e w1 ⟨g, gw, rfl, hv, _, _, hb⟩
  have HV : Hid (IsRow w1 g gw 3 3 awF) := hid hv
  have HB : Hid (Below w.heap.size w w1) := hid (((Below.refl w.heap.size w).alloc (Nat.le_refl _) _).trans (hb.mono (by simp)))
  clear hv hb
  go_wp2_with fail
  refine (at_aw HV.out).mono ?_
  rintro e w2 ⟨rfl, o2⟩
  have HV2 := hid (HV.out.only o2 no_ no_)
  have HB2 := hid (HB.out.trans ((o2.to_below (B := w.heap.size) (fun _ h => h.elim) HB.out.size)))
  clear HV HB o2
  go_wp2_with fail
  refine (bytes_any HV2.out).mono ?_
  rintro e w3 ⟨gb, rfl, hn⟩
  have HR := hid (RdV.of_row hn.out.2.1)
  have HV3 := hid (HV2.out.below hn.out.2.2)
  have HB3 := hid (HB2.out.trans (hn.out.2.2.mono HB2.out.size))
  clear HV2 HB2 hn
  go_wp2_with fail
  refine (sameBytes_eq (y := byt awF) (byt_lt awF) (HR.out.below ((Below.refl _ w3).alloc (Nat.le_refl _) _)) (rd_awB w3 _) (by omega)).mono ?_
  rintro e w4 ⟨rfl, k, rfl⟩
  have HV4 := hid ((HV3.out.below ((Below.refl _ w3).alloc (Nat.le_refl _) (.cells #[.int .u8 197, .int .u8 0] 5))).drewN k)
  have HB4 := hid (below_drewN (HB3.out.alloc HB3.out.size (.cells #[.int .u8 197, .int .u8 0] 5)) k)
  clear HV3 HB3 HR
  go_wp2_with fail
  refine (len_any HV4.out).mono ?_
  rintro e w5 ⟨rfl, rfl⟩
  go_wp2_with fail
  refine (width_any HV4.out).mono ?_
  rintro e w5 ⟨rfl, rfl⟩
  go_wp2_with fail
  go_ret
  exact ⟨rfl, HB4⟩
end Go.Proofs.Ytimkclmaglofaaa
