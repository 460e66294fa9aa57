/- What the laws' own helpers answer: awake. -/
import Derived.Test.YtneipjocimcmnaaDoorVecB
import Derived.Test.YtneipjocimcmnaaDoorVecS
namespace Go.Proofs.YtneipjocimcmnaaDoor
open Go.RowKit
open Fen

theorem Tab.only {S : Nat → Prop} {a w : World} (hT : Tab a) (h : Only S a w) (hg : ¬ S 0) : Tab w := by
  intro i hi
  have h1 := hT i hi
  rw [h.cell (cell_lt h1) hg, h1]
theorem IsVec.only {S : Nat → Prop} {a w : World} {g gs gw n : Nat} {f : Nat → Bool} (hv : IsVec a g gs gw n f) (h : Only S a w) (h1 : ¬ S g) (h2 : ¬ S gs) (h3 : ¬ S gw) : IsVec w g gs gw n f :=
  ⟨hv.small, hv.out, h.row hv.self h1, h.row hv.words h3, h.row hv.sums h2⟩

theorem no_ : ¬ False := fun h => h
theorem IsVec.same {a w : World} {g gs gw n : Nat} {f : Nat → Bool} (hv : IsVec a g gs gw n f) (h : Only (fun _ => False) a w) : IsVec w g gs gw n f := hv.only h no_ no_ no_

def awakeL : List Bool := [true, false, true, true, false]
def awakeF (i : Nat) : Bool := awakeL.getD i false

theorem rd_awake (w : World) (t : TypeId) : RdB (w.alloc (Obj.cells #[.bool true, .bool false, .bool true, .bool true, .bool false] t)) (some ⟨w.heap.size, 0, none⟩) awakeL := by
  intro _ _
  refine ⟨w.heap.size, 0, rfl, fun j hj => ?_⟩
  have h := (World.rowIs_alloc w #[.bool true, .bool false, .bool true, .bool true, .bool false] t (fun j => .bool (awakeL.getD j false)) (fun i hi => by
    match i, hi with
    | 0, _ => rfl
    | 1, _ => rfl
    | 2, _ => rfl
    | 3, _ => rfl
    | 4, _ => rfl
    | i + 5, hi => exact absurd (show i + 5 < 5 from hi) (by omega))).cell (i := j) hj
  simpa using h
theorem rank_aw {g gs gw : Nat} {w : World} (h : IsVec w g gs gw 5 awakeF) (i : Int) (r : Int) (hr : ((C (cf awakeF) i.toNat : Nat) : Int) = r) :
    Calls Tryd.prog 26 #[.pointer (some ⟨g, 0, none⟩), .int .i64 i] w fun e w' => e = .returned (.int .i64 r) ∧ Only (fun _ => False) w w' :=
  (rank_any h i).mono fun _ _ ⟨he, hw⟩ => ⟨by rw [he, hr], quiet_only hw⟩
theorem select_aw2 {g gs gw : Nat} {w : World} (h : IsVec w g gs gw 5 awakeF) (hT : Tab w) :
    Calls Tryd.prog 30 #[.pointer (some ⟨g, 0, none⟩), .int .i64 2] w fun e w' => e = .returned (.tuple #[.int .i64 3, .bool true]) ∧ w = w' :=
  (select_any h hT 2).mono fun e w' ⟨hw, _, h2⟩ => by
    obtain ⟨i, he, hi, hc⟩ := h2 ⟨by omega, by decide⟩
    have h3 : awakeF 3 = true := rfl
    have : i = 3 := C_one (c := cf awakeF) (cf_one.2 hi) (cf_one.2 h3) (by rw [hc]; rfl)
    subst this
    exact ⟨he, hw⟩
theorem select_aw3 {g gs gw : Nat} {w : World} (h : IsVec w g gs gw 5 awakeF) (hT : Tab w) :
    Calls Tryd.prog 30 #[.pointer (some ⟨g, 0, none⟩), .int .i64 3] w fun e w' => e = .returned (.tuple #[.int .i64 0, .bool false]) ∧ w = w' :=
  (select_any h hT 3).mono fun e w' ⟨hw, h1, _⟩ => ⟨h1 (.inr (by decide)), hw⟩

set_option maxHeartbeats 2000000 in
theorem awake_any (w : World) (hT : Tab w) :
    Calls Tryd.prog 9 #[] w fun e w' => e = .returned (.bool true) ∧ Hid (Below w.heap.size w w') := by
  have HT := hid hT
  clear hT
  go_enter Tryd.func9, Tryd.ntmps9
  go_wp2_with fail
  refine (of_ok (some ⟨w.heap.size, 0, none⟩) 5 awakeL _ (rd_awake w _) (by decide)).mono ?_
  rintro e w1 ⟨g, gs, gw, rfl, hv, hg, hgs, hgw, hb⟩
  have HV : Hid (IsVec w1 g gs gw 5 awakeF) := hid hv
  have HB : Hid (Below w.heap.size w w1) := hid (((Below.refl w.heap.size w).alloc (Nat.le_refl _) _).trans (hb.mono (by simp)))
  have HT1 : Hid (Tab w1) := hid (HT.out.below HB.out)
  clear hv hb hg hgs hgw HT
  go_wp2_with fail
  refine (rank_aw HV.out 2 1 rfl).mono ?_
  rintro e w2 ⟨rfl, o2⟩
  have HV2 := hid (HV.out.same o2)
  have HB2 := hid (HB.out.trans ((o2.to_below (B := w.heap.size) (fun _ h => h.elim) HB.out.size)))
  have HT2 := hid (HT1.out.only o2 no_)
  clear HV HB HT1 o2
  go_wp2_with fail
  refine (rank_aw HV2.out 3 2 rfl).mono ?_
  rintro e w3 ⟨rfl, o2⟩
  have HV3 := hid (HV2.out.same o2)
  have HB3 := hid (HB2.out.trans ((o2.to_below (B := w.heap.size) (fun _ h => h.elim) HB2.out.size)))
  have HT3 := hid (HT2.out.only o2 no_)
  clear HV2 HB2 HT2 o2
  go_wp2_with fail
  refine (rank_aw HV3.out 5 3 rfl).mono ?_
  rintro e w4 ⟨rfl, o2⟩
  have HV4 := hid (HV3.out.same o2)
  have HB4 := hid (HB3.out.trans ((o2.to_below (B := w.heap.size) (fun _ h => h.elim) HB3.out.size)))
  have HT4 := hid (HT3.out.only o2 no_)
  clear HV3 HB3 HT3 o2
  go_wp2_with fail
  refine (select_aw2 HV4.out HT4.out).mono ?_
  rintro e w5 ⟨rfl, rfl⟩
  go_wp2_with fail
  refine (select_aw3 HV4.out HT4.out).mono ?_
  rintro e w5 ⟨rfl, rfl⟩
  go_wp2_with fail
  refine (bytes_any HV4.out).mono ?_
  rintro e w5 ⟨rfl, hby⟩
  have hc : w5.cell? ⟨w4.heap.size, 0, none⟩ = some (.int .u8 13) := hby.out.2.1.cell (i := 0) (by omega)
  have HV5 := hid (HV4.out.same hby.out.2.2)
  have HB5 := hid (HB4.out.trans ((hby.out.2.2.to_below (B := w.heap.size) (fun _ h => h.elim) HB4.out.size)))
  clear hby HV4 HB4 HT4
  go_wp2_with fail
  refine (ones_any HV5.out).mono ?_
  rintro e w6 ⟨rfl, rfl⟩
  have ho : ((C (cf awakeF) 5 : Nat) : Int) = 3 := rfl
  rw [ho]
  clear ho HV5
  go_wp2_with fail
  go_ret
  exact ⟨rfl, HB5⟩
end Go.Proofs.YtneipjocimcmnaaDoor
