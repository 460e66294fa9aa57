/- sum: what four bits, a byte do to the register; where a register begins; how it ends. -/
import Derived.Test.YthfelifcikiogaaDoorRd
import Derived.Test.YthfelifcikiogaaDoorCr
import Derived.Test.YthfelifcikiogaaDoorRows
namespace Go.Proofs.YthfelifcikiogaaDoor
open Go.RowKit
open Cr

/-- The code's table, laid. -/
def TabS (w : World) : Prop := ∀ i, i < 16 → w.cell? ⟨0, i, none⟩ = some (.int .u32 ((tab i : Nat) : Int))
theorem TabS.drewN {w : World} (h : TabS w) (k : Nat) : TabS (w.drewN k) := h
theorem TabS.below {w w' : World} (h : TabS w) (hb : Below w.heap.size w w') : TabS w' := fun i hi => by rw [hb.cell (cell_lt (h i hi)), h i hi]
theorem TabS.only {w w' : World} (h : TabS w) (ho : Only (fun _ => False) w w') : TabS w' := fun i hi => by rw [ho.cell (cell_lt (h i hi)) no_, h i hi]
theorem tn_lt (n : Nat) {x : Nat} (h : x < 4294967296) : Tn n x < 4294967296 := Tn_lt h
theorem xor_lt (a b : Nat) (ha : a < 4294967296) (hb : b < 4294967296) : a ^^^ b < 4294967296 := Nat.xor_lt_two_pow (n := 32) ha hb
theorem tab_lt (i : Nat) (h : i < 16) : tab i < 4294967296 := Tn_lt (by omega)
theorem and15 (c : Nat) (h : c < 4294967296) : bits .and .u32 (c : Int) 15 = ((c % 16 : Nat) : Int) := by
  have := u32_and_nat c 15 h (by decide)
  rw [show (15 : Nat) = 2 ^ 4 - 1 by rfl, Nat.and_two_pow_sub_one_eq_mod] at this
  exact this
theorem wrapS (n : Nat) (h : n < 4294967296) : IntKind.u32.wrap (n : Int) = (n : Int) := by rw [IntKind.wrap_u32]; omega

set_option maxHeartbeats 400000 in
theorem down_any (c : Nat) (w : World) (hc : c < 4294967296) (hT : TabS w) :
    Calls Tryd.prog 32 #[.int .u32 (c : Int)] w fun e w' => e = .returned (.int .u32 ((Tn 4 c : Nat) : Int)) ∧ w = w' := by
  have ha := and15 c hc
  have hk : c % 16 < 16 := Nat.mod_lt _ (by decide)
  have dt := hT (c % 16) hk
  have HV : Hid (bits .xor .u32 ((c : Int) / 16) ((tab (c % 16) : Nat) : Int) = ((Tn 4 c : Nat) : Int)) := hid (by
    rw [down4, show (c : Int) / 16 = ((c / 16 : Nat) : Int) by omega]
    exact u32_xor_nat _ _ (by omega) (tab_lt _ hk))
  clear hT
  generalize tab (c % 16) = t at dt HV
  generalize Tn 4 c = z at HV
  generalize c % 16 = k at ha hk dt
  go_enter Tryd.func32, Tryd.ntmps32
  go_wp2
  go_ret
  exact ⟨ret_int HV.out, rfl⟩
set_option maxHeartbeats 400000 in
theorem after_any (c b : Nat) (w : World) (hc : c < 4294967296) (hb : b < 256) (hT : TabS w) :
    Calls Tryd.prog 31 #[.int .u32 (c : Int), .int .u8 (b : Int)] w fun e w' => e = .returned (.int .u32 ((step8 c b : Nat) : Int)) ∧ w = w' := by
  have hx : bits .xor .u32 (c : Int) (b : Int) = ((c ^^^ b : Nat) : Int) := u32_xor_nat c b hc (by omega)
  have hl : c ^^^ b < 4294967296 := xor_lt c b hc (by omega)
  have HE := hid (step8_two c b)
  have H1 := hid (fun W => down_any (c ^^^ b) W hl)
  have H2 := hid (fun W => down_any (Tn 4 (c ^^^ b)) W (tn_lt 4 hl))
  have HT := hid hT
  have hbw := wrapS b (by omega)
  clear hT
  have HR := hid (congrArg (fun n : Nat => Ending.returned (.int .u32 (n : Int))) HE.out)
  clear HE
  generalize Ending.returned (.int .u32 ((step8 c b : Nat) : Int)) = g at HR
  generalize Tn 4 (Tn 4 (c ^^^ b)) = z at H2 HR
  generalize Tn 4 (c ^^^ b) = y at H1 H2
  generalize c ^^^ b = x at hx hl H1
  go_enter Tryd.func31, Tryd.ntmps31
  go_wp2_with fail
  refine (H1.out _ HT.out).mono ?_
  rintro e w' ⟨rfl, rfl⟩
  go_wp2_with fail
  refine (H2.out _ HT.out).mono ?_
  rintro e w' ⟨rfl, rfl⟩
  go_wp2_with fail
  go_ret
  exact ⟨HR.out.symm, rfl⟩
set_option maxHeartbeats 400000 in
theorem turned_any (c : Nat) (w : World) (hc : c < 4294967296) :
    Calls Tryd.prog 28 #[.int .u32 (c : Int)] w fun e w' => e = .returned (.int .u32 ((c ^^^ F : Nat) : Int)) ∧ w = w' := by
  go_enter Tryd.func28, Tryd.ntmps28
  go_wp2
  go_ret
  exact ⟨ret_int (by
    show bits .xor .u32 ((4294967295 : Nat) : Int) (c : Int) = _
    rw [u32_xor_nat _ _ (by omega) hc, Nat.xor_comm]; rfl), rfl⟩
set_option maxHeartbeats 400000 in
theorem begun_any (w : World) :
    Calls Tryd.prog 26 #[] w fun e w' => e = .returned (.agg #[.int .u32 4294967295]) ∧ Hid (Below w.heap.size w w') := by
  go_enter Tryd.func26, Tryd.ntmps26
  go_wp2
  refine bodyPost_ret (v := .agg #[.int .u32 4294967295]) (by simp [results, Tryd.results26, go_sem]) rfl ⟨rfl, hid ?_⟩
  exact (Below.refl _ w).alloc (Nat.le_refl _) _
theorem foot_len (n : Nat) : (foot n).length = 4 := rfl
set_option maxHeartbeats 400000 in
theorem foot_any (n : Nat) (w : World) (h : n < 4294967296) :
    Calls Tryd.prog 23 #[.int .u32 (n : Int)] w fun e w' => e = .returned (.slice (some ⟨w.heap.size, 0, none⟩) 4 4) ∧ Hid (w'.rowIs w.heap.size 5 4 (vY (foot n)) ∧ Below w.heap.size w w') := by
  go_enter Tryd.func23, Tryd.ntmps23
  go_wp2
  go_ret
  refine ⟨rfl, hid ⟨World.rowIs_alloc w _ _ _ (fun i hi => ?_), (Below.refl _ w).alloc (Nat.le_refl _) _⟩⟩
  have h4 : (n : Int) / 16777216 = ((n / 16777216 % 256 : Nat) : Int) := by omega
  rw [h4]
  match i, hi with
  | 0, _ => rfl
  | 1, _ => rfl
  | 2, _ => rfl
  | 3, _ => rfl
  | k + 4, hi => exact absurd hi (by simp)
end Go.Proofs.YthfelifcikiogaaDoor
