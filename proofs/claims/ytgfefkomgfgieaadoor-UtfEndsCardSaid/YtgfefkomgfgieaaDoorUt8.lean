/- The law's example: awake. -/
import Derived.Test.YtgfefkomgfgieaaDoorUt7
namespace Go.Proofs.YtgfefkomgfgieaaDoor
open Go.RowKit U G

abbrev exT : ByteArray := { data := #[195, 169, 226, 130, 172] }
abbrev exL : ByteArray := { data := #[97, 46, 98, 46, 32, 120] }
abbrev exG : ByteArray := { data := #[101, 110, 45, 49, 45, 32] }
theorem ex1 : strB (encL (natZ [233, 8364])) = exT := by decide +kernel
theorem ex2 : lab (bl exL) = 3 := by decide +kernel
theorem ex3 : tag (bl exG) = 4 := by decide +kernel
theorem ex4 : rawZ 60 = false := by decide +kernel
theorem ex5 : allSg [233, 8364] = true := by decide +kernel
theorem rd_two (w : World) (a b : Int) : RdI (w.alloc (.cells #[.int .i64 a, .int .i64 b] 3)) (some ⟨w.heap.size, 0, none⟩) [a, b] :=
  RdV.of_row (World.rowIs_alloc w #[.int .i64 a, .int .i64 b] 3 (vI [a, b]) (fun i hi => by
    match i, hi with
    | 0, _ => rfl
    | 1, _ => rfl
    | i + 2, hi => exact absurd (show i + 2 < 2 from hi) (by omega)))
set_option maxHeartbeats 1000000 in
theorem awake_any {w : World} (hT : Tb w) : Calls Tryd.prog 8 #[] w fun e w' => e = .returned (.bool true) ∧ StU w w' := by
  have HT : Hid (∀ W, StU w W → Tb W) := hid fun W hW => hT.stu hW
  have HX : Hid (Calls Tryd.prog 17 #[.slice (some ⟨w.heap.size, 0, none⟩) 2 2] (w.alloc (.cells #[.int .i64 233, .int .i64 8364] 3)) fun e w' => e = .returned (.tuple #[.string exT, .int .i64 0]) ∧ StU w w') := hid ((text_any (rd_two w 233 8364) rfl (by decide)).mono fun e w' h => by
    exact ⟨by rw [h.2, ex5, ex1]; rfl, hid (((Only.refl _ w).alloc _).trans h.1.out)⟩)
  have HL : Hid (∀ W, StU w W → Calls Tryd.prog 12 #[.string exL] W fun e w' => e = .returned (.int .i64 3) ∧ StU w w') := hid fun W hW => (label_any (HT.out W hW) (by decide)).mono fun e w' h => ⟨by rw [h.1, ex2]; rfl, hid (hW.out.trans h.2.out)⟩
  have HG : Hid (∀ W, StU w W → Calls Tryd.prog 14 #[.string exG] W fun e w' => e = .returned (.int .i64 4) ∧ StU w w') := hid fun W hW => (tag_any (HT.out W hW) (by decide)).mono fun e w' h => ⟨by rw [h.1, ex3]; rfl, hid (hW.out.trans h.2.out)⟩
  have HR : Hid (∀ W, StU w W → Calls Tryd.prog 21 #[.int .i64 60] W fun e w' => e = .returned (.bool false) ∧ StU w w') := hid fun W hW => (raw_any 60 W).mono fun e w' h => ⟨by rw [h.1, ex4], hid (hW.out.trans h.2.out)⟩
  clear hT HT
  go_enter Tryd.func8, Tryd.ntmps8
  go_wp2_with (first
    | (go_at_call 17; refine HX.out.mono ?_; rintro e w1 ⟨rfl, HO1⟩)
    | (go_at_call 12; refine (HL.out _ HO1).mono ?_; rintro e w2 ⟨rfl, HO2⟩)
    | (go_at_call 14; refine (HG.out _ HO2).mono ?_; rintro e w3 ⟨rfl, HO3⟩)
    | (go_at_call 21; refine (HR.out _ HO3).mono ?_; rintro e w4 ⟨rfl, HO4⟩))
  go_ret
  exact ⟨rfl, HO4⟩
end Go.Proofs.YtgfefkomgfgieaaDoor
