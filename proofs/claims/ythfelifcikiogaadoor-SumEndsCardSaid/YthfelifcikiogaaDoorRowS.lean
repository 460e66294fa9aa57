/- What every row of this stage's laws wants: what four bits turn, laid. -/
import Derived.Test.YthfelifcikiogaaDoorCards
import Derived.Test.YthfelifcikiogaaDoorTie
import Derived.Test.YthfelifcikiogaaDoorRowY
import Derived.Test.YthfelifcikiogaaDoorSu1
import Derived.Lib.LaidTab
namespace Go.Proofs.YthfelifcikiogaaDoor
open Go.ChangeShapes Go.WideShapes Go.ChangeAt Go.RowKit Go.Deep

theorem gTurns : Tryd.prog.globalNamed "ossuary/sum.turns" = some 0 := by kernel_rfl
theorem gTurnsType : (Tryd.prog.globals[0]?).map (·.type) = some 54 := by kernel_rfl
theorem cellsTurns : Tryd.prog.cellsOf 54 = 16 := by kernel_rfl
theorem cellsCells : Tryd.prog.cellsOf 43 = 1 := by kernel_rfl
def turnsInts : List Int := (List.range 16).map fun i => ((Cr.tab i : Nat) : Int)
theorem turnsLaid (H : Type) : Rows.laid_ossuary_sum_turns (H := H) = Lib.tabData .u32 turnsInts := by
  have h : turnsInts = [0, 498536548, 997073096, 651767980, 1994146192, 1802195444, 1303535960, 1342533948, 3988292384, 4027552580, 3604390888, 3412177804, 2607071920, 2262029012, 2685067896, 3183342108] := by kernel_rfl
  rw [h]
  rfl
theorem tab_of {W : World} (h : laidMetH Tryd.prog [("ossuary/sum.turns", Rows.laid_ossuary_sum_turns)] W) : TabS W := by
  rw [turnsLaid] at h
  have ht : Lib.TabIs Tryd.prog W "ossuary/sum.turns" .u32 turnsInts :=
    Lib.tabIs_of_head (rest := []) gTurns gTurnsType Tryd.underlying54 Tryd.underlying43 cellsCells cellsTurns h
  intro i hi
  rw [ht.cell gTurns i (by simpa [turnsInts] using hi)]
  simp [turnsInts, List.getD, hi]
/-- A world for the witness: the table laid. -/
noncomputable def laidWorldS (os : Os) : World :=
  { World.holding Tryd.prog os ⟨#[], #[], []⟩ with heap := (World.holding Tryd.prog os ⟨#[], #[], []⟩).heap.modify 0 fun
      | .cells _ t frozen => .cells (turnsInts.map fun n => Value.int .u32 n).toArray t frozen
      | o => o }
end Go.Proofs.YthfelifcikiogaaDoor
