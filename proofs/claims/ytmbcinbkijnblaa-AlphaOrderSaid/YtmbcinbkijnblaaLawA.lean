/- What the laws' own helpers answer: awake. -/
import Derived.Test.YtmbcinbkijnblaaVecB
import Derived.Test.YtmbcinbkijnblaaVecS
namespace Go.Proofs.Ytmbcinbkijnblaa.V1
open Go.RowKit
open Fen

theorem IsVec.only {S : Nat → Prop} {a w : World} {g gs gw n : Nat} {f : Nat → Bool} (hv : IsVec a g gs gw n f) (h : Only S a w) (h1 : ¬ S g) (h2 : ¬ S gs) (h3 : ¬ S gw) : IsVec w g gs gw n f :=
  ⟨hv.small, hv.out, h.row hv.self h1, h.row hv.words h3, h.row hv.sums h2⟩

theorem no_ : ¬ False := fun h => h
theorem IsVec.same {a w : World} {g gs gw n : Nat} {f : Nat → Bool} (hv : IsVec a g gs gw n f) (h : Only (fun _ => False) a w) : IsVec w g gs gw n f := hv.only h no_ no_ no_

def awakeL : List Bool := [true, false, true, true, false]
def awakeF (i : Nat) : Bool := awakeL.getD i false

theorem rd_awake (w : World) (t : TypeId) : RdB (w.alloc (Obj.cells #[.bool true, .bool false, .bool true, .bool true, .bool false] t)) (some ⟨w.heap.size, 0, none⟩) awakeL := by
  intro _ _
  refine ⟨w.heap.size, 0, rfl, fun j hj => ?_⟩
  have h := (World.rowIs_alloc w #[.bool true, .bool false, .bool true, .bool true, .bool false] t (fun j => .bool (awakeL.getD j false)) (fun i hi => by
    match i, hi with
    | 0, _ => rfl
    | 1, _ => rfl
    | 2, _ => rfl
    | 3, _ => rfl
    | 4, _ => rfl
    | i + 5, hi => exact absurd (show i + 5 < 5 from hi) (by omega))).cell (i := j) hj
  simpa using h
end Go.Proofs.Ytmbcinbkijnblaa.V1
