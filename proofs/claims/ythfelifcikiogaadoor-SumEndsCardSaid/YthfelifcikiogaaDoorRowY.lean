/- A slice of bytes that came in. -/
import Derived.Test.YthfelifcikiogaaDoorRowP
namespace Go.Proofs.YthfelifcikiogaaDoor
open Go.ChangeShapes Go.WideShapes Go.ChangeAt Go.RowKit Go.Deep
theorem cellsByte : Tryd.prog.cellsOf 5 = 1 := by kernel_rfl
section
variable {H : Type} {enc : TypeId × Value → H} {W : World} {sp : Nat → Bool} {hd : Bool} {A : Option Addr} {len cap : Nat} {d : DataW H} {p : List MemPlace}
theorem bytes_in (h : DataW.Trod enc Tryd.prog W 0 sp hd 23 (.slice A len cap) d p) :
    SliceOf d len ∧ len ≤ maxLen ∧ (A = none → len = 0 ∧ cap = 0) ∧ ∃ bs : List Nat, bs.length = len ∧ RdY W A bs ∧ Byts bs := by
  obtain ⟨h1, h2, h3, V, hV, hc⟩ := row_in Tryd.underlying23 cellsByte h
  obtain ⟨z, hz⟩ := vals_int Tryd.underlying5 hV
  have hz2 : ∀ i, i < len → 0 ≤ z i ∧ z i ≤ 255 := fun i hi => (hz i hi).2
  refine ⟨h1, h2, h3, (List.range len).map (fun i => (z i).toNat), by simp, ?_, fun j => ?_⟩
  · have hc' : RdV W A ((List.range len).map (fun i => (z i).toNat)).length V := by simpa using hc
    refine hc'.congr fun j hj => ?_
    have hj' : j < len := by simpa using hj
    have hb := hz2 j hj'
    rw [(hz j hj').1]
    unfold vY
    simp only [List.getD, List.getElem?_map, List.getElem?_range hj', Option.map_some, Option.getD_some]
    rw [Int.toNat_of_nonneg hb.1]
  · by_cases hj : j < len
    · have hb := hz2 j hj
      simp only [List.getD, List.getElem?_map, List.getElem?_range hj, Option.map_some, Option.getD_some]
      omega
    · rw [getDn_far _ _ (by simp; omega)]; omega
end
end Go.Proofs.YthfelifcikiogaaDoor
