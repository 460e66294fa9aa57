/- A slice of ints that came in. -/
import Derived.Test.YtbbclcllkpabkaaDoorRowP
namespace Go.Proofs.YtbbclcllkpabkaaDoor
open Go.ChangeShapes Go.WideShapes Go.ChangeAt Go.RowKit Go.Deep
theorem cellsInt : Tryd.prog.cellsOf 3 = 1 := by kernel_rfl
section
variable {H : Type} {enc : TypeId × Value → H} {W : World} {sp : Nat → Bool} {hd : Bool} {A : Option Addr} {len cap : Nat} {d : DataW H} {p : List MemPlace}
theorem ints_in (h : DataW.Trod enc Tryd.prog W 0 sp hd 30 (.slice A len cap) d p) :
    SliceOf d len ∧ len ≤ maxLen ∧ (A = none → len = 0 ∧ cap = 0) ∧ ∃ zs : List Int, zs.length = len ∧ RdI W A zs ∧ ∀ z ∈ zs, -9223372036854775808 ≤ z ∧ z ≤ 9223372036854775807 := by
  obtain ⟨h1, h2, h3, V, hV, hc⟩ := row_in Tryd.underlying30 cellsInt h
  obtain ⟨z, hz⟩ := vals_int Tryd.underlying3 hV
  refine ⟨h1, h2, h3, (List.range len).map z, by simp, ?_, fun y hy => ?_⟩
  · have hc' : RdV W A ((List.range len).map z).length V := by simpa using hc
    refine hc'.congr fun j hj => ?_
    have hj' : j < len := by simpa using hj
    rw [(hz j hj').1]
    unfold vI
    simp [List.getD, hj']
  · obtain ⟨i, hi, rfl⟩ := List.mem_map.1 hy
    exact (hz i (by simpa using hi)).2
end
end Go.Proofs.YtbbclcllkpabkaaDoor
