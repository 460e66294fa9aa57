/- The document's vector: Set. -/
import Derived.Test.YtgdfiopdkidhfaaRefC
namespace Go.Proofs.Ytgdfiopdkidhfaa.V1
open Go.RowKit
open Fen

def RSet (w : World) (r gl n cap : Nat) (f : Nat → Bool) (wr : World) : Prop := IsRef wr r gl n cap f ∧ Only (fun k => k = gl) w wr
theorem IsRef.store {w : World} {r gl n cap p : Nat} {f : Nat → Bool} {one : Bool} (h : IsRef w r gl n cap f) (hne : r ≠ gl) (hp : p < n) : IsRef (w.setCell ⟨gl, p, none⟩ (.bool one)) r gl n cap (setf f one p) := by
  obtain ⟨h1, h2, h3, ⟨F, h4, h5⟩, h6⟩ := h
  refine ⟨h1, fun i hi => ?_, h3.setOther (by simpa using hne) _, ⟨_, h4.set p _, fun j hj => ?_⟩, h6⟩
  · unfold setf
    rw [if_neg (by omega), h2 i hi]
  · unfold setf
    by_cases e : j = p
    · subst e; rw [if_pos rfl, if_pos rfl]
    · rw [if_neg e, if_neg e, h5 j hj]

end Go.Proofs.Ytgdfiopdkidhfaa.V1
