/- The law BitsRanks. -/
import Derived.Test.YtmbcinbkijnblaaLawA
namespace Go.Proofs.Ytmbcinbkijnblaa.V1
open Go.RowKit
open Fen

theorem get_nat {g gs gw n : Nat} {f : Nat → Bool} {w : World} (h : IsVec w g gs gw n f) (k : Nat) (b : Bool) (hb : f k = b) :
    Calls Try.prog 56 #[.pointer (some ⟨g, 0, none⟩), .int .i64 (k : Int)] w fun e w' => e = .returned (.bool b) ∧ w = w' :=
  (get_any h k).mono fun _ _ ⟨he, hw⟩ => ⟨by rw [he]; unfold at_; simp [hb], hw⟩
end Go.Proofs.Ytmbcinbkijnblaa.V1
