/- The document's reader: Gamma. -/
import Derived.Test.YtemklcnpmolclaaRqT
import Derived.Test.YtemklcnpmolclaaRqL
import Derived.Test.YtemklcnpmolclaaRqN
import Derived.Test.YtemklcnpmolclaaRqK
namespace Go.Proofs.Ytemklcnpmolclaa
open Go.RowKit

theorem qgam_any {B q cap at_ : Nat} {e : Int} {A : Option Addr} {xs : List Bool} {w : World} (h : IsRR B w q A cap xs at_ (badOf e)) :
    Calls Try.prog 33 #[.pointer (some ⟨q, 0, none⟩)] w (RRE B w q A cap xs (gamR (bf xs) xs.length (e, at_))) := by
  by_cases he : e = 0
  · by_cases h1 : 59 < zrs (bf xs) at_ (xs.length - at_)
    · exact qgam_L h ⟨he, h1⟩ _ _ _ (hid rfl)
    · by_cases h2 : xs.length < at_ + zrs (bf xs) at_ (xs.length - at_) + (zrs (bf xs) at_ (xs.length - at_) + 1)
      · exact qgam_N h ⟨he, h1, h2⟩ _ _ _ (hid rfl)
      · exact qgam_K h ⟨he, h1, h2⟩ _ _ _ (hid rfl)
  · exact qgam_T h (by simp [badOf, he]) _ _ _ (hid rfl)
end Go.Proofs.Ytemklcnpmolclaa
