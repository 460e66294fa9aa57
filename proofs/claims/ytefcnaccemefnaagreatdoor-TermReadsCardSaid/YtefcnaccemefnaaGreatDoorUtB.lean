/- UtfBack. -/
import Derived.Test.YtefcnaccemefnaaGreatDoorUtA
namespace Go.Proofs.YtefcnaccemefnaaGreatDoor
open Go.RowKit U G

theorem encL_ge : ∀ ns : List Nat, ns.length ≤ (encL ns).length
  | [] => by simp
  | n :: ns => by
    have := (encN_len n).1
    have ih := encL_ge ns
    have e : encL (n :: ns) = encN n ++ encL ns := by simp [encL]
    rw [e, List.length_append, List.length_cons]
    omega
end Go.Proofs.YtefcnaccemefnaaGreatDoor
