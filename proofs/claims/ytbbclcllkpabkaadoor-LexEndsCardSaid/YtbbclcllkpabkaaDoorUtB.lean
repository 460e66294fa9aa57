/- UtfBack. -/
import Derived.Test.YtbbclcllkpabkaaDoorUtA
namespace Go.Proofs.YtbbclcllkpabkaaDoor
open Go.RowKit U G

theorem encL_ge : ∀ ns : List Nat, ns.length ≤ (encL ns).length
  | [] => by simp
  | n :: ns => by
    have := (encN_len n).1
    have ih := encL_ge ns
    have e : encL (n :: ns) = encN n ++ encL ns := by simp [encL]
    rw [e, List.length_append, List.length_cons]
    omega
theorem signs_ok {s : ByteArray} {w : World} {ns : List Nat} {k : Nat} (hT : Tb w) (hs : s.size ≤ 900000) (h : sgsL (bl s) = (ns, k)) (hk : k = s.size) :
    Calls Tryd.prog 10 #[.string s] w fun e w' => ∃ A cap, e = .returned (.tuple #[.slice A ns.length cap, .int .i64 0, .int .i64 0]) ∧ Hid (StU w w' ∧ RdI w' A (iNs ns)) := by
  refine (signs_any hT hs).mono ?_
  rintro e w' ⟨h1, ⟨h2, A, cap, rfl, h3⟩ | ⟨h2, rfl⟩⟩
  · rw [h] at h3
    exact ⟨A, cap, by rw [h], hid ⟨h1, h3.out.1⟩⟩
  · rw [h] at h2
    simp only at h2
    omega
theorem signs_no {s : ByteArray} {w : World} {k : Nat} (hT : Tb w) (hs : s.size ≤ 900000) (h : (sgsL (bl s)).2 = k) (hk : k < s.size) :
    Calls Tryd.prog 10 #[.string s] w fun e w' => e = .returned (.tuple #[.slice none 0 0, .int .i64 (k : Int), .int .i64 11]) ∧ StU w w' := by
  refine (signs_any hT hs).mono ?_
  rintro e w' ⟨h1, ⟨h2, A, cap, rfl, h3⟩ | ⟨h2, rfl⟩⟩
  · omega
  · exact ⟨by rw [h], h1⟩
end Go.Proofs.YtbbclcllkpabkaaDoor
