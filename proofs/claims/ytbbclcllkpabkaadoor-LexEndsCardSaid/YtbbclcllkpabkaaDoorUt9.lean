/- UtfSpans. -/
import Derived.Test.YtbbclcllkpabkaaDoorUt8
namespace Go.Proofs.YtbbclcllkpabkaaDoor
open Go.RowKit U G

theorem bl_one : bl { data := #[32] } = [32] := by decide
theorem bl_two : bl { data := #[46, 32] } = [46, 32] := by decide
theorem bl_at {s : ByteArray} {j : Nat} (h : j < s.size) : (bl s).getD j 0 = (s[j]'h).toNat := by
  rw [bl_get, Utf8W.get!_of_lt s j h]
end Go.Proofs.YtbbclcllkpabkaaDoor
