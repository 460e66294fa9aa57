/- markByte, of the laws' kit. -/
import Derived.Test.YthfelifcikiogaaDoorKtL
namespace Go.Proofs.YthfelifcikiogaaDoor
open Go.RowKit
theorem mkb_int (m : Nat) (_h : m < 9223372036854775808) : IntKind.u64.wrap ((m : Int) * 11400714819323198485) / 72057594037927936 = ((m * 11400714819323198485 % 18446744073709551616 / 72057594037927936 : Nat) : Int) := by
  rw [IntKind.wrap_u64]; omega
set_option maxHeartbeats 400000 in
theorem markByte_any (k i : Nat) (w : World) (hk : k ≤ 1000000) (hi : i ≤ 1000000000) :
    Calls Tryd.prog 21 #[.int .i64 (k : Int), .int .i64 (i : Int)] w fun e w' => e = .returned (.int .u8 ((mkb k i : Nat) : Int)) ∧ w = w' := by
  have hm : mk_ k i < 9223372036854775808 := by unfold mk_; omega
  have hb := mkb_lt k i
  have he := mkb_int (mk_ k i) hm
  have hx : Hid (mkb k i = mk_ k i * 11400714819323198485 % 18446744073709551616 / 72057594037927936) := hid rfl
  have HM := hid (fun W => mark_any k i W hk hi)
  rw [← hx.out] at he
  generalize mk_ k i = m at hm he HM
  generalize mkb k i = b at hb he
  clear hx hk hi
  have hb' : (b : Int) < 256 := by omega
  go_enter Tryd.func21, Tryd.ntmps21
  go_wp2_with fail
  refine (HM.out _).mono ?_
  rintro e w' ⟨rfl, rfl⟩
  go_wp2_with fail
  go_ret
  exact ⟨rfl, rfl⟩
end Go.Proofs.YthfelifcikiogaaDoor
