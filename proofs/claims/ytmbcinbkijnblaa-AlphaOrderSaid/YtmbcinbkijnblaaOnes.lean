/- What math/bits' OnesCount64 and TrailingZeros64 answer. -/
import Derived.Test.YtmbcinbkijnblaaRows
import Derived.Test.YtmbcinbkijnblaaPop
import Derived.WalkKit
import Derived.WalkSpells
import Derived.WalkLawsBesides
import Derived.Test.YtmbcinbkijnblaaBase
namespace Go.Proofs.Ytmbcinbkijnblaa.V1
open Go.RowKit
open Fen (pc lb)

def swA (x : Int) : Int := IntKind.u64.wrap (bits .and .u64 (x / 2) 6148914691236517205 + bits .and .u64 x 6148914691236517205)
def swB (x : Int) : Int := IntKind.u64.wrap (bits .and .u64 (x / 4) 3689348814741910323 + bits .and .u64 x 3689348814741910323)
def swC (x : Int) : Int := bits .and .u64 (IntKind.u64.wrap (x / 16 + x)) 1085102592571150095
def swD (x : Int) : Int := IntKind.u64.wrap (x + x / 256)
def swE (x : Int) : Int := IntKind.u64.wrap (x + x / 65536)
def swF (x : Int) : Int := IntKind.u64.wrap (x + x / 4294967296)

theorem and_lit (a b : Nat) (B : Int) (hB : B = (b : Int)) (ha : a < 18446744073709551616) (hb : b < 18446744073709551616) : bits .and .u64 (a : Int) B = ((a &&& b : Nat) : Int) := by
  subst hB; exact u64_and_nat a b ha hb
theorem iand_lit (a b : Nat) (B : Int) (hB : B = (b : Int)) (ha : a < 9223372036854775808) (hb : b < 9223372036854775808) : bits .and .i64 (a : Int) B = ((a &&& b : Nat) : Int) := by
  subst hB; exact Fen.and_i64 a b ha hb

theorem eA (x y : Nat) (h : x < 18446744073709551616) (hy : y = (x / 2 &&& 6148914691236517205) + (x &&& 6148914691236517205)) (h1 : y < 18446744073709551616) : swA x = (y : Int) := by
  unfold swA
  have e : (x : Int) / 2 = ((x / 2 : Nat) : Int) := by omega
  rw [e, and_lit (x / 2) 6148914691236517205 6148914691236517205 (by omega) (by omega) (by omega), and_lit x 6148914691236517205 6148914691236517205 (by omega) h (by omega), ← Int.natCast_add, ← hy]
  exact Fen.wrap_fit _ h1
theorem eB (y z : Nat) (h1 : y < 18446744073709551616) (hz : z = (y / 4 &&& 3689348814741910323) + (y &&& 3689348814741910323)) (h2 : z < 18446744073709551616) : swB y = (z : Int) := by
  unfold swB
  have e : (y : Int) / 4 = ((y / 4 : Nat) : Int) := by omega
  rw [e, and_lit (y / 4) 3689348814741910323 3689348814741910323 (by omega) (by omega) (by omega), and_lit y 3689348814741910323 3689348814741910323 (by omega) h1 (by omega), ← Int.natCast_add, ← hz]
  exact Fen.wrap_fit _ h2
theorem eC (z u : Nat) (hu : u = (z / 16 + z &&& 1085102592571150095)) (h3 : z / 16 + z < 18446744073709551616) : swC z = (u : Int) := by
  unfold swC
  have e : (z : Int) / 16 = ((z / 16 : Nat) : Int) := by omega
  rw [e, ← Int.natCast_add, Fen.wrap_fit _ h3, and_lit (z / 16 + z) 1085102592571150095 1085102592571150095 (by omega) h3 (by omega), ← hu]
theorem eD (u : Nat) (h : u + u / 256 < 2000000000000000000) : swD u = ((u + u / 256 : Nat) : Int) := by
  unfold swD
  have e : (u : Int) / 256 = ((u / 256 : Nat) : Int) := by omega
  rw [e, ← Int.natCast_add]
  exact Fen.wrap_fit _ (by omega)
theorem eE (u : Nat) (h : u + u / 65536 < 4000000000000000000) : swE u = ((u + u / 65536 : Nat) : Int) := by
  unfold swE
  have e : (u : Int) / 65536 = ((u / 65536 : Nat) : Int) := by omega
  rw [e, ← Int.natCast_add]
  exact Fen.wrap_fit _ (by omega)
theorem eF (u : Nat) (h : u + u / 4294967296 < 8000000000000000000) : swF u = ((u + u / 4294967296 : Nat) : Int) := by
  unfold swF
  have e : (u : Int) / 4294967296 = ((u / 4294967296 : Nat) : Int) := by omega
  rw [e, ← Int.natCast_add]
  exact Fen.wrap_fit _ (by omega)
theorem eG (r n : Nat) (h : r < 8000000000000000000) (h8 : r % 128 = n) : bits .and .i64 (wrap64 r) 127 = (n : Int) := by
  have e1 : wrap64 (r : Int) = (r : Int) := IntWalk.wrap64_in _ ⟨by omega, by omega⟩
  rw [e1, iand_lit r 127 127 (by omega) (by omega) (by omega), ← h8, show (127 : Nat) = 2 ^ 7 - 1 by rfl, Nat.and_two_pow_sub_one_eq_mod]

theorem sw_all (x : Nat) (h : x < 18446744073709551616) : bits .and .i64 (wrap64 (swF (swE (swD (swC (swB (swA x))))))) 127 = ((pc x : Nat) : Int) := by
  have key := Fen.swar_pc x _ _ _ rfl rfl rfl
  rw [eA x _ h rfl key.1, eB _ _ key.1 rfl key.2.1, eC _ _ rfl key.2.2.1]
  have h5 := key.2.2.2.2.1
  have h6 := key.2.2.2.2.2.1
  have h7 := key.2.2.2.2.2.2.1
  have h8 := key.2.2.2.2.2.2.2
  clear key
  generalize ((((x / 2 &&& 6148914691236517205) + (x &&& 6148914691236517205)) / 4 &&& 3689348814741910323) + (((x / 2 &&& 6148914691236517205) + (x &&& 6148914691236517205)) &&& 3689348814741910323)) / 16 +
    ((((x / 2 &&& 6148914691236517205) + (x &&& 6148914691236517205)) / 4 &&& 3689348814741910323) + (((x / 2 &&& 6148914691236517205) + (x &&& 6148914691236517205)) &&& 3689348814741910323)) &&& 1085102592571150095 = u at h5 h6 h7 h8 ⊢
  rw [eD _ h5]
  generalize u + u / 256 = p at h6 h7 h8 ⊢
  rw [eE _ h6]
  generalize p + p / 65536 = q at h7 h8 ⊢
  rw [eF _ h7]
  exact eG _ _ h7 h8

set_option maxHeartbeats 400000 in
theorem onesCount_any (x : Nat) (w : World) (h : x < 18446744073709551616) :
    Calls Try.prog 113 #[.int .u64 x] w fun e w' => e = .returned (.int .i64 (pc x : Nat)) ∧ w = w' := by
  have key := hid (sw_all x h)
  go_enter Try.func113, Try.ntmps113
  go_wp2
  go_ret
  exact ⟨congrArg (fun z => Ending.returned (.int .i64 z)) key.out, rfl⟩

theorem tz_key (x : Nat) (h0 : x ≠ 0) (h : x < 18446744073709551616) :
    IntKind.u64.wrap (bits .and .u64 (x : Int) (IntKind.u64.wrap (-(x : Int))) * 285870213051353865) / 288230376151711744 = ((2 ^ Lib.ctz 64 x * 285870213051353865 % 18446744073709551616 / 288230376151711744 : Nat) : Int) := by
  have h1 := (Lib.lowest_bit 64 x h0 (by omega)).1
  have e : IntKind.u64.wrap (-(x : Int)) = ((2 ^ 64 - x : Nat) : Int) := by rw [IntKind.wrap_u64]; omega
  rw [e, u64_and_nat x (2 ^ 64 - x) h (by omega), h1, IntKind.wrap_u64]
  generalize 2 ^ Lib.ctz 64 x = p
  omega
end Go.Proofs.Ytmbcinbkijnblaa.V1
