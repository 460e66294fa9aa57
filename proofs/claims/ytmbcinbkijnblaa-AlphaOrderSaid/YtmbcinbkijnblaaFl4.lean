/- What the writer's closures answer. -/
import Derived.Test.YtmbcinbkijnblaaFl3
import Derived.Test.YtmbcinbkijnblaaFn
namespace Go.Proofs.Ytmbcinbkijnblaa
open Go.RowKit

def I64s (zs : List Int) : Prop := ∀ z ∈ zs, -9223372036854775808 ≤ z ∧ z ≤ 9223372036854775807
theorem all_any (P : Int → Bool) (zs : List Int) : (!zs.any fun z => !P z) = zs.all P := by
  induction zs with
  | nil => rfl
  | cons z zs ih => simp only [List.any_cons, List.all_cons, ← ih]; cases P z <;> simp
/-! How many bits gammas have, all together. -/
def glnS (zs : List Int) (k : Nat) : Int := (zs.take k).foldl (fun a z => a + (2 * ((nd z.toNat : Nat) : Int) - 1)) 0
theorem glnS_step {zs : List Int} {k : Nat} (h : k < zs.length) : glnS zs (k + 1) = glnS zs k + (2 * ((nd (zs.getD k 0).toNat : Nat) : Int) - 1) := by
  unfold glnS
  rw [take_getD h, List.foldl_append]; rfl
theorem glnS_le {zs : List Int} (hi : ∀ z ∈ zs, 0 ≤ z ∧ z ≤ 9223372036854775807) : ∀ k, k ≤ zs.length → -((k : Nat) : Int) ≤ glnS zs k ∧ glnS zs k ≤ 127 * (k : Int)
  | 0, _ => by simp [glnS]
  | k + 1, h => by
    have h1 := glnS_le hi k (by omega)
    have h2 := hi _ (getD_mem (zs := zs) (k := k) (by omega))
    have h3 := nd_le (zs.getD k 0).toNat (by omega)
    rw [glnS_step (by omega)]
    omega
set_option maxHeartbeats 400000 in
theorem may_put {w : World} : Calls Try.prog 90 #[] w fun e w' => e = .returned (.bool true) ∧ w = w' := by
  go_enter Try.func90, Try.ntmps90
  go_wp2
  go_ret
  exact ⟨rfl, rfl⟩
set_option maxHeartbeats 400000 in
theorem size_put {bn cap N : Nat} {A : Option Addr} {w : World} (h2 : w.cell? ⟨bn, 0, none⟩ = some (.slice A N cap)) :
    Calls Try.prog 91 #[.pointer (some ⟨bn, 0, none⟩)] w fun e w' => e = .returned (.int .i64 (N : Int)) ∧ w = w' := by
  go_enter Try.func91, Try.ntmps91
  go_wp2
  go_ret
  exact ⟨rfl, rfl⟩
end Go.Proofs.Ytmbcinbkijnblaa
