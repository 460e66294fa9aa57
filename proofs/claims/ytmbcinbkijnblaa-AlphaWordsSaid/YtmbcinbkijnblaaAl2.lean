/- Signs, digits, ways, words: the small calls of alpha. -/
import Derived.Test.YtmbcinbkijnblaaAl1
import Derived.Test.YtmbcinbkijnblaaTk6
import Derived.Test.YtmbcinbkijnblaaFl1
import Derived.Laws.CopyOwn
namespace Go.Proofs.Ytmbcinbkijnblaa
open Go.RowKit

theorem digit_any (b : Bool) (w : World) : Calls Try.prog 102 #[.bool b] w fun e w' => e = .returned (.int .i64 ((b.toNat : Nat) : Int)) ∧ w = w' := by
  cases b
  all_goals
    go_enter Try.func102, Try.ntmps102
    go_wp2
    go_ret
    exact ⟨rfl, rfl⟩
theorem wayTo_any (s : Nat) (hs : s ≤ 1000) (w : World) : Calls Try.prog 109 #[.int .i64 (s : Int)] w fun e w' => e = .returned (.int .i64 (-1 - (s : Int))) ∧ w = w' := by
  have h1 : IntKind.i64.wrap (-1 - (s : Int)) = -1 - (s : Int) := by rw [IntKind.wrap_i64]; omega
  go_enter Try.func109, Try.ntmps109
  go_wp2
  go_ret
  exact ⟨rfl, rfl⟩
theorem waySign_neg (s : Nat) (hs : s ≤ 1000) (w : World) : Calls Try.prog 103 #[.int .i64 (-1 - (s : Int))] w fun e w' => e = .returned (.tuple #[.int .i64 (s : Int), .bool true]) ∧ w = w' := by
  obtain ⟨z, hz⟩ : ∃ z : Int, z = -1 - (s : Int) := ⟨_, rfl⟩
  have h1 : IntKind.i64.wrap (-1 - z) = (s : Int) := by rw [IntKind.wrap_i64]; omega
  have h2 : z < 0 := by omega
  have h3 : -1 - z = (s : Int) := by omega
  rw [← hz]
  clear hz
  go_enter Try.func103, Try.ntmps103
  go_wp2
  go_ret2
  exact ⟨rfl, rfl⟩
theorem waySign_pos (k : Nat) (hk : k ≤ 100000000) (w : World) : Calls Try.prog 103 #[.int .i64 (k : Int)] w fun e w' => e = .returned (.tuple #[.int .i64 (-1 - (k : Int)), .bool false]) ∧ w = w' := by
  have h1 : IntKind.i64.wrap (-1 - (k : Int)) = -1 - (k : Int) := by rw [IntKind.wrap_i64]; omega
  go_enter Try.func103, Try.ntmps103
  go_wp2
  go_ret2
  exact ⟨rfl, rfl⟩
def isSg (z : Int) : Bool := decide (0 ≤ z) && decide (z < 257)
theorem isSign_any (z : Int) (w : World) : Calls Try.prog 74 #[.int .i64 z] w fun e w' => e = .returned (.bool (isSg z)) ∧ w = w' := by
  by_cases h0 : 0 ≤ z
  · go_enter Try.func74, Try.ntmps74
    go_wp2
    go_ret
    exact ⟨ret_bool (by simp [isSg, h0]), rfl⟩
  · go_enter Try.func74, Try.ntmps74
    go_wp2
    go_ret
    exact ⟨ret_bool (by simp [isSg]; omega), rfl⟩
theorem signOf_any (b : Nat) (hb : b < 256) (w : World) : Calls Try.prog 94 #[.int .u8 (b : Int)] w fun e w' => e = .returned (.int .i64 ((b + 1 : Nat) : Int)) ∧ w = w' := by
  have h1 : IntKind.i64.wrap ((b : Int) + 1) = (b : Int) + 1 := by rw [IntKind.wrap_i64]; omega
  have h2 : IntKind.i64.wrap (b : Int) = (b : Int) := by rw [IntKind.wrap_i64]; omega
  go_enter Try.func94, Try.ntmps94
  go_wp2
  go_ret
  exact ⟨by simp, rfl⟩
theorem byteOf_any (b : Nat) (hb : b < 256) (w : World) : Calls Try.prog 70 #[.int .i64 ((b + 1 : Nat) : Int)] w fun e w' => e = .returned (.int .u8 (b : Int)) ∧ w = w' := by
  obtain ⟨z, hz⟩ : ∃ z : Int, z = ((b + 1 : Nat) : Int) := ⟨_, rfl⟩
  rw [← hz]
  have h1 : IntKind.i64.wrap (z - 1) = (b : Int) := by rw [IntKind.wrap_i64]; omega
  have h2 : IntKind.u8.wrap (b : Int) = (b : Int) := by rw [IntKind.wrap_u8]; omega
  have h3 : z - 1 = (b : Int) := by omega
  go_enter Try.func70, Try.ntmps70
  go_wp2
  go_ret
  exact ⟨rfl, rfl⟩
theorem codeInfo : (Try.prog.info? 107).map (fun i => i.size) = some 259 := by kernel_rfl
theorem answered_yes {g : Nat} {w : World} (h : w.cell? ⟨g, 1, none⟩ = some (.pointer (some ⟨g, 0, none⟩))) :
    Calls Try.prog 68 #[.pointer (some ⟨g, 0, none⟩)] w fun e' w' => e' = .returned (.bool true) ∧ w = w' := by
  obtain ⟨j, hj, _⟩ := Option.map_eq_some_iff.1 codeInfo
  have heq := run_eql_ptr_same (P := Try.prog) w (tp := 31) (te := 107) (j := j) ⟨g, 0, none⟩ Try.underlying31 hj
  clear hj
  go_enter Try.func68, Try.ntmps68
  go_wp2
  go_ret
  exact ⟨rfl, rfl⟩
theorem answered_nil {w : World} :
    Calls Try.prog 68 #[.pointer none] w fun e' w' => e' = .returned (.bool false) ∧ w = w' := by
  go_enter Try.func68, Try.ntmps68
  go_wp2
  go_ret
  exact ⟨rfl, rfl⟩
theorem has_any {g s n c : Nat} {A : Option Addr} {w : World} (hs : s < 257) (h : w.cell? ⟨g, 2 + s, none⟩ = some (.slice A n c)) :
    Calls Try.prog 73 #[.pointer (some ⟨g, 0, none⟩), .int .i64 (s : Int)] w fun e' w' => e' = .returned (.bool (decide (0 < n))) ∧ w = w' := by
  have h1 : (s : Int) < 257 := by omega
  go_enter Try.func73, Try.ntmps73
  go_wp2
  go_ret
  exact ⟨ret_bool (by simp), rfl⟩
/-- The last nought of a word. -/
theorem lastNought_any {A : Option Addr} {c m j : Nat} {u : List Bool} {w : World} (hu : RdB w A u) (hl : u.length = m + 1 + j) (hm : u.getD m true = false) (hj : ∀ k, m < k → k < u.length → u.getD k false = true) (hs : u.length ≤ 1000) :
    Calls Try.prog 118 #[.slice A u.length c] w fun e w' => e = .returned (.int .i64 (m : Int)) ∧ w = w' := by
  obtain ⟨b, off, rfl, hc⟩ := hu (by omega)
  have HC := hid hc
  have HM := hid hm
  have HJ := hid hj
  generalize u.length = n at *
  have hn1 : IntKind.i64.wrap ((n : Int) - 1) = (n : Int) - 1 := by rw [IntKind.wrap_i64]; omega
  clear hu hc hm hj
  go_enter Try.func118, Try.ntmps118
  go_wp2
  go_loop [3] (fun s3 => ∃ k : Nat, m ≤ k ∧ k + 1 ≤ n ∧ s3 = .int .i64 (k : Int)) (fun s3 => (intOf s3).toNat)
  case atStart => exact ⟨n - 1, by omega, by omega, by go_num⟩
  case round =>
    obtain ⟨k, hmk, hkn, rfl⟩ := hrel
    have ck := HC.out k (by omega)
    unfold vB at ck
    have hkn' : (k : Int) < (n : Int) := by omega
    by_cases hk : k = m
    · subst hk
      have e : u.getD k false = false := by
        have := HM.out
        simp only [List.getD] at this ⊢
        cases h : u[k]? with
        | none => rfl
        | some x => rw [h] at this; exact this
      rw [e] at ck
      go_wp2
      go_ret
      exact ⟨rfl, rfl⟩
    · have e := HJ.out k (by omega) (by omega)
      rw [e] at ck
      have hk1 : IntKind.i64.wrap ((k : Int) - 1) = (k : Int) - 1 := by rw [IntKind.wrap_i64]; omega
      go_wp2
      go_round
      case rel => exact ⟨k - 1, by omega, by omega, by go_num⟩
      case measure => simp [intOf]; omega
end Go.Proofs.Ytmbcinbkijnblaa
