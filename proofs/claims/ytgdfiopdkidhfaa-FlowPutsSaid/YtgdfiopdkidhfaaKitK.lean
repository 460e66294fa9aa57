/- Lists kept, by the laws' kit. -/
import Derived.Test.YtgdfiopdkidhfaaKitLI
namespace Go.Proofs.Ytgdfiopdkidhfaa.V1
open Go.RowKit
open Fen

set_option maxHeartbeats 1000000 in
theorem keptInts_any (A : Option Addr) (cap g n : Nat) (xs : List Int) (w : World) (hn : n ≤ 3000000) (hL : xs.length = n) (hl : RdI w A xs) (hg : w.rowIs g 3 (n + 12) (fun j => (intsV xs ++ marksI).getD j undef)) :
    Calls Try.prog 16 #[.slice (some ⟨g, 0, none⟩) n (n + 12), .slice A n cap] w fun e w' => e = .returned (.bool true) ∧ ∃ k, w' = w.drewN k := by
  have HL := hid hL
  have HR := hid hl
  have HG := hid hg
  clear hL hl hg
  go_enter Try.func16, Try.ntmps16
  go_wp2_with fail
  go_loopw [6] (fun s wr => ∃ k : Nat, k ≤ n + 12 ∧ s = .int .i64 k ∧ Hid (∃ d, wr = w.drewN d)) (fun s _ => n + 12 - (intOf s).toNat)
  case atStart => exact ⟨0, by omega, rfl, hid ⟨0, rfl⟩⟩
  case round =>
    obtain ⟨k, hk, rfl, HW⟩ := hrel
    by_cases hp : k < n + 12
    · have dg := ((quiet_only HW.out).row HG.out no_).cell hp
      by_cases hq : k < n
      · obtain ⟨b, off, hA, hcw⟩ := (HR.out.only (quiet_only HW.out) (fun _ _ _ => no_)) k (by rw [HL.out]; exact hq)
        have dl := hcw k (by rw [HL.out]; exact hq)
        clear hcw
        subst hA
        have hx : (intsV xs ++ marksI).getD k undef = Value.int .i64 (xs.getD k 0) := by
          have hlt : k < xs.length := by rw [HL.out]; exact hq
          have h1 : k < (intsV xs).length := by simpa [intsV] using hlt
          simp only [List.getD, List.getElem?_append_left h1]
          simp [intsV, hlt]
        simp only [hx] at dg
        clear hx
        generalize xs.getD k 0 = z at dg dl
        have hq1 : (k : Int) < (n : Int) := by omega
        have hq2 : decide (n ≤ k) = false := by rw [decide_eq_false_iff_not]; omega
        go_wp2
        go_quiet (fail)
        go_wp2
        go_roundw
        case rel => exact ⟨k + 1, by omega, by go_num, hid (quiet_step HW.out _)⟩
        case measure => simp [intOf]; omega
      · have hx : (intsV xs ++ marksI).getD k undef = Value.int .i64 ((mk_ 1 (k - n) : Nat) : Int) := by
          have h1 : (intsV xs).length ≤ k := by simp [intsV]; rw [HL.out]; omega
          simp only [List.getD, List.getElem?_append_right h1]
          have h2 : (intsV xs).length = n := by simp [intsV]; exact HL.out
          rw [h2, marksI_get (by omega)]; rfl
        simp only [hx] at dg
        clear hx
        have HM := hid (fun W => mark_any 1 (k - n) W (by omega) (by omega))
        generalize mk_ 1 (k - n) = z at dg HM
        have hq1 : decide (k < n) = false := by rw [decide_eq_false_iff_not]; omega
        have hq2 : n ≤ k := by omega
        have hq3 : decide (n ≤ k) = true := by rw [decide_eq_true_eq]; omega
        have hkn : (k : Int) - (n : Int) = ((k - n : Nat) : Int) := by omega
        have hkw : IntKind.i64.wrap ((k : Int) - (n : Int)) = ((k - n : Nat) : Int) := by rw [IntKind.wrap_i64]; omega
        clear hq
        go_wp2
        go_quiet ((go_at_call 30; exact quiet_left (HM.out _)))
        go_wp2
        go_roundw
        case rel => exact ⟨k + 1, by omega, by go_num, hid (quiet_step HW.out _)⟩
        case measure => simp [intOf]; omega
    · obtain rfl : k = n + 12 := by omega
      go_wp2
      go_ret
      exact ⟨rfl, HW.out⟩

end Go.Proofs.Ytgdfiopdkidhfaa.V1
