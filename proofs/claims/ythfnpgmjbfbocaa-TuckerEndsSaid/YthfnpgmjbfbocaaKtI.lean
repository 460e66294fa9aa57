/- Lists lent, kept, written over, by the laws' kit: Ints. -/
import Derived.Test.YthfnpgmjbfbocaaKtL
namespace Go.Proofs.Ythfnpgmjbfbocaa
open Go.RowKit

theorem intInfoK : (Try.prog.info? 3).map (fun i => (i.zero, i.size, i.bytes)) = some (some (.int .i64 0), 1, 8) := by kernel_rfl

set_option maxHeartbeats 1000000 in
theorem lentInts_any {A : Option Addr} {cap n : Nat} {V : Nat → Value} {w : World} (hv : RdV w A n V) (h1 : ∀ j, (V j).oneCell' = true) (hA : A = none → n = 0 ∧ cap = 0) (hn : n ≤ 3000000) :
    Calls Try.prog 13 #[.slice A n cap] w (LentE w 3 n V mI) := by
  obtain ⟨i0, hi0, hz0, hz1, hz2⟩ := info_parts intInfoK
  have hmk := fun W => run_make (P := Try.prog) W 22 3 i0 (.int .i64 0) Try.underlying22 hi0 hz0 .i64 .i64 0 ((n : Int) + 12) (by omega) (by omega) (by rw [hz2]; omega) (by omega)
  have e12 : ((n : Int) + 12).toNat = n + 12 := by omega
  rw [e12, hz1] at hmk
  clear e12
  have HA := hid hA
  have HR := hid hv
  have HO : Hid ((w.alloc (.cells (madeCells #[(.int .i64 0)] (n + 12)) 3)).ownsRow 0 3 1 (.slice (some ⟨w.heap.size, 0, none⟩) 0 (n + 12)) 0 []) := hid (own_alloc0 w 3 (.int .i64 0) (n + 12) (by unfold maxLen; omega))
  have Hi0 := hid (And.intro hi0 (And.intro hz0 (And.intro hz1 hz2)))
  have H1 := hid (valsL_one h1 n)
  clear hv hA hi0 hz0 hz1 hz2 h1
  go_enter Try.func13, Try.ntmps13
  go_wp2_with (at_builtin; refine wpList_append_fits_any _ rfl (.tmp 9) (.tmp 10) _ rfl 0 3 i0 1 Try.underlying22 Hi0.out.1 Hi0.out.2.2.1 w.heap.size 0 (n + 12) [] rfl HO.out A n cap (valsL V n) rfl (by rw [valsL_len]; omega) HA.out ((HR.out.only ((Only.refl (fun _ => False) w).alloc _) (fun _ _ _ => no_)).news) H1.out (by omega) ?_; intro w1 hown1 hg1)
  have HS : Hid (LentS w w1 3 n V mI 0) := hid ⟨by have e : valsL mI 0 = [] := rfl; rw [e]; simpa using hown1, (((Only.refl (fun _ => False) w).alloc _).grown hg1 (fun k e => .inr (by injection e with e; omega)))⟩
  clear hown1 hg1 HO hmk
  go_loopw [3, 4] (fun s i wr => ∃ k : Nat, k ≤ 12 ∧ i = .int .i64 k ∧ s = .slice (some ⟨w.heap.size, 0, none⟩) (n + k) (n + 12) ∧ Hid (LentS w wr 3 n V mI k)) (fun _ i _ => 12 - (intOf i).toNat)
  case atStart => exact ⟨0, by omega, rfl, by simp, HS⟩
  case round =>
    obtain ⟨k, hk, rfl, rfl, HK⟩ := hrel
    clear HS
    by_cases hp : k < 12
    · have Hown := hid HK.out.1
      go_wp2_with (first | (go_at_call 49; refine (mark_any 1 k _ (by omega) (by omega)).mono ?_; rintro e w2 ⟨rfl, rfl⟩) | (at_builtin; refine wpList_append_fits_any _ rfl (.tmp 16) (.tmp 19) _ rfl 0 3 i0 1 Try.underlying22 Hi0.out.1 Hi0.out.2.2.1 w.heap.size (n + k) (n + 12) _ rfl (Hown.out.alloc _) (some ⟨wr.heap.size, 0, none⟩) 1 1 [Value.int .i64 ((mk_ 1 k : Nat) : Int)] rfl rfl (by intro h; cases h) (fun ad had => by injection had with had; subst had; exact cell_one_new _ _ _) (by intro u hu; simp at hu; subst hu; rfl) (by omega) ?_; intro w2 hown2 hg2))
      have HN := hid (HK.out.step hown2 hg2)
      clear hown2 hg2 Hown HK
      go_roundw
      case rel => exact ⟨k + 1, by omega, by go_num, rfl, HN⟩
      case measure => simp [intOf]; omega
    · obtain rfl : k = 12 := by omega
      have HD := hid HK.out.done
      clear HK
      go_wp2_with fail
      go_ret
      exact ⟨w.heap.size, rfl, HD.out⟩

set_option maxHeartbeats 1000000 in
theorem keptInts_any {A : Option Addr} {cap g n : Nat} {x : Nat → Int} {w : World} (hn : n ≤ 3000000) (hl : RdV w A n fun j => .int .i64 (x j)) (hg : w.rowIs g 3 (n + 12) (lentV n (fun j => .int .i64 (x j)) mI)) :
    Calls Try.prog 16 #[.slice (some ⟨g, 0, none⟩) n (n + 12), .slice A n cap] w fun e w' => e = .returned (.bool true) ∧ ∃ k, w' = w.drewN k := by
  have HR := hid hl
  have HG := hid hg
  clear hl hg
  go_enter Try.func16, Try.ntmps16
  go_wp2_with fail
  go_loopw [6] (fun s wr => ∃ k : Nat, k ≤ n + 12 ∧ s = .int .i64 k ∧ Hid (∃ d, wr = w.drewN d)) (fun s _ => n + 12 - (intOf s).toNat)
  case atStart => exact ⟨0, by omega, rfl, hid ⟨0, rfl⟩⟩
  case round =>
    obtain ⟨k, hk, rfl, HW⟩ := hrel
    by_cases hp : k < n + 12
    · have dg := ((quiet_only HW.out).row HG.out no_).cell hp
      by_cases hq : k < n
      · obtain ⟨b, off, hA, dl, _⟩ := (HR.out.only (quiet_only HW.out) (fun _ _ _ => no_)).at hq
        subst hA
        rw [lentV, if_pos hq] at dg
        generalize x k = z at dg dl
        have hq1 : (k : Int) < (n : Int) := by omega
        have hq2 : decide (n ≤ k) = false := by rw [decide_eq_false_iff_not]; omega
        go_wp2
        go_quiet (fail)
        go_wp2
        go_roundw
        case rel => exact ⟨k + 1, by omega, by go_num, hid (quiet_step HW.out _)⟩
        case measure => simp [intOf]; omega
      · rw [lentV, if_neg hq] at dg
        unfold mI at dg
        have HM := hid (fun W => mark_any 1 (k - n) W (by omega) (by omega))
        generalize mk_ 1 (k - n) = z at dg HM
        have hq1 : decide (k < n) = false := by rw [decide_eq_false_iff_not]; omega
        have hq2 : n ≤ k := by omega
        have hq3 : decide (n ≤ k) = true := by rw [decide_eq_true_eq]; omega
        have hkn : (k : Int) - (n : Int) = ((k - n : Nat) : Int) := by omega
        have hkw : IntKind.i64.wrap ((k : Int) - (n : Int)) = ((k - n : Nat) : Int) := by rw [IntKind.wrap_i64]; omega
        clear hq
        go_wp2
        go_quiet ((go_at_call 49; exact quiet_left (HM.out _)))
        go_wp2
        go_roundw
        case rel => exact ⟨k + 1, by omega, by go_num, hid (quiet_step HW.out _)⟩
        case measure => simp [intOf]; omega
    · obtain rfl : k = n + 12 := by omega
      go_wp2
      go_ret
      exact ⟨rfl, HW.out⟩

set_option maxHeartbeats 1000000 in
theorem overInts_any {g n : Nat} {w : World} (hr : AnyRow w 3 g (n + 12)) (hn : n ≤ 3000000) :
    Calls Try.prog 17 #[.slice (some ⟨g, 0, none⟩) n (n + 12)] w fun e w' => e = .returned (.tuple #[]) ∧ Hid (OverS w w' 3 g (n + 12)) := by
  have HS : Hid (OverS w w 3 g (n + 12)) := hid ⟨hr, Only.refl _ w⟩
  clear hr
  go_enter Try.func17, Try.ntmps17
  go_wp2
  go_loopw [3] (fun s wr => ∃ k : Nat, k ≤ n + 12 ∧ s = .int .i64 k ∧ Hid (OverS w wr 3 g (n + 12))) (fun s _ => n + 12 - (intOf s).toNat)
  case atStart => exact ⟨0, by omega, rfl, HS⟩
  case round =>
    obtain ⟨k, hk, rfl, HR⟩ := hrel
    clear HS
    by_cases hp : k < n + 12
    · obtain ⟨F, hF⟩ := HR.out.1
      have ck := hF.cell (i := k) (by omega)
      have fz := hF.frozen k
      have hlt := hF.lt
      have HN : Hid (∀ x : Value, OverS w (wr.setCell ⟨g, k, none⟩ x) 3 g (n + 12)) := hid fun x => ⟨⟨_, hF.set k _⟩, HR.out.2.setCell (.inl rfl) _⟩
      clear HR hF
      go_wp2_with (go_at_call 49; refine (mark_any 2 k _ (by omega) (by omega)).mono ?_; rintro e w2 ⟨rfl, rfl⟩)
      go_roundw
      case rel => exact ⟨k + 1, by omega, by go_num, HN.out _⟩
      case measure => simp [intOf]; omega
    · obtain rfl : k = n + 12 := by omega
      go_wp2_with fail
      go_end0
      exact ⟨rfl, HR⟩
end Go.Proofs.Ythfnpgmjbfbocaa
