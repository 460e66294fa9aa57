/- Lists lent, by the laws' kit. -/
import Derived.Test.YtgdfiopdkidhfaaKitL
namespace Go.Proofs.Ytgdfiopdkidhfaa.V1
open Go.RowKit
open Fen

set_option maxHeartbeats 1000000 in
theorem lentInts_any (A : Option Addr) (cap n : Nat) (vs : List Value) (w : World) (hv : RdV w A vs) (h1 : ∀ u ∈ vs, u.oneCell' = true) (hL : vs.length = n) (hA : A = none → n = 0 ∧ cap = 0) (hn : n ≤ 3000000) :
    Calls Try.prog 7 #[.slice A n cap] w fun e w' => e = .returned (.slice (some ⟨w.heap.size, 0, none⟩) n (n + 12)) ∧ Hid (LentR w w' 3 vs marksI) := by
  obtain ⟨i0, hi0, hz0, hz1, hz2⟩ := info_parts intInfo
  have hmk := fun W => run_make (P := Try.prog) W 32 3 i0 (.int .i64 0) Try.underlying32 hi0 hz0 .i64 .i64 0 ((n : Int) + 12) (by omega) (by omega) (by rw [hz2]; omega) (by omega)
  have e12 : ((n : Int) + 12).toNat = n + 12 := by omega
  rw [e12, hz1] at hmk
  clear e12
  have H1 := hid h1
  have HA := hid hA
  have HL := hid hL
  have HR := hid hv
  have HO : Hid ((w.alloc (.cells (madeCells #[(.int .i64 0)] (n + 12)) 3)).ownsRow 0 3 1 (.slice (some ⟨w.heap.size, 0, none⟩) 0 (n + 12)) 0 []) := hid (own_alloc0 w 3 (.int .i64 0) (n + 12) (by unfold maxLen; omega))
  have Hi0 := hid (And.intro hi0 (And.intro hz0 (And.intro hz1 hz2)))
  clear hv h1 hA hL hi0 hz0 hz1 hz2
  go_enter Try.func7, Try.ntmps7
  go_wp2_with (at_builtin; refine wpList_append_fits_any _ rfl (.tmp 9) (.tmp 10) _ rfl 0 3 i0 1 Try.underlying32 Hi0.out.1 Hi0.out.2.2.1 w.heap.size 0 (n + 12) [] rfl HO.out A n cap vs rfl (by rw [HL.out]; omega) HA.out ((HR.out.only ((Only.refl (fun _ => False) w).alloc _) (fun _ _ _ _ => no_)).news) H1.out (by omega) ?_; intro w1 hown1 hg1)
  have HS : Hid (LentS w w1 3 vs marksI 0) := hid ⟨by have h := hown1; rw [HL.out]; simpa using h, (((Only.refl (fun _ => False) w).alloc _).grown hg1 (fun k e => .inr (by injection e with e; omega)))⟩
  clear hown1 hg1 HO hmk
  go_loopw [3, 4] (fun s i wr => ∃ k : Nat, k ≤ 12 ∧ i = .int .i64 k ∧ s = .slice (some ⟨w.heap.size, 0, none⟩) (n + k) (n + 12) ∧ Hid (LentS w wr 3 vs marksI k)) (fun _ i _ => 12 - (intOf i).toNat)
  case atStart => exact ⟨0, by omega, rfl, by simp, HS⟩
  case round =>
    obtain ⟨k, hk, rfl, rfl, HK⟩ := hrel
    clear HS
    by_cases hp : k < 12
    · have hown : wr.ownsRow 0 3 1 (.slice (some ⟨w.heap.size, 0, none⟩) (n + k) (n + 12)) (n + k) (vs ++ marksI.take k) := by have h := HK.out.1; rw [HL.out] at h; exact h
      have Hown := hid hown
      clear hown
      go_wp2_with (first | (go_at_call 30; refine (mark_any 1 k _ (by omega) (by omega)).mono ?_; rintro e w2 ⟨rfl, rfl⟩) | (at_builtin; refine wpList_append_fits_any _ rfl (.tmp 16) (.tmp 19) _ rfl 0 3 i0 1 Try.underlying32 Hi0.out.1 Hi0.out.2.2.1 w.heap.size (n + k) (n + 12) _ rfl (Hown.out.alloc _) (some ⟨wr.heap.size, 0, none⟩) 1 1 [.int .i64 ((mk_ 1 k : Nat) : Int)] rfl rfl (by intro h; cases h) (fun ad had => by injection had with had; subst had; exact cell_one_new _ _ _) (by intro u hu; simp at hu; subst hu; rfl) (by omega) ?_; intro w2 hown2 hg2))
      have HN := hid (HK.out.step HL.out (marksI_get hp) hown2 hg2)
      clear hown2 hg2 Hown HK
      go_roundw
      case rel => exact ⟨k + 1, by omega, by go_num, rfl, HN⟩
      case measure => simp [intOf]; omega
    · obtain rfl : k = 12 := by omega
      have HD : Hid (LentR w wr 3 vs marksI) := hid (HK.out.done rfl)
      clear HK
      go_wp2_with fail
      go_ret
      exact ⟨rfl, HD⟩

end Go.Proofs.Ytgdfiopdkidhfaa.V1
