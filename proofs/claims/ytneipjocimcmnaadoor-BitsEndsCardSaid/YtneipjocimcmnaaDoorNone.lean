/- The law's own 'none'. -/
import Derived.Test.YtneipjocimcmnaaDoorNil
import Derived.Deep.RegionHeld3
namespace Go.Proofs.YtneipjocimcmnaaDoor
open Go.RowKit
open Fen

def NoneS (w wr : World) (b : Nat) : Prop := Only (fun _ => False) w wr ∧ ∀ k, k < 2 → ∃ p, wr.cell? ⟨b, k, none⟩ = some (.pointer p) ∧ NoVec wr p
theorem NoneS.same {w wr w' : World} {b : Nat} (h : NoneS w wr b) (o : Only (fun _ => False) wr w') : NoneS w w' b :=
  ⟨h.1.trans o, fun k hk => by
    obtain ⟨p, h1, h2⟩ := h.2 k hk
    exact ⟨p, by rw [o.cell (cell_lt h1) no_, h1], h2.only o fun _ _ => no_⟩⟩
theorem NoVec.same {w w' : World} {p : Option Addr} (h : NoVec w p) (o : Only (fun _ => False) w w') : NoVec w' p := h.only o fun _ _ => no_

set_option maxHeartbeats 2000000 in
theorem none_any (w : World) : Calls Tryd.prog 27 #[] w fun e w' => e = .returned (.bool true) ∧ Hid (Below w.heap.size w w') := by
  go_enter Tryd.func27, Tryd.ntmps27
  go_wp2
  go_loopw [2] (fun s wr => ∃ k : Nat, k ≤ 2 ∧ s = .int .i64 k ∧ Hid (NoneS w wr (w.heap.size + 1))) (fun s _ => 2 - (intOf s).toNat)
  case atStart => 
    refine ⟨0, by omega, rfl, hid ?_⟩
    have h0 := World.rowIs_alloc w #[.slice none 0 0, .int .i64 0, .pointer none, .slice none 0 0, .int .i64 0] 68 (fun i => #[Value.slice none 0 0, .int .i64 0, .pointer none, .slice none 0 0, .int .i64 0].getD i undef) (fun i hi => by
      match i, hi with
      | 0, _ => rfl
      | 1, _ => rfl
      | 2, _ => rfl
      | 3, _ => rfl
      | 4, _ => rfl
      | i + 5, hi => exact absurd (show i + 5 < 5 from hi) (by omega))
    have h1 := World.rowIs_alloc (w.alloc (.cells #[.slice none 0 0, .int .i64 0, .pointer none, .slice none 0 0, .int .i64 0] 68)) #[.pointer none, .pointer (some ⟨w.heap.size, 0, none⟩)] 26 (fun i => #[Value.pointer none, .pointer (some ⟨w.heap.size, 0, none⟩)].getD i undef) (fun i hi => by
      match i, hi with
      | 0, _ => rfl
      | 1, _ => rfl
      | i + 2, hi => exact absurd (show i + 2 < 2 from hi) (by omega))
    have hs : (w.alloc (.cells #[.slice none 0 0, .int .i64 0, .pointer none, .slice none 0 0, .int .i64 0] 68)).heap.size = w.heap.size + 1 := by simp
    rw [hs] at h1
    refine ⟨((Only.refl _ w).alloc _).alloc _, fun k hk => ?_⟩
    have hc := h1.cell (i := k) (by simpa using hk)
    match k, hk with
    | 0, _ => exact ⟨none, hc, .inl rfl⟩
    | 1, _ => exact ⟨some ⟨w.heap.size, 0, none⟩, hc, .inr ⟨w.heap.size, rfl, (h0.alloc _).cell (i := 2) (by simp)⟩⟩
    | k + 2, hk => exact absurd hk (by omega)
  case round =>
    obtain ⟨k, hk, rfl, HK⟩ := hrel
    by_cases hp : k < 2
    · obtain ⟨p, hc, hn⟩ := HK.out.2 k hp
      have HN := hid hn
      have HO : Hid (Only (fun _ => False) wr wr) := hid (Only.refl _ _)
      have Hc := hid hc
      clear hn
      have hk2 : (k : Int) < 2 := by omega
      go_wp2_with (go_at_call 30; refine (no_select HN.out 0).mono ?_; rintro e w' ⟨rfl, rfl⟩)
      go_region_held3 (fun w' => w'.cell? ⟨w.heap.size + 1, k, none⟩ = some (.pointer p) ∧ Hid (Only (fun _ => False) wr w'))
        (first | assumption | exact ⟨(HO.out.cell (cell_lt Hc.out) no_).trans Hc.out, HO⟩ | exact ⟨((HO.out.drew).cell (cell_lt Hc.out) no_).trans Hc.out, hid HO.out.drew⟩)
        (first
          | (go_at_call 14; refine (no_set (HN.out.same (Only.refl (fun _ => False) wr).drew) true _).mono ?_; rintro e wa ⟨rfl, HO1⟩; have HO := hid (((Only.refl (fun _ => False) wr).drew).trans HO1.out))
          | (go_at_call 29; refine (no_get (HN.out.same HO.out) 0).mono ?_; rintro e w' ⟨rfl, rfl⟩)
          | (go_at_call 19; refine (no_len (HN.out.same HO.out)).mono ?_; rintro e w' ⟨rfl, rfl⟩)
          | (go_at_call 28; refine (no_ones (HN.out.same HO.out)).mono ?_; rintro e w' ⟨rfl, rfl⟩)
          | (go_at_call 26; refine (no_rank (HN.out.same HO.out) 9).mono ?_; rintro e w' ⟨rfl, rfl⟩)
          | (go_at_call 17; refine (no_bytes (HN.out.same HO.out)).mono ?_; rintro e w' ⟨rfl, rfl⟩))
      have HE := hid (HK.out.same HO.out)
      clear HK HN Hc hc
      go_wp2
      go_roundw
      case rel => exact ⟨k + 1, by omega, by go_num, HE⟩
      case measure => simp [intOf]; omega
    · obtain rfl : k = 2 := by omega
      have HB : Hid (Below w.heap.size w wr) := hid (HK.out.1.to_below (fun _ h => h.elim) (Nat.le_refl _))
      clear HK
      go_wp2
      go_ret
      exact ⟨rfl, HB⟩
end Go.Proofs.YtneipjocimcmnaaDoor
