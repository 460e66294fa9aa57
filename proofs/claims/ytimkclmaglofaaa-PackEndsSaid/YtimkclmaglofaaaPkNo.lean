/- No row: nil, or one that no call answered; the law's own 'none'. -/
import Derived.Test.YtimkclmaglofaaaPkA
import Derived.Test.YtimkclmaglofaaaPkF
import Derived.Deep.RegionHeld3
namespace Go.Proofs.Ytimkclmaglofaaa
open Go.RowKit

def NoRow (w : World) (p : Option Addr) : Prop := p = none ∨ ∃ g, p = some ⟨g, 0, none⟩ ∧ w.cell? ⟨g, 1, none⟩ = some (.pointer none)
theorem NoRow.only {S : Nat → Prop} {w w' : World} {p : Option Addr} (h : NoRow w p) (o : Only S w w') (hS : ∀ b, b < w.heap.size → ¬ S b) : NoRow w' p := by
  rcases h with h | ⟨g, h, hc⟩
  · exact .inl h
  · exact .inr ⟨g, h, by rw [o.cell (cell_lt hc) (hS _ (cell_lt hc)), hc]⟩
theorem NoRow.same {w w' : World} {p : Option Addr} (h : NoRow w p) (o : Only (fun _ => False) w w') : NoRow w' p := h.only o fun _ _ => no_
theorem eql_ptr_none (w : World) (a : Addr) : (binOp .eql 29 (.pointer none) (.pointer (some a))).run Try.prog w = .ok (.bool false) w := by
  have h : ∀ d : Nat, (Op.equalIn (d + 1) 29 (.pointer none) (.pointer (some a))).run Try.prog w = .ok false w := fun d => by
    simp [Op.equalIn, run_underlying Try.underlying29]
  simp only [binOp]
  simp [Op.equal, Op.maxDepth, h 9999]
set_option maxHeartbeats 400000 in
theorem no_answered {p : Option Addr} {w : World} (h : NoRow w p) :
    Calls Try.prog 51 #[.pointer p] w fun e w' => e = .returned (.bool false) ∧ w = w' := by
  rcases h with rfl | ⟨g, rfl, hc⟩
  · go_enter Try.func51, Try.ntmps51
    go_wp2
    go_ret
    exact ⟨rfl, rfl⟩
  · have heq := eql_ptr_none w ⟨g, 0, none⟩
    go_enter Try.func51, Try.ntmps51
    go_wp2
    go_ret
    exact ⟨rfl, rfl⟩
set_option maxHeartbeats 400000 in
theorem no_len {p : Option Addr} {w : World} (h : NoRow w p) :
    Calls Try.prog 31 #[.pointer p] w fun e w' => e = .returned (.int .i64 0) ∧ w = w' := by
  have H := hid h
  clear h
  go_enter Try.func31, Try.ntmps31
  go_wp2_with (go_at_call 51; refine (no_answered H.out).mono ?_; rintro e w' ⟨rfl, rfl⟩)
  go_ret
  exact ⟨rfl, rfl⟩
set_option maxHeartbeats 400000 in
theorem no_width {p : Option Addr} {w : World} (h : NoRow w p) :
    Calls Try.prog 32 #[.pointer p] w fun e w' => e = .returned (.int .i64 0) ∧ w = w' := by
  have H := hid h
  clear h
  go_enter Try.func32, Try.ntmps32
  go_wp2_with (go_at_call 51; refine (no_answered H.out).mono ?_; rintro e w' ⟨rfl, rfl⟩)
  go_ret
  exact ⟨rfl, rfl⟩
set_option maxHeartbeats 400000 in
theorem no_bytes {p : Option Addr} {w : World} (h : NoRow w p) :
    Calls Try.prog 30 #[.pointer p] w fun e w' => e = .returned (.slice none 0 0) ∧ w = w' := by
  have H := hid h
  clear h
  go_enter Try.func30, Try.ntmps30
  go_wp2_with (go_at_call 51; refine (no_answered H.out).mono ?_; rintro e w' ⟨rfl, rfl⟩)
  go_ret
  exact ⟨rfl, rfl⟩
set_option maxHeartbeats 400000 in
theorem no_all {p : Option Addr} {w : World} (h : NoRow w p) :
    Calls Try.prog 36 #[.pointer p] w fun e w' => e = .returned (.slice none 0 0) ∧ w = w' := by
  have H := hid h
  clear h
  go_enter Try.func36, Try.ntmps36
  go_wp2_with (go_at_call 51; refine (no_answered H.out).mono ?_; rintro e w' ⟨rfl, rfl⟩)
  go_ret
  exact ⟨rfl, rfl⟩
set_option maxHeartbeats 400000 in
theorem no_at {p : Option Addr} {w : World} (h : NoRow w p) (i : Int) :
    Calls Try.prog 34 #[.pointer p, .int .i64 i] w fun e w' => e = .returned (.tuple #[.int .i64 0, .bool false]) ∧ w = w' := by
  have H := hid h
  clear h
  go_enter Try.func34, Try.ntmps34
  go_wp2_with (go_at_call 51; refine (no_answered H.out).mono ?_; rintro e w' ⟨rfl, rfl⟩)
  go_ret2
  exact ⟨rfl, rfl⟩
set_option maxHeartbeats 400000 in
theorem no_find {p : Option Addr} {w : World} (h : NoRow w p) (i : Int) :
    Calls Try.prog 25 #[.pointer p, .int .i64 i] w fun e w' => e = .returned (.tuple #[.int .i64 0, .bool false]) ∧ Hid (Only (fun _ => False) w w') := by
  have H := hid (h.only (((Only.refl (fun _ => False) w).alloc (.cells #[.pointer p] 29)).alloc (.cells #[.int .i64 i] 3)) (fun _ _ => no_))
  clear h
  go_enter Try.func25, Try.ntmps25
  go_wp2_with (go_at_call 51; refine (no_answered H.out).mono ?_; rintro e w' ⟨rfl, rfl⟩)
  go_ret2
  exact ⟨rfl, hid (((Only.refl _ w).alloc _).alloc _)⟩

def NoneS (w wr : World) (b : Nat) : Prop := Only (fun _ => False) w wr ∧ ∀ k, k < 2 → ∃ p, wr.cell? ⟨b, k, none⟩ = some (.pointer p) ∧ NoRow wr p
theorem NoneS.same {w wr w' : World} {b : Nat} (h : NoneS w wr b) (o : Only (fun _ => False) wr w') : NoneS w w' b :=
  ⟨h.1.trans o, fun k hk => by
    obtain ⟨p, h1, h2⟩ := h.2 k hk
    exact ⟨p, by rw [o.cell (cell_lt h1) no_, h1], h2.only o fun _ _ => no_⟩⟩

set_option maxHeartbeats 2000000 in
theorem none_any (w : World) : Calls Try.prog 28 #[] w fun e w' => e = .returned (.bool true) ∧ Hid (Below w.heap.size w w') := by
  go_enter Try.func28, Try.ntmps28
  go_wp2
  go_loopw [2] (fun s wr => ∃ k : Nat, k ≤ 2 ∧ s = .int .i64 k ∧ Hid (NoneS w wr (w.heap.size + 1))) (fun s _ => 2 - (intOf s).toNat)
  case atStart =>
    refine ⟨0, by omega, rfl, hid ?_⟩
    have h0 := World.rowIs_alloc w #[.slice none 0 0, .pointer none, .int .i64 0, .int .i64 0] 67 (fun i => #[Value.slice none 0 0, .pointer none, .int .i64 0, .int .i64 0].getD i undef) (fun i hi => by
      match i, hi with
      | 0, _ => rfl
      | 1, _ => rfl
      | 2, _ => rfl
      | 3, _ => rfl
      | i + 4, hi => exact absurd (show i + 4 < 4 from hi) (by omega))
    have h1 := World.rowIs_alloc (w.alloc (.cells #[.slice none 0 0, .pointer none, .int .i64 0, .int .i64 0] 67)) #[.pointer none, .pointer (some ⟨w.heap.size, 0, none⟩)] 29 (fun i => #[Value.pointer none, .pointer (some ⟨w.heap.size, 0, none⟩)].getD i undef) (fun i hi => by
      match i, hi with
      | 0, _ => rfl
      | 1, _ => rfl
      | i + 2, hi => exact absurd (show i + 2 < 2 from hi) (by omega))
    have hs : (w.alloc (.cells #[.slice none 0 0, .pointer none, .int .i64 0, .int .i64 0] 67)).heap.size = w.heap.size + 1 := by simp
    rw [hs] at h1
    refine ⟨((Only.refl _ w).alloc _).alloc _, fun k hk => ?_⟩
    have hc := h1.cell (i := k) (by simpa using hk)
    match k, hk with
    | 0, _ => exact ⟨none, hc, .inl rfl⟩
    | 1, _ => exact ⟨some ⟨w.heap.size, 0, none⟩, hc, .inr ⟨w.heap.size, rfl, (h0.alloc _).cell (i := 1) (by simp)⟩⟩
    | k + 2, hk => exact absurd hk (by omega)
  case round =>
    obtain ⟨k, hk, rfl, HK⟩ := hrel
    by_cases hp : k < 2
    · obtain ⟨p, hc, hn⟩ := HK.out.2 k hp
      have HN := hid hn
      have Hc := hid hc
      clear hn
      have hk2 : (k : Int) < 2 := by omega
      go_wp2_with fail
      refine (no_at HN.out 0).mono ?_
      rintro e w' ⟨rfl, rfl⟩
      go_wp2_with fail
      refine (no_find HN.out 0).mono ?_
      rintro e wa ⟨rfl, HO⟩
      have ca : wa.cell? ⟨w.heap.size + 1, k, none⟩ = some (.pointer p) := (HO.out.cell (cell_lt Hc.out) no_).trans Hc.out
      have HNa := hid (HN.out.same HO.out)
      have HKa := hid (HK.out.same HO.out)
      clear HK HN Hc hc HO
      go_wp2_with fail
      go_region_held3 (fun w' => w'.cell? ⟨w.heap.size + 1, k, none⟩ = some (.pointer p) ∧ Hid (NoRow w' p) ∧ Hid (NoneS w w' (w.heap.size + 1)))
        (first | assumption | exact ⟨ca, HNa, HKa⟩ | exact ⟨ca, hid (HNa.out.same (Only.refl _ wa).drew), hid (HKa.out.same (Only.refl _ wa).drew)⟩)
        (first
          | (go_at_call 31; refine (no_len (hid (HNa.out.same (Only.refl _ wa).drew)).out).mono ?_; rintro e w' ⟨rfl, rfl⟩)
          | (go_at_call 32; refine (no_width (hid (HNa.out.same (Only.refl _ wa).drew)).out).mono ?_; rintro e w' ⟨rfl, rfl⟩)
          | (go_at_call 36; refine (no_all (hid (HNa.out.same (Only.refl _ wa).drew)).out).mono ?_; rintro e w' ⟨rfl, rfl⟩)
          | (go_at_call 30; refine (no_bytes (hid (HNa.out.same (Only.refl _ wa).drew)).out).mono ?_; rintro e w' ⟨rfl, rfl⟩))
      have HE := hid (HKa.out.same (Only.refl _ wa).drew)
      clear HKa HNa ca
      go_wp2
      go_roundw
      case rel => exact ⟨k + 1, by omega, by go_num, HE⟩
      case measure => simp [intOf]; omega
    · obtain rfl : k = 2 := by omega
      have HB : Hid (Below w.heap.size w wr) := hid (HK.out.1.to_below (fun _ h => h.elim) (Nat.le_refl _))
      clear HK
      go_wp2
      go_ret
      exact ⟨rfl, HB⟩
end Go.Proofs.Ytimkclmaglofaaa
