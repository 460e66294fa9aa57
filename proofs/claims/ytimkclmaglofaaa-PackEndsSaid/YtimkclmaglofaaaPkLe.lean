/- PackLeast. -/
import Derived.Test.YtimkclmaglofaaaPkA
namespace Go.Proofs.Ytimkclmaglofaaa
open Go.RowKit
open Bit

/-- The greatest width of the first k numbers alone. -/
def gr (zs : List Int) (k : Nat) : Nat := if k = 0 then 0 else wid (zs.take k)
theorem gr_step {zs : List Int} {k : Nat} (hk : k < zs.length) : max (gr zs k) (wid [zs.getD k 0]) = gr zs (k + 1) := by
  have hp := len1_pos (zs.getD k 0).toNat
  have e : wid [zs.getD k 0] = len1 (zs.getD k 0).toNat := by
    have : wid [zs.getD k 0] = max 1 (len1 (zs.getD k 0).toNat) := rfl
    omega
  have e2 : gr zs (k + 1) = max (wid (zs.take k)) (len1 (zs.getD k 0).toNat) := by
    unfold gr
    rw [if_neg (by omega), take_getD hk, wid_snoc]
  rw [e, e2]
  by_cases h : k = 0
  · subst h
    have e3 : wid (zs.take 0) = 1 := rfl
    have e4 : gr zs 0 = 0 := rfl
    omega
  · have e3 : gr zs k = wid (zs.take k) := by unfold gr; rw [if_neg h]
    rw [e3]
theorem wid_one_le {zs : List Int} {k : Nat} (hk : k < zs.length) (hg : allGood 60 zs = true) : wid [zs.getD k 0] ≤ wid zs ∧ allGood 60 [zs.getD k 0] = true := by
  have h1 := allGood_iff.1 hg
  have h2 := wid_good (by omega) h1 _ (getD_mem hk)
  have h3 := wid_le (k := 60) (by omega) (by omega) h1
  refine ⟨wid_le (wid_pos zs) (by omega) (by simpa using h2), ?_⟩
  unfold allGood
  simpa using h1 _ (getD_mem hk)
theorem gr_bound {zs : List Int} {k : Nat} (hg : allGood 60 zs = true) : gr zs k ≤ 60 := by
  unfold gr
  split
  · omega
  · exact wid_le (by omega) (by omega) fun z hz => allGood_iff.1 hg z (List.mem_of_mem_take hz)
theorem rd_one (w : World) (z : Int) (t : TypeId) : RdI (w.alloc (Obj.cells #[.int .i64 z] t)) (some ⟨w.heap.size, 0, none⟩) [z] :=
  RdV.of_row (World.rowIs_alloc w #[.int .i64 z] t (vI [z]) (fun i hi => by
    match i, hi with
    | 0, _ => rfl
    | i + 1, hi => exact absurd (show i + 1 < 1 from hi) (by omega)))

def Yes (W : World) (e : Ending) (w' : World) : Prop := e = .returned (.bool true) ∧ Hid (Below W.heap.size W w')

set_option maxRecDepth 100000 in
set_option maxHeartbeats 1000000 in
theorem packLeast_long (A : Option Addr) (L cap : Nat) (W : World) (h : 2000 < L) :
    Calls Try.prog 8 #[.slice A L cap] W (Yes W) := by
  go_enter Try.func8, Try.ntmps8
  go_wp2_with (go_at_call 9; refine (awake_any _).mono ?_; rintro e w1 ⟨rfl, HB⟩)
  go_ret
  exact ⟨rfl, HB⟩

set_option maxRecDepth 100000 in
set_option maxHeartbeats 1000000 in
theorem packLeast_bad (A : Option Addr) (cap : Nat) (zs : List Int) (W : World) (h : zs.length ≤ 2000) (hz : RdI W A zs) (hi : Ints zs) (hb : allGood 60 zs = false) :
    Calls Try.prog 8 #[.slice A zs.length cap] W (Yes W) := by
  have HZ := hid hz
  have HI := hid hi
  have Hb := hid hb
  clear hz hi hb
  have HC : Hid (∀ w1, Below W.heap.size W w1 → Calls Try.prog 11 #[.slice A zs.length cap] w1 fun e w' => e = .returned (.tuple #[.int .i64 0, .int .i64 2]) ∧ w1 = w') := hid fun w1 hb1 =>
    (widthOf_any cap A zs w1 (HZ.out.below hb1) (by omega) HI.out).mono fun e w' hw => by unfold WidthE at hw; rw [Hb.out] at hw; exact hw
  have HD : Hid (∀ w1, Below W.heap.size W w1 → Calls Try.prog 13 #[.int .i64 60, .slice A zs.length cap] w1 (Refused w1 2)) := hid fun w1 hb1 =>
    new_badN 60 cap A zs w1 (by omega) (by omega) (HZ.out.below hb1) (by omega) HI.out (by rw [allGood_bad, Hb.out]; rfl)
  generalize zs.length = L at *
  go_enter Try.func8, Try.ntmps8
  go_wp2_with (first | (go_at_call 9; refine (awake_any _).mono ?_; rintro e w1 ⟨rfl, HB⟩) | (go_at_call 11; refine (HC.out _ HB.out).mono ?_; rintro e w' ⟨rfl, rfl⟩) | (go_at_call 13; refine (HD.out _ HB.out).mono ?_; rintro e w2 ⟨rfl, hb2⟩; have HB2 := hid (HB.out.trans (hb2.mono HB.out.size))))
  go_ret
  exact ⟨rfl, HB2⟩

set_option maxRecDepth 100000 in
set_option maxHeartbeats 1000000 in
theorem packLeast_ok (A : Option Addr) (cap : Nat) (zs : List Int) (W : World) (h : zs.length ≤ 2000) (hz : RdI W A zs) (hi : Ints zs) (hb : allGood 60 zs = true) :
    Calls Try.prog 8 #[.slice A zs.length cap] W (Yes W) := by
  have HZ := hid hz
  have HI := hid hi
  have Hb := hid hb
  have hv1 := wid_pos zs
  have hv2 : wid zs ≤ 60 := wid_le (by omega) (by omega) (allGood_iff.1 hb)
  have HC : Hid (∀ w1, Below W.heap.size W w1 → Calls Try.prog 11 #[.slice A zs.length cap] w1 fun e w' => e = .returned (.tuple #[.int .i64 ((wid zs : Nat) : Int), .int .i64 0]) ∧ w1 = w') := hid fun w1 hb1 =>
    (widthOf_any cap A zs w1 (HZ.out.below hb1) (by omega) HI.out).mono fun e w' hw => by unfold WidthE at hw; rw [Hb.out] at hw; exact hw
  have HD : Hid (∀ w1, Below W.heap.size W w1 → Calls Try.prog 13 #[.int .i64 ((wid zs : Nat) : Int), .slice A zs.length cap] w1 (Made w1 (wid zs) zs.length (fS (wid zs) (zl zs) zs.length))) := hid fun w1 hb1 =>
    new_ok (wid zs) cap A zs w1 hv1 hv2 (HZ.out.below hb1) HI.out (by rw [allGood_bad, allGood_iff.2 ((wid_iff hv1 hv2 (allGood_iff.1 hb)).2 (Nat.le_refl _))]; rfl) (by
      have := Nat.mul_le_mul hv2 h; omega)
  have HE : Hid (∀ w1, Below W.heap.size W w1 → Calls Try.prog 13 #[.int .i64 (((wid zs : Nat) : Int) - 1), .slice A zs.length cap] w1 (Refused w1 2)) := hid fun w1 hb1 => by
    by_cases h1 : wid zs = 1
    · rw [h1]
      exact new_badW _ _ w1 (by decide)
    · rw [show ((wid zs : Nat) : Int) - 1 = ((wid zs - 1 : Nat) : Int) by omega]
      refine new_badN (wid zs - 1) cap A zs w1 (by omega) (by omega) (HZ.out.below hb1) (by omega) HI.out ?_
      have : ¬ allGood (wid zs - 1) zs = true := fun hg => by
        have := (wid_iff (by omega) (by omega) (allGood_iff.1 hb)).1 (allGood_iff.1 hg)
        omega
      rw [allGood_bad]
      simpa using this
  have HN0 : Hid (zs.length = 0 → wid zs = 1) := hid fun h0 => by rw [List.eq_nil_of_length_eq_zero h0]; rfl
  have HNG : Hid (gr zs zs.length = if zs.length = 0 then 0 else wid zs) := hid (by unfold gr; rw [List.take_length])
  have HS : Hid (∀ k, k < zs.length → ∀ w1 : World, Calls Try.prog 11 #[.slice (some ⟨w1.heap.size, 0, none⟩) 1 1] (w1.alloc (.cells #[.int .i64 (zs.getD k 0)] 3)) fun e w' => e = .returned (.tuple #[.int .i64 ((wid [zs.getD k 0] : Nat) : Int), .int .i64 0]) ∧ w1.alloc (.cells #[.int .i64 (zs.getD k 0)] 3) = w') := hid fun k hk w1 =>
    (widthOf_any 1 _ [zs.getD k 0] _ (rd_one w1 _ _) (by simp) (fun z hz => by rw [List.mem_singleton.1 hz]; exact HI.out _ (getD_mem hk))).mono fun e w' hw => by unfold WidthE at hw; rw [(wid_one_le hk hb).2] at hw; exact hw
  have HG : Hid (∀ k, k < zs.length → max (gr zs k) (wid [zs.getD k 0]) = gr zs (k + 1) ∧ wid [zs.getD k 0] ≤ wid zs) := hid fun k hk => ⟨gr_step hk, (wid_one_le hk hb).1⟩
  have HL : Hid (∀ k, gr zs k ≤ 60) := hid fun k => gr_bound hb
  clear hz hi hb Hb HI
  obtain ⟨N, hN⟩ : ∃ N, N = zs.length := ⟨_, rfl⟩
  rw [← hN] at h HC HD HE HN0 HNG HS HG ⊢
  have HN := hid hN
  clear hN
  generalize wid zs = v at hv1 hv2 HC HD HE HN0 HNG HG
  go_enter Try.func8, Try.ntmps8
  go_wp2_with (first | (go_at_call 9; refine (awake_any _).mono ?_; rintro e w1 ⟨rfl, HB⟩) | (go_at_call 11; refine (HC.out _ HB.out).mono ?_; rintro e w' ⟨rfl, rfl⟩))
  refine (HD.out _ HB.out).mono ?_
  rintro e w2 ⟨g, gw, rfl, hr, _, _, hb2⟩
  have HR := hid hr
  have HB2 := hid (HB.out.trans (hb2.mono HB.out.size))
  clear hr hb2
  go_wp2_with fail
  refine (HE.out _ HB2.out).mono ?_
  rintro e w3 ⟨rfl, hb3⟩
  have HR3 := hid (HR.out.below hb3)
  have HB3 := hid (HB2.out.trans (hb3.mono HB2.out.size))
  clear hb3 HB HB2 HR HC HD HE
  go_wp2_with (go_at_call 32; refine (width_any HR3.out).mono ?_; rintro e w' ⟨rfl, rfl⟩)
  go_loopw [11, 12] (fun s i wr => ∃ k : Nat, k ≤ N ∧ i = .int .i64 k ∧ s = .int .i64 ((gr zs k : Nat) : Int) ∧ Hid (Below W.heap.size W wr)) (fun _ i _ => N - (intOf i).toNat)
  case atStart => exact ⟨0, by omega, rfl, rfl, HB3⟩
  case round =>
    obtain ⟨k, hk, rfl, rfl, HW⟩ := hrel
    clear HB3 HR3
    by_cases hp : k < N
    · have hlt : k < zs.length := by rw [← HN.out]; exact hp
      obtain ⟨b, off, hAe, hc, _⟩ := (HZ.out.below HW.out).at hlt
      unfold vI at hc
      subst hAe
      have HS1 := hid (HS.out k hp)
      obtain ⟨hg1, hg2⟩ := HG.out k hp
      have HG1 := hid hg1
      have hl := HL.out k
      clear hlt hg1
      generalize wid [zs.getD k 0] = x at HS1 HG1 hg2
      generalize zs.getD k 0 = z at hc HS1
      have HG2 : Hid (max ((gr zs k : Nat) : Int) (x : Int) = ((gr zs (k + 1) : Nat) : Int)) := hid (by rw [← HG1.out]; omega)
      have HW2 := hid (HW.out.alloc HW.out.size (.cells #[.int .i64 z] 3))
      clear HG1
      generalize gr zs k = y at hl HG2 ⊢
      go_wp2_with (go_at_call 11; refine (HS1.out _).mono ?_; rintro e w' ⟨rfl, rfl⟩)
      go_roundw
      case rel => exact ⟨k + 1, by omega, by go_num, congrArg (Value.int .i64) HG2.out, HW2⟩
      case measure => simp [intOf]; omega
    · obtain rfl : k = N := by omega
      by_cases h0 : k = 0
      · subst h0
        have hv := HN0.out rfl
        subst hv
        have e : gr zs 0 = 0 := rfl
        rw [e]
        clear e
        go_wp2
        go_ret
        exact ⟨rfl, HW⟩
      · have e : gr zs k = v := by
          have := HNG.out
          rwa [if_neg h0] at this
        rw [e]
        clear e
        go_wp2
        go_ret
        exact ⟨rfl, HW⟩
end Go.Proofs.Ytimkclmaglofaaa
