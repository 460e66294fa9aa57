/- BitsRead. -/
import Derived.Test.YtneipjocimcmnaaDoorSame
import Derived.Test.YtneipjocimcmnaaDoorKitO
namespace Go.Proofs.YtneipjocimcmnaaDoor
open Go.RowKit
open Fen

theorem getD_vals (bs : List Nat) (ms : List Value) {i : Nat} (h : i < bs.length) : (bytesV bs ++ ms).getD i undef = .int .u8 ((bs.getD i 0 : Nat) : Int) := by
  have h1 : i < (bytesV bs).length := by simp [bytesV, h]
  rw [List.getD, List.getElem?_append_left h1]
  simp [bytesV, List.getD, h]
theorem tab_lt {w : World} (h : Tab w) : 0 < w.heap.size := cell_lt (h 0 (by decide))
theorem lent_rdy {w : World} {g : Nat} {bs : List Nat} {ms : List Value} {A : Option Addr} {w0 : World} (h : w.rowIs g 5 (bs.length + 12) (fun j => (bytesV bs ++ ms).getD j undef)) (hr : RdY w0 A bs) : RdY w (some ⟨g, 0, none⟩) bs := by
  refine ⟨hr.1, fun j hj => ⟨g, 0, rfl, fun i hi => ?_⟩⟩
  rw [Nat.zero_add, h.cell (i := i) (by omega), getD_vals bs ms hi]
theorem bytesV_len (bs : List Nat) : (bytesV bs).length = bs.length := by simp [bytesV]
theorem RdY.below {w w' : World} {A : Option Addr} {bs : List Nat} (h : RdY w A bs) (hb : Below w.heap.size w w') : RdY w' A bs := h.only (Only.of_below hb (fun _ => False)) (fun _ _ _ => no_)

set_option maxHeartbeats 1000000 in
theorem bitsRead_long (A : Option Addr) (L cap : Nat) (n at_ : Int) (w : World) (hT : Tab w) (hL : L ≤ 9223372036854775807) (h : 3000 < L ∨ (L ≤ 3000 ∧ 24000 < n ∧ n ≤ 16777216)) :
    Calls Tryd.prog 4 #[.int .i64 n, .slice A L cap, .int .i64 at_] w fun e w' => e = .returned (.bool true) ∧ Hid (Below w.heap.size w w') := by
  have HT := hid hT
  clear hT
  rcases h with h | ⟨h, h1, h2⟩
  · have h' : (3000 : Int) < (L : Int) := by omega
    go_enter Tryd.func4, Tryd.ntmps4
    go_wp2_with fail
    refine (awake_any w HT.out).mono ?_
    rintro e w1 ⟨rfl, hb⟩
    go_wp2_with fail
    go_ret
    exact ⟨rfl, hb⟩
  · have h' : ¬ (3000 : Int) < (L : Int) := by omega
    go_enter Tryd.func4, Tryd.ntmps4
    go_wp2_with fail
    refine (awake_any w HT.out).mono ?_
    rintro e w1 ⟨rfl, hb⟩
    go_wp2_with fail
    go_ret
    exact ⟨rfl, hb⟩

set_option maxRecDepth 4000 in
set_option maxHeartbeats 4000000 in
theorem bitsRead_err (x n at_ : Int) (A : Option Addr) (bs : List Nat) (cap : Nat) (w : World) (hT : Tab w) (hy : RdY w A bs) (hA : A = none → bs.length = 0 ∧ cap = 0) (hl : bs.length ≤ 3000)
    (hg : n ≤ 24000 ∨ (24000 < n ∧ 16777216 < n)) (hx : x = 2 ∨ x = 3 ∨ x = 4)
    (h1 : ∀ (B : Option Addr) (c : Nat) (u : World), RdY u B bs → Calls Tryd.prog 18 #[.int .i64 n, .slice B bs.length c] u fun e w' => e = .returned (.tuple #[.pointer none, .int .i64 x]) ∧ u = w')
    (h2 : ∀ (c : Nat) (u : World), RdY u A bs → Calls Tryd.prog 22 #[.int .i64 n, .slice A bs.length c] u fun e w' => e = .returned (.tuple #[.pointer none, .int .i64 x]) ∧ Hid (Below u.heap.size u w')) :
    Calls Tryd.prog 4 #[.int .i64 n, .slice A bs.length cap, .int .i64 at_] w fun e w' => e = .returned (.bool true) ∧ Hid (Below w.heap.size w w') := by
  have HT := hid hT
  have HY := hid hy
  have HA := hid hA
  have H1 := hid h1
  have H2 := hid h2
  obtain ⟨L, hL⟩ : ∃ L, L = bs.length := ⟨_, rfl⟩
  rw [← hL] at hl HA H1 H2 ⊢
  have HL := hid hL
  have hxb : (x != 0) = true := by rcases hx with rfl | rfl | rfl <;> rfl
  have hl' : ¬ (3000 : Int) < (L : Int) := by omega
  clear hT hy hA h1 h2 hL hx
  rcases hg with hg | ⟨hg, hg2⟩
  all_goals
    go_enter Tryd.func4, Tryd.ntmps4
    go_wp2_with fail
    refine (lentBytes_any A cap L (bytesV bs) w HY.out.vals (bytesV_one bs) (by rw [bytesV_len]; exact HL.out.symm) HA.out (by omega)).mono ?_
    rintro e w1 ⟨rfl, hle⟩
    have HR1 : Hid (w1.rowIs w.heap.size 5 (L + 12) (fun j => (bytesV bs ++ marksB).getD j undef)) := hid (by have h := hle.out.1; rw [bytesV_len, ← HL.out] at h; exact h)
    have HI1 : Hid (RdY w1 (some ⟨w.heap.size, 0, none⟩) bs) := hid (lent_rdy (by rw [← HL.out]; exact HR1.out) HY.out)
    have HO1 := hid hle.out.2
    have HY1 := hid (HY.out.only HO1.out (fun _ _ _ => no_))
    clear hle
    go_wp2_with fail
    refine (H1.out _ _ _ HI1.out).mono ?_
    rintro e w' ⟨rfl, rfl⟩
    go_wp2_with fail
    refine (H2.out _ _ HY1.out).mono ?_
    rintro e w2 ⟨rfl, hb⟩
    have HR2 := hid (rowIs_below' HR1.out hb.out)
    have HY2 := hid (HY1.out.only (Only.of_below hb.out (fun _ => False)) (fun _ _ _ => no_))
    have HO2 := hid (HO1.out.trans (Only.of_below hb.out (fun _ => False)))
    clear hb HR1 HI1 HO1 HY1 H1 H2
    go_wp2_with fail
    refine (keptBytes_any A cap w.heap.size L bs w2 (by omega) HL.out.symm HY2.out HR2.out).mono ?_
    rintro e w3 ⟨rfl, hq⟩
    have HO3 := hid (HO2.out.trans (quiet_only hq))
    clear hq HR2 HY2 HO2
    go_wp2_with fail
    refine (awake_any w3 (HT.out.only HO3.out no_)).mono ?_
    rintro e w4 ⟨rfl, hb⟩
    have HB := hid ((HO3.out.to_below (B := w.heap.size) (fun _ h => h.elim) (Nat.le_refl _)).trans (hb.out.mono HO3.out.size))
    clear hb
    go_wp2_with fail
    go_ret
    exact ⟨rfl, HB⟩

set_option maxRecDepth 4000 in
set_option maxHeartbeats 4000000 in
theorem bitsRead_ok (n : Nat) (at_ : Int) (A : Option Addr) (bs : List Nat) (cap : Nat) (w : World) (hT : Tab w) (hy : RdY w A bs) (hA : A = none → bs.length = 0 ∧ cap = 0) (hl : bs.length ≤ 3000)
    (hg : n ≤ 24000) (hs : shapeOk n bs) :
    Calls Tryd.prog 4 #[.int .i64 (n : Int), .slice A bs.length cap, .int .i64 at_] w fun e w' => e = .returned (.bool true) ∧ Hid (Below w.heap.size w w') := by
  have HT := hid hT
  have HY := hid hy
  have HA := hid hA
  have H1 := hid (fun (B : Option Addr) (c : Nat) (u : World) (h : RdY u B bs) => read_ok n c B bs u h (by omega) hs)
  have H2 := hid (fun (c : Nat) (u : World) (h : RdY u A bs) => refRead_any n c A bs u h (by omega) (by omega))
  have HS := hid hs
  obtain ⟨L, hL⟩ : ∃ L, L = bs.length := ⟨_, rfl⟩
  rw [← hL] at hl HA H1 H2 ⊢
  have HL := hid hL
  have hl' : ¬ (3000 : Int) < (L : Int) := by omega
  have hg' : ¬ 24000 < (n : Int) := by omega
  clear hT hy hA hL hs
  go_enter Tryd.func4, Tryd.ntmps4
  go_wp2_with fail
  refine (lentBytes_any A cap L (bytesV bs) w HY.out.vals (bytesV_one bs) (by rw [bytesV_len]; exact HL.out.symm) HA.out (by omega)).mono ?_
  rintro e w1 ⟨rfl, hle⟩
  have HR1 : Hid (w1.rowIs w.heap.size 5 (L + 12) (fun j => (bytesV bs ++ marksB).getD j undef)) := hid (by have h := hle.out.1; rw [bytesV_len, ← HL.out] at h; exact h)
  have HI1 : Hid (RdY w1 (some ⟨w.heap.size, 0, none⟩) bs) := hid (lent_rdy (by rw [← HL.out]; exact HR1.out) HY.out)
  have HO1 := hid hle.out.2
  have HY1 := hid (HY.out.only HO1.out (fun _ _ _ => no_))
  clear hle
  go_wp2_with fail
  refine (H1.out _ _ _ HI1.out).mono ?_
  rintro e w2 ⟨g, gs, gw, rfl, hv, hg, hgs, hgw, hb⟩
  have HV2 := hid hv
  have HD : Hid (w.heap.size < g ∧ w.heap.size < gs ∧ w.heap.size < gw) := hid (by have := HR1.out.lt; omega)
  have HR2 := hid (rowIs_below' HR1.out hb)
  have HY2 := hid (HY1.out.only (Only.of_below hb (fun _ => False)) (fun _ _ _ => no_))
  have HO2 := hid (HO1.out.trans (Only.of_below hb (fun _ => False)))
  clear hb hg hgs hgw HR1 HI1 HO1 HY1 H1 hv
  go_wp2_with fail
  refine (H2.out _ _ HY2.out).mono ?_
  rintro e w3 h
  rcases h with ⟨_, r, gl, cap', rfl, hv, hg, hgl, hne, hb⟩ | ⟨hno, _, _⟩
  · have HF3 := hid hv
    have HE : Hid (w.heap.size < r ∧ w.heap.size < gl) := hid (by have := HR2.out.lt; omega)
    have HV3 := hid (HV2.out.below' hb)
    have HR3 := hid (rowIs_below' HR2.out hb)
    have HY3 := hid (HY2.out.only (Only.of_below hb (fun _ => False)) (fun _ _ _ => no_))
    have HO3 := hid (HO2.out.trans (Only.of_below hb (fun _ => False)))
    clear hb hg hgl hne HR2 HY2 HO2 H2 HV2 hv
    go_wp2_with fail
    refine (keptBytes_any A cap w.heap.size L bs w3 (by omega) HL.out.symm HY3.out HR3.out).mono ?_
    rintro e w4 ⟨rfl, hq⟩
    have HO4 := hid (HO3.out.trans (quiet_only hq))
    have HV4 := hid (HV3.out.same (quiet_only hq))
    have HF4 := hid (HF3.out.same (quiet_only hq))
    have HR4 := hid ((quiet_only hq).row HR3.out no_)
    clear hq HR3 HY3 HO3 HV3 HF3
    go_wp2_with fail
    refine (overBytes_any w.heap.size L (L + 12) w4 ⟨_, HR4.out⟩ (by omega) (by omega)).mono ?_
    rintro e w5 ⟨rfl, ho⟩
    have HV5 := hid (HV4.out.only ho.out.2 (by have := HD.out; omega) (by have := HD.out; omega) (by have := HD.out; omega))
    have HF5 := hid (HF4.out.only ho.out.2 (by have := HE.out; omega) (by have := HE.out; omega))
    have HT5 := hid ((HT.out.only HO4.out no_).only ho.out.2 (by have := tab_lt HT.out; omega))
    have HB5 := hid ((HO4.out.to_below (B := w.heap.size) (fun _ h => h.elim) (Nat.le_refl _)).trans (ho.out.2.to_below (B := w.heap.size) (fun _ h => by omega) HO4.out.size))
    clear ho HR4 HO4 HV4 HF4
    go_wp2_with fail
    refine (same_any at_ HV5.out HF5.out HT5.out).mono ?_
    rintro e w6 ⟨rfl, ho⟩
    have HT6 := hid (HT5.out.only ho.out no_)
    have HB6 := hid (HB5.out.trans (ho.out.to_below (B := w.heap.size) (fun _ h => h.elim) HB5.out.size))
    clear ho HV5 HF5 HT5 HB5
    go_wp2_with fail
    refine (awake_any w6 HT6.out).mono ?_
    rintro e w7 ⟨rfl, hb⟩
    have HB := hid (HB6.out.trans (hb.out.mono HB6.out.size))
    clear hb
    go_wp2_with fail
    go_ret
    exact ⟨rfl, HB⟩
  · exact absurd HS.out hno
theorem bitsRead_all (n at_ : Int) (A : Option Addr) (bs : List Nat) (cap : Nat) (w : World) (hT : Tab w) (hy : RdY w A bs) (hA : A = none → bs.length = 0 ∧ cap = 0) (hl : bs.length ≤ 3000)
    (hg : n ≤ 24000 ∨ 16777216 < n) :
    Calls Tryd.prog 4 #[.int .i64 n, .slice A bs.length cap, .int .i64 at_] w fun e w' => e = .returned (.bool true) ∧ Hid (Below w.heap.size w w') := by
  by_cases h0 : n < 0 ∨ 16777216 < n
  · refine bitsRead_err (if n < 0 then 2 else 3) n at_ A bs cap w hT hy hA hl (by omega) ?_ (fun B c u _ => read_badN n _ u h0) (fun c u _ => (refRead_badN n _ u h0).mono fun e w' ⟨he, hw⟩ => ⟨he, ?_⟩)
    · by_cases h1 : n < 0
      · rw [if_pos h1]; exact .inl rfl
      · rw [if_neg h1]; exact .inr (.inl rfl)
    · subst hw
      exact hid (Below.refl _ _)
  · obtain ⟨k, rfl⟩ := Int.eq_ofNat_of_zero_le (a := n) (by omega)
    have hk : k ≤ 24000 := by omega
    by_cases hs : shapeOk k bs
    · exact bitsRead_ok k at_ A bs cap w hT hy hA hl hk hs
    · refine bitsRead_err 4 k at_ A bs cap w hT hy hA hl (by omega) (.inr (.inr rfl)) (fun B c u h => read_bad k c B bs u h (by omega) hs (by omega)) (fun c u h => (refRead_any k c A bs u h (by omega) (by omega)).mono fun e w' h => ?_)
      rcases h with ⟨h, _⟩ | ⟨_, he, hb⟩
      · exact absurd h hs
      · exact ⟨he, hid hb⟩
end Go.Proofs.YtneipjocimcmnaaDoor
