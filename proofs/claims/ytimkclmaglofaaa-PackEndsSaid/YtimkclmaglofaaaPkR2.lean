/- The document's rows: New, Of, At, Find; pack's Of. -/
import Derived.Test.YtimkclmaglofaaaPkR
namespace Go.Proofs.Ytimkclmaglofaaa
open Go.RowKit
open Bit

def qcell (wd : Nat) (A : Option Addr) (n cap : Nat) : Nat → Value
  | 0 => .int .i64 ((wd : Nat) : Int)
  | _ => .slice A n cap
/-- A row of the document. -/
structure IsRef (w : World) (r wd : Nat) (A : Option Addr) (cap : Nat) (zs : List Int) : Prop where
  self : w.rowIs r 70 2 (qcell wd A zs.length cap)
  rd : RdI w A zs
theorem IsRef.below {w w' : World} {r wd cap : Nat} {A : Option Addr} {zs : List Int} (h : IsRef w r wd A cap zs) (hb : Below w.heap.size w w') : IsRef w' r wd A cap zs :=
  ⟨rowIs_below' h.self hb, h.rd.below hb⟩
theorem IsRef.drewN {w : World} {r wd cap : Nat} {A : Option Addr} {zs : List Int} (h : IsRef w r wd A cap zs) (k : Nat) : IsRef (w.drewN k) r wd A cap zs := ⟨rowIs_drewN h.self k, h.rd⟩
def RMade (w : World) (wd : Nat) (zs : List Int) (e : Ending) (w' : World) : Prop :=
  ∃ (r cap : Nat) (A : Option Addr), e = .returned (.tuple #[.pointer (some ⟨r, 0, none⟩), .int .i64 0]) ∧ IsRef w' r wd A cap zs ∧ (w.heap.size ≤ r ∧ ∀ ad, A = some ad → w.heap.size ≤ ad.block) ∧ Below w.heap.size w w'
def RNewE (w : World) (wd : Int) (zs : List Int) (e : Ending) (w' : World) : Prop :=
  (isWd wd = true ∧ allGood wd.toNat zs = true ∧ wd.toNat * zs.length ≤ 16777216 ∧ RMade w wd.toNat zs e w') ∨
  (¬ (isWd wd = true ∧ allGood wd.toNat zs = true) ∧ Refused w 2 e w') ∨
  ((isWd wd = true ∧ allGood wd.toNat zs = true) ∧ 16777216 < wd.toNat * zs.length ∧ Refused w 3 e w')

set_option maxHeartbeats 400000 in
theorem refNew_bad60 (wd : Int) (cap : Nat) (A : Option Addr) (zs : List Int) (w : World) (hz : RdI w A zs) (hl : zs.length ≤ 9223372036854775807) (hi : Ints zs) (hb : allGood 60 zs = false) :
    Calls Try.prog 14 #[.int .i64 wd, .slice A zs.length cap] w (Refused w 2) := by
  have HC : Hid (Calls Try.prog 12 #[.slice A zs.length cap] w fun e w' => e = .returned (.tuple #[.int .i64 0, .int .i64 2]) ∧ w = w') := hid ((refWidth_any cap A zs w hz hl hi).mono fun e w' hw => by unfold WidthE at hw; rw [hb] at hw; exact hw)
  clear hz hl hi hb
  generalize zs.length = N at HC ⊢
  go_enter Try.func14, Try.ntmps14
  go_wp2_with (go_at_call 12; refine HC.out.mono ?_; rintro e w' ⟨rfl, rfl⟩)
  go_ret2
  exact ⟨rfl, Below.refl _ _⟩
set_option maxHeartbeats 1000000 in
theorem refNew_badW (wd : Int) (cap : Nat) (A : Option Addr) (zs : List Int) (w : World) (hz : RdI w A zs) (hl : zs.length ≤ 9223372036854775807) (hi : Ints zs) (hb : allGood 60 zs = true) (hbad : wd < 1 ∨ 60 < wd ∨ wd < ((wid zs : Nat) : Int)) :
    Calls Try.prog 14 #[.int .i64 wd, .slice A zs.length cap] w (Refused w 2) := by
  have HC : Hid (Calls Try.prog 12 #[.slice A zs.length cap] w fun e w' => e = .returned (.tuple #[.int .i64 ((wid zs : Nat) : Int), .int .i64 0]) ∧ w = w') := hid ((refWidth_any cap A zs w hz hl hi).mono fun e w' hw => by unfold WidthE at hw; rw [hb] at hw; exact hw)
  have hw60 : wid zs ≤ 60 := wid_le (by omega) (by omega) (allGood_iff.1 hb)
  clear hz hl hi hb
  generalize zs.length = N at HC ⊢
  generalize wid zs = v at HC hbad hw60
  by_cases h1 : wd < 1
  · clear hbad
    go_enter Try.func14, Try.ntmps14
    go_wp2_with (go_at_call 12; refine HC.out.mono ?_; rintro e w' ⟨rfl, rfl⟩)
    go_ret2
    exact ⟨rfl, Below.refl _ _⟩
  · by_cases h2 : 60 < wd
    · clear hbad
      go_enter Try.func14, Try.ntmps14
      go_wp2_with (go_at_call 12; refine HC.out.mono ?_; rintro e w' ⟨rfl, rfl⟩)
      go_ret2
      exact ⟨rfl, Below.refl _ _⟩
    · have h3 : wd < (v : Int) := by omega
      clear hbad
      go_enter Try.func14, Try.ntmps14
      go_wp2_with (go_at_call 12; refine HC.out.mono ?_; rintro e w' ⟨rfl, rfl⟩)
      go_ret2
      exact ⟨rfl, Below.refl _ _⟩
set_option maxHeartbeats 1000000 in
theorem refNew_long (wd cap : Nat) (A : Option Addr) (zs : List Int) (w : World) (hz : RdI w A zs) (hl : zs.length ≤ 9223372036854775807) (hi : Ints zs) (hb : allGood 60 zs = true) (h1 : 1 ≤ wd) (h2 : wd ≤ 60) (h3 : wid zs ≤ wd) (hm : 16777216 < wd * zs.length) :
    Calls Try.prog 14 #[.int .i64 (wd : Int), .slice A zs.length cap] w (Refused w 3) := by
  have HC : Hid (Calls Try.prog 12 #[.slice A zs.length cap] w fun e w' => e = .returned (.tuple #[.int .i64 ((wid zs : Nat) : Int), .int .i64 0]) ∧ w = w') := hid ((refWidth_any cap A zs w hz hl hi).mono fun e w' hw => by unfold WidthE at hw; rw [hb] at hw; exact hw)
  have hT : (16777216 : Int) / (wd : Int) < (zs.length : Int) := Classical.byContradiction fun hh => by have := (many_iff h1).1 hh; omega
  clear hz hl hi hb hm
  generalize zs.length = N at HC hT ⊢
  generalize wid zs = v at HC h3
  go_enter Try.func14, Try.ntmps14
  go_wp2_with (go_at_call 12; refine HC.out.mono ?_; rintro e w' ⟨rfl, rfl⟩)
  go_ret2
  exact ⟨rfl, Below.refl _ _⟩
set_option maxHeartbeats 1000000 in
theorem refNew_ok (wd cap : Nat) (A : Option Addr) (zs : List Int) (w : World) (hz : RdI w A zs) (hA : A = none → zs.length = 0 ∧ cap = 0) (hi : Ints zs) (hb : allGood 60 zs = true) (h1 : 1 ≤ wd) (h2 : wd ≤ 60) (h3 : wid zs ≤ wd) (hm : wd * zs.length ≤ 16777216) :
    Calls Try.prog 14 #[.int .i64 (wd : Int), .slice A zs.length cap] w (RMade w wd zs) := by
  have hn : zs.length ≤ 16777216 := Nat.le_trans (Nat.le_mul_of_pos_left _ h1) hm
  have HC : Hid (Calls Try.prog 12 #[.slice A zs.length cap] w fun e w' => e = .returned (.tuple #[.int .i64 ((wid zs : Nat) : Int), .int .i64 0]) ∧ w = w') := hid ((refWidth_any cap A zs w hz (by omega) hi).mono fun e w' hw => by unfold WidthE at hw; rw [hb] at hw; exact hw)
  have hT : ¬ (16777216 : Int) / (wd : Int) < (zs.length : Int) := (many_iff h1).2 hm
  have HZ : Hid (RdV w A zs.length (vI zs)) := hid hz
  have HA := hid hA
  clear hz hi hb hm hA
  obtain ⟨N, hN⟩ : ∃ N, N = zs.length := ⟨_, rfl⟩
  rw [← hN] at HC hT HZ HA hn ⊢
  have HN := hid hN
  clear hN
  generalize wid zs = v at HC h3
  go_enter Try.func14, Try.ntmps14
  go_wp2_with (first | (go_at_call 12; refine HC.out.mono ?_; rintro e w' ⟨rfl, rfl⟩) | (at_builtin; refine wpList_copy_new _ 3 22 (.int .i64 0) 8 Try.underlying22 intInfo rfl (by omega) rfl (.tmp 34) (.tmp 35) rfl rfl A N cap (vI zs) rfl (fun _ => rfl) HA HZ hn ?_; intro g cap' w2 HO))
  go_ret2
  have hg := HO.out.ge
  have hle := HO.out.le
  obtain ⟨F, hF1, hF2⟩ := HO.out.row
  have hN := HN.out
  refine ⟨w2.heap.size, cap', some ⟨g, 0, none⟩, rfl, ⟨?_, ?_⟩, ⟨HO.out.only.size, fun ad had => by injection had with had; subst had; exact hg⟩, ?_⟩
  · have h := World.rowIs_alloc w2 #[Value.int IntKind.i64 wd, Value.slice (some ⟨g, 0, none⟩) N cap'] 70 (qcell wd (some ⟨g, 0, none⟩) N cap') (fun i hi => by
      match i, hi with
      | 0, _ => rfl
      | 1, _ => rfl
      | i + 2, hi => exact absurd (show i + 2 < 2 from hi) (by omega))
    rw [← hN]
    simpa using h
  · have h := (RdV.of_row (hF1.alloc (.cells #[Value.int IntKind.i64 wd, Value.slice (some ⟨g, 0, none⟩) N cap'] 70))).take hle
    unfold RdI
    rw [← hN]
    exact h.congr hF2
  · exact (HO.out.only.to_below (fun _ h => h.elim) (Nat.le_refl _)).alloc HO.out.only.size _

theorem refNew_any (wd : Int) (cap : Nat) (A : Option Addr) (zs : List Int) (w : World) (hz : RdI w A zs) (hA : A = none → zs.length = 0 ∧ cap = 0) (hl : zs.length ≤ 9223372036854775807) (hi : Ints zs) :
    Calls Try.prog 14 #[.int .i64 wd, .slice A zs.length cap] w (RNewE w wd zs) := by
  cases hb : allGood 60 zs with
  | false => exact (refNew_bad60 wd cap A zs w hz hl hi hb).mono fun e w' hr => .inr (.inl ⟨(fun hh => by
      have h1 := isWd_iff.1 hh.1
      have h2 := allGood_iff.1 hh.2
      have : allGood 60 zs = true := allGood_iff.2 fun z hz => good_mono (by omega) (h2 z hz)
      rw [hb] at this; cases this), hr⟩)
  | true =>
    have hg := allGood_iff.1 hb
    by_cases h : wd < 1 ∨ 60 < wd ∨ wd < ((wid zs : Nat) : Int)
    · refine (refNew_badW wd cap A zs w hz hl hi hb h).mono fun e w' hr => .inr (.inl ⟨fun hh => ?_, hr⟩)
      have h1 := isWd_iff.1 hh.1
      have h2 := (wid_iff (k := wd.toNat) (by omega) (by omega) hg).1 (allGood_iff.1 hh.2)
      omega
    · obtain ⟨n, rfl⟩ := Int.eq_ofNat_of_zero_le (a := wd) (by omega)
      have h1 : 1 ≤ n := by omega
      have h2 : n ≤ 60 := by omega
      have h3 : wid zs ≤ n := by omega
      have hw : isWd (n : Int) = true := isWd_iff.2 ⟨by omega, by omega⟩
      have ha : allGood n zs = true := allGood_iff.2 ((wid_iff h1 h2 hg).2 h3)
      by_cases hm : n * zs.length ≤ 16777216
      · exact (refNew_ok n cap A zs w hz hA hi hb h1 h2 h3 hm).mono fun e w' hr => .inl ⟨hw, ha, hm, hr⟩
      · exact (refNew_long n cap A zs w hz hl hi hb h1 h2 h3 (by omega)).mono fun e w' hr => .inr (.inr ⟨⟨hw, ha⟩, by simpa using hm, hr⟩)

/-! Of. -/
set_option maxHeartbeats 400000 in
theorem of_bad (cap : Nat) (A : Option Addr) (zs : List Int) (w : World) (hz : RdI w A zs) (hl : zs.length ≤ 9223372036854775807) (hi : Ints zs) (hb : allGood 60 zs = false) :
    Calls Try.prog 15 #[.slice A zs.length cap] w (Refused w 2) := by
  have HC : Hid (Calls Try.prog 11 #[.slice A zs.length cap] w fun e w' => e = .returned (.tuple #[.int .i64 0, .int .i64 2]) ∧ w = w') := hid ((widthOf_any cap A zs w hz hl hi).mono fun e w' hw => by unfold WidthE at hw; rw [hb] at hw; exact hw)
  clear hz hl hi hb
  generalize zs.length = N at HC ⊢
  go_enter Try.func15, Try.ntmps15
  go_wp2_with (go_at_call 11; refine HC.out.mono ?_; rintro e w' ⟨rfl, rfl⟩)
  go_ret2
  exact ⟨rfl, Below.refl _ _⟩
set_option maxHeartbeats 400000 in
theorem refOf_bad (cap : Nat) (A : Option Addr) (zs : List Int) (w : World) (hz : RdI w A zs) (hl : zs.length ≤ 9223372036854775807) (hi : Ints zs) (hb : allGood 60 zs = false) :
    Calls Try.prog 16 #[.slice A zs.length cap] w (Refused w 2) := by
  have HC : Hid (Calls Try.prog 12 #[.slice A zs.length cap] w fun e w' => e = .returned (.tuple #[.int .i64 0, .int .i64 2]) ∧ w = w') := hid ((refWidth_any cap A zs w hz hl hi).mono fun e w' hw => by unfold WidthE at hw; rw [hb] at hw; exact hw)
  clear hz hl hi hb
  generalize zs.length = N at HC ⊢
  go_enter Try.func16, Try.ntmps16
  go_wp2_with (go_at_call 12; refine HC.out.mono ?_; rintro e w' ⟨rfl, rfl⟩)
  go_ret2
  exact ⟨rfl, Below.refl _ _⟩
set_option maxHeartbeats 400000 in
theorem of_ok (cap : Nat) (A : Option Addr) (zs : List Int) (w : World) (hz : RdI w A zs) (hi : Ints zs) (hb : allGood 60 zs = true) (hm : wid zs * zs.length ≤ 16777216) :
    Calls Try.prog 15 #[.slice A zs.length cap] w (Made w (wid zs) zs.length (fS (wid zs) (zl zs) zs.length)) := by
  have h1 := wid_pos zs
  have h2 : wid zs ≤ 60 := wid_le (by omega) (by omega) (allGood_iff.1 hb)
  have hn : zs.length ≤ 16777216 := Nat.le_trans (Nat.le_mul_of_pos_left _ h1) hm
  have HC : Hid (Calls Try.prog 11 #[.slice A zs.length cap] w fun e w' => e = .returned (.tuple #[.int .i64 ((wid zs : Nat) : Int), .int .i64 0]) ∧ w = w') := hid ((widthOf_any cap A zs w hz (by omega) hi).mono fun e w' hw => by unfold WidthE at hw; rw [hb] at hw; exact hw)
  have HD := hid (new_ok (wid zs) cap A zs w h1 h2 hz hi (by rw [allGood_bad, allGood_iff.2 ((wid_iff h1 h2 (allGood_iff.1 hb)).2 (Nat.le_refl _))]; rfl) hm)
  clear hz hi hb hm hn
  generalize fS (wid zs) (zl zs) zs.length = f at HD ⊢
  generalize zs.length = N at HC HD ⊢
  generalize wid zs = v at HC HD h1 h2 ⊢
  go_enter Try.func15, Try.ntmps15
  go_wp2_with (go_at_call 11; refine HC.out.mono ?_; rintro e w' ⟨rfl, rfl⟩)
  refine HD.out.mono ?_
  rintro e w1 ⟨g, gw, rfl, hr, hg, hgw, hb⟩
  have HR := hid (And.intro hr (And.intro hg (And.intro hgw hb)))
  clear hr hg hgw hb
  go_wp2_with fail
  go_ret2
  exact ⟨g, gw, rfl, HR.out⟩
set_option maxHeartbeats 400000 in
theorem refOf_ok (cap : Nat) (A : Option Addr) (zs : List Int) (w : World) (hz : RdI w A zs) (hA : A = none → zs.length = 0 ∧ cap = 0) (hi : Ints zs) (hb : allGood 60 zs = true) (hm : wid zs * zs.length ≤ 16777216) :
    Calls Try.prog 16 #[.slice A zs.length cap] w (RMade w (wid zs) zs) := by
  have h1 := wid_pos zs
  have h2 : wid zs ≤ 60 := wid_le (by omega) (by omega) (allGood_iff.1 hb)
  have hn : zs.length ≤ 16777216 := Nat.le_trans (Nat.le_mul_of_pos_left _ h1) hm
  have HC : Hid (Calls Try.prog 12 #[.slice A zs.length cap] w fun e w' => e = .returned (.tuple #[.int .i64 ((wid zs : Nat) : Int), .int .i64 0]) ∧ w = w') := hid ((refWidth_any cap A zs w hz (by omega) hi).mono fun e w' hw => by unfold WidthE at hw; rw [hb] at hw; exact hw)
  have HD := hid (refNew_ok (wid zs) cap A zs w hz hA hi hb h1 h2 (Nat.le_refl _) hm)
  clear hz hi hb hm hn hA
  obtain ⟨N, hN⟩ : ∃ N, N = zs.length := ⟨_, rfl⟩
  rw [← hN] at HC HD ⊢
  clear hN
  obtain ⟨v, hv⟩ : ∃ v, v = wid zs := ⟨_, rfl⟩
  rw [← hv] at HC HD h1 h2 ⊢
  clear hv
  go_enter Try.func16, Try.ntmps16
  go_wp2_with (go_at_call 12; refine HC.out.mono ?_; rintro e w' ⟨rfl, rfl⟩)
  refine HD.out.mono ?_
  rintro e w1 ⟨r, cap', A', rfl, hr, hg, hb⟩
  have HR := hid (And.intro hr (And.intro hg hb))
  clear hr hg hb
  go_wp2_with fail
  go_ret2
  exact ⟨r, cap', A', rfl, HR.out⟩
end Go.Proofs.Ytimkclmaglofaaa
