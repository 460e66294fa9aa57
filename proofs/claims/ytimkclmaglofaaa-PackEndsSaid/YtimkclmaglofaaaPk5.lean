/- pack: New. -/
import Derived.Test.YtimkclmaglofaaaPk4
namespace Go.Proofs.Ytimkclmaglofaaa
open Go.RowKit
open Bit

def badN (wd : Nat) (z : Int) : Bool := !good wd z
def Ints (zs : List Int) : Prop := ∀ z ∈ zs, -9223372036854775808 ≤ z ∧ z ≤ 9223372036854775807

set_option maxHeartbeats 400000 in
theorem newBad_any (bx wd : Nat) (z : Int) (w : World) (hb : w.cell? ⟨bx, 0, none⟩ = some (.int .i64 (wd : Int))) (hwd : wd ≤ 62) (hz : z ≤ 9223372036854775807) :
    Calls Try.prog 43 #[.int .i64 z, .pointer (some ⟨bx, 0, none⟩)] w fun e w' => e = .returned (.bool (badN wd z)) ∧ w = w' := by
  go_enter Try.func43, Try.ntmps43
  go_wp2_with (go_at_call 38; refine (fits_any z wd w hwd hz).mono ?_; rintro e w' ⟨rfl, rfl⟩)
  go_ret
  exact ⟨rfl, rfl⟩

set_option maxHeartbeats 1000000 in
theorem indexBad_any (bx wd cap : Nat) (A : Option Addr) (zs : List Int) (w : World) (hb : w.cell? ⟨bx, 0, none⟩ = some (.int .i64 (wd : Int))) (hwd : wd ≤ 62)
    (hz : RdI w A zs) (hl : zs.length ≤ 9223372036854775807) (hi : Ints zs) :
    Calls Try.prog 59 #[.slice A zs.length cap, .func (.func 43) #[] #[.pointer (some ⟨bx, 0, none⟩)]] w fun e w' => ∃ r : Int, e = .returned (.int .i64 r) ∧ w = w' ∧ decide (0 ≤ r) = zs.any (badN wd) := by
  have HC := hid (fun k hk => newBad_any bx wd k w hb hwd hk)
  have HZ := hid hz
  have HI := hid hi
  clear hb hz hi
  obtain ⟨N, hN⟩ : ∃ N, N = zs.length := ⟨_, rfl⟩
  rw [← hN] at hl ⊢
  have HN := hid hN
  clear hN
  go_enter Try.func59, Try.ntmps59
  go_wp2
  go_loop [8] (fun s => ∃ k : Nat, k ≤ N ∧ s = .int .i64 k ∧ Hid ((zs.take k).any (badN wd) = false)) (fun s => N - (intOf s).toNat)
  case atStart => exact ⟨0, by omega, rfl, hid (by simp)⟩
  case round =>
    obtain ⟨k, hk, rfl, HA⟩ := hrel
    by_cases hp : k < N
    · have hlt : k < zs.length := by rw [← HN.out]; exact hp
      obtain ⟨b, off, hA, hc, _⟩ := HZ.out.at hlt
      unfold vI at hc
      subst hA
      have HM := hid (take_getD hlt)
      have HJ := hid (getD_mem hlt)
      have hzb := (HI.out _ (getD_mem hlt)).2
      clear hlt
      generalize zs.getD k 0 = z at hc HM HJ hzb
      cases hbz : badN wd z with
      | true =>
        have HB := hid hbz
        clear hbz
        go_wp2_with (go_at_call 43; refine (HC.out z hzb).mono ?_; rintro e w' ⟨rfl, rfl⟩; rw [HB.out])
        go_ret
        refine ⟨(k : Int), rfl, rfl, ?_⟩
        have : zs.any (badN wd) = true := List.any_eq_true.2 ⟨z, HJ.out, HB.out⟩
        rw [this]; simp
      | false =>
        have HB := hid hbz
        clear hbz
        go_wp2_with (go_at_call 43; refine (HC.out z hzb).mono ?_; rintro e w' ⟨rfl, rfl⟩; rw [HB.out])
        go_round
        case rel => exact ⟨k + 1, by omega, by go_num, hid (by rw [HM.out, List.any_append, HA.out]; simp [HB.out])⟩
        case measure => simp [intOf]; omega
    · obtain rfl : k = N := by omega
      go_wp2
      go_ret
      refine ⟨-1, rfl, rfl, ?_⟩
      have := HA.out
      rw [HN.out, List.take_length] at this
      rw [this]; rfl

set_option maxHeartbeats 400000 in
theorem containsBad_any (bx wd cap : Nat) (A : Option Addr) (zs : List Int) (w : World) (hb : w.cell? ⟨bx, 0, none⟩ = some (.int .i64 (wd : Int))) (hwd : wd ≤ 62)
    (hz : RdI w A zs) (hl : zs.length ≤ 9223372036854775807) (hi : Ints zs) :
    Calls Try.prog 42 #[.slice A zs.length cap, .func (.func 43) #[] #[.pointer (some ⟨bx, 0, none⟩)]] w fun e w' => e = .returned (.bool (zs.any (badN wd))) ∧ w = w' := by
  have HC := hid (indexBad_any bx wd cap A zs w hb hwd hz hl hi)
  clear hb hz hl hi
  generalize zs.length = N at HC ⊢
  go_enter Try.func42, Try.ntmps42
  go_wp2_with fail
  refine HC.out.mono ?_
  rintro e w' ⟨r, rfl, rfl, hr⟩
  have HR := hid hr
  clear hr
  go_wp2_with fail
  go_ret
  exact ⟨ret_bool HR.out, rfl⟩

theorem box_row (w : World) (v : Value) (t : TypeId) : (w.alloc (.cells #[v] t)).rowIs w.heap.size t 1 (fun _ => v) :=
  World.rowIs_alloc w #[v] t (fun _ => v) (fun i hi => by
    match i, hi with
    | 0, _ => rfl
    | i + 1, hi => exact absurd (show i + 1 < 1 from hi) (by omega))

/-- What New answers where it refuses. -/
def Refused (w : World) (x : Int) (e : Ending) (w' : World) : Prop := e = .returned (.tuple #[.pointer none, .int .i64 x]) ∧ Below w.heap.size w w'

set_option maxHeartbeats 400000 in
theorem new_badW (z : Int) (v : Value) (w : World) (h : isWd z = false) :
    Calls Try.prog 13 #[.int .i64 z, v] w (Refused w 2) := by
  have H := hid h
  clear h
  go_enter Try.func13, Try.ntmps13
  go_wp2_with (go_at_call 41; refine (isWidth_any z _).mono ?_; rintro e w' ⟨rfl, rfl⟩; rw [H.out])
  go_ret2
  exact ⟨rfl, (Below.refl _ _).alloc (Nat.le_refl _) _⟩
set_option maxHeartbeats 400000 in
theorem new_badN (wd cap : Nat) (A : Option Addr) (zs : List Int) (w : World) (h1 : 1 ≤ wd) (h2 : wd ≤ 60) (hz : RdI w A zs) (hl : zs.length ≤ 9223372036854775807) (hi : Ints zs) (hb : zs.any (badN wd) = true) :
    Calls Try.prog 13 #[.int .i64 (wd : Int), .slice A zs.length cap] w (Refused w 2) := by
  have hrow := box_row w (.int .i64 (wd : Int)) 3
  have hcon := containsBad_any w.heap.size wd cap A zs _ (hrow.cell (i := 0) (by omega)) (by omega) (hz.below ((Below.refl _ w).alloc (Nat.le_refl _) _)) hl hi
  rw [hb] at hcon
  have HC := hid hcon
  have H : Hid (isWd (wd : Int) = true) := hid (isWd_iff.2 ⟨by omega, by omega⟩)
  clear hrow hcon hz hi hb hl
  generalize zs.length = N at HC ⊢
  go_enter Try.func13, Try.ntmps13
  go_wp2_with (first | (go_at_call 41; refine (isWidth_any _ _).mono ?_; rintro e w' ⟨rfl, rfl⟩; rw [H.out]) | (go_at_call 42; refine HC.out.mono ?_; rintro e w' ⟨rfl, rfl⟩))
  go_ret2
  exact ⟨rfl, (Below.refl _ _).alloc (Nat.le_refl _) _⟩
set_option maxHeartbeats 400000 in
theorem new_long (wd cap : Nat) (A : Option Addr) (zs : List Int) (w : World) (h1 : 1 ≤ wd) (h2 : wd ≤ 60) (hz : RdI w A zs) (hl : zs.length ≤ 9223372036854775807) (hi : Ints zs) (hb : zs.any (badN wd) = false) (hm : 16777216 < wd * zs.length) :
    Calls Try.prog 13 #[.int .i64 (wd : Int), .slice A zs.length cap] w (Refused w 3) := by
  have hrow := box_row w (.int .i64 (wd : Int)) 3
  have hcon := containsBad_any w.heap.size wd cap A zs _ (hrow.cell (i := 0) (by omega)) (by omega) (hz.below ((Below.refl _ w).alloc (Nat.le_refl _) _)) hl hi
  rw [hb] at hcon
  have HC := hid hcon
  have H : Hid (isWd (wd : Int) = true) := hid (isWd_iff.2 ⟨by omega, by omega⟩)
  have HT : Hid (decide ((16777216 : Int) / (wd : Int) < (zs.length : Int)) = true) := hid (decide_eq_true (Classical.byContradiction fun hh => by have := (many_iff h1).1 hh; omega))
  clear hrow hcon hz hi hb hl hm
  generalize zs.length = N at HC HT ⊢
  go_enter Try.func13, Try.ntmps13
  go_wp2_with (first | (go_at_call 41; refine (isWidth_any _ _).mono ?_; rintro e w' ⟨rfl, rfl⟩; rw [H.out]) | (go_at_call 42; refine HC.out.mono ?_; rintro e w' ⟨rfl, rfl⟩) | (go_at_call 44; refine (tooMany_any _ _ _ (by omega) (by omega)).mono ?_; rintro e w' ⟨rfl, rfl⟩; rw [HT.out]))
  go_ret2
  exact ⟨rfl, (Below.refl _ _).alloc (Nat.le_refl _) _⟩

def zl (zs : List Int) (k : Nat) : Nat := (zs.getD k 0).toNat
theorem good_zl {wd : Nat} {zs : List Int} (hb : zs.any (badN wd) = false) {k : Nat} (hk : k < zs.length) : zs.getD k 0 = ((zl zs k : Nat) : Int) ∧ zl zs k < 2 ^ wd := by
  have h := List.any_eq_false.1 hb _ (getD_mem hk)
  have h2 : good wd (zs.getD k 0) = true := by unfold badN at h; simpa using h
  have h3 := good_nat.1 h2
  exact ⟨(Int.toNat_of_nonneg h3.1).symm, h3.2⟩

set_option maxHeartbeats 2000000 in
theorem new_ok (wd cap : Nat) (A : Option Addr) (zs : List Int) (w : World) (h1 : 1 ≤ wd) (h2 : wd ≤ 60) (hz : RdI w A zs) (hi : Ints zs) (hb : zs.any (badN wd) = false) (hm : wd * zs.length ≤ 16777216) :
    Calls Try.prog 13 #[.int .i64 (wd : Int), .slice A zs.length cap] w (Made w wd zs.length (fS wd (zl zs) zs.length)) := by
  have hrow := box_row w (.int .i64 (wd : Int)) 3
  have hal : Below w.heap.size w (w.alloc (.cells #[.int .i64 (wd : Int)] 3)) := (Below.refl _ w).alloc (Nat.le_refl _) _
  have hN2 : zs.length ≤ 16777216 := Nat.le_trans (Nat.le_mul_of_pos_left _ h1) hm
  have hcon := containsBad_any w.heap.size wd cap A zs _ (hrow.cell (i := 0) (by omega)) (by omega) (hz.below hal) (by omega) hi
  rw [hb] at hcon
  have HC := hid hcon
  have H : Hid (isWd (wd : Int) = true) := hid (isWd_iff.2 ⟨by omega, by omega⟩)
  have HT : Hid (decide ((16777216 : Int) / (wd : Int) < (zs.length : Int)) = false) := hid (decide_eq_false ((many_iff h1).2 hm))
  have HG := hid (fun k hk => good_zl hb (k := k) hk)
  have HZ := hid hz
  have HM := hid hm
  have HR := hid hrow
  have HA := hid hal
  clear hrow hcon hz hi hb hm hal
  obtain ⟨N, hN⟩ : ∃ N, N = zs.length := ⟨_, rfl⟩
  rw [← hN] at hN2 HC HT HM ⊢
  have HN := hid hN
  clear hN
  go_enter Try.func13, Try.ntmps13
  go_wp2_with (first | (go_at_call 41; refine (isWidth_any _ _).mono ?_; rintro e w' ⟨rfl, rfl⟩; rw [H.out]) | (go_at_call 42; refine HC.out.mono ?_; rintro e w' ⟨rfl, rfl⟩) | (go_at_call 44; refine (tooMany_any _ _ _ (by omega) (by omega)).mono ?_; rintro e w' ⟨rfl, rfl⟩; rw [HT.out]) | (go_at_call 45; refine (blank_any wd N _ HM.out).mono ?_; rintro e w1 ⟨g, gw, rfl, HB⟩; have c3 := HB.out.self.cell (i := 3) (by omega); simp only [rcell] at c3))
  clear c3 HC HT
  obtain ⟨w0, hw0⟩ : ∃ w0, w0 = w.alloc (.cells #[.int .i64 (wd : Int)] 3) := ⟨_, rfl⟩
  rw [← hw0] at HB HR HA
  clear hw0
  go_loopw [28] (fun s wr => ∃ k : Nat, k ≤ N ∧ s = .int .i64 k ∧ Hid (IsBl w0 wr g gw wd N (fS wd (zl zs) k))) (fun s _ => N - (intOf s).toNat)
  case atStart => exact ⟨0, by omega, rfl, by rw [fS_zero]; exact HB⟩
  case round =>
    obtain ⟨k, hk, rfl, HI⟩ := hrel
    clear HB
    by_cases hp : k < N
    · have hlt : k < zs.length := by rw [← HN.out]; exact hp
      obtain ⟨b, off, hAe, hc0, hlt0⟩ := (HZ.out.below HA.out).at hlt
      have hc := (HI.out.only.cell (p := ⟨b, off + k, none⟩) hlt0 no_).trans hc0
      obtain ⟨hg1, hg2⟩ := HG.out k hlt
      unfold vI at hc
      rw [hg1] at hc
      have HK : Hid (∀ w', Only (fun _ => False) w0 w' → w'.cell? ⟨b, off + k, none⟩ = some (.int .i64 ((zl zs k : Nat) : Int))) := hid fun w' ho => by rw [ho.cell (p := ⟨b, off + k, none⟩) hlt0 no_, hc0]; unfold vI; rw [hg1]
      subst hAe
      clear hlt hc0 hlt0 hg1
      have hbox := (HI.out.only.row HR.out no_).cell (i := 0) (by omega)
      have hr0 := HI.out.self.cell (i := 0) (by omega)
      simp only [rcell] at hr0
      have hfit := mul_fit (wd := wd) hp
      have hm := HM.out
      have hw : IntKind.i64.wrap ((k : Int) * (wd : Int)) = ((k * wd : Nat) : Int) := by rw [show (k : Int) * (wd : Int) = ((k * wd : Nat) : Int) by simp, IntKind.wrap_i64]; omega
      have HP : Hid (∀ d, Calls Try.prog 46 #[.slice (some ⟨gw, 0, none⟩) (nw (wd * N)) (nw (wd * N)), .int .i64 ((k : Int) * (wd : Int)), .int .i64 (wd : Int), .int .i64 ((zl zs k : Nat) : Int)] (wr.drewN d) fun e w' => e = .returned (.tuple #[]) ∧ Hid (IsBl w0 w' g gw wd N (fS wd (zl zs) (k + 1)))) := hid fun d => by
        rw [show (k : Int) * (wd : Int) = ((k * wd : Nat) : Int) by simp]
        refine (put_any (f := fS wd (zl zs) k) (rowIs_drewN HI.out.words d) h1 h2 (nw_fit hfit) (by omega) hg2).mono ?_
        rintro e w' ⟨rfl, hp⟩
        refine ⟨rfl, hid ?_⟩
        rw [fS_step h1 hg2, Nat.mul_comm wd k]
        exact (HI.out.drewN d).put hp.out
      clear hg2 hfit hm
      generalize zl zs k = y at hc HP HK
      go_wp2
      go_region_held3 (fun w' => w'.cell? ⟨w.heap.size, 0, none⟩ = some (.int .i64 (wd : Int)) ∧ w'.cell? ⟨g, 0, none⟩ = some (.slice (some ⟨gw, 0, none⟩) (nw (wd * N)) (nw (wd * N))) ∧ w'.cell? ⟨b, off + k, none⟩ = some (.int .i64 (y : Int)))
        (first | go_keep | exact ⟨(HI2.out.only.row HR.out no_).cell (i := 0) (by omega), HI2.out.self.cell (i := 0) (by omega), HK.out _ HI2.out.only⟩) (first | (go_at_call 46; refine (HP.out 1).mono ?_; rintro e w2 ⟨rfl, HI2⟩))
      go_wp2
      go_roundw
      case rel => exact ⟨k + 1, by omega, by go_num, HI2⟩
      case measure => simp [intOf]; omega
    · obtain rfl : k = N := by omega
      go_wp2
      go_ret2
      exact ⟨g, gw, rfl, HI.out.row h1 h2 HM.out (fun i hi => fS_far hi), by have := HI.out.newg; have := HA.out.size; omega, by have := HI.out.neww; have := HA.out.size; omega, HA.out.trans ((HI.out.only.to_below (B := w.heap.size) (fun _ h => h.elim) HA.out.size))⟩
end Go.Proofs.Ytimkclmaglofaaa
