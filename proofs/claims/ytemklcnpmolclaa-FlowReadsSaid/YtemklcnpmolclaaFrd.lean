/- FlowReads, walked. -/
import Derived.Test.YtemklcnpmolclaaRqA
import Derived.Test.YtemklcnpmolclaaFd
import Derived.Deep.RegionHeld3
namespace Go.Proofs.Ytemklcnpmolclaa
open Go.RowKit

theorem IsRd.len {B g gb : Nat} {w : World} {e : Int} {f : Nat → Bool} {n m a : Nat} (h : IsRd B w g gb e f n a) (hn : n = m) : IsRd B w g gb e f m a := by subst hn; exact h
theorem hrow_len {w : World} {g n m cap a : Nat} {t : TypeId} {A : Option Addr} (h : w.rowIs g t 3 (rrcl A n cap a false)) (hn : n = m) : w.rowIs g t 3 (rrcl A m cap a false) := by subst hn; exact h
/-- Both readers, each where it stands. -/
structure Rs (w0 W : World) (r gb q : Nat) (A : Option Addr) (cap : Nat) (xs : List Bool) (s t : Int × Nat) : Prop where
  rd : IsRd w0.heap.size W r gb s.1 (bf xs) xs.length s.2
  rr : IsRR w0.heap.size W q A cap xs t.2 (badOf t.1)
  bel : Below w0.heap.size w0 W
section
variable {w0 W W' : World} {r gb q cap : Nat} {A : Option Addr} {xs : List Bool} {s t : Int × Nat}
theorem Rs.below (h : Rs w0 W r gb q A cap xs s t) (o : Below W.heap.size W W') : Rs w0 W' r gb q A cap xs s t := ⟨h.rd.below o, h.rr.same (Only.of_below o _), h.bel.trans (o.mono h.bel.size)⟩
theorem Rs.drewN (h : Rs w0 W r gb q A cap xs s t) (k : Nat) : Rs w0 (W.drewN k) r gb q A cap xs s t := h.below ((quiet_only ⟨_, rfl⟩).to_below (fun _ h => h.elim) (Nat.le_refl _))
theorem Rs.drew (h : Rs w0 W r gb q A cap xs s t) : Rs w0 W.drew r gb q A cap xs s t := h.drewN 1
theorem Rs.stepR (h : Rs w0 W r gb q A cap xs s t) {s2 : Int × Nat} (hr : IsRd w0.heap.size W' r gb s2.1 (bf xs) xs.length s2.2) (o : FrT TR w0.heap.size W W') : Rs w0 W' r gb q A cap xs s2 t :=
  ⟨hr, h.rr.ty o (by unfold TR; decide), h.bel.trans (o.below h.bel.size)⟩
theorem Rs.stepQ (h : Rs w0 W r gb q A cap xs s t) {t2 : Int × Nat} (hr : IsRR w0.heap.size W' q A cap xs t2.2 (badOf t2.1)) (o : FrT TQ w0.heap.size W W') : Rs w0 W' r gb q A cap xs s t2 :=
  ⟨h.rd.ty o (by unfold TQ; decide) (by unfold TQ; decide), hr, h.bel.trans (o.below h.bel.size)⟩
theorem Rs.num (h : Rs w0 W r gb q A cap xs s t) (z : Int) : Calls Try.prog 30 #[.pointer (some ⟨r, 0, none⟩), .int .i64 z] W fun e' W' => e' = .returned (.int .i64 (numR (bf xs) xs.length s z).1) ∧ Hid (Rs w0 W' r gb q A cap xs (numR (bf xs) xs.length s z).2 t) :=
  (rnum_any z h.rd).mono fun _ _ hh => ⟨hh.1, hid (h.stepR hh.2.out.1 hh.2.out.2)⟩
theorem Rs.qnum (h : Rs w0 W r gb q A cap xs s t) (z : Int) : Calls Try.prog 31 #[.pointer (some ⟨q, 0, none⟩), .int .i64 z] W fun e' W' => e' = .returned (.int .i64 (numR (bf xs) xs.length t z).1) ∧ Hid (Rs w0 W' r gb q A cap xs s (numR (bf xs) xs.length t z).2) :=
  (qnum_any z h.rr).mono fun _ _ hh => ⟨hh.1, hid (h.stepQ hh.2.out.1 hh.2.out.2)⟩
theorem Rs.next (h : Rs w0 W r gb q A cap xs s t) : Calls Try.prog 28 #[.pointer (some ⟨r, 0, none⟩)] W fun e' W' => e' = .returned (.bool ((numR (bf xs) xs.length s 1).1 == 1)) ∧ Hid (Rs w0 W' r gb q A cap xs (numR (bf xs) xs.length s 1).2 t) :=
  (rnext_any h.rd).mono fun _ _ hh => ⟨hh.1, hid (h.stepR hh.2.out.1 hh.2.out.2)⟩
theorem Rs.qnext (h : Rs w0 W r gb q A cap xs s t) : Calls Try.prog 29 #[.pointer (some ⟨q, 0, none⟩)] W fun e' W' => e' = .returned (.bool ((numR (bf xs) xs.length t 1).1 == 1)) ∧ Hid (Rs w0 W' r gb q A cap xs s (numR (bf xs) xs.length t 1).2) :=
  (qnext_any h.rr).mono fun _ _ hh => ⟨hh.1, hid (h.stepQ hh.2.out.1 hh.2.out.2)⟩
theorem Rs.gam (h : Rs w0 W r gb q A cap xs s t) : Calls Try.prog 32 #[.pointer (some ⟨r, 0, none⟩)] W fun e' W' => e' = .returned (.int .i64 (gamR (bf xs) xs.length s).1) ∧ Hid (Rs w0 W' r gb q A cap xs (gamR (bf xs) xs.length s).2 t) :=
  (rgam_any h.rd).mono fun _ _ hh => ⟨hh.1, hid (h.stepR hh.2.out.1 hh.2.out.2)⟩
theorem Rs.qgam (h : Rs w0 W r gb q A cap xs s t) : Calls Try.prog 33 #[.pointer (some ⟨q, 0, none⟩)] W fun e' W' => e' = .returned (.int .i64 (gamR (bf xs) xs.length t).1) ∧ Hid (Rs w0 W' r gb q A cap xs s (gamR (bf xs) xs.length t).2) :=
  (qgam_any h.rr).mono fun _ _ hh => ⟨hh.1, hid (h.stepQ hh.2.out.1 hh.2.out.2)⟩
end
def E04 (e : Int) : Prop := e = 0 ∨ e = 4
theorem takeR_e (f : Nat → Bool) (n a k : Nat) (z : Int) : E04 (takeR f n a k z).2.1 := by
  unfold takeR
  split
  · exact .inr rfl
  · exact .inl rfl
theorem numR_e (f : Nat → Bool) (n : Nat) {s : Int × Nat} (z : Int) (h : E04 s.1) : E04 (numR f n s z).2.1 := by
  unfold numR
  split
  · exact h
  · exact takeR_e _ _ _ _ _
theorem gamR_e (f : Nat → Bool) (n : Nat) {s : Int × Nat} (h : E04 s.1) : E04 (gamR f n s).2.1 := by
  unfold gamR
  split
  · exact h
  · exact takeR_e _ _ _ _ _
theorem rdB_v1 {w : World} {A : Option Addr} {xs : List Bool} (h : RdB w A xs) : V1.RdB w A xs := fun j hj => h (by omega)

set_option maxRecDepth 100000 in
set_option maxHeartbeats 2000000 in
theorem flowReads_long {A C : Option Addr} {n cap N ccap : Nat} {at_ : Int} {d : Nat → Dd} {w : World} (hd : DsIn w C N d) (hN : N ≤ 140737488355328) (hn : n ≤ 140737488355328) (hc : ¬ (Few N d ∧ n ≤ 600)) :
    Calls Try.prog 4 #[.slice A n cap, .int .i64 at_, .slice C N ccap] w fun e' w' => e' = .returned (.bool true) ∧ Hid (Below w.heap.size w w') := by
  have HS := hid (size_any (cap := ccap) hd hN)
  have HC := hid hc
  clear hd hc
  go_enter Try.func4, Try.ntmps4
  go_wp2_with fail
  refine HS.out.mono ?_
  rintro e' w1 ⟨s, rfl, hq, hs, hfew⟩
  have hgt : (600 : Int) < (s : Int) + (n : Int) := by
    by_cases h : s ≤ 600
    · by_cases h2 : n ≤ 600
      · exact absurd ⟨hfew h, h2⟩ HC.out
      · omega
    · omega
  have HB := hid ((quiet_only hq).to_below (fun _ h => h.elim) (Nat.le_refl _))
  clear hq hfew
  go_wp2_with fail
  refine (awake_any w1).mono ?_
  rintro e' w2 ⟨rfl, h2⟩
  go_wp2_with fail
  go_ret
  exact ⟨rfl, hid (HB.out.trans (h2.out.mono HB.out.size))⟩

set_option maxRecDepth 100000 in
set_option maxHeartbeats 8000000 in
theorem flowReads_any {A C : Option Addr} {cap N ccap : Nat} {xs : List Bool} {at_ : Int} {d : Nat → Dd} {w : World} (hd : DsIn w C N d) (hF : Few N d) (hx : RdB w A xs) (hA : A = none → xs.length = 0 ∧ cap = 0) (hcap : xs.length ≤ cap) (hl : xs.length ≤ 600) :
    Calls Try.prog 4 #[.slice A xs.length cap, .int .i64 at_, .slice C N ccap] w fun e' w' => e' = .returned (.bool true) ∧ Hid (Below w.heap.size w w') := by
  have HD := hid hd
  have HF := hid hF
  have HX := hid hx
  have HA := hid hA
  have hN := hF.1
  have HS := hid (size_any (cap := ccap) hd (by omega))
  clear hd hF hx hA
  obtain ⟨n, hn⟩ : ∃ n, n = xs.length := ⟨_, rfl⟩
  rw [← hn] at hcap hl ⊢
  have Hn := hid hn
  clear hn
  go_enter Try.func4, Try.ntmps4
  go_wp2_with fail
  refine HS.out.mono ?_
  rintro e' w1 ⟨sz, rfl, hq, hs, _⟩
  have HB1 := hid ((quiet_only hq).to_below (fun _ h => h.elim) (Nat.le_refl _))
  clear hq
  by_cases hgt : (600 : Int) < (sz : Int) + (n : Int)
  · go_wp2_with fail
    refine (awake_any w1).mono ?_
    rintro e' w2 ⟨rfl, h2⟩
    go_wp2_with fail
    go_ret
    exact ⟨rfl, hid (HB1.out.trans (h2.out.mono HB1.out.size))⟩
  · have HOf := hid (V1.of_ok A cap xs w1 (rdB_v1 (HX.out.below HB1.out)) (by rw [← Hn.out]; omega))
    rw [← Hn.out] at HOf
    go_wp2_with fail
    refine HOf.out.mono ?_
    rintro e' w2 ⟨g1, gs1, gw1, rfl, hv, hg, hgs, hgw, hb⟩
    have HV : Hid (VecB w.heap.size w2 g1 gs1 gw1 n (bf xs) ∧ Below w.heap.size w w2) := hid ⟨⟨hv, by have := HB1.out.size; omega⟩, HB1.out.trans (hb.mono HB1.out.size)⟩
    clear hv hg hgs hgw hb HOf
    by_cases hr : at_ < 0 ∨ (n : Int) < at_
    · go_wp2_with fail
      refine (newReader_bad HV.out.1 hr).mono ?_
      rintro e' w3 ⟨rfl, h3⟩
      have HB3 := hid (HV.out.2.trans (h3.out.2.below HV.out.2.size))
      clear h3 HV
      by_cases h0 : at_ < 0
      · clear hr
        go_wp2_with fail
        refine (awake_any w3).mono ?_
        rintro e' w4 ⟨rfl, h4⟩
        go_wp2_with fail
        go_ret
        exact ⟨rfl, hid (HB3.out.trans (h4.out.mono HB3.out.size))⟩
      · have h1 : (n : Int) < at_ := by omega
        clear hr
        go_wp2_with fail
        refine (awake_any w3).mono ?_
        rintro e' w4 ⟨rfl, h4⟩
        go_wp2_with fail
        go_ret
        exact ⟨rfl, hid (HB3.out.trans (h4.out.mono HB3.out.size))⟩
    · obtain ⟨a, rfl⟩ := Int.eq_ofNat_of_zero_le (a := at_) (by omega)
      have han : a ≤ n := by omega
      have hr1 : ¬ (a : Int) < 0 := by omega
      have hr2 : ¬ (n : Int) < (a : Int) := by omega
      have hr3 : decide (n < a) = false := decide_eq_false (by omega)
      have hr4 : decide ((a : Int) < 0) = false := decide_eq_false (by omega)
      have hr5 : decide ((n : Int) < (a : Int)) = false := decide_eq_false (by omega)
      clear hr
      go_wp2_with fail
      refine (newReader_ok (a := a) HV.out.1 HV.out.2.size han).mono ?_
      rintro e' w3 ⟨r, gb, rfl, h3⟩
      have HB3 := hid (HV.out.2.trans (h3.out.2.2.1.below HV.out.2.size))
      have hrow := World.rowIs_alloc w3 #[.slice A n cap, .int .i64 (a : Int), .bool false] 61 (rrcl A n cap a false) (fun i hi => by
        match i, hi with
        | 0, _ => rfl
        | 1, _ => rfl
        | 2, _ => rfl
        | i + 3, hi => exact absurd (show i + 3 < 3 from hi) (by omega))
      have HI0 : Hid (Rs w (w3.alloc (Obj.cells #[.slice A n cap, .int .i64 (a : Int), .bool false] 61)) r gb w3.heap.size A cap xs (0, a) (0, a)) := hid (by
        have o : Only (fun _ => False) w3 (w3.alloc (Obj.cells #[.slice A n cap, .int .i64 (a : Int), .bool false] 61)) := (Only.refl _ w3).alloc _
        have ob := o.to_below (B := w.heap.size) (fun _ h => h.elim) HB3.out.size
        refine ⟨(h3.out.1.same o).len Hn.out, ⟨by rw [← Hn.out]; omega, by rw [← Hn.out]; exact han, by rw [← Hn.out]; exact hcap, hrow_len hrow Hn.out, HX.out.below (HB3.out.trans ob), fun b off e h0 => ?_, HA.out, HB3.out.size⟩, HB3.out.trans ob⟩
        obtain ⟨b', off', e', hc, hlt⟩ := HX.out.at h0
        rw [e'] at e
        injection e with e
        injection e with e
        omega)
      have HE0 : Hid (E04 0) := hid (.inl rfl)
      clear h3 HV hrow
      go_wp2_with fail
      go_loopw [12] (fun s wr => ∃ i : Nat, i ≤ N ∧ s = .int .i64 (i : Int) ∧ Hid (∃ s : Int × Nat, E04 s.1 ∧ Rs w wr r gb w3.heap.size A cap xs s s)) (fun s _ => N - (intOf s).toNat)
      case atStart => exact ⟨0, by omega, rfl, hid ⟨(0, a), HE0.out, HI0.out⟩⟩
      case round =>
        obtain ⟨i, hi, rfl, HI⟩ := hrel
        obtain ⟨s, hE, hI⟩ := HI.out
        have HE := hid hE
        have HI2 := hid hI
        clear HI hE hI HI0 HE0
        by_cases hp : i < N
        · obtain ⟨b, off, hC, hk0, hk1, hk2, hk3⟩ := HD.out.cells i hp
          have HC := hid (And.intro hk0 hk1)
          have HCW : Hid (∀ W, Below w.heap.size w W → W.cell? ⟨b, off + i * 4, none⟩ = some (.int .i64 (d i).what) ∧ W.cell? ⟨b, off + i * 4 + 1, none⟩ = some (.int .i64 (d i).width)) := hid fun W o =>
            ⟨by rw [o.cell (cell_lt HC.out.1), HC.out.1], by rw [o.cell (cell_lt HC.out.2), HC.out.2]⟩
          obtain ⟨k0, k1⟩ := HCW.out wr HI2.out.bel
          subst hC
          clear hk0 hk1 hk2 hk3 HC
          have HPk : Hid (∀ W : World, Calls Try.prog 11 #[.int .i64 (d i).what, .int .i64 3] W fun e w' => e = .returned (.int .i64 ((d i).what % 3)) ∧ W = w') := hid fun W => pickM (d i).what 3 W (by omega) (by omega) (HD.out.what i hp).1 (HD.out.what i hp).2
          have hm := Int.emod_nonneg (d i).what (show (3 : Int) ≠ 0 by omega)
          have hm2 := Int.emod_lt_of_pos (d i).what (show (0 : Int) < 3 by omega)
          generalize (d i).what % 3 = m at HPk hm hm2
          have hc : m = 0 ∨ m = 1 ∨ m = 2 := by omega
          clear hm hm2
          go_wp2_with fail
          refine (HPk.out _).mono ?_
          rintro e' w4 ⟨rfl, rfl⟩
          rcases hc with rfl | rfl | rfl
          · go_wp2_with fail
            refine HI2.out.next.mono ?_
            rintro e' w5 ⟨rfl, h5⟩
            go_wp2_with fail
            refine h5.out.qnext.mono ?_
            rintro e' w6 ⟨rfl, h6⟩
            have HE2 := hid (numR_e (bf xs) xs.length 1 HE.out)
            clear h5
            generalize numR (bf xs) xs.length s 1 = u at h6 HE2 ⊢
            obtain ⟨u1, u2, u3⟩ := u
            have hu : u2 = 0 ∨ u2 = 4 := HE2.out
            have HR6 : Hid (Rs w w6 r gb w3.heap.size A cap xs (u2, u3) (u2, u3)) := h6
            clear h6 HI2
            rcases hu with rfl | rfl
            · have HAt : Hid (∀ k, Calls Try.prog 34 #[.pointer (some ⟨r, 0, none⟩)] (w6.drewN k) fun e' w' => e' = .returned (.int .i64 ((u3 : Nat) : Int)) ∧ w6.drewN k = w') := hid fun k => rat_any (HR6.out.drewN k).rd (show (0 : Int) ≠ 1 by decide)
              have HEr : Hid (∀ k, Calls Try.prog 35 #[.pointer (some ⟨r, 0, none⟩)] (w6.drewN k) fun e' w' => e' = .returned (.int .i64 0) ∧ w6.drewN k = w') := hid fun k => rerr_any (HR6.out.drewN k).rd
              have c1 : w6.cell? ⟨w3.heap.size, 1, none⟩ = some (.int .i64 ((u3 : Nat) : Int)) := HR6.out.rr.cells.2.1
              have c2 : w6.cell? ⟨w3.heap.size, 2, none⟩ = some (.bool false) := HR6.out.rr.cells.2.2
              go_wp2_with fail
              go_quiet ((first | (go_at_call 34; exact quiet_left (HAt.out _)) | (go_at_call 35; exact quiet_left (HEr.out _))))
              go_wp2_with fail
              go_roundw
              case rel => exact ⟨i + 1, by omega, by go_num, hid ⟨_, HE2.out, HR6.out.drewN _⟩⟩
              case measure => simp [intOf]; omega
            · have HAt : Hid (∀ k, Calls Try.prog 34 #[.pointer (some ⟨r, 0, none⟩)] (w6.drewN k) fun e' w' => e' = .returned (.int .i64 ((u3 : Nat) : Int)) ∧ w6.drewN k = w') := hid fun k => rat_any (HR6.out.drewN k).rd (show (4 : Int) ≠ 1 by decide)
              have HEr : Hid (∀ k, Calls Try.prog 35 #[.pointer (some ⟨r, 0, none⟩)] (w6.drewN k) fun e' w' => e' = .returned (.int .i64 4) ∧ w6.drewN k = w') := hid fun k => rerr_any (HR6.out.drewN k).rd
              have c1 : w6.cell? ⟨w3.heap.size, 1, none⟩ = some (.int .i64 ((u3 : Nat) : Int)) := HR6.out.rr.cells.2.1
              have c2 : w6.cell? ⟨w3.heap.size, 2, none⟩ = some (.bool true) := HR6.out.rr.cells.2.2
              go_wp2_with fail
              go_quiet ((first | (go_at_call 34; exact quiet_left (HAt.out _)) | (go_at_call 35; exact quiet_left (HEr.out _))))
              go_wp2_with fail
              go_roundw
              case rel => exact ⟨i + 1, by omega, by go_num, hid ⟨_, HE2.out, HR6.out.drewN _⟩⟩
              case measure => simp [intOf]; omega

          · go_wp2_with fail
            go_region_held3 (fun w' => w'.cell? ⟨b, off + i * 4 + 1, none⟩ = some (.int .i64 (d i).width))
              (first | assumption | exact (HCW.out _ h5.out.bel).2 | exact (HCW.out _ h6.out.bel).2 | exact (HCW.out _ HI2.out.drew.bel).2)
              (first
                | (go_at_call 30; refine (HI2.out.drew.num (d i).width).mono ?_; rintro e' w5 ⟨rfl, h5⟩)
                | (go_at_call 31; refine (h5.out.qnum (d i).width).mono ?_; rintro e' w6 ⟨rfl, h6⟩))
            have HE2 := hid (numR_e (bf xs) xs.length (d i).width HE.out)
            clear h5
            generalize numR (bf xs) xs.length s (d i).width = u at h6 HE2 ⊢
            obtain ⟨u1, u2, u3⟩ := u
            have hu : u2 = 0 ∨ u2 = 4 := HE2.out
            have HR6 : Hid (Rs w w6 r gb w3.heap.size A cap xs (u2, u3) (u2, u3)) := h6
            clear h6 HI2
            rcases hu with rfl | rfl
            · have HAt : Hid (∀ k, Calls Try.prog 34 #[.pointer (some ⟨r, 0, none⟩)] (w6.drewN k) fun e' w' => e' = .returned (.int .i64 ((u3 : Nat) : Int)) ∧ w6.drewN k = w') := hid fun k => rat_any (HR6.out.drewN k).rd (show (0 : Int) ≠ 1 by decide)
              have HEr : Hid (∀ k, Calls Try.prog 35 #[.pointer (some ⟨r, 0, none⟩)] (w6.drewN k) fun e' w' => e' = .returned (.int .i64 0) ∧ w6.drewN k = w') := hid fun k => rerr_any (HR6.out.drewN k).rd
              have c1 : w6.cell? ⟨w3.heap.size, 1, none⟩ = some (.int .i64 ((u3 : Nat) : Int)) := HR6.out.rr.cells.2.1
              have c2 : w6.cell? ⟨w3.heap.size, 2, none⟩ = some (.bool false) := HR6.out.rr.cells.2.2
              go_wp2_with fail
              go_quiet ((first | (go_at_call 34; exact quiet_left (HAt.out _)) | (go_at_call 35; exact quiet_left (HEr.out _))))
              go_wp2_with fail
              go_roundw
              case rel => exact ⟨i + 1, by omega, by go_num, hid ⟨_, HE2.out, HR6.out.drewN _⟩⟩
              case measure => simp [intOf]; omega
            · have HAt : Hid (∀ k, Calls Try.prog 34 #[.pointer (some ⟨r, 0, none⟩)] (w6.drewN k) fun e' w' => e' = .returned (.int .i64 ((u3 : Nat) : Int)) ∧ w6.drewN k = w') := hid fun k => rat_any (HR6.out.drewN k).rd (show (4 : Int) ≠ 1 by decide)
              have HEr : Hid (∀ k, Calls Try.prog 35 #[.pointer (some ⟨r, 0, none⟩)] (w6.drewN k) fun e' w' => e' = .returned (.int .i64 4) ∧ w6.drewN k = w') := hid fun k => rerr_any (HR6.out.drewN k).rd
              have c1 : w6.cell? ⟨w3.heap.size, 1, none⟩ = some (.int .i64 ((u3 : Nat) : Int)) := HR6.out.rr.cells.2.1
              have c2 : w6.cell? ⟨w3.heap.size, 2, none⟩ = some (.bool true) := HR6.out.rr.cells.2.2
              go_wp2_with fail
              go_quiet ((first | (go_at_call 34; exact quiet_left (HAt.out _)) | (go_at_call 35; exact quiet_left (HEr.out _))))
              go_wp2_with fail
              go_roundw
              case rel => exact ⟨i + 1, by omega, by go_num, hid ⟨_, HE2.out, HR6.out.drewN _⟩⟩
              case measure => simp [intOf]; omega

          · go_wp2_with fail
            refine HI2.out.gam.mono ?_
            rintro e' w5 ⟨rfl, h5⟩
            go_wp2_with fail
            refine h5.out.qgam.mono ?_
            rintro e' w6 ⟨rfl, h6⟩
            have HE2 := hid (gamR_e (bf xs) xs.length HE.out)
            clear h5
            generalize gamR (bf xs) xs.length s = u at h6 HE2 ⊢
            obtain ⟨u1, u2, u3⟩ := u
            have hu : u2 = 0 ∨ u2 = 4 := HE2.out
            have HR6 : Hid (Rs w w6 r gb w3.heap.size A cap xs (u2, u3) (u2, u3)) := h6
            clear h6 HI2
            rcases hu with rfl | rfl
            · have HAt : Hid (∀ k, Calls Try.prog 34 #[.pointer (some ⟨r, 0, none⟩)] (w6.drewN k) fun e' w' => e' = .returned (.int .i64 ((u3 : Nat) : Int)) ∧ w6.drewN k = w') := hid fun k => rat_any (HR6.out.drewN k).rd (show (0 : Int) ≠ 1 by decide)
              have HEr : Hid (∀ k, Calls Try.prog 35 #[.pointer (some ⟨r, 0, none⟩)] (w6.drewN k) fun e' w' => e' = .returned (.int .i64 0) ∧ w6.drewN k = w') := hid fun k => rerr_any (HR6.out.drewN k).rd
              have c1 : w6.cell? ⟨w3.heap.size, 1, none⟩ = some (.int .i64 ((u3 : Nat) : Int)) := HR6.out.rr.cells.2.1
              have c2 : w6.cell? ⟨w3.heap.size, 2, none⟩ = some (.bool false) := HR6.out.rr.cells.2.2
              go_wp2_with fail
              go_quiet ((first | (go_at_call 34; exact quiet_left (HAt.out _)) | (go_at_call 35; exact quiet_left (HEr.out _))))
              go_wp2_with fail
              go_roundw
              case rel => exact ⟨i + 1, by omega, by go_num, hid ⟨_, HE2.out, HR6.out.drewN _⟩⟩
              case measure => simp [intOf]; omega
            · have HAt : Hid (∀ k, Calls Try.prog 34 #[.pointer (some ⟨r, 0, none⟩)] (w6.drewN k) fun e' w' => e' = .returned (.int .i64 ((u3 : Nat) : Int)) ∧ w6.drewN k = w') := hid fun k => rat_any (HR6.out.drewN k).rd (show (4 : Int) ≠ 1 by decide)
              have HEr : Hid (∀ k, Calls Try.prog 35 #[.pointer (some ⟨r, 0, none⟩)] (w6.drewN k) fun e' w' => e' = .returned (.int .i64 4) ∧ w6.drewN k = w') := hid fun k => rerr_any (HR6.out.drewN k).rd
              have c1 : w6.cell? ⟨w3.heap.size, 1, none⟩ = some (.int .i64 ((u3 : Nat) : Int)) := HR6.out.rr.cells.2.1
              have c2 : w6.cell? ⟨w3.heap.size, 2, none⟩ = some (.bool true) := HR6.out.rr.cells.2.2
              go_wp2_with fail
              go_quiet ((first | (go_at_call 34; exact quiet_left (HAt.out _)) | (go_at_call 35; exact quiet_left (HEr.out _))))
              go_wp2_with fail
              go_roundw
              case rel => exact ⟨i + 1, by omega, by go_num, hid ⟨_, HE2.out, HR6.out.drewN _⟩⟩
              case measure => simp [intOf]; omega

        · go_wp2_with fail
          refine (awake_any wr).mono ?_
          rintro e' w4 ⟨rfl, h4⟩
          go_wp2_with fail
          go_ret
          exact ⟨rfl, hid (HI2.out.bel.trans (h4.out.mono HI2.out.bel.size))⟩

end Go.Proofs.Ytemklcnpmolclaa
