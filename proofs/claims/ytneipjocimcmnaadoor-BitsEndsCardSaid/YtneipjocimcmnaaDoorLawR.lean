/- The law BitsRanks. -/
import Derived.Test.YtneipjocimcmnaaDoorLawA
namespace Go.Proofs.YtneipjocimcmnaaDoor
open Go.RowKit
open Fen

/-- What the law's loop keeps. -/
def RankI (w : World) (g gs gw n : Nat) (f : Nat → Bool) (A : Option Addr) (xs : List Bool) (wr : World) : Prop := IsVec wr g gs gw n f ∧ Tab wr ∧ RdB wr A xs ∧ Below w.heap.size w wr
theorem RankI.same {w wr wr2 : World} {g gs gw n : Nat} {f : Nat → Bool} {A : Option Addr} {xs : List Bool} (h : RankI w g gs gw n f A xs wr) (o : Only (fun _ => False) wr wr2) : RankI w g gs gw n f A xs wr2 :=
  ⟨h.1.same o, h.2.1.only o no_, h.2.2.1.below (o.to_below (fun _ h => h.elim) (Nat.le_refl _)), h.2.2.2.trans (o.to_below (fun _ h => h.elim) h.2.2.2.size)⟩
theorem get_nat {g gs gw n : Nat} {f : Nat → Bool} {w : World} (h : IsVec w g gs gw n f) (k : Nat) (b : Bool) (hb : f k = b) :
    Calls Tryd.prog 29 #[.pointer (some ⟨g, 0, none⟩), .int .i64 (k : Int)] w fun e w' => e = .returned (.bool b) ∧ w = w' :=
  (get_any h k).mono fun _ _ ⟨he, hw⟩ => ⟨by rw [he]; unfold at_; simp [hb], hw⟩
theorem rank_nat {g gs gw n : Nat} {f : Nat → Bool} {w : World} (h : IsVec w g gs gw n f) (i : Int) (r : Nat) (hr : C (cf f) i.toNat = r) :
    Calls Tryd.prog 26 #[.pointer (some ⟨g, 0, none⟩), .int .i64 i] w fun e w' => e = .returned (.int .i64 (r : Int)) ∧ ∃ k, w' = w.drewN k :=
  (rank_any h i).mono fun _ _ ⟨he, hw⟩ => ⟨by rw [he, hr], hw⟩
theorem select_hit {g gs gw n : Nat} {f : Nat → Bool} {w : World} (h : IsVec w g gs gw n f) (hT : Tab w) (k i : Nat) (hi : f i = true) (hk : C (cf f) i = k) :
    Calls Tryd.prog 30 #[.pointer (some ⟨g, 0, none⟩), .int .i64 (k : Int)] w fun e w' => e = .returned (.tuple #[.int .i64 (i : Int), .bool true]) ∧ w = w' := by
  refine (select_any h hT k).mono fun e w' ⟨hw, _, h2⟩ => ?_
  have hin : i < n := by
    rcases Nat.lt_or_ge i n with a | a
    · exact a
    · rw [h.out i a] at hi; cases hi
  have hlt : k < C (cf f) n := by
    have h1 := C_mono (cf f) (show i + 1 ≤ n by omega)
    simp only [C] at h1
    rw [cf_one.2 hi] at h1
    omega
  obtain ⟨j, he, hj, hc⟩ := h2 ⟨by omega, by omega⟩
  have : j = i := C_one (c := cf f) (cf_one.2 hj) (cf_one.2 hi) (by rw [hc, hk, Int.toNat_natCast])
  subst this
  exact ⟨he, hw⟩
theorem select_miss {g gs gw n : Nat} {f : Nat → Bool} {w : World} (h : IsVec w g gs gw n f) (hT : Tab w) (k : Int) (hk : k < 0 ∨ ((C (cf f) n : Nat) : Int) ≤ k) :
    Calls Tryd.prog 30 #[.pointer (some ⟨g, 0, none⟩), .int .i64 k] w fun e w' => e = .returned (.tuple #[.int .i64 0, .bool false]) ∧ w = w' :=
  (select_any h hT k).mono fun _ _ ⟨hw, h1, _⟩ => ⟨h1 hk, hw⟩

set_option maxHeartbeats 2000000 in
theorem bitsRanks_long (A : Option Addr) (cap : Nat) (n : Nat) (w : World) (hT : Tab w) (hn : 3000 < n) (hn2 : n ≤ 9223372036854775807) :
    Calls Tryd.prog 6 #[.slice A n cap] w fun e w' => e = .returned (.bool true) ∧ Hid (Below w.heap.size w w') := by
  have HT := hid hT
  clear hT
  go_enter Tryd.func6, Tryd.ntmps6
  go_wp2_with fail
  refine (awake_any w HT.out).mono ?_
  rintro e w1 ⟨rfl, hb⟩
  go_wp2_with fail
  go_ret
  exact ⟨rfl, hb⟩

set_option maxHeartbeats 2000000 in
theorem bitsRanks_short (A : Option Addr) (cap : Nat) (xs : List Bool) (w : World) (hT : Tab w) (hx : RdB w A xs) (hn : xs.length ≤ 3000) :
    Calls Tryd.prog 6 #[.slice A xs.length cap] w fun e w' => e = .returned (.bool true) ∧ Hid (Below w.heap.size w w') := by
  have HT := hid hT
  have HX := hid hx
  obtain ⟨n, hnn⟩ : ∃ n, n = xs.length := ⟨_, rfl⟩
  rw [← hnn] at hn ⊢
  have Hn := hid hnn
  clear hT hx hnn
  go_enter Tryd.func6, Tryd.ntmps6
  go_wp2_with fail
  refine (awake_any w HT.out).mono ?_
  rintro e w1 ⟨rfl, hb⟩
  have HT1 := hid (HT.out.below hb.out)
  have HX1 := hid (HX.out.below hb.out)
  go_wp2_with fail
  rw [Hn.out]
  refine (of_ok A cap xs w1 HX1.out (by have := Hn.out; omega)).mono ?_
  rintro e w2 ⟨g, gs, gw, rfl, hv, hg, hgs, hgw, hb2⟩
  rw [← Hn.out] at hv ⊢
  obtain ⟨f, hf⟩ : ∃ f : Nat → Bool, f = fun i => xs.getD i false := ⟨_, rfl⟩
  rw [← hf] at hv
  have Hf := hid hf
  have HV := hid hv
  have HB := hid (hb.out.trans (hb2.mono hb.out.size))
  have HT2 := hid (HT1.out.below hb2)
  have HX2 := hid (HX1.out.below hb2)
  clear hv hb hb2 hg hgs hgw HT HX HT1 HX1 hf
  go_wp2_with fail
  refine (len_any HV.out).mono ?_
  rintro e w3 ⟨rfl, rfl⟩
  go_wp2_with fail
  refine (rank_nat HV.out 0 0 rfl).mono ?_
  rintro e w3 ⟨rfl, o⟩
  have HV3 := hid (HV.out.same (quiet_only o))
  have HB3 := hid (HB.out.trans (((quiet_only o).to_below (B := w.heap.size) (fun _ h => h.elim) HB.out.size)))
  have HT3 := hid (HT2.out.only (quiet_only o) no_)
  have HX3 := hid (HX2.out.below ((quiet_only o).to_below (fun _ h => h.elim) (Nat.le_refl _)))
  clear HV HB HT2 HX2 o
  obtain ⟨T, hT⟩ : ∃ T, T = C (cf f) n := ⟨_, rfl⟩
  have HTt := hid hT
  clear hT
  go_wp2_with fail
  refine (rank_nat HV3.out n T (by rw [Int.toNat_natCast]; exact HTt.out.symm)).mono ?_
  rintro e w4 ⟨rfl, o⟩
  have HV4 := hid (HV3.out.same (quiet_only o))
  have HB4 := hid (HB3.out.trans (((quiet_only o).to_below (B := w.heap.size) (fun _ h => h.elim) HB3.out.size)))
  have HT4 := hid (HT3.out.only (quiet_only o) no_)
  have HX4 := hid (HX3.out.below ((quiet_only o).to_below (fun _ h => h.elim) (Nat.le_refl _)))
  clear HV3 HB3 HT3 HX3 o
  go_wp2_with fail
  refine (ones_any HV4.out).mono ?_
  rintro e w5 ⟨rfl, rfl⟩
  rw [← HTt.out]
  go_wp2_with fail
  go_loopw [5, 6] (fun s i wr => ∃ k x : Nat, k ≤ n ∧ i = .int .i64 k ∧ s = .int .i64 x ∧ x ≤ k ∧ Hid (C (cf f) k = x) ∧ Hid (RankI w g gs gw n f A xs wr)) (fun _ i _ => n - (intOf i).toNat)
  case atStart => exact ⟨0, 0, by omega, rfl, rfl, by omega, hid rfl, hid ⟨HV4.out, HT4.out, HX4.out, HB4.out⟩⟩
  case round =>
    obtain ⟨k, x, hk, rfl, rfl, hxk, HC, HI⟩ := hrel
    clear HV4 HT4 HX4 HB4
    by_cases hp : k < n
    · obtain ⟨b, off, hA, hcw⟩ := HI.out.2.2.1 k (by rw [← Hn.out]; exact hp)
      have hc := hcw k (by rw [← Hn.out]; exact hp)
      clear hcw
      subst hA
      obtain ⟨v, hv⟩ : ∃ v, v = xs.getD k false := ⟨_, rfl⟩
      rw [← hv] at hc
      have Hfv : Hid (f k = v) := hid (by rw [Hf.out, hv])
      clear hv
      have HGet : Hid (∀ d, Calls Tryd.prog 29 #[.pointer (some ⟨g, 0, none⟩), .int .i64 (k : Int)] (wr.drewN d) fun e w' => e = .returned (.bool v) ∧ ∃ m, w' = wr.drewN m) :=
        hid fun d => quiet_left (get_nat (HI.out.1.drewN d) k v Hfv.out)
      have HRank : Hid (∀ d, Calls Tryd.prog 26 #[.pointer (some ⟨g, 0, none⟩), .int .i64 (k : Int)] (wr.drewN d) fun e w' => e = .returned (.int .i64 (x : Int)) ∧ ∃ m, w' = wr.drewN m) :=
        hid fun d => quiet_more (rank_nat (HI.out.1.drewN d) k x (by rw [Int.toNat_natCast]; exact HC.out))
      go_wp2
      go_quiet ((first | (go_at_call 29; exact HGet.out _) | (go_at_call 26; exact HRank.out _)))
      have HI2 : Hid (RankI w g gs gw n f (some ⟨b, off, none⟩) xs (wr.drewN nq)) := hid (HI.out.same (quiet_only ⟨nq, rfl⟩))
      have hc2 : (wr.drewN nq).cell? ⟨b, off + k, none⟩ = some (.bool v) := hc
      clear HGet HRank HI hc
      generalize wr.drewN nq = wr2 at HI2 hc2 ⊢
      cases v with
      | true =>
        have HC2 : Hid (C (cf f) (k + 1) = x + 1) := hid (by simp only [C]; rw [HC.out, cf_one.2 Hfv.out])
        go_wp2_with fail
        refine (select_hit HI2.out.1 HI2.out.2.1 x k Hfv.out HC.out).mono ?_
        rintro e w5 ⟨rfl, rfl⟩
        go_wp2_with fail
        refine (rank_nat HI2.out.1 k x (by rw [Int.toNat_natCast]; exact HC.out)).mono ?_
        rintro e w5 ⟨rfl, o⟩
        have HI3 := hid (HI2.out.same (quiet_only o))
        clear HI2 hc2 o
        go_wp2_with fail
        refine (rank_nat HI3.out.1 _ (x + 1) (by rw [show ((k : Int) + 1).toNat = k + 1 by omega]; exact HC2.out)).mono ?_
        rintro e w6 ⟨rfl, o⟩
        have HI4 := hid (HI3.out.same (quiet_only o))
        clear HI3 o
        go_wp2_with fail
        go_roundw
        case rel => exact ⟨k + 1, x + 1, by omega, by go_num, by go_num, by omega, HC2, HI4⟩
        case measure => simp [intOf]; omega
      | false =>
        have HC2 : Hid (C (cf f) (k + 1) = x) := hid (by simp only [C]; rw [HC.out]; unfold cf; rw [Hfv.out]; rfl)
        go_wp2_with fail
        refine (rank_nat HI2.out.1 _ x (by rw [show ((k : Int) + 1).toNat = k + 1 by omega]; exact HC2.out)).mono ?_
        rintro e w6 ⟨rfl, o⟩
        have HI4 := hid (HI2.out.same (quiet_only o))
        clear HI2 o hc2
        go_wp2_with fail
        go_roundw
        case rel => exact ⟨k + 1, x, by omega, by go_num, by go_num, by omega, HC2, HI4⟩
        case measure => simp [intOf]; omega
    · obtain rfl : k = n := by omega
      have HxT : Hid (x = T) := hid (by rw [← HC.out, HTt.out])
      go_wp2_with fail
      refine (select_miss HI.out.1 HI.out.2.1 x (.inr (by rw [HC.out]; omega))).mono ?_
      rintro e w5 ⟨rfl, rfl⟩
      go_wp2_with fail
      refine (ones_any HI.out.1).mono ?_
      rintro e w5 ⟨rfl, rfl⟩
      rw [HC.out]
      go_wp2_with fail
      go_ret
      exact ⟨rfl, hid HI.out.2.2.2⟩
end Go.Proofs.YtneipjocimcmnaaDoor
