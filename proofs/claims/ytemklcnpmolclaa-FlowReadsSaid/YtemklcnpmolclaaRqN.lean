/- The document's reader: Gamma, one way. -/
import Derived.Test.YtemklcnpmolclaaRq
namespace Go.Proofs.Ytemklcnpmolclaa
open Go.RowKit

set_option maxHeartbeats 4000000 in
theorem qgam_N {B q cap at_ : Nat} {e : Int} {A : Option Addr} {xs : List Bool} {w : World} (h : IsRR B w q A cap xs at_ (badOf e)) (hcase : e = 0 ∧ ¬ 59 < zrs (bf xs) at_ (xs.length - at_) ∧ xs.length < at_ + zrs (bf xs) at_ (xs.length - at_) + (zrs (bf xs) at_ (xs.length - at_) + 1)) (s1 s2 : Int) (s3 : Nat) (hS : Hid (gamR (bf xs) xs.length (e, at_) = (s1, s2, s3))) :
    Calls Try.prog 33 #[.pointer (some ⟨q, 0, none⟩)] w (RRE B w q A cap xs (s1, s2, s3)) := by
  have H := hid h
  obtain ⟨k0, k1, k2⟩ := h.cells
  have hs := h.small
  have hle := h.le
  have f1 := h.self.frozen 1
  have f2 := h.self.frozen 2
  clear h
  obtain ⟨n, hn⟩ : ∃ n, n = xs.length := ⟨_, rfl⟩
  rw [← hn] at k0 hs hle hS hcase
  have Hn := hid hn
  clear hn
  obtain ⟨z, hz⟩ : ∃ z, z = zrs (bf xs) at_ (n - at_) := ⟨_, rfl⟩
  have Hzr := hid (zr_of (bf xs) n at_)
  rw [← hz] at Hzr
  have Hz := hid hz
  have hzl : at_ + z ≤ n := by have := zrs_le (bf xs) (n - at_) at_; omega
  rw [← Hz.out] at hcase
  clear hz
  have HBad : Hid (∀ d, IsRR B ((w.drewN d).setCell ⟨q, 2, none⟩ (.bool true)) q A cap xs at_ true ∧ FrT TQ B w ((w.drewN d).setCell ⟨q, 2, none⟩ (.bool true))) := hid fun d => by
    have h1 := (H.out.same (quiet_only (w := w.drewN d) ⟨_, rfl⟩)).set2
    exact ⟨h1.1, (FrT.of_only (quiet_only ⟨_, rfl⟩)).trans h1.2⟩
  have HAt : Hid (∀ d, IsRR B ((w.drewN d).setCell ⟨q, 1, none⟩ (.int .i64 ((at_ : Int) + (z : Int)))) q A cap xs (at_ + z) (badOf e) ∧ FrT TQ B w ((w.drewN d).setCell ⟨q, 1, none⟩ (.int .i64 ((at_ : Int) + (z : Int))))) := hid fun d => by
    have h1 := (H.out.same (quiet_only (w := w.drewN d) ⟨_, rfl⟩)).set1 (z := (at_ : Int) + (z : Int)) (at_ + z) (by omega) (by rw [← Hn.out]; exact hzl)
    exact ⟨h1.1, (FrT.of_only (quiet_only ⟨_, rfl⟩)).trans h1.2⟩
  have HBits := hid H.out.bits
  obtain ⟨rfl, h59, hl⟩ := hcase
  have k2' : w.cell? ⟨q, 2, none⟩ = some (.bool false) := k2
  clear k2
  go_enter Try.func33, Try.ntmps33
  go_wp2_with fail
  go_loopw [4] (fun s wr => ∃ k : Nat, at_ + k ≤ n ∧ s = .int .i64 (k : Int) ∧ Hid (∀ j, j < k → bf xs (at_ + j) = false) ∧ Hid (∃ d, wr = w.drewN d)) (fun s _ => n - (intOf s).toNat)
  case atStart => exact ⟨0, by omega, rfl, hid fun j hj => absurd hj (by omega), hid ⟨0, rfl⟩⟩
  case round =>
    obtain ⟨k, hk, rfl, HZ, HDw⟩ := hrel
    obtain ⟨d, rfl⟩ := HDw.out
    clear HDw
    have hwk : IntKind.i64.wrap ((at_ : Int) + (k : Int)) = (at_ : Int) + (k : Int) := by rw [IntKind.wrap_i64]; omega
    have hst : (at_ + k = n ∨ bf xs (at_ + k) = true) → k = z := fun hst => by
      rw [Hz.out]
      exact (zrs_stop (bf xs) _ _ _ (by omega) HZ.out (by
        rcases hst with h | h
        · left; omega
        · exact .inr h)).symm
    have HSt := hid hst
    clear hst
    by_cases hp : at_ + k < n
    · obtain ⟨b, off, hA, dk, _⟩ := HBits.out.at (k := at_ + k) (by rw [← Hn.out]; exact hp)
      unfold vB at dk
      have HV : Hid (bf xs (at_ + k) = xs.getD (at_ + k) false) := hid rfl
      generalize xs.getD (at_ + k) false = v at dk HV
      have g1 : decide ((at_ : Int) + (k : Int) < (n : Int)) = true := decide_eq_true (by omega)
      have hx0 : 0 ≤ (at_ : Int) + (k : Int) := by omega
      have hx1 : (at_ : Int) + (k : Int) < (n : Int) := by omega
      have hx2 : ((at_ : Int) + (k : Int)).toNat = at_ + k := by omega
      cases v with
      | false =>
        have HZ2 : Hid (∀ j, j < k + 1 → bf xs (at_ + j) = false) := hid fun j hj => by
          by_cases e : j = k
          · subst e; exact HV.out
          · exact HZ.out j (by omega)
        subst hA
        clear HZ HSt HV
        go_wp2_with fail
        go_quiet (fail)
        go_wp2_with fail
        go_roundw
        case rel => exact ⟨k + 1, by omega, by go_num, HZ2, hid ⟨_, rfl⟩⟩
        case measure => simp [intOf]; omega
      | true =>
        have hkz : k = z := HSt.out (.inr HV.out)
        subst hkz
        rw [hA] at k0
        clear hA
        clear HSt HV HZ Hz
        have g5 : decide ((59 : Int) < (k : Int)) = false := decide_eq_false (by omega)
        have g5' : decide (59 < k) = false := decide_eq_false h59
        have h59i : ¬ (59 : Int) < (k : Int) := by omega
        have hr : gamR (bf xs) n (0, at_) = takeR (bf xs) n at_ k ((k : Int) + 1) := by
          unfold gamR
          rw [if_neg (by simp), Hzr.out, show min 60 k = k by omega]
        have HN : Hid (∀ d, Calls Try.prog 31 #[.pointer (some ⟨q, 0, none⟩), .int .i64 ((k : Int) + 1)] ((w.drewN d).setCell ⟨q, 1, none⟩ (.int .i64 ((at_ : Int) + (k : Int)))) (RRE B ((w.drewN d).setCell ⟨q, 1, none⟩ (.int .i64 ((at_ : Int) + (k : Int)))) q A cap xs (numR (bf xs) n (0, at_ + k) ((k : Int) + 1)))) := hid fun d => by rw [Hn.out]; exact qnum_any _ (HAt.out d).1
        have hr2 : takeR (bf xs) n at_ k ((k : Int) + 1) = (0, 4, at_) := by
          unfold takeR
          rw [if_pos (.inr (by omega))]
        have hr3 := numR_bad (f := bf xs) (n := n) (at_ := at_ + k) (e := 0) (z := (k : Int) + 1) (.inr (.inr (by omega)))
        have hs2 := hS.out
        rw [hr, hr2] at hs2
        simp only [Prod.mk.injEq] at hs2
        obtain ⟨rfl, rfl, rfl⟩ := hs2
        obtain ⟨h1, h2, h3⟩ := hr3
        generalize numR (bf xs) n (0, at_ + k) ((k : Int) + 1) = s at h1 h2 h3 HN
        obtain ⟨t1, t2, t3⟩ := s
        have h1' : t1 = 0 := h1
        have h3' : t3 = at_ + k := h3
        have HB2 : Hid (badOf t2 = true) := hid h2
        subst h1'
        subst h3'
        clear hr hr2 h1 h2 h3 hS
        go_wp2_with fail
        go_quiet (fail)
        go_wp2_with fail
        refine (HN.out _).mono ?_
        rintro e' w2 ⟨rfl, h2⟩
        have HF : Hid (IsRR B (w2.setCell ⟨q, 1, none⟩ (.int .i64 (at_ : Int))) q A cap xs at_ (badOf 4) ∧ FrT TQ B w (w2.setCell ⟨q, 1, none⟩ (.int .i64 (at_ : Int)))) := hid (by
          have h5 := h2.out.1.set1 (z := (at_ : Int)) at_ rfl H.out.le
          have h6 : badOf t2 = badOf 4 := by rw [HB2.out]; rfl
          have h7 := h5.1
          simp only at h7
          rw [h6] at h7
          exact ⟨h7, ((HAt.out _).2.trans h2.out.2).trans h5.2⟩)
        have c2 : w2.cell? ⟨q, 2, none⟩ = some (.bool true) := by have h := h2.out.1.cells.2.2; simp only at h; rwa [HB2.out] at h
        have c1 := h2.out.1.cells.2.1
        have f1' := h2.out.1.self.frozen 1
        clear h2 HN
        go_wp2_with fail
        go_ret
        exact ⟨rfl, HF⟩
    · have hkz : k = z := HSt.out (.inl (by omega))
      subst hkz
      have g1 : decide ((at_ : Int) + (k : Int) < (n : Int)) = false := decide_eq_false (by omega)
      have hx1 : ¬ (at_ : Int) + (k : Int) < (n : Int) := by omega
      clear HSt HZ Hz
      have g5 : decide ((59 : Int) < (k : Int)) = false := decide_eq_false (by omega)
      have g5' : decide (59 < k) = false := decide_eq_false h59
      have h59i : ¬ (59 : Int) < (k : Int) := by omega
      have hr : gamR (bf xs) n (0, at_) = takeR (bf xs) n at_ k ((k : Int) + 1) := by
        unfold gamR
        rw [if_neg (by simp), Hzr.out, show min 60 k = k by omega]
      have HN : Hid (∀ d, Calls Try.prog 31 #[.pointer (some ⟨q, 0, none⟩), .int .i64 ((k : Int) + 1)] ((w.drewN d).setCell ⟨q, 1, none⟩ (.int .i64 ((at_ : Int) + (k : Int)))) (RRE B ((w.drewN d).setCell ⟨q, 1, none⟩ (.int .i64 ((at_ : Int) + (k : Int)))) q A cap xs (numR (bf xs) n (0, at_ + k) ((k : Int) + 1)))) := hid fun d => by rw [Hn.out]; exact qnum_any _ (HAt.out d).1
      have hr2 : takeR (bf xs) n at_ k ((k : Int) + 1) = (0, 4, at_) := by
        unfold takeR
        rw [if_pos (.inr (by omega))]
      have hr3 := numR_bad (f := bf xs) (n := n) (at_ := at_ + k) (e := 0) (z := (k : Int) + 1) (.inr (.inr (by omega)))
      have hs2 := hS.out
      rw [hr, hr2] at hs2
      simp only [Prod.mk.injEq] at hs2
      obtain ⟨rfl, rfl, rfl⟩ := hs2
      obtain ⟨h1, h2, h3⟩ := hr3
      generalize numR (bf xs) n (0, at_ + k) ((k : Int) + 1) = s at h1 h2 h3 HN
      obtain ⟨t1, t2, t3⟩ := s
      have h1' : t1 = 0 := h1
      have h3' : t3 = at_ + k := h3
      have HB2 : Hid (badOf t2 = true) := hid h2
      subst h1'
      subst h3'
      clear hr hr2 h1 h2 h3 hS
      go_wp2_with fail
      go_quiet (fail)
      go_wp2_with fail
      refine (HN.out _).mono ?_
      rintro e' w2 ⟨rfl, h2⟩
      have HF : Hid (IsRR B (w2.setCell ⟨q, 1, none⟩ (.int .i64 (at_ : Int))) q A cap xs at_ (badOf 4) ∧ FrT TQ B w (w2.setCell ⟨q, 1, none⟩ (.int .i64 (at_ : Int)))) := hid (by
        have h5 := h2.out.1.set1 (z := (at_ : Int)) at_ rfl H.out.le
        have h6 : badOf t2 = badOf 4 := by rw [HB2.out]; rfl
        have h7 := h5.1
        simp only at h7
        rw [h6] at h7
        exact ⟨h7, ((HAt.out _).2.trans h2.out.2).trans h5.2⟩)
      have c2 : w2.cell? ⟨q, 2, none⟩ = some (.bool true) := by have h := h2.out.1.cells.2.2; simp only at h; rwa [HB2.out] at h
      have c1 := h2.out.1.cells.2.1
      have f1' := h2.out.1.self.frozen 1
      clear h2 HN
      go_wp2_with fail
      go_ret
      exact ⟨rfl, HF⟩
end Go.Proofs.Ytemklcnpmolclaa
