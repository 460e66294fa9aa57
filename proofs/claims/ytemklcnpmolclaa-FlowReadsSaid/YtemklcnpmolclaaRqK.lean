/- The document's reader: Gamma, one way. -/
import Derived.Test.YtemklcnpmolclaaRq
namespace Go.Proofs.Ytemklcnpmolclaa
open Go.RowKit

set_option maxHeartbeats 2000000 in
theorem qgam_K {B q cap at_ : Nat} {e : Int} {A : Option Addr} {xs : List Bool} {w : World} (h : IsRR B w q A cap xs at_ (badOf e)) (hcase : e = 0 ∧ ¬ 59 < zrs (bf xs) at_ (xs.length - at_) ∧ ¬ xs.length < at_ + zrs (bf xs) at_ (xs.length - at_) + (zrs (bf xs) at_ (xs.length - at_) + 1)) (s1 s2 : Int) (s3 : Nat) (hS : Hid (gamR (bf xs) xs.length (e, at_) = (s1, s2, s3))) :
    Calls Try.prog 33 #[.pointer (some ⟨q, 0, none⟩)] w (RRE B w q A cap xs (s1, s2, s3)) := by
  have H := hid h
  obtain ⟨k0, k1, k2⟩ := h.cells
  have hs := h.small
  have hle := h.le
  have f1 := h.self.frozen 1
  have f2 := h.self.frozen 2
  clear h
  obtain ⟨n, hn⟩ : ∃ n, n = xs.length := ⟨_, rfl⟩
  rw [← hn] at k0 hs hle hS hcase
  have Hn := hid hn
  clear hn
  obtain ⟨z, hz⟩ : ∃ z, z = zrs (bf xs) at_ (n - at_) := ⟨_, rfl⟩
  have Hzr := hid (zr_of (bf xs) n at_)
  rw [← hz] at Hzr
  have Hz := hid hz
  have hzl : at_ + z ≤ n := by have := zrs_le (bf xs) (n - at_) at_; omega
  rw [← Hz.out] at hcase
  clear hz
  have HBad : Hid (∀ d, IsRR B ((w.drewN d).setCell ⟨q, 2, none⟩ (.bool true)) q A cap xs at_ true ∧ FrT TQ B w ((w.drewN d).setCell ⟨q, 2, none⟩ (.bool true))) := hid fun d => by
    have h1 := (H.out.same (quiet_only (w := w.drewN d) ⟨_, rfl⟩)).set2
    exact ⟨h1.1, (FrT.of_only (quiet_only ⟨_, rfl⟩)).trans h1.2⟩
  have HAt : Hid (∀ d, IsRR B ((w.drewN d).setCell ⟨q, 1, none⟩ (.int .i64 ((at_ : Int) + (z : Int)))) q A cap xs (at_ + z) (badOf e) ∧ FrT TQ B w ((w.drewN d).setCell ⟨q, 1, none⟩ (.int .i64 ((at_ : Int) + (z : Int))))) := hid fun d => by
    have h1 := (H.out.same (quiet_only (w := w.drewN d) ⟨_, rfl⟩)).set1 (z := (at_ : Int) + (z : Int)) (at_ + z) (by omega) (by rw [← Hn.out]; exact hzl)
    exact ⟨h1.1, (FrT.of_only (quiet_only ⟨_, rfl⟩)).trans h1.2⟩
  have HBits := hid H.out.bits
  obtain ⟨rfl, h59, hl⟩ := hcase
  have k2' : w.cell? ⟨q, 2, none⟩ = some (.bool false) := k2
  clear k2
  go_enter Try.func33, Try.ntmps33
  go_wp2_with fail
  go_loopw [4] (fun s wr => ∃ k : Nat, at_ + k ≤ n ∧ s = .int .i64 (k : Int) ∧ Hid (∀ j, j < k → bf xs (at_ + j) = false) ∧ Hid (∃ d, wr = w.drewN d)) (fun s _ => n - (intOf s).toNat)
  case atStart => exact ⟨0, by omega, rfl, hid fun j hj => absurd hj (by omega), hid ⟨0, rfl⟩⟩
  case round =>
    obtain ⟨k, hk, rfl, HZ, HDw⟩ := hrel
    obtain ⟨d, rfl⟩ := HDw.out
    clear HDw
    have hwk : IntKind.i64.wrap ((at_ : Int) + (k : Int)) = (at_ : Int) + (k : Int) := by rw [IntKind.wrap_i64]; omega
    have hst : (at_ + k = n ∨ bf xs (at_ + k) = true) → k = z := fun hst => by
      rw [Hz.out]
      exact (zrs_stop (bf xs) _ _ _ (by omega) HZ.out (by
        rcases hst with h | h
        · left; omega
        · exact .inr h)).symm
    have HSt := hid hst
    clear hst
    by_cases hp : at_ + k < n
    · obtain ⟨b, off, hA, dk, _⟩ := HBits.out.at (k := at_ + k) (by rw [← Hn.out]; exact hp)
      unfold vB at dk
      have HV : Hid (bf xs (at_ + k) = xs.getD (at_ + k) false) := hid rfl
      generalize xs.getD (at_ + k) false = v at dk HV
      have g1 : decide ((at_ : Int) + (k : Int) < (n : Int)) = true := decide_eq_true (by omega)
      have hx0 : 0 ≤ (at_ : Int) + (k : Int) := by omega
      have hx1 : (at_ : Int) + (k : Int) < (n : Int) := by omega
      have hx2 : ((at_ : Int) + (k : Int)).toNat = at_ + k := by omega
      cases v with
      | false =>
        have HZ2 : Hid (∀ j, j < k + 1 → bf xs (at_ + j) = false) := hid fun j hj => by
          by_cases e : j = k
          · subst e; exact HV.out
          · exact HZ.out j (by omega)
        subst hA
        clear HZ HSt HV
        go_wp2_with fail
        go_quiet (fail)
        go_wp2_with fail
        go_roundw
        case rel => exact ⟨k + 1, by omega, by go_num, HZ2, hid ⟨_, rfl⟩⟩
        case measure => simp [intOf]; omega
      | true =>
        have hkz : k = z := HSt.out (.inr HV.out)
        subst hkz
        rw [hA] at k0
        clear hA
        clear HSt HV HZ Hz
        have g5 : decide ((59 : Int) < (k : Int)) = false := decide_eq_false (by omega)
        have g5' : decide (59 < k) = false := decide_eq_false h59
        have h59i : ¬ (59 : Int) < (k : Int) := by omega
        have hr : gamR (bf xs) n (0, at_) = takeR (bf xs) n at_ k ((k : Int) + 1) := by
          unfold gamR
          rw [if_neg (by simp), Hzr.out, show min 60 k = k by omega]
        have HN : Hid (∀ d, Calls Try.prog 31 #[.pointer (some ⟨q, 0, none⟩), .int .i64 ((k : Int) + 1)] ((w.drewN d).setCell ⟨q, 1, none⟩ (.int .i64 ((at_ : Int) + (k : Int)))) (RRE B ((w.drewN d).setCell ⟨q, 1, none⟩ (.int .i64 ((at_ : Int) + (k : Int)))) q A cap xs (numR (bf xs) n (0, at_ + k) ((k : Int) + 1)))) := hid fun d => by rw [Hn.out]; exact qnum_any _ (HAt.out d).1
        have hr2 : takeR (bf xs) n at_ k ((k : Int) + 1) = numR (bf xs) n (0, at_ + k) ((k : Int) + 1) := by
          have h1 : okW ((k : Int) + 1) = true := by simp [okW]; omega
          have h2 : ¬ (okW ((k : Int) + 1) = false ∨ n < at_ + k + ((k : Int) + 1).toNat) := by
            rintro (h | h)
            · rw [h1] at h; cases h
            · omega
          have h3 : ¬ (okW ((k : Int) + 1) = false ∨ n < at_ + k + 0 + ((k : Int) + 1).toNat) := by rw [Nat.add_zero]; exact h2
          have e1 : numR (bf xs) n (0, at_ + k) ((k : Int) + 1) = takeR (bf xs) n (at_ + k) 0 ((k : Int) + 1) := by unfold numR; rw [if_neg (by simp)]
          rw [e1]
          unfold takeR
          rw [if_neg h2, if_neg h3, Nat.add_zero]
        have hr3 : (numR (bf xs) n (0, at_ + k) ((k : Int) + 1)).2.1 = 0 := by
          have h := numR_ok (f := bf xs) (n := n) (at_ := at_ + k) (m := k + 1) (by omega) (by omega)
          rw [show (((k + 1 : Nat)) : Int) = (k : Int) + 1 by omega] at h
          rw [h]
        have hs2 := hS.out
        rw [hr, hr2] at hs2
        rw [hs2] at HN hr3
        have h2' : s2 = 0 := hr3
        subst h2'
        clear hr hr2 hr3 hs2 hS
        go_wp2_with fail
        go_quiet (fail)
        go_wp2_with fail
        refine (HN.out _).mono ?_
        rintro e' w2 ⟨rfl, h2⟩
        have HF : Hid (IsRR B w2 q A cap xs s3 (badOf 0) ∧ FrT TQ B w w2) := hid ⟨h2.out.1, (HAt.out _).2.trans h2.out.2⟩
        have c2 : w2.cell? ⟨q, 2, none⟩ = some (.bool false) := h2.out.1.cells.2.2
        clear h2 HN
        go_wp2_with fail
        go_ret
        exact ⟨rfl, HF⟩
    · have hkz : k = z := HSt.out (.inl (by omega))
      subst hkz
      exfalso
      omega
end Go.Proofs.Ytemklcnpmolclaa
