/- The document's reader: Gamma, one way. -/
import Derived.Test.YtemklcnpmolclaaRq
namespace Go.Proofs.Ytemklcnpmolclaa
open Go.RowKit

set_option maxHeartbeats 4000000 in
theorem qgam_T {B q cap at_ : Nat} {e : Int} {A : Option Addr} {xs : List Bool} {w : World} (h : IsRR B w q A cap xs at_ (badOf e)) (hcase : badOf e = true) (s1 s2 : Int) (s3 : Nat) (hS : Hid (gamR (bf xs) xs.length (e, at_) = (s1, s2, s3))) :
    Calls Try.prog 33 #[.pointer (some ⟨q, 0, none⟩)] w (RRE B w q A cap xs (s1, s2, s3)) := by
  have H := hid h
  obtain ⟨k0, k1, k2⟩ := h.cells
  have hs := h.small
  have hle := h.le
  have f1 := h.self.frozen 1
  have f2 := h.self.frozen 2
  clear h
  obtain ⟨n, hn⟩ : ∃ n, n = xs.length := ⟨_, rfl⟩
  rw [← hn] at k0 hs hle hS
  have Hn := hid hn
  clear hn
  obtain ⟨z, hz⟩ : ∃ z, z = zrs (bf xs) at_ (n - at_) := ⟨_, rfl⟩
  have Hzr := hid (zr_of (bf xs) n at_)
  rw [← hz] at Hzr
  have Hz := hid hz
  have hzl : at_ + z ≤ n := by have := zrs_le (bf xs) (n - at_) at_; omega
  clear hz
  have HBad : Hid (∀ d, IsRR B ((w.drewN d).setCell ⟨q, 2, none⟩ (.bool true)) q A cap xs at_ true ∧ FrT TQ B w ((w.drewN d).setCell ⟨q, 2, none⟩ (.bool true))) := hid fun d => by
    have h1 := (H.out.same (quiet_only (w := w.drewN d) ⟨_, rfl⟩)).set2
    exact ⟨h1.1, (FrT.of_only (quiet_only ⟨_, rfl⟩)).trans h1.2⟩
  have HAt : Hid (∀ d, IsRR B ((w.drewN d).setCell ⟨q, 1, none⟩ (.int .i64 ((at_ : Int) + (z : Int)))) q A cap xs (at_ + z) (badOf e) ∧ FrT TQ B w ((w.drewN d).setCell ⟨q, 1, none⟩ (.int .i64 ((at_ : Int) + (z : Int))))) := hid fun d => by
    have h1 := (H.out.same (quiet_only (w := w.drewN d) ⟨_, rfl⟩)).set1 (z := (at_ : Int) + (z : Int)) (at_ + z) (by omega) (by rw [← Hn.out]; exact hzl)
    exact ⟨h1.1, (FrT.of_only (quiet_only ⟨_, rfl⟩)).trans h1.2⟩
  have HBits := hid H.out.bits
  rw [hcase] at k2
  have Hbd : Hid (true = badOf e) := hid hcase.symm
  clear hcase
  go_enter Try.func33, Try.ntmps33
  go_wp2_with fail
  go_loopw [4] (fun s wr => ∃ k : Nat, at_ + k ≤ n ∧ s = .int .i64 (k : Int) ∧ Hid (∀ j, j < k → bf xs (at_ + j) = false) ∧ Hid (∃ d, wr = w.drewN d)) (fun s _ => n - (intOf s).toNat)
  case atStart => exact ⟨0, by omega, rfl, hid fun j hj => absurd hj (by omega), hid ⟨0, rfl⟩⟩
  case round =>
    obtain ⟨k, hk, rfl, HZ, HDw⟩ := hrel
    obtain ⟨d, rfl⟩ := HDw.out
    clear HDw
    have hwk : IntKind.i64.wrap ((at_ : Int) + (k : Int)) = (at_ : Int) + (k : Int) := by rw [IntKind.wrap_i64]; omega
    have hst : (at_ + k = n ∨ bf xs (at_ + k) = true) → k = z := fun hst => by
      rw [Hz.out]
      exact (zrs_stop (bf xs) _ _ _ (by omega) HZ.out (by
        rcases hst with h | h
        · left; omega
        · exact .inr h)).symm
    have HSt := hid hst
    clear hst
    by_cases hp : at_ + k < n
    · obtain ⟨b, off, hA, dk, _⟩ := HBits.out.at (k := at_ + k) (by rw [← Hn.out]; exact hp)
      unfold vB at dk
      have HV : Hid (bf xs (at_ + k) = xs.getD (at_ + k) false) := hid rfl
      generalize xs.getD (at_ + k) false = v at dk HV
      have g1 : decide ((at_ : Int) + (k : Int) < (n : Int)) = true := decide_eq_true (by omega)
      have hx0 : 0 ≤ (at_ : Int) + (k : Int) := by omega
      have hx1 : (at_ : Int) + (k : Int) < (n : Int) := by omega
      have hx2 : ((at_ : Int) + (k : Int)).toNat = at_ + k := by omega
      cases v with
      | false =>
        have HZ2 : Hid (∀ j, j < k + 1 → bf xs (at_ + j) = false) := hid fun j hj => by
          by_cases e : j = k
          · subst e; exact HV.out
          · exact HZ.out j (by omega)
        subst hA
        clear HZ HSt HV
        go_wp2_with fail
        go_quiet (fail)
        go_wp2_with fail
        go_roundw
        case rel => exact ⟨k + 1, by omega, by go_num, HZ2, hid ⟨_, rfl⟩⟩
        case measure => simp [intOf]; omega
      | true =>
        have hkz : k = z := HSt.out (.inr HV.out)
        subst hkz
        rw [hA] at k0
        clear hA
        clear HSt HV HZ Hz
        have he : e ≠ 0 := by have := Hbd.out; intro h; rw [h] at this; simp [badOf] at this
        have hr : gamR (bf xs) n (e, at_) = (0, e, at_) := by unfold gamR; rw [if_pos he]
        have HB2 : Hid (badOf e = true) := hid Hbd.out.symm
        have hs2 := hS.out
        rw [hr] at hs2
        simp only [Prod.mk.injEq] at hs2
        obtain ⟨rfl, rfl, rfl⟩ := hs2
        clear hr he HAt hS
        go_wp2_with fail
        go_quiet (fail)
        go_wp2_with fail
        go_ret
        exact ⟨rfl, hid (by have h := HBad.out (d + nq); show IsRR B _ q A cap xs _ (badOf _) ∧ _; rw [HB2.out]; exact h)⟩
    · have hkz : k = z := HSt.out (.inl (by omega))
      subst hkz
      have g1 : decide ((at_ : Int) + (k : Int) < (n : Int)) = false := decide_eq_false (by omega)
      have hx1 : ¬ (at_ : Int) + (k : Int) < (n : Int) := by omega
      clear HSt HZ Hz
      have he : e ≠ 0 := by have := Hbd.out; intro h; rw [h] at this; simp [badOf] at this
      have hr : gamR (bf xs) n (e, at_) = (0, e, at_) := by unfold gamR; rw [if_pos he]
      have HB2 : Hid (badOf e = true) := hid Hbd.out.symm
      have hs2 := hS.out
      rw [hr] at hs2
      simp only [Prod.mk.injEq] at hs2
      obtain ⟨rfl, rfl, rfl⟩ := hs2
      clear hr he HAt hS
      go_wp2_with fail
      go_quiet (fail)
      go_wp2_with fail
      go_ret
      exact ⟨rfl, hid (by have h := HBad.out (d + nq); show IsRR B _ q A cap xs _ (badOf _) ∧ _; rw [HB2.out]; exact h)⟩
end Go.Proofs.Ytemklcnpmolclaa
