/- A reader's calls: Number, Next, Gamma. -/
import Derived.Test.YtgdfiopdkidhfaaFr1
import Derived.Test.YtgdfiopdkidhfaaKtL
namespace Go.Proofs.Ytgdfiopdkidhfaa
open Go.RowKit

theorem take_any {B g gb : Nat} {f : Nat → Bool} {n at_ k : Nat} {wd : Int} {w : World} (h : IsRd B w g gb 0 f n at_) (hk : k ≤ 60) :
    Calls Try.prog 55 #[.pointer (some ⟨g, 0, none⟩), .int .i64 (k : Int), .int .i64 wd] w (RdE B w g gb f n (takeR f n at_ k wd)) := by
  unfold takeR
  by_cases hb : okW wd = false ∨ n < at_ + k + wd.toNat
  · rw [if_pos hb]; exact take_bad h hk hb
  · rw [if_neg hb]
    have h1 : okW wd = true := by
      cases hq : okW wd
      · exact absurd (.inl hq) hb
      · rfl
    have h2 : ¬ n < at_ + k + wd.toNat := fun h => hb (.inr h)
    simp [okW] at h1
    obtain ⟨m, rfl⟩ := Int.eq_ofNat_of_zero_le h1.1
    rw [Int.toNat_natCast] at h2 ⊢
    exact take_ok h hk (by omega) (by omega)
theorem quiet_at {P : Program} {f : FuncId} {args : Array Value} {w : World} {d n : Nat} {v : Value}
    (h : Calls P f args (w.drewN (d + n)) fun e w' => e = .returned v ∧ w.drewN (d + n) = w') : Calls P f args (w.drewN (d + n)) fun e w'' => e = .returned v ∧ ∃ m, w'' = w.drewN (d + m) :=
  h.mono fun _ _ ⟨he, hm⟩ => ⟨he, n, hm.symm⟩
def numR (f : Nat → Bool) (n : Nat) (s : Int × Nat) (wd : Int) : RSt := if s.1 ≠ 0 then (0, s.1, s.2) else takeR f n s.2 0 wd
/-- How many noughts stand at a place, at most m. -/
def zrs (f : Nat → Bool) : Nat → Nat → Nat
  | _, 0 => 0
  | a, m + 1 => if f a then 0 else zrs f (a + 1) m + 1
theorem zrs_stop (f : Nat → Bool) : ∀ (m a k : Nat), k ≤ m → (∀ j, j < k → f (a + j) = false) → (k = m ∨ f (a + k) = true) → zrs f a m = k
  | 0, a, k, hk, _, _ => by simp [zrs]; omega
  | m + 1, a, k, hk, h1, h2 => by
    unfold zrs
    cases k with
    | zero =>
      rcases h2 with h2 | h2
      · omega
      · rw [Nat.add_zero] at h2; rw [if_pos h2]
    | succ k =>
      have h3 := h1 0 (by omega)
      rw [Nat.add_zero] at h3
      rw [if_neg (by simp [h3]), zrs_stop f m (a + 1) k (by omega) (fun j hj => by have := h1 (j + 1) (by omega); rwa [show a + (j + 1) = a + 1 + j by omega] at this) (by
        rcases h2 with h2 | h2
        · left; omega
        · right; rwa [show a + (k + 1) = a + 1 + k by omega] at h2)]
def zr (f : Nat → Bool) (n at_ : Nat) : Nat := zrs f at_ (min 60 (n - at_))
def gamR (f : Nat → Bool) (n : Nat) (s : Int × Nat) : RSt := if s.1 ≠ 0 then (0, s.1, s.2) else takeR f n s.2 (zr f n s.2) (((zr f n s.2 : Nat) : Int) + 1)
set_option maxHeartbeats 1000000 in
theorem rnum_any {B g gb : Nat} {e : Int} {f : Nat → Bool} {n at_ : Nat} {w : World} (wd : Int) (h : IsRd B w g gb e f n at_) :
    Calls Try.prog 25 #[.pointer (some ⟨g, 0, none⟩), .int .i64 wd] w (RdE B w g gb f n (numR f n (e, at_) wd)) := by
  have HE := hid (rerr_any h)
  by_cases he : e = 0
  · subst he
    have HT : Hid (Calls Try.prog 55 #[.pointer (some ⟨g, 0, none⟩), .int .i64 0, .int .i64 wd] w (RdE B w g gb f n (numR f n (0, at_) wd))) := hid (take_any (k := 0) h (by omega))
    clear h
    generalize numR f n (0, at_) wd = s at HT ⊢
    go_enter Try.func25, Try.ntmps25
    go_wp2_with fail
    refine HE.out.mono ?_
    rintro e' w' ⟨rfl, rfl⟩
    go_wp2_with fail
    refine HT.out.mono ?_
    rintro e' w' ⟨rfl, hw⟩
    go_wp2_with fail
    go_ret
    exact ⟨rfl, hw⟩
  · have hr : numR f n (e, at_) wd = (0, e, at_) := by simp [numR, he]
    rw [hr]
    have he2 : (e != 0) = true := bne_iff_ne.2 he
    have HF : Hid (IsRd B w g gb e f n at_ ∧ FrT TR B w w) := hid ⟨h, FrT.refl _ _ _⟩
    clear h hr
    go_enter Try.func25, Try.ntmps25
    go_wp2_with fail
    refine HE.out.mono ?_
    rintro e' w' ⟨rfl, rfl⟩
    go_wp2_with fail
    go_ret
    exact ⟨rfl, HF⟩
def RdB1 (B : Nat) (w : World) (g gb : Nat) (f : Nat → Bool) (n : Nat) (s : RSt) (e' : Ending) (w' : World) : Prop := e' = .returned (.bool (s.1 == 1)) ∧ Hid (IsRd B w' g gb s.2.1 f n s.2.2 ∧ FrT TR B w w')
set_option maxHeartbeats 1000000 in
theorem rnext_any {B g gb : Nat} {e : Int} {f : Nat → Bool} {n at_ : Nat} {w : World} (h : IsRd B w g gb e f n at_) :
    Calls Try.prog 28 #[.pointer (some ⟨g, 0, none⟩)] w (RdB1 B w g gb f n (numR f n (e, at_) 1)) := by
  have HT := hid (rnum_any 1 h)
  clear h
  generalize numR f n (e, at_) 1 = s at HT ⊢
  go_enter Try.func28, Try.ntmps28
  go_wp2_with fail
  refine HT.out.mono ?_
  rintro e' w' ⟨rfl, hw⟩
  go_wp2_with fail
  go_ret
  exact ⟨rfl, hw⟩
set_option maxHeartbeats 2000000 in
theorem rgam_any {B g gb : Nat} {e : Int} {f : Nat → Bool} {n at_ : Nat} {w : World} (h : IsRd B w g gb e f n at_) :
    Calls Try.prog 24 #[.pointer (some ⟨g, 0, none⟩)] w (RdE B w g gb f n (gamR f n (e, at_))) := by
  have HE := hid (rerr_any h)
  by_cases he : e = 0
  · subst he
    have H := hid h
    have hle := h.le
    have hs := h.small
    have HT : Hid (∀ k d, k ≤ 60 → k = zr f n at_ → Calls Try.prog 55 #[.pointer (some ⟨g, 0, none⟩), .int .i64 (k : Int), .int .i64 ((k : Int) + 1)] (w.drewN d) (RdE B w g gb f n (gamR f n (0, at_)))) := hid fun k d hk hz => by
      have h1 := take_any (k := k) (wd := (k : Int) + 1) (h.same (quiet_only (w := w.drewN d) ⟨_, rfl⟩)) hk
      have e1 : gamR f n (0, at_) = takeR f n at_ k ((k : Int) + 1) := by simp [gamR, ← hz]
      rw [e1]
      exact h1.mono fun e' w' hh => ⟨hh.1, hid ⟨hh.2.out.1, (FrT.of_only (quiet_only ⟨_, rfl⟩)).trans hh.2.out.2⟩⟩
    have H1 : Hid (∀ d i, i < n → Calls Try.prog 54 #[.pointer (some ⟨g, 0, none⟩), .int .i64 (i : Int)] (w.drewN d) fun e' w' => e' = .returned (.bool (f i)) ∧ w.drewN d = w') := hid fun d i hi => one_any (h.same (quiet_only (w := w.drewN d) ⟨_, rfl⟩)) hi
    obtain ⟨q0, q1, q2, q3, q4⟩ := h.cells
    clear h q0 q1 q2
    go_enter Try.func24, Try.ntmps24
    go_wp2_with fail
    refine HE.out.mono ?_
    rintro e' w' ⟨rfl, rfl⟩
    go_wp2_with fail
    go_loopw [3] (fun s wr => ∃ k : Nat, k ≤ 60 ∧ at_ + k ≤ n ∧ s = .int .i64 (k : Int) ∧ Hid (∀ j, j < k → f (at_ + j) = false) ∧ Hid (∃ d, wr = w.drewN d)) (fun s _ => 60 - (intOf s).toNat)
    case atStart => exact ⟨0, by omega, by omega, rfl, hid fun j hj => absurd hj (by omega), hid ⟨0, rfl⟩⟩
    case round =>
      obtain ⟨k, hk, hkn, rfl, HZ, HD⟩ := hrel
      obtain ⟨d, rfl⟩ := HD.out
      clear HD HE
      have HT2 : Hid ((k = 60 ∨ at_ + k = n ∨ f (at_ + k) = true) → ∀ d, Calls Try.prog 55 #[.pointer (some ⟨g, 0, none⟩), .int .i64 (k : Int), .int .i64 ((k : Int) + 1)] (w.drewN d) (RdE B w g gb f n (gamR f n (0, at_)))) := hid fun hst d =>
        HT.out k d hk (zrs_stop f _ _ _ (by omega) HZ.out (by
          rcases hst with h | h | h
          · left; omega
          · left; omega
          · exact .inr h)).symm
      have hwk : IntKind.i64.wrap ((at_ : Int) + (k : Int)) = (at_ : Int) + (k : Int) := by rw [IntKind.wrap_i64]; omega
      by_cases h1 : k < 60
      · by_cases h2 : at_ + k < n
        · have HO : Hid (∀ d2, Calls Try.prog 54 #[.pointer (some ⟨g, 0, none⟩), .int .i64 ((at_ : Int) + (k : Int))] (w.drewN (d + d2)) fun e' w' => e' = .returned (.bool (f (at_ + k))) ∧ w.drewN (d + d2) = w') := hid fun d2 => by
            have h := H1.out (d + d2) (at_ + k) h2
            rw [show ((at_ + k : Nat) : Int) = (at_ : Int) + (k : Int) by omega] at h
            exact h
          have h2' : (at_ : Int) + (k : Int) < (n : Int) := by omega
          have g1 : decide (k < 60) = true := decide_eq_true h1
          have g1' : decide ((k : Int) < 60) = true := decide_eq_true (by omega)
          have g2 : decide ((at_ : Int) + (k : Int) < (n : Int)) = true := decide_eq_true h2'
          cases hb : f (at_ + k) with
          | true =>
            rw [hb] at HO
            have HT3 := hid (HT2.out (.inr (.inr hb)))
            clear hb HT HT2 H1 HZ
            go_wp2_with fail
            go_quiet ((go_at_call 54; exact quiet_at (HO.out _)))
            go_wp2_with fail
            refine (HT3.out _).mono ?_
            rintro e' w' ⟨rfl, hw⟩
            go_wp2_with fail
            go_ret
            exact ⟨rfl, hw⟩
          | false =>
            rw [hb] at HO
            have HZ2 : Hid (∀ j, j < k + 1 → f (at_ + j) = false) := hid fun j hj => by
              by_cases e : j = k
              · subst e; exact hb
              · exact HZ.out j (by omega)
            clear hb HT2 HZ
            go_wp2_with fail
            go_quiet ((go_at_call 54; exact quiet_at (HO.out _)))
            go_wp2_with fail
            go_roundw
            case rel => exact ⟨k + 1, by omega, by omega, by go_num, HZ2, hid ⟨_, rfl⟩⟩
            case measure => simp [intOf]; omega
        · have HT3 := hid (HT2.out (.inr (.inl (by omega))))
          have h2' : ¬ (at_ : Int) + (k : Int) < (n : Int) := by omega
          have g1 : decide (k < 60) = true := decide_eq_true h1
          have g1' : decide ((k : Int) < 60) = true := decide_eq_true (by omega)
          have g2 : decide ((at_ : Int) + (k : Int) < (n : Int)) = false := decide_eq_false h2'
          clear HT HT2 H1 HZ
          go_wp2_with fail
          go_quiet (fail)
          go_wp2_with fail
          refine (HT3.out _).mono ?_
          rintro e' w' ⟨rfl, hw⟩
          go_wp2_with fail
          go_ret
          exact ⟨rfl, hw⟩
      · obtain rfl : k = 60 := by omega
        have HT3 := hid (HT2.out (.inl rfl))
        clear HT HT2 H1 HZ
        go_wp2_with fail
        go_quiet (fail)
        go_wp2_with fail
        refine (HT3.out _).mono ?_
        rintro e' w' ⟨rfl, hw⟩
        go_wp2_with fail
        go_ret
        exact ⟨rfl, hw⟩
  · have hr : gamR f n (e, at_) = (0, e, at_) := by simp [gamR, he]
    rw [hr]
    have he2 : (e != 0) = true := bne_iff_ne.2 he
    have HF : Hid (IsRd B w g gb e f n at_ ∧ FrT TR B w w) := hid ⟨h, FrT.refl _ _ _⟩
    clear h hr
    go_enter Try.func24, Try.ntmps24
    go_wp2_with fail
    refine HE.out.mono ?_
    rintro e' w' ⟨rfl, rfl⟩
    go_wp2_with fail
    go_ret
    exact ⟨rfl, HF⟩
end Go.Proofs.Ytgdfiopdkidhfaa
