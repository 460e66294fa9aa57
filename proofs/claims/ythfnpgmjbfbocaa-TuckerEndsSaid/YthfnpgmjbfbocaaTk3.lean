/- Weights, and how many there may be. -/
import Derived.Test.YthfnpgmjbfbocaaTk2
import Derived.Test.YthfnpgmjbfbocaaOwn
import Derived.Deep.Cut
import Derived.Deep.CutRange
namespace Go.Proofs.Ythfnpgmjbfbocaa
open Go.RowKit

set_option maxHeartbeats 400000 in
theorem many_any (n : Nat) (w : World) (h : n ≤ 9223372036854775807) :
    Calls Try.prog 78 #[.int .i64 (n : Int)] w fun e w' => e = .returned (.bool (decide (1 ≤ n ∧ n ≤ 257))) ∧ w = w' := by
  by_cases h1 : 1 ≤ n
  · have h1' : (1 : Int) ≤ (n : Int) := by omega
    by_cases h2 : n ≤ 257
    · have h2' : (n : Int) ≤ 257 := by omega
      have hd : decide (1 ≤ n ∧ n ≤ 257) = true := decide_eq_true ⟨h1, h2⟩
      have HD := hid hd
      clear hd
      go_enter Try.func78, Try.ntmps78
      go_wp2
      go_ret
      first | exact ⟨ret_bool HD.out.symm, rfl⟩ | exact ⟨rfl, rfl⟩
    · have h2' : ¬ (n : Int) ≤ 257 := by omega
      have hd : decide (1 ≤ n ∧ n ≤ 257) = false := decide_eq_false (by omega)
      have HD := hid hd
      clear hd
      go_enter Try.func78, Try.ntmps78
      go_wp2
      go_ret
      first | exact ⟨ret_bool HD.out.symm, rfl⟩ | exact ⟨rfl, rfl⟩
  · have h1' : ¬ (1 : Int) ≤ (n : Int) := by omega
    have hd : decide (1 ≤ n ∧ n ≤ 257) = false := decide_eq_false (by omega)
    have HD := hid hd
    clear hd
    go_enter Try.func78, Try.ntmps78
    go_wp2
    go_ret
    first | exact ⟨ret_bool HD.out.symm, rfl⟩ | exact ⟨rfl, rfl⟩

def badW (z : Int) : Bool := decide (z < 0 ∨ 4294967296 < z)
set_option maxHeartbeats 400000 in
theorem wrong_any (z : Int) (w : World) :
    Calls Try.prog 80 #[.int .i64 z] w fun e w' => e = .returned (.bool (badW z)) ∧ w = w' := by
  by_cases h1 : z < 0
  · have HD : Hid (badW z = true) := hid (decide_eq_true (.inl h1))
    go_enter Try.func80, Try.ntmps80
    go_wp2
    go_ret
    exact ⟨ret_bool HD.out.symm, rfl⟩
  · by_cases h2 : 4294967296 < z
    · have HD : Hid (badW z = true) := hid (decide_eq_true (.inr h2))
      go_enter Try.func80, Try.ntmps80
      go_wp2
      go_ret
      exact ⟨ret_bool HD.out.symm, rfl⟩
    · have HD : Hid (badW z = false) := hid (decide_eq_false (by omega))
      go_enter Try.func80, Try.ntmps80
      go_wp2
      go_ret
      exact ⟨ret_bool HD.out.symm, rfl⟩

def noBad (zs : List Int) : Bool := zs.all fun z => !badW z
theorem noBad_of {zs : List Int} (h : ∀ j, j < zs.length → badW (zs.getD j 0) = false) : noBad zs = true := by
  unfold noBad
  rw [List.all_eq_true]
  intro z hz
  obtain ⟨j, hj, rfl⟩ := List.mem_iff_getElem.1 hz
  have := h j hj
  simp [List.getD, hj] at this
  simp [this]
theorem noBad_not {zs : List Int} {j : Nat} (hj : j < zs.length) (h : badW (zs.getD j 0) = true) : noBad zs = false := by
  unfold noBad
  rw [List.all_eq_false]
  exact ⟨_, getD_mem hj, by rw [h]; decide⟩
theorem isW_noBad (zs : List Int) : isW zs = (decide (1 ≤ zs.length ∧ zs.length ≤ 257) && noBad zs) := by
  have e : (fun z : Int => decide (0 ≤ z ∧ z ≤ 4294967296)) = fun z => !badW z := by
    funext z
    unfold badW
    by_cases h : 0 ≤ z ∧ z ≤ 4294967296
    · rw [decide_eq_true h, decide_eq_false (by omega)]; rfl
    · rw [decide_eq_false h, decide_eq_true (by omega)]; rfl
  unfold isW noBad
  rw [e]

set_option maxHeartbeats 1000000 in
theorem index_any {A : Option Addr} {cap : Nat} {zs : List Int} {w : World} (hz : RdI w A zs) (hl : zs.length ≤ 9223372036854775807) :
    Calls Try.prog 104 #[.slice A zs.length cap, .func (.func 80) #[] #[]] w fun e w' => ∃ k : Int, e = .returned (.int .i64 k) ∧ Hid (decide (0 ≤ k) = !noBad zs) ∧ w = w' := by
  have HZ := hid hz
  clear hz
  obtain ⟨N, hN⟩ : ∃ N, N = zs.length := ⟨_, rfl⟩
  have HN := hid hN
  rw [← hN] at hl ⊢
  clear hN
  go_enter Try.func104, Try.ntmps104
  go_wp2
  go_loop [8] (fun s => ∃ k : Nat, k ≤ N ∧ s = .int .i64 k ∧ Hid (∀ j, j < k → badW (zs.getD j 0) = false)) (fun s => N - (intOf s).toNat)
  case atStart => exact ⟨0, by omega, rfl, hid fun j hj => absurd hj (by omega)⟩
  case round =>
    obtain ⟨k, hk, rfl, HA⟩ := hrel
    by_cases hp : k < N
    · obtain ⟨b, off, hA, hc, _⟩ := HZ.out.at (k := k) (by rw [← HN.out]; exact hp)
      unfold vI at hc
      subst hA
      obtain ⟨z, hz⟩ : ∃ z, z = zs.getD k 0 := ⟨_, rfl⟩
      rw [← hz] at hc
      cases hb : badW z with
      | true =>
        have HC : Hid (Calls Try.prog 80 #[.int .i64 z] w fun e w' => e = .returned (.bool true) ∧ w = w') := hid (by rw [← hb]; exact wrong_any z w)
        have HF : Hid (decide ((0 : Int) ≤ (k : Int)) = !noBad zs) := hid (by rw [noBad_not (j := k) (by rw [← HN.out]; exact hp) (by rw [← hz]; exact hb)]; simp)
        clear hb hz HA
        go_wp2_with (refine HC.out.mono ?_; rintro e w' ⟨rfl, rfl⟩)
        go_ret
        exact ⟨_, rfl, HF, rfl⟩
      | false =>
        have HC : Hid (Calls Try.prog 80 #[.int .i64 z] w fun e w' => e = .returned (.bool false) ∧ w = w') := hid (by rw [← hb]; exact wrong_any z w)
        have HF : Hid (∀ j, j < k + 1 → badW (zs.getD j 0) = false) := hid fun j hj => by
          by_cases e : j = k
          · subst e; rw [← hz]; exact hb
          · exact HA.out j (by omega)
        clear hb hz HA
        go_wp2_with (refine HC.out.mono ?_; rintro e w' ⟨rfl, rfl⟩)
        go_round
        case rel => exact ⟨k + 1, by omega, by go_num, HF⟩
        case measure => simp [intOf]; omega
    · obtain rfl : k = N := by omega
      have HF : Hid (decide ((0 : Int) ≤ (-1 : Int)) = !noBad zs) := hid (by rw [noBad_of fun j hj => HA.out j (by rw [HN.out]; exact hj)]; rfl)
      clear HA
      go_wp2
      go_ret
      exact ⟨_, rfl, HF, rfl⟩
set_option maxHeartbeats 400000 in
theorem contains_any {A : Option Addr} {cap : Nat} {zs : List Int} {w : World} (hz : RdI w A zs) (hl : zs.length ≤ 9223372036854775807) :
    Calls Try.prog 81 #[.slice A zs.length cap, .func (.func 80) #[] #[]] w fun e w' => e = .returned (.bool (!noBad zs)) ∧ w = w' := by
  have HC := hid (index_any (cap := cap) hz hl)
  clear hz
  generalize zs.length = N at *
  go_enter Try.func81, Try.ntmps81
  go_wp2_with (refine HC.out.mono ?_; rintro e w' ⟨k, rfl, HK, rfl⟩)
  go_ret
  exact ⟨ret_bool HK.out, rfl⟩
set_option maxHeartbeats 400000 in
theorem areW_any {A : Option Addr} {cap : Nat} {zs : List Int} {w : World} (hz : RdI w A zs) (hl : zs.length ≤ 9223372036854775807) :
    Calls Try.prog 45 #[.slice A zs.length cap] w fun e w' => e = .returned (.bool (isW zs)) ∧ w = w' := by
  have HC := hid (contains_any (cap := cap) hz hl)
  have HI := hid (isW_noBad zs)
  have HM := hid (many_any zs.length w hl)
  clear hz
  generalize isW zs = b at *
  generalize noBad zs = c at *
  generalize zs.length = N at *
  generalize decide (1 ≤ N ∧ N ≤ 257) = m at *
  cases m with
  | false =>
    go_enter Try.func45, Try.ntmps45
    go_wp2_with (refine HM.out.mono ?_; rintro e w' ⟨rfl, rfl⟩)
    go_ret
    exact ⟨ret_bool HI.out.symm, rfl⟩
  | true =>
    go_enter Try.func45, Try.ntmps45
    go_wp2_with (first | (refine HM.out.mono ?_; rintro e w' ⟨rfl, rfl⟩) | (refine HC.out.mono ?_; rintro e w' ⟨rfl, rfl⟩))
    go_ret
    exact ⟨ret_bool (by rw [HI.out]; cases c <;> rfl), rfl⟩
end Go.Proofs.Ythfnpgmjbfbocaa
