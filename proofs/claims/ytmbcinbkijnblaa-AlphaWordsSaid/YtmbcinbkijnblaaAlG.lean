/- What the laws of alpha ask of rows of bits and of texts. -/
import Derived.Test.YtmbcinbkijnblaaAlF
namespace Go.Proofs.Ytmbcinbkijnblaa
open Go.RowKit

def cmpB : List Bool → List Bool → Int
  | x :: xs, y :: ys => if x = y then cmpB xs ys else if y then -1 else 1
  | xs, ys => (xs.length : Int) - (ys.length : Int)
def begB : List Bool → List Bool → Bool
  | x :: xs, y :: ys => if x = y then begB xs ys else false
  | _, _ => true
theorem cmpB_end {xs ys : List Bool} (h : xs = [] ∨ ys = []) : cmpB xs ys = (xs.length : Int) - (ys.length : Int) := by
  rcases h with rfl | rfl
  · cases ys <;> rfl
  · cases xs <;> rfl
theorem begB_end {xs ys : List Bool} (h : xs = [] ∨ ys = []) : begB xs ys = true := by
  rcases h with rfl | rfl
  · cases ys <;> rfl
  · cases xs <;> rfl
theorem drop_cons {xs : List Bool} {k : Nat} (h : k < xs.length) : xs.drop k = xs.getD k false :: xs.drop (k + 1) := by
  rw [List.drop_eq_getElem_cons h]
  simp [List.getD, h]
theorem cmpB_step {xs ys : List Bool} {k : Nat} (h1 : k < xs.length) (h2 : k < ys.length) : cmpB (xs.drop k) (ys.drop k) = if xs.getD k false = ys.getD k false then cmpB (xs.drop (k + 1)) (ys.drop (k + 1)) else if ys.getD k false then -1 else 1 := by
  rw [drop_cons h1, drop_cons h2]
  rfl
theorem begB_step {xs ys : List Bool} {k : Nat} (h1 : k < xs.length) (h2 : k < ys.length) : begB (xs.drop k) (ys.drop k) = if xs.getD k false = ys.getD k false then begB (xs.drop (k + 1)) (ys.drop (k + 1)) else false := by
  rw [drop_cons h1, drop_cons h2]
  rfl
theorem drop_nil {xs : List Bool} {k : Nat} (h : xs.length ≤ k) : xs.drop k = [] := List.drop_eq_nil_of_le h
theorem cmpB_ahd {u v : List Bool} (h : Ahd u v) : cmpB u v = -1 := by
  obtain ⟨q, s, t, rfl, rfl⟩ := h
  induction q with
  | nil => simp [cmpB]
  | cons x q ih => simpa [cmpB] using ih
theorem begB_ahd {u v : List Bool} (h : Ahd u v) : begB u v = false := by
  obtain ⟨q, s, t, rfl, rfl⟩ := h
  induction q with
  | nil => simp [begB]
  | cons x q ih => simpa [begB] using ih
set_option maxHeartbeats 1000000 in
theorem compare_any {A1 A2 : Option Addr} {n1 n2 c1 c2 : Nat} {xs ys : List Bool} {w : World} (hx : RdB w A1 xs) (hy : RdB w A2 ys) (h1 : n1 = xs.length) (h2 : n2 = ys.length) (hb1 : n1 ≤ 300000000) (hb2 : n2 ≤ 300000000) :
    Calls Try.prog 33 #[.slice A1 n1 c1, .slice A2 n2 c2] w fun e w' => e = .returned (.int .i64 (cmpB xs ys)) ∧ StO w w' := by
  have HX : Hid (∀ W, StO w W → ∀ k, k < n1 → ∃ b off, A1 = some ⟨b, off, none⟩ ∧ W.cell? ⟨b, off + k, none⟩ = some (.bool (xs.getD k false))) := hid fun W hW k hk => by
    obtain ⟨b, off, e, h, hlt⟩ := hx.at (k := k) (by omega)
    exact ⟨b, off, e, (hW.out.cell (p := ⟨b, off + k, none⟩) hlt no_).trans h⟩
  have HY : Hid (∀ W, StO w W → ∀ k, k < n2 → ∃ b off, A2 = some ⟨b, off, none⟩ ∧ W.cell? ⟨b, off + k, none⟩ = some (.bool (ys.getD k false))) := hid fun W hW k hk => by
    obtain ⟨b, off, e, h, hlt⟩ := hy.at (k := k) (by omega)
    exact ⟨b, off, e, (hW.out.cell (p := ⟨b, off + k, none⟩) hlt no_).trans h⟩
  have HS : Hid (∀ k, k < n1 → k < n2 → cmpB (xs.drop k) (ys.drop k) = if xs.getD k false = ys.getD k false then cmpB (xs.drop (k + 1)) (ys.drop (k + 1)) else if ys.getD k false then -1 else 1) := hid fun k hk1 hk2 => cmpB_step (by omega) (by omega)
  have HE : Hid (∀ k, k ≤ n1 → k ≤ n2 → (k = n1 ∨ k = n2) → cmpB (xs.drop k) (ys.drop k) = (n1 : Int) - (n2 : Int)) := hid fun k hk1 hk2 h => by
    rw [cmpB_end (by rcases h with h | h; exact .inl (drop_nil (by omega)); exact .inr (drop_nil (by omega))), List.length_drop, List.length_drop]
    omega
  clear hx hy h1 h2
  go_enter Try.func33, Try.ntmps33
  go_wp2_with fail
  go_loopw [5] (fun s wr => ∃ k : Nat, k ≤ n1 ∧ k ≤ n2 ∧ s = .int .i64 (k : Int) ∧ StO w wr ∧ Hid (cmpB xs ys = cmpB (xs.drop k) (ys.drop k))) (fun s _ => n1 - (intOf s).toNat)
  case atStart => exact ⟨0, by omega, by omega, rfl, hid (Only.refl _ _), hid rfl⟩
  case round =>
    obtain ⟨k, hk1, hk2, rfl, HO, HC⟩ := hrel
    have hw12 : IntKind.i64.wrap ((n1 : Int) - (n2 : Int)) = (n1 : Int) - (n2 : Int) := by rw [IntKind.wrap_i64]; omega
    by_cases hp1 : k < n1
    · have hp1' : (k : Int) < (n1 : Int) := by omega
      by_cases hp2 : k < n2
      · have hp2' : (k : Int) < (n2 : Int) := by omega
        obtain ⟨b1, o1, rfl, d1⟩ := HX.out wr HO k hp1
        obtain ⟨b2, o2, rfl, d2⟩ := HY.out wr HO k hp2
        have hst := HS.out k hp1 hp2
        cases ha : xs.getD k false <;> cases hbb : ys.getD k false
        all_goals
          rw [ha] at d1 hst
          rw [hbb] at d2 hst
        all_goals first
          | (rw [if_pos rfl] at hst
             have HC2 := hid (HC.out.trans hst)
             clear hst ha hbb HC
             go_wp2_with fail
             go_quiet (fail)
             have HO2 : StO w (wr.drewN nq) := hid (HO.out.drewN _)
             generalize wr.drewN nq = w2 at HO2 ⊢
             go_wp2_with fail
             go_roundw
             case rel => exact ⟨k + 1, by omega, by omega, by go_num, HO2, HC2⟩
             case measure => simp [intOf]; omega)
          | (rw [if_neg (by decide)] at hst
             have HC2 := hid (HC.out.trans hst)
             have d3 : ∀ q, (wr.drewN q).cell? ⟨b2, o2 + k, none⟩ = wr.cell? ⟨b2, o2 + k, none⟩ := fun q => rfl
             clear hst ha hbb HC
             go_wp2_with fail
             go_quiet (fail)
             have HO2 : StO w (wr.drewN nq) := hid (HO.out.drewN _)
             have d4 := d3 nq
             rw [d2] at d4
             generalize wr.drewN nq = w2 at HO2 d4 ⊢
             clear d3 d1 d2
             go_wp2_with fail
             go_ret
             exact ⟨by rw [HC2.out]; rfl, HO2⟩)
      · obtain rfl : k = n2 := by omega
        have HC2 := hid (HC.out.trans (HE.out k (by omega) (by omega) (.inr rfl)))
        go_wp2_with fail
        go_ret
        exact ⟨by rw [HC2.out]; rfl, HO⟩
    · obtain rfl : k = n1 := by omega
      have HC2 := hid (HC.out.trans (HE.out k (by omega) (by omega) (.inl rfl)))
      go_wp2_with fail
      go_ret
      exact ⟨by rw [HC2.out]; rfl, HO⟩
set_option maxHeartbeats 1000000 in
theorem begins_any {A1 A2 : Option Addr} {n1 n2 c1 c2 : Nat} {xs ys : List Bool} {w : World} (hx : RdB w A1 xs) (hy : RdB w A2 ys) (h1 : n1 = xs.length) (h2 : n2 = ys.length) (hb1 : n1 ≤ 300000000) (hb2 : n2 ≤ 300000000) :
    Calls Try.prog 34 #[.slice A1 n1 c1, .slice A2 n2 c2] w fun e w' => e = .returned (.bool (begB xs ys)) ∧ StO w w' := by
  have HX : Hid (∀ W, StO w W → ∀ k, k < n1 → ∃ b off, A1 = some ⟨b, off, none⟩ ∧ W.cell? ⟨b, off + k, none⟩ = some (.bool (xs.getD k false))) := hid fun W hW k hk => by
    obtain ⟨b, off, e, h, hlt⟩ := hx.at (k := k) (by omega)
    exact ⟨b, off, e, (hW.out.cell (p := ⟨b, off + k, none⟩) hlt no_).trans h⟩
  have HY : Hid (∀ W, StO w W → ∀ k, k < n2 → ∃ b off, A2 = some ⟨b, off, none⟩ ∧ W.cell? ⟨b, off + k, none⟩ = some (.bool (ys.getD k false))) := hid fun W hW k hk => by
    obtain ⟨b, off, e, h, hlt⟩ := hy.at (k := k) (by omega)
    exact ⟨b, off, e, (hW.out.cell (p := ⟨b, off + k, none⟩) hlt no_).trans h⟩
  have HS : Hid (∀ k, k < n1 → k < n2 → begB (xs.drop k) (ys.drop k) = if xs.getD k false = ys.getD k false then begB (xs.drop (k + 1)) (ys.drop (k + 1)) else false) := hid fun k hk1 hk2 => begB_step (by omega) (by omega)
  have HE : Hid (∀ k, k ≤ n1 → k ≤ n2 → (k = n1 ∨ k = n2) → begB (xs.drop k) (ys.drop k) = true) := hid fun k hk1 hk2 h => by
    rw [begB_end (by rcases h with h | h; exact .inl (drop_nil (by omega)); exact .inr (drop_nil (by omega)))]
  clear hx hy h1 h2
  go_enter Try.func34, Try.ntmps34
  go_wp2_with fail
  go_loopw [5] (fun s wr => ∃ k : Nat, k ≤ n1 ∧ k ≤ n2 ∧ s = .int .i64 (k : Int) ∧ StO w wr ∧ Hid (begB xs ys = begB (xs.drop k) (ys.drop k))) (fun s _ => n1 - (intOf s).toNat)
  case atStart => exact ⟨0, by omega, by omega, rfl, hid (Only.refl _ _), hid rfl⟩
  case round =>
    obtain ⟨k, hk1, hk2, rfl, HO, HC⟩ := hrel
    by_cases hp1 : k < n1
    · have hp1' : (k : Int) < (n1 : Int) := by omega
      by_cases hp2 : k < n2
      · have hp2' : (k : Int) < (n2 : Int) := by omega
        obtain ⟨b1, o1, rfl, d1⟩ := HX.out wr HO k hp1
        obtain ⟨b2, o2, rfl, d2⟩ := HY.out wr HO k hp2
        have hst := HS.out k hp1 hp2
        cases ha : xs.getD k false <;> cases hbb : ys.getD k false
        all_goals
          rw [ha] at d1 hst
          rw [hbb] at d2 hst
        all_goals first
          | (rw [if_pos rfl] at hst
             have HC2 := hid (HC.out.trans hst)
             clear hst ha hbb HC
             go_wp2_with fail
             go_quiet (fail)
             have HO2 : StO w (wr.drewN nq) := hid (HO.out.drewN _)
             generalize wr.drewN nq = w2 at HO2 ⊢
             go_wp2_with fail
             go_roundw
             case rel => exact ⟨k + 1, by omega, by omega, by go_num, HO2, HC2⟩
             case measure => simp [intOf]; omega)
          | (rw [if_neg (by decide)] at hst
             have HC2 := hid (HC.out.trans hst)
             clear hst ha hbb HC
             go_wp2_with fail
             go_quiet (fail)
             have HO2 : StO w (wr.drewN nq) := hid (HO.out.drewN _)
             generalize wr.drewN nq = w2 at HO2 ⊢
             clear d1 d2
             go_wp2_with fail
             go_ret
             exact ⟨by rw [HC2.out]; rfl, HO2⟩)
      · obtain rfl : k = n2 := by omega
        have HC2 := hid (HC.out.trans (HE.out k (by omega) (by omega) (.inr rfl)))
        go_wp2_with fail
        go_ret
        exact ⟨by rw [HC2.out]; rfl, HO⟩
    · obtain rfl : k = n1 := by omega
      have HC2 := hid (HC.out.trans (HE.out k (by omega) (by omega) (.inl rfl)))
      go_wp2_with fail
      go_ret
      exact ⟨by rw [HC2.out]; rfl, HO⟩
/-- How much texts are, as far as that is gone through. -/
theorem size_anyL {A : Option Addr} {n c : Nat} {L : List ByteArray} {w : World} (hL : RdS w A L) (hn : n = L.length) (hn2 : n ≤ 140737488355328) (hs : ∀ k, k < n → (strAt L k).size ≤ 140737488355328) :
    Calls Try.prog 19 #[.slice A n c] w fun e w' => ∃ z : Int, e = .returned (.int .i64 z) ∧ ((600 < z) ∨ (z ≤ 600 ∧ z = (((allS L).length : Nat) : Int))) ∧ w = w' := by
  have HL : Hid (∀ k, k < n → ∃ b off, A = some ⟨b, off, none⟩ ∧ w.cell? ⟨b, off + k, none⟩ = some (.string (strAt L k))) := hid fun k hk => by
    obtain ⟨b, off, e, h, _⟩ := hL.at (k := k) (by omega)
    exact ⟨b, off, e, h⟩
  have HS := hid hs
  have HT : Hid (∀ k, k < n → (allS (L.take (k + 1))).length = (allS (L.take k)).length + (strAt L k).size + 1) := hid fun k hk => by
    rw [allS_take (by omega), List.length_append, sgT_len]
    omega
  have HA : Hid (allS (L.take n) = allS L) := hid (by rw [hn, List.take_length])
  clear hL hn hs
  go_enter Try.func19, Try.ntmps19
  go_wp2_with fail
  go_loopw [3, 4] (fun v s wr => ∃ (k : Nat) (z : Int), k ≤ n ∧ s = .int .i64 (k : Int) ∧ v = .int .i64 z ∧ wr = w ∧ -10 ≤ z ∧ z ≤ 281474976710656 ∧ Hid ((600 < z) ∨ z = (n : Int) + ((((allS (L.take k)).length : Nat) : Int) - (k : Int)))) (fun _ s _ => n - (intOf s).toNat)
  case atStart => exact ⟨0, n, by omega, rfl, rfl, rfl, by omega, by omega, hid (.inr (by simp [allS]))⟩
  case round =>
    obtain ⟨k, z, hk, rfl, rfl, rfl, hz1, hz2, HZ⟩ := hrel
    by_cases hp : k < n
    · have hp' : (k : Int) < (n : Int) := by omega
      by_cases h6 : z ≤ 600
      · obtain ⟨b, off, rfl, hc⟩ := HL.out k hp
        have hsz := HS.out k hp
        have hst := HT.out k hp
        have HZ2 : Hid ((600 < z + (((strAt L k).size : Nat) : Int)) ∨ z + (((strAt L k).size : Nat) : Int) = (n : Int) + ((((allS (L.take (k + 1))).length : Nat) : Int) - ((k + 1 : Nat) : Int))) := hid (by
          rcases HZ.out with h | h
          · omega
          · right; omega)
        generalize hsa : strAt L k = s at *
        have hw1 : IntKind.i64.wrap (z + ((s.size : Nat) : Int)) = z + ((s.size : Nat) : Int) := by rw [IntKind.wrap_i64]; omega
        clear hst HZ hsa
        go_wp2_with fail
        go_roundw
        case rel => exact ⟨k + 1, _, by omega, by go_num, rfl, (by first | rfl | trivial), by omega, by omega, HZ2⟩
        case measure => simp [intOf]; omega
      · have HE : Hid ((600 < z) ∨ (z ≤ 600 ∧ z = (((allS L).length : Nat) : Int))) := hid (.inl (by omega))
        clear HZ
        go_wp2_with fail
        go_ret
        exact ⟨z, rfl, HE.out, rfl⟩
    · obtain rfl : k = n := by omega
      have HE : Hid ((600 < z) ∨ (z ≤ 600 ∧ z = (((allS L).length : Nat) : Int))) := hid (by
        have h := HZ.out
        rw [HA.out] at h
        omega)
      clear HZ HA HT
      go_wp2_with fail
      go_ret
      exact ⟨z, rfl, HE.out, rfl⟩
end Go.Proofs.Ytmbcinbkijnblaa
