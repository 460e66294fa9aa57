/- AlphaWords, walked. -/
import Derived.Test.YtmbcinbkijnblaaQE
namespace Go.Proofs.Ytmbcinbkijnblaa
open Go.RowKit

def cmpB : List Bool → List Bool → Int
  | x :: xs, y :: ys => if x = y then cmpB xs ys else if y then -1 else 1
  | xs, ys => (xs.length : Int) - (ys.length : Int)
def begB : List Bool → List Bool → Bool
  | x :: xs, y :: ys => if x = y then begB xs ys else false
  | _, _ => true
theorem cmpB_end {xs ys : List Bool} (h : xs = [] ∨ ys = []) : cmpB xs ys = (xs.length : Int) - (ys.length : Int) := by
  rcases h with rfl | rfl
  · cases ys <;> rfl
  · cases xs <;> rfl
theorem begB_end {xs ys : List Bool} (h : xs = [] ∨ ys = []) : begB xs ys = true := by
  rcases h with rfl | rfl
  · cases ys <;> rfl
  · cases xs <;> rfl
theorem drop_cons {xs : List Bool} {k : Nat} (h : k < xs.length) : xs.drop k = xs.getD k false :: xs.drop (k + 1) := by
  rw [List.drop_eq_getElem_cons h]
  simp [List.getD, h]
theorem cmpB_step {xs ys : List Bool} {k : Nat} (h1 : k < xs.length) (h2 : k < ys.length) : cmpB (xs.drop k) (ys.drop k) = if xs.getD k false = ys.getD k false then cmpB (xs.drop (k + 1)) (ys.drop (k + 1)) else if ys.getD k false then -1 else 1 := by
  rw [drop_cons h1, drop_cons h2]
  rfl
theorem begB_step {xs ys : List Bool} {k : Nat} (h1 : k < xs.length) (h2 : k < ys.length) : begB (xs.drop k) (ys.drop k) = if xs.getD k false = ys.getD k false then begB (xs.drop (k + 1)) (ys.drop (k + 1)) else false := by
  rw [drop_cons h1, drop_cons h2]
  rfl
theorem drop_nil {xs : List Bool} {k : Nat} (h : xs.length ≤ k) : xs.drop k = [] := List.drop_eq_nil_of_le h
theorem cmpB_ahd {u v : List Bool} (h : Ahd u v) : cmpB u v = -1 := by
  obtain ⟨q, s, t, rfl, rfl⟩ := h
  induction q with
  | nil => simp [cmpB]
  | cons x q ih => simpa [cmpB] using ih
theorem begB_ahd {u v : List Bool} (h : Ahd u v) : begB u v = false := by
  obtain ⟨q, s, t, rfl, rfl⟩ := h
  induction q with
  | nil => simp [begB]
  | cons x q ih => simpa [begB] using ih
set_option maxHeartbeats 1000000 in
theorem compare_any {A1 A2 : Option Addr} {n1 n2 c1 c2 : Nat} {xs ys : List Bool} {w : World} (hx : RdB w A1 xs) (hy : RdB w A2 ys) (h1 : n1 = xs.length) (h2 : n2 = ys.length) (hb1 : n1 ≤ 300000000) (hb2 : n2 ≤ 300000000) :
    Calls Try.prog 33 #[.slice A1 n1 c1, .slice A2 n2 c2] w fun e w' => e = .returned (.int .i64 (cmpB xs ys)) ∧ StO w w' := by
  have HX : Hid (∀ W, StO w W → ∀ k, k < n1 → ∃ b off, A1 = some ⟨b, off, none⟩ ∧ W.cell? ⟨b, off + k, none⟩ = some (.bool (xs.getD k false))) := hid fun W hW k hk => by
    obtain ⟨b, off, e, h, hlt⟩ := hx.at (k := k) (by omega)
    exact ⟨b, off, e, (hW.out.cell (p := ⟨b, off + k, none⟩) hlt no_).trans h⟩
  have HY : Hid (∀ W, StO w W → ∀ k, k < n2 → ∃ b off, A2 = some ⟨b, off, none⟩ ∧ W.cell? ⟨b, off + k, none⟩ = some (.bool (ys.getD k false))) := hid fun W hW k hk => by
    obtain ⟨b, off, e, h, hlt⟩ := hy.at (k := k) (by omega)
    exact ⟨b, off, e, (hW.out.cell (p := ⟨b, off + k, none⟩) hlt no_).trans h⟩
  have HS : Hid (∀ k, k < n1 → k < n2 → cmpB (xs.drop k) (ys.drop k) = if xs.getD k false = ys.getD k false then cmpB (xs.drop (k + 1)) (ys.drop (k + 1)) else if ys.getD k false then -1 else 1) := hid fun k hk1 hk2 => cmpB_step (by omega) (by omega)
  have HE : Hid (∀ k, k ≤ n1 → k ≤ n2 → (k = n1 ∨ k = n2) → cmpB (xs.drop k) (ys.drop k) = (n1 : Int) - (n2 : Int)) := hid fun k hk1 hk2 h => by
    rw [cmpB_end (by rcases h with h | h; exact .inl (drop_nil (by omega)); exact .inr (drop_nil (by omega))), List.length_drop, List.length_drop]
    omega
  clear hx hy h1 h2
  go_enter Try.func33, Try.ntmps33
  go_wp2_with fail
  go_loopw [5] (fun s wr => ∃ k : Nat, k ≤ n1 ∧ k ≤ n2 ∧ s = .int .i64 (k : Int) ∧ StO w wr ∧ Hid (cmpB xs ys = cmpB (xs.drop k) (ys.drop k))) (fun s _ => n1 - (intOf s).toNat)
  case atStart => exact ⟨0, by omega, by omega, rfl, hid (Only.refl _ _), hid rfl⟩
  case round =>
    obtain ⟨k, hk1, hk2, rfl, HO, HC⟩ := hrel
    have hw12 : IntKind.i64.wrap ((n1 : Int) - (n2 : Int)) = (n1 : Int) - (n2 : Int) := by rw [IntKind.wrap_i64]; omega
    by_cases hp1 : k < n1
    · have hp1' : (k : Int) < (n1 : Int) := by omega
      by_cases hp2 : k < n2
      · have hp2' : (k : Int) < (n2 : Int) := by omega
        obtain ⟨b1, o1, rfl, d1⟩ := HX.out wr HO k hp1
        obtain ⟨b2, o2, rfl, d2⟩ := HY.out wr HO k hp2
        have hst := HS.out k hp1 hp2
        cases ha : xs.getD k false <;> cases hbb : ys.getD k false
        all_goals
          rw [ha] at d1 hst
          rw [hbb] at d2 hst
        all_goals first
          | (rw [if_pos rfl] at hst
             have HC2 := hid (HC.out.trans hst)
             clear hst ha hbb HC
             go_wp2_with fail
             go_quiet (fail)
             have HO2 : StO w (wr.drewN nq) := hid (HO.out.drewN _)
             generalize wr.drewN nq = w2 at HO2 ⊢
             go_wp2_with fail
             go_roundw
             case rel => exact ⟨k + 1, by omega, by omega, by go_num, HO2, HC2⟩
             case measure => simp [intOf]; omega)
          | (rw [if_neg (by decide)] at hst
             have HC2 := hid (HC.out.trans hst)
             have d3 : ∀ q, (wr.drewN q).cell? ⟨b2, o2 + k, none⟩ = wr.cell? ⟨b2, o2 + k, none⟩ := fun q => rfl
             clear hst ha hbb HC
             go_wp2_with fail
             go_quiet (fail)
             have HO2 : StO w (wr.drewN nq) := hid (HO.out.drewN _)
             have d4 := d3 nq
             rw [d2] at d4
             generalize wr.drewN nq = w2 at HO2 d4 ⊢
             clear d3 d1 d2
             go_wp2_with fail
             go_ret
             exact ⟨by rw [HC2.out]; rfl, HO2⟩)
      · obtain rfl : k = n2 := by omega
        have HC2 := hid (HC.out.trans (HE.out k (by omega) (by omega) (.inr rfl)))
        go_wp2_with fail
        go_ret
        exact ⟨by rw [HC2.out]; rfl, HO⟩
    · obtain rfl : k = n1 := by omega
      have HC2 := hid (HC.out.trans (HE.out k (by omega) (by omega) (.inl rfl)))
      go_wp2_with fail
      go_ret
      exact ⟨by rw [HC2.out]; rfl, HO⟩
set_option maxHeartbeats 1000000 in
theorem begins_any {A1 A2 : Option Addr} {n1 n2 c1 c2 : Nat} {xs ys : List Bool} {w : World} (hx : RdB w A1 xs) (hy : RdB w A2 ys) (h1 : n1 = xs.length) (h2 : n2 = ys.length) (hb1 : n1 ≤ 300000000) (hb2 : n2 ≤ 300000000) :
    Calls Try.prog 34 #[.slice A1 n1 c1, .slice A2 n2 c2] w fun e w' => e = .returned (.bool (begB xs ys)) ∧ StO w w' := by
  have HX : Hid (∀ W, StO w W → ∀ k, k < n1 → ∃ b off, A1 = some ⟨b, off, none⟩ ∧ W.cell? ⟨b, off + k, none⟩ = some (.bool (xs.getD k false))) := hid fun W hW k hk => by
    obtain ⟨b, off, e, h, hlt⟩ := hx.at (k := k) (by omega)
    exact ⟨b, off, e, (hW.out.cell (p := ⟨b, off + k, none⟩) hlt no_).trans h⟩
  have HY : Hid (∀ W, StO w W → ∀ k, k < n2 → ∃ b off, A2 = some ⟨b, off, none⟩ ∧ W.cell? ⟨b, off + k, none⟩ = some (.bool (ys.getD k false))) := hid fun W hW k hk => by
    obtain ⟨b, off, e, h, hlt⟩ := hy.at (k := k) (by omega)
    exact ⟨b, off, e, (hW.out.cell (p := ⟨b, off + k, none⟩) hlt no_).trans h⟩
  have HS : Hid (∀ k, k < n1 → k < n2 → begB (xs.drop k) (ys.drop k) = if xs.getD k false = ys.getD k false then begB (xs.drop (k + 1)) (ys.drop (k + 1)) else false) := hid fun k hk1 hk2 => begB_step (by omega) (by omega)
  have HE : Hid (∀ k, k ≤ n1 → k ≤ n2 → (k = n1 ∨ k = n2) → begB (xs.drop k) (ys.drop k) = true) := hid fun k hk1 hk2 h => by
    rw [begB_end (by rcases h with h | h; exact .inl (drop_nil (by omega)); exact .inr (drop_nil (by omega)))]
  clear hx hy h1 h2
  go_enter Try.func34, Try.ntmps34
  go_wp2_with fail
  go_loopw [5] (fun s wr => ∃ k : Nat, k ≤ n1 ∧ k ≤ n2 ∧ s = .int .i64 (k : Int) ∧ StO w wr ∧ Hid (begB xs ys = begB (xs.drop k) (ys.drop k))) (fun s _ => n1 - (intOf s).toNat)
  case atStart => exact ⟨0, by omega, by omega, rfl, hid (Only.refl _ _), hid rfl⟩
  case round =>
    obtain ⟨k, hk1, hk2, rfl, HO, HC⟩ := hrel
    by_cases hp1 : k < n1
    · have hp1' : (k : Int) < (n1 : Int) := by omega
      by_cases hp2 : k < n2
      · have hp2' : (k : Int) < (n2 : Int) := by omega
        obtain ⟨b1, o1, rfl, d1⟩ := HX.out wr HO k hp1
        obtain ⟨b2, o2, rfl, d2⟩ := HY.out wr HO k hp2
        have hst := HS.out k hp1 hp2
        cases ha : xs.getD k false <;> cases hbb : ys.getD k false
        all_goals
          rw [ha] at d1 hst
          rw [hbb] at d2 hst
        all_goals first
          | (rw [if_pos rfl] at hst
             have HC2 := hid (HC.out.trans hst)
             clear hst ha hbb HC
             go_wp2_with fail
             go_quiet (fail)
             have HO2 : StO w (wr.drewN nq) := hid (HO.out.drewN _)
             generalize wr.drewN nq = w2 at HO2 ⊢
             go_wp2_with fail
             go_roundw
             case rel => exact ⟨k + 1, by omega, by omega, by go_num, HO2, HC2⟩
             case measure => simp [intOf]; omega)
          | (rw [if_neg (by decide)] at hst
             have HC2 := hid (HC.out.trans hst)
             clear hst ha hbb HC
             go_wp2_with fail
             go_quiet (fail)
             have HO2 : StO w (wr.drewN nq) := hid (HO.out.drewN _)
             generalize wr.drewN nq = w2 at HO2 ⊢
             clear d1 d2
             go_wp2_with fail
             go_ret
             exact ⟨by rw [HC2.out]; rfl, HO2⟩)
      · obtain rfl : k = n2 := by omega
        have HC2 := hid (HC.out.trans (HE.out k (by omega) (by omega) (.inr rfl)))
        go_wp2_with fail
        go_ret
        exact ⟨by rw [HC2.out]; rfl, HO⟩
    · obtain rfl : k = n1 := by omega
      have HC2 := hid (HC.out.trans (HE.out k (by omega) (by omega) (.inl rfl)))
      go_wp2_with fail
      go_ret
      exact ⟨by rw [HC2.out]; rfl, HO⟩
/-- How much texts are, as far as that is gone through. -/
theorem size_anyL {A : Option Addr} {n c : Nat} {L : List ByteArray} {w : World} (hL : RdS w A L) (hn : n = L.length) (hn2 : n ≤ 140737488355328) (hs : ∀ k, k < n → (strAt L k).size ≤ 140737488355328) :
    Calls Try.prog 19 #[.slice A n c] w fun e w' => ∃ z : Int, e = .returned (.int .i64 z) ∧ ((600 < z) ∨ (z ≤ 600 ∧ z = (((allS L).length : Nat) : Int))) ∧ w = w' := by
  have HL : Hid (∀ k, k < n → ∃ b off, A = some ⟨b, off, none⟩ ∧ w.cell? ⟨b, off + k, none⟩ = some (.string (strAt L k))) := hid fun k hk => by
    obtain ⟨b, off, e, h, _⟩ := hL.at (k := k) (by omega)
    exact ⟨b, off, e, h⟩
  have HS := hid hs
  have HT : Hid (∀ k, k < n → (allS (L.take (k + 1))).length = (allS (L.take k)).length + (strAt L k).size + 1) := hid fun k hk => by
    rw [allS_take (by omega), List.length_append, sgT_len]
    omega
  have HA : Hid (allS (L.take n) = allS L) := hid (by rw [hn, List.take_length])
  clear hL hn hs
  go_enter Try.func19, Try.ntmps19
  go_wp2_with fail
  go_loopw [3, 4] (fun v s wr => ∃ (k : Nat) (z : Int), k ≤ n ∧ s = .int .i64 (k : Int) ∧ v = .int .i64 z ∧ wr = w ∧ -10 ≤ z ∧ z ≤ 281474976710656 ∧ Hid ((600 < z) ∨ z = (n : Int) + ((((allS (L.take k)).length : Nat) : Int) - (k : Int)))) (fun _ s _ => n - (intOf s).toNat)
  case atStart => exact ⟨0, n, by omega, rfl, rfl, rfl, by omega, by omega, hid (.inr (by simp [allS]))⟩
  case round =>
    obtain ⟨k, z, hk, rfl, rfl, rfl, hz1, hz2, HZ⟩ := hrel
    by_cases hp : k < n
    · have hp' : (k : Int) < (n : Int) := by omega
      by_cases h6 : z ≤ 600
      · obtain ⟨b, off, rfl, hc⟩ := HL.out k hp
        have hsz := HS.out k hp
        have hst := HT.out k hp
        have HZ2 : Hid ((600 < z + (((strAt L k).size : Nat) : Int)) ∨ z + (((strAt L k).size : Nat) : Int) = (n : Int) + ((((allS (L.take (k + 1))).length : Nat) : Int) - ((k + 1 : Nat) : Int))) := hid (by
          rcases HZ.out with h | h
          · omega
          · right; omega)
        generalize hsa : strAt L k = s at *
        have hw1 : IntKind.i64.wrap (z + ((s.size : Nat) : Int)) = z + ((s.size : Nat) : Int) := by rw [IntKind.wrap_i64]; omega
        clear hst HZ hsa
        go_wp2_with fail
        go_roundw
        case rel => exact ⟨k + 1, _, by omega, by go_num, rfl, (by first | rfl | trivial), by omega, by omega, HZ2⟩
        case measure => simp [intOf]; omega
      · have HE : Hid ((600 < z) ∨ (z ≤ 600 ∧ z = (((allS L).length : Nat) : Int))) := hid (.inl (by omega))
        clear HZ
        go_wp2_with fail
        go_ret
        exact ⟨z, rfl, HE.out, rfl⟩
    · obtain rfl : k = n := by omega
      have HE : Hid ((600 < z) ∨ (z ≤ 600 ∧ z = (((allS L).length : Nat) : Int))) := hid (by
        have h := HZ.out
        rw [HA.out] at h
        omega)
      clear HZ HA HT
      go_wp2_with fail
      go_ret
      exact ⟨z, rfl, HE.out, rfl⟩
end Go.Proofs.Ytmbcinbkijnblaa

namespace Go.Proofs.Ytmbcinbkijnblaa
open Go.RowKit

theorem turn_one {p q : List Bool} {i j : Nat} (h : p ++ false :: List.replicate i true = q ++ false :: List.replicate j true) : p = q := by
  have key : ∀ (p q : List Bool) (i j : Nat), p.length < q.length → p ++ false :: List.replicate i true ≠ q ++ false :: List.replicate j true := fun p q i j hlt e => by
    have h1 : (p ++ false :: List.replicate i true)[q.length]? = (q ++ false :: List.replicate j true)[q.length]? := by rw [e]
    rw [List.getElem?_append_right (by omega), List.getElem?_append_right (Nat.le_refl _), Nat.sub_self, List.getElem?_cons_zero] at h1
    obtain ⟨x, hx⟩ : ∃ x, q.length - p.length = x + 1 := ⟨q.length - p.length - 1, by omega⟩
    rw [hx, List.getElem?_cons_succ, List.getElem?_replicate] at h1
    split at h1 <;> simp at h1
  rcases Nat.lt_trichotomy p.length q.length with a | a | a
  · exact absurd h (key p q i j a)
  · exact (List.append_inj h a).1
  · exact absurd h.symm (key q p j i a)
theorem Nx.one {u v v' : List Bool} (h : Nx u v) (h' : Nx u v') (hl : v.length = v'.length) : v = v' := by
  obtain ⟨p, i, j, e1, rfl⟩ := h
  obtain ⟨q, i', j', e2, rfl⟩ := h'
  rw [e1] at e2
  obtain rfl := turn_one e2
  have : i = i' := by simpa using hl
  rw [this]
theorem WordsOf.one {ls : List Int} {ws ws' : List (List Bool)} (h : WordsOf ls ws) (h' : WordsOf ls ws') : ws = ws' := by
  have hl : ws.length = ws'.length := by rw [h.len, h'.len]
  have key : ∀ k, k < ws.length → wAt ws k = wAt ws' k := fun k => by
    induction k with
    | zero => intro _; exact h.first.trans h'.first.symm
    | succ k ih =>
      intro hk
      have e := ih (by omega)
      have n1 := h.next k hk
      have n2 := h'.next k (by omega)
      have e' : ws.getD k [] = ws'.getD k [] := e
      rw [e'] at n1
      refine n1.one n2 ?_
      have l1 := h.length hk
      have l2 := h'.length (k := k + 1) (by omega)
      show (ws.getD (k + 1) []).length = (ws'.getD (k + 1) []).length
      omega
  apply List.ext_getElem hl
  intro k h1 h2
  have := key k h1
  simpa [wAt, List.getD, h1, h2] using this
theorem wordsE : WordsOf [1, 2, 2] [[false], [true, false], [true, true]] := .inr ⟨by simp, Lv.two (us := [[false]]) (vs := [[true, false], [true, true]]) (.one _) (Lv.two (us := [[true, false]]) (vs := [[true, true]]) (.one _) (.one _)), rfl⟩
set_option maxHeartbeats 1000000 in
theorem sameTruths_any {A1 A2 : Option Addr} {n1 n2 c1 c2 : Nat} {xs ys : List Bool} {w : World} (hx : RdB w A1 xs) (hy : RdB w A2 ys) (h1 : n1 = xs.length) (h2 : n2 = ys.length) (hb1 : n1 ≤ 300000000) :
    Calls Try.prog 48 #[.slice A1 n1 c1, .slice A2 n2 c2] w fun e w' => e = .returned (.bool (decide (xs = ys))) ∧ StO w w' := by
  by_cases hnm : n1 = n2
  · have HX : Hid (∀ W, StO w W → ∀ k, k < n1 → ∃ b off, A1 = some ⟨b, off, none⟩ ∧ W.cell? ⟨b, off + k, none⟩ = some (.bool (xs.getD k false))) := hid fun W hW k hk => by
      obtain ⟨b, off, e, h, hlt⟩ := hx.at (k := k) (by omega)
      exact ⟨b, off, e, (hW.out.cell (p := ⟨b, off + k, none⟩) hlt no_).trans h⟩
    have HY : Hid (∀ W, StO w W → ∀ k, k < n1 → ∃ b off, A2 = some ⟨b, off, none⟩ ∧ W.cell? ⟨b, off + k, none⟩ = some (.bool (ys.getD k false))) := hid fun W hW k hk => by
      obtain ⟨b, off, e, h, hlt⟩ := hy.at (k := k) (by omega)
      exact ⟨b, off, e, (hW.out.cell (p := ⟨b, off + k, none⟩) hlt no_).trans h⟩
    have HNo : Hid (∀ k, k < n1 → xs.getD k false ≠ ys.getD k false → decide (xs = ys) = false) := hid fun k hk hne => decide_eq_false fun e => hne (by rw [e])
    have HYes : Hid ((∀ j, j < n1 → xs.getD j false = ys.getD j false) → decide (xs = ys) = true) := hid fun h => decide_eq_true (by
      apply List.ext_getElem (by omega)
      intro k hk1 hk2
      have := h k (by omega)
      simpa [List.getD, hk1, hk2] using this)
    subst hnm
    clear hx hy h1 h2
    go_enter Try.func48, Try.ntmps48
    go_wp2_with fail
    go_loopw [5] (fun s wr => ∃ k : Nat, k ≤ n1 ∧ s = .int .i64 (k : Int) ∧ StO w wr ∧ Hid (∀ j, j < k → xs.getD j false = ys.getD j false)) (fun s _ => n1 - (intOf s).toNat)
    case atStart => exact ⟨0, by omega, rfl, hid (Only.refl _ _), hid fun j hj => absurd hj (Nat.not_lt_zero j)⟩
    case round =>
      obtain ⟨k, hk, rfl, HO, HC⟩ := hrel
      by_cases hp1 : k < n1
      · have hp1' : (k : Int) < (n1 : Int) := by omega
        obtain ⟨b1, o1, rfl, d1⟩ := HX.out wr HO k hp1
        obtain ⟨b2, o2, rfl, d2⟩ := HY.out wr HO k hp1
        have HN := HNo.out k hp1
        have HC2 := fun (h : xs.getD k false = ys.getD k false) => (hid fun j (hj : j < k + 1) => by
          by_cases e : j < k
          · exact HC.out j e
          · obtain rfl : j = k := by omega
            exact h : Hid (∀ j, j < k + 1 → xs.getD j false = ys.getD j false))
        cases ha : xs.getD k false <;> cases hbb : ys.getD k false
        all_goals
          rw [ha] at d1 HN HC2
          rw [hbb] at d2 HN HC2
        all_goals first
          | (have HC3 := HC2 rfl
             clear HN HC2 ha hbb HC
             go_wp2_with fail
             go_quiet (fail)
             have HO2 : StO w (wr.drewN nq) := hid (HO.out.drewN _)
             generalize wr.drewN nq = w2 at HO2 ⊢
             go_wp2_with fail
             go_roundw
             case rel => exact ⟨k + 1, by omega, by go_num, HO2, HC3⟩
             case measure => simp [intOf]; omega)
          | (have HC3 := hid (HN (by decide))
             clear HN HC2 ha hbb HC
             go_wp2_with fail
             go_quiet (fail)
             have HO2 : StO w (wr.drewN nq) := hid (HO.out.drewN _)
             generalize wr.drewN nq = w2 at HO2 ⊢
             go_wp2_with fail
             go_ret
             exact ⟨by rw [HC3.out]; rfl, HO2⟩)
      · obtain rfl : k = n1 := by omega
        have HC2 := hid (HYes.out HC.out)
        go_wp2_with fail
        go_ret
        exact ⟨by rw [HC2.out]; rfl, HO⟩
  · have hne : ((n1 : Int) != (n2 : Int)) = true := by rw [bne_iff_ne]; omega
    have HN : Hid (decide (xs = ys) = false) := hid (decide_eq_false fun e => hnm (by rw [h1, h2, e]))
    clear hx hy h1 h2 hnm
    go_enter Try.func48, Try.ntmps48
    go_wp2_with fail
    go_ret
    exact ⟨by rw [HN.out]; rfl, hid (Only.refl _ _)⟩
def txE : List ByteArray := [⟨#[97]⟩, ⟨#[97, 98]⟩]
theorem awE1 : sgUp (allS txE) 257 = [0, 98, 99] := by decide +kernel
theorem awE2 : csUp (allS txE) 257 = [2, 2, 1] := by decide +kernel
theorem awE3 : bestL [2, 2, 1] = [1, 2, 2] := by decide +kernel
theorem awE4 : (allS txE).length = 5 := by decide +kernel
theorem rdS_two (u : World) (b : Nat) (hb : b = u.heap.size) : RdS (u.alloc (.cells #[.string ⟨#[97]⟩, .string ⟨#[97, 98]⟩] 9)) (some ⟨b, 0, none⟩) txE := by
  subst hb
  exact RdV.of_row (World.rowIs_alloc u #[.string ⟨#[97]⟩, .string ⟨#[97, 98]⟩] 9 (vS txE) fun i hi => by
    match i, hi with
    | 0, _ => rfl
    | 1, _ => rfl
    | i + 2, hi => exact absurd (show i + 2 < 2 from hi) (by omega))
theorem rdB_two (u : World) (b : Nat) (x y : Bool) (hb : b = u.heap.size) : RdB (u.alloc (.cells #[.bool x, .bool y] 4)) (some ⟨b, 0, none⟩) [x, y] := by
  subst hb
  exact RdV.of_row (World.rowIs_alloc u #[.bool x, .bool y] 4 (vB [x, y]) fun i hi => by
    match i, hi with
    | 0, _ => rfl
    | 1, _ => rfl
    | i + 2, hi => exact absurd (show i + 2 < 2 from hi) (by omega))
def wsE : List (List Bool) := [[false], [true, false], [true, true]]
theorem codeE_one {w w' : World} {e : Ending} {sg : List Nat} {ls : List Int} {ws : List (List Bool)} (hw : WordsOf ls ws) (hf : Fit ls) (ok : SgOk sg) (len : sg.length = ls.length) (h : CodeE w sg ls e w') : ∃ g : Nat, e = .returned (.tuple #[.pointer (some ⟨g, 0, none⟩), .int .i64 0]) ∧ Hid (CodeS w.heap.size w' g sg ws) ∧ w.heap.size ≤ g ∧ StO w w' := by
  obtain ⟨g, ws', he, hH, ho⟩ := h
  obtain ⟨q1, q2, q3⟩ := hH.out
  obtain rfl := hw.one q1
  exact ⟨g, he, hid (CodeS.of hw hf q3 ok len), q2, ho⟩
theorem fitE : Fit [1, 2, 2] := .inr ⟨by simp, by simp, Tr.two (l := [1]) (r := [2, 2]) (.one 1) (Tr.two (l := [2]) (r := [2]) (.one 2) (.one 2))⟩
theorem sgE_ok : SgOk [0, 98, 99] := by
  have := sgUp_ok (allS txE)
  rwa [awE1] at this
set_option maxRecDepth 100000 in
set_option maxHeartbeats 4000000 in
theorem alAwake (w : World) : Calls Try.prog 12 #[] w fun e w' => e = .returned (.bool true) ∧ StO w w' := by
  have HOf : Hid (Calls Try.prog 21 #[.slice (some ⟨w.heap.size, 0, none⟩) 2 2] (w.alloc (.cells #[.string ⟨#[97]⟩, .string ⟨#[97, 98]⟩] 9)) fun e w' => ∃ g : Nat, e = .returned (.tuple #[.pointer (some ⟨g, 0, none⟩), .int .i64 0]) ∧ Hid (CodeS w.heap.size w' g [0, 98, 99] wsE) ∧ StO w w') := hid (by
    have h := of_any (n := 2) (c := 2) (rdS_two w _ rfl) rfl (by omega) (by rw [awE4]; omega)
    rw [awE1, awE2, awE3] at h
    refine h.mono ?_
    intro e w' he
    obtain ⟨g, h1, h2, _, h4⟩ := codeE_one wordsE fitE sgE_ok rfl he
    refine ⟨g, h1, hid ⟨h2.out.is.base (by simp), h2.out.ok, h2.out.len, h2.out.long, h2.out.few⟩, hid (((Only.refl _ w).alloc _).trans h4.out)⟩)
  have HLe : Hid (∀ u g, CodeS w.heap.size u g [0, 98, 99] wsE → Calls Try.prog 37 #[.pointer (some ⟨g, 0, none⟩)] u fun e w' => ∃ A c, e = .returned (.slice A 3 c) ∧ Hid (RdI w' A [1, 2, 2]) ∧ StO u w') := hid fun u g h => by
    refine (lengthsC_any h).mono ?_
    rintro e w' ⟨v, he, hO⟩
    obtain ⟨A, c, rfl, hO2⟩ := hO.out.made (n := 3) rfl
    exact ⟨A, c, he, hid hO2.out.rd.1, hid hO2.out.only⟩
  have HSg : Hid (∀ u g, CodeS w.heap.size u g [0, 98, 99] wsE → Calls Try.prog 35 #[.pointer (some ⟨g, 0, none⟩)] u fun e w' => ∃ A c, e = .returned (.slice A 3 c) ∧ Hid (RdI w' A [0, 98, 99]) ∧ StO u w') := hid fun u g h => by
    refine (signs_any h).mono ?_
    rintro e w' ⟨v, he, hO⟩
    obtain ⟨A, c, rfl, hO2⟩ := hO.out.made (n := 3) rfl
    exact ⟨A, c, he, hid hO2.out.rd.1, hid hO2.out.only⟩
  have HLo : Hid (∀ u g, CodeS w.heap.size u g [0, 98, 99] wsE → Calls Try.prog 38 #[.pointer (some ⟨g, 0, none⟩), .string ⟨#[97, 98]⟩] u fun e w' => e = .returned (.tuple #[.int .i64 5, .int .i64 0]) ∧ StO u w') := hid fun u g h => by
    have h1 := long_any (s := ⟨#[97, 98]⟩) h (by decide)
    have e1 : okT [0, 98, 99] (sgT ⟨#[97, 98]⟩) = true := by decide +kernel
    have e2 : (bitsT [0, 98, 99] wsE (sgT ⟨#[97, 98]⟩)).length = 5 := by decide +kernel
    unfold LongE at h1
    rw [e1, e2] at h1
    exact h1
  have HWd : Hid (∀ u g, CodeS w.heap.size u g [0, 98, 99] wsE → Calls Try.prog 36 #[.pointer (some ⟨g, 0, none⟩), .int .i64 99] u fun e w' => ∃ A c, e = .returned (.slice A 2 c) ∧ Hid (RdB w' A [true, true]) ∧ StO u w') := hid fun u g h => by
    have h1 := word_any h 99
    have e1 : wordI [0, 98, 99] wsE 99 = [true, true] := by decide +kernel
    rw [e1] at h1
    refine h1.mono ?_
    rintro e w' ⟨A, c, he, q1, q2, q3⟩
    exact ⟨A, c, he, q1, q3⟩
  have HSi : Hid (∀ u A B c1 c2 (zs : List Int), RdI u A zs → RdI u B zs → zs.length = 3 → Calls Try.prog 39 #[.slice A 3 c1, .slice B 3 c2] u fun e w' => e = .returned (.bool true) ∧ StO u w') := hid fun u A B c1 c2 zs ha hb hl => by
    have := same_rd (c1 := c1) (c2 := c2) ha hb (by omega)
    rwa [hl] at this
  have HSt : Hid (∀ u A B c1 c2, RdB u A [true, true] → RdB u B [true, true] → Calls Try.prog 48 #[.slice A 2 c1, .slice B 2 c2] u fun e w' => e = .returned (.bool true) ∧ StO u w') := hid fun u A B c1 c2 ha hb => by
    have := sameTruths_any (n1 := 2) (n2 := 2) (c1 := c1) (c2 := c2) ha hb rfl rfl (by omega)
    simpa using this
  go_enter Try.func12, Try.ntmps12
  go_wp2_with fail
  refine HOf.out.mono ?_
  rintro e w1 ⟨g, rfl, HC, HO1⟩
  clear HOf
  go_wp2_with fail
  refine (HLe.out _ _ HC.out).mono ?_
  rintro e w2 ⟨A2, c2, rfl, HR2, HO2⟩
  have HC2 := hid (HC.out.same HO2.out)
  have HO02 : StO w w2 := hid (HO1.out.trans HO2.out)
  clear HC HO1 HO2
  go_wp2_with fail
  refine (HSi.out _ _ _ _ _ [1, 2, 2] (RdI.st HR2.out (hid ((Only.refl _ _).alloc _))) (rd_cells w2 [1, 2, 2] #[.int .i64 1, .int .i64 2, .int .i64 2] rfl) rfl).mono ?_
  rintro e w3 ⟨rfl, HO3⟩
  have HC3 := hid (HC2.out.same (((Only.refl _ w2).alloc _).trans HO3.out))
  have HO03 : StO w w3 := hid (HO02.out.trans (((Only.refl _ w2).alloc _).trans HO3.out))
  clear HC2 HO02 HO3 HR2
  go_wp2_with fail
  refine (HSg.out _ _ HC3.out).mono ?_
  rintro e w4 ⟨A4, c4, rfl, HR4, HO4⟩
  have HC4 := hid (HC3.out.same HO4.out)
  have HO04 : StO w w4 := hid (HO03.out.trans HO4.out)
  clear HC3 HO03 HO4
  go_wp2_with fail
  refine (HSi.out _ _ _ _ _ [0, 98, 99] (RdI.st HR4.out (hid ((Only.refl _ _).alloc _))) (rd_cells w4 [0, 98, 99] #[.int .i64 0, .int .i64 98, .int .i64 99] rfl) rfl).mono ?_
  rintro e w5 ⟨rfl, HO5⟩
  have HC5 := hid (HC4.out.same (((Only.refl _ w4).alloc _).trans HO5.out))
  have HO05 : StO w w5 := hid (HO04.out.trans (((Only.refl _ w4).alloc _).trans HO5.out))
  clear HC4 HO04 HO5 HR4
  go_wp2_with fail
  refine (HLo.out _ _ HC5.out).mono ?_
  rintro e w6 ⟨rfl, HO6⟩
  have HC6 := hid (HC5.out.same HO6.out)
  have HO06 : StO w w6 := hid (HO05.out.trans HO6.out)
  clear HC5 HO05 HO6
  go_wp2_with fail
  refine (HWd.out _ _ HC6.out).mono ?_
  rintro e w7 ⟨A7, c7, rfl, HR7, HO7⟩
  have HO07 : StO w w7 := hid (HO06.out.trans HO7.out)
  clear HC6 HO06 HO7
  go_wp2_with fail
  refine (HSt.out _ _ _ _ _ (HR7.out.only ((Only.refl _ _).alloc _) fun _ _ _ => no_) (rdB_two w7 _ true true rfl)).mono ?_
  rintro e w8 ⟨rfl, HO8⟩
  go_wp2_with fail
  go_ret
  exact ⟨rfl, hid (HO07.out.trans (((Only.refl _ w7).alloc _).trans HO8.out))⟩
end Go.Proofs.Ytmbcinbkijnblaa

namespace Go.Proofs.Ytmbcinbkijnblaa
open Go.RowKit

theorem wsum_map (f h : Nat → Int) : ∀ (sg : List Nat) (pre : List Int), wsum (wt (pre ++ sg.map f)) pre.length (sg.map h) = (sg.map fun s => f s * h s).sum
  | [], pre => by simp [wsum]
  | s :: sg, pre => by
    have ih := wsum_map f h sg (pre ++ [f s])
    rw [List.length_append] at ih
    simp only [List.map_cons, wsum, List.sum_cons]
    rw [show pre ++ f s :: sg.map f = pre ++ [f s] ++ sg.map f by simp]
    have e : wt (pre ++ [f s] ++ sg.map f) pre.length = f s := by simp [wt, List.getD]
    rw [e]
    simpa using ih
theorem costL_map (f h : Nat → Int) (sg : List Nat) : costL (sg.map f) (sg.map h) = (sg.map fun s => f s * h s).sum := by
  have := wsum_map f h sg []
  simpa [costL] using this
theorem sum_add (f g : Nat → Int) : ∀ sg : List Nat, (sg.map fun s => f s + g s).sum = (sg.map f).sum + (sg.map g).sum
  | [] => by simp
  | s :: sg => by simp only [List.map_cons, List.sum_cons, sum_add f g sg]; omega
theorem sum_zero (f : Nat → Int) : ∀ sg : List Nat, (∀ s ∈ sg, f s = 0) → (sg.map f).sum = 0
  | [], _ => by simp
  | s :: sg, h => by
    simp only [List.map_cons, List.sum_cons]
    rw [h s (List.mem_cons_self ..), sum_zero f sg fun t ht => h t (List.mem_cons_of_mem _ ht)]
    rfl
theorem sum_single (h : Nat → Int) (x : Nat) : ∀ sg : List Nat, sg.Nodup → x ∈ sg → (sg.map fun s => if x = s then h s else 0).sum = h x
  | [], _, hx => by cases hx
  | s :: sg, hn, hx => by
    have hn := List.nodup_cons.1 hn
    simp only [List.map_cons, List.sum_cons]
    by_cases e : x = s
    · subst e
      rw [if_pos rfl, sum_zero _ sg fun t ht => if_neg (fun e2 => hn.1 (by rw [e2]; exact ht))]
      omega
    · rw [if_neg e, sum_single h x sg hn.2 (by rcases List.mem_cons.1 hx with h1 | h1; exact absurd h1 e; exact h1)]
      omega
theorem bits_cost (sg : List Nat) (ws : List (List Bool)) (hn : sg.Nodup) : ∀ l : List (Fin 257), (∀ x ∈ l, x.val ∈ sg) → ((bitsT sg ws l).length : Int) = (sg.map fun s => ((cntS l s : Nat) : Int) * (((wordZ sg ws s).length : Nat) : Int)).sum
  | [], _ => by
    rw [sum_zero]
    · rfl
    · intro s _
      simp [cntS]
  | x :: l, h => by
    have ih := bits_cost sg ws hn l fun y hy => h y (List.mem_cons_of_mem _ hy)
    have e1 : (bitsT sg ws (x :: l)).length = (wordZ sg ws x.val).length + (bitsT sg ws l).length := by simp [bitsT]
    have e2 : ∀ s, ((cntS (x :: l) s : Nat) : Int) * (((wordZ sg ws s).length : Nat) : Int) = ((cntS l s : Nat) : Int) * (((wordZ sg ws s).length : Nat) : Int) + if x.val = s then (((wordZ sg ws s).length : Nat) : Int) else 0 := fun s => by
      have : cntS (x :: l) s = cntS l s + if x.val = s then 1 else 0 := by simp [cntS, List.countP_cons]
      rw [this]
      by_cases e : x.val = s
      · simp [e]; rw [Int.add_mul]; omega
      · simp [e]
    rw [e1, show (fun s => ((cntS (x :: l) s : Nat) : Int) * (((wordZ sg ws s).length : Nat) : Int)) = fun s => ((cntS l s : Nat) : Int) * (((wordZ sg ws s).length : Nat) : Int) + if x.val = s then (((wordZ sg ws s).length : Nat) : Int) else 0 from funext e2, sum_add, ← ih, sum_single (fun s => (((wordZ sg ws s).length : Nat) : Int)) x.val sg hn (h x (List.mem_cons_self ..))]
    omega
theorem lens_words {sg : List Nat} {ws : List (List Bool)} (ok : SgOk sg) (len : sg.length = ws.length) : sg.map (fun s => (((wordZ sg ws s).length : Nat) : Int)) = lens ws := by
  apply List.ext_getElem (by simp [lens, len])
  intro k h1 h2
  have hk : k < sg.length := by simpa using h1
  have hk2 : k < ws.length := by omega
  have e := wordZ_at (ws := ws) ok hk
  rw [List.getElem_map]
  have e2 : sg.getD k 0 = sg[k] := by simp [List.getD, hk]
  rw [e2] at e
  rw [e]
  simp [lens, hk2]
/-- What texts take is what the lengths cost. -/
theorem bits_costL {sg : List Nat} {ws : List (List Bool)} {ls : List Int} {l : List (Fin 257)} (hw : WordsOf ls ws) (ok : SgOk sg) (len : sg.length = ws.length) (hl : ∀ x ∈ l, x.val ∈ sg) : (((bitsT sg ws l).length : Nat) : Int) = costL (sg.map fun s => ((cntS l s : Nat) : Int)) ls := by
  rw [bits_cost sg ws ok.nodup l hl, ← hw.lens, ← lens_words ok len, costL_map]
theorem sg_all {l : List (Fin 257)} : ∀ x ∈ l, x.val ∈ sgUp l 257 := fun x hx => sgUp_mem.2 ⟨x.isLt, by
  unfold cntS
  exact List.countP_pos_iff.2 ⟨x, hx, by simp⟩⟩
theorem okT_all {sg : List Nat} {l : List (Fin 257)} (h : ∀ x ∈ l, x.val ∈ sg) : okT sg l = true := by
  unfold okT
  rw [List.all_eq_true]
  intro x hx
  exact decide_eq_true (h x hx)
theorem sgI_are {sg : List Nat} (ok : SgOk sg) : areSg (sgI sg) = true := by
  have hl : (sgI sg).length = sg.length := by simp [sgI]
  refine areSg_true fun k hk => ?_
  rw [hl] at hk
  have g : ∀ j, j < sg.length → (sgI sg).getD j 0 = ((sg.getD j 0 : Nat) : Int) := fun j hj => by simp [sgI, List.getD, hj]
  unfold sgAt isSg
  rw [g k hk]
  have h1 := ok.2 k hk
  by_cases h0 : k = 0
  · simp [h0] at h1 ⊢
    omega
  · rw [g (k - 1) (by omega)]
    have h2 := ok.1 (k - 1) k (by omega) hk
    simp only [Bool.and_eq_true, Bool.or_eq_true, decide_eq_true_eq]
    omega
theorem natS_sgI (sg : List Nat) : natS (sgI sg) = sg := by
  unfold natS sgI
  rw [List.map_map]
  conv => rhs; rw [← List.map_id sg]
  apply List.map_congr_left
  intro s _
  simp
theorem sgI_inI {sg : List Nat} (ok : SgOk sg) : InI (sgI sg) := fun z hz => by
  unfold sgI at hz
  obtain ⟨s, hs, rfl⟩ := List.mem_map.1 hz
  obtain ⟨i, hi, e⟩ := List.mem_iff_getElem.1 hs
  have := ok.2 i hi
  simp [List.getD, hi, e] at this
  omega
end Go.Proofs.Ytmbcinbkijnblaa
