/- What lengths cost. -/
import Derived.Test.YthfnpgmjbfbocaaTk4
namespace Go.Proofs.Ythfnpgmjbfbocaa
open Go.RowKit

noncomputable def okC (ws ls : List Int) : Bool := isW ws && fitB ls && decide (ws.length = ls.length)
/-- What Cost answers. -/
noncomputable def costE (ws ls : List Int) : Value := if okC ws ls = true then .tuple #[.int .i64 (costL ws ls), .int .i64 0] else .tuple #[.int .i64 0, .int .i64 2]
theorem okC_parts {ws ls : List Int} (h : okC ws ls = true) : isW ws = true ∧ fitB ls = true ∧ ws.length = ls.length := by
  unfold okC at h
  simp only [Bool.and_eq_true, decide_eq_true_eq] at h
  exact ⟨h.1.1, h.1.2, h.2⟩
def pcost (ws ls : List Int) (k : Nat) : Int := wsum (wt ws) 0 (ls.take k)
theorem pcost_step {ws ls : List Int} {k : Nat} (h : k < ls.length) : pcost ws ls (k + 1) = pcost ws ls k + wt ws k * ls.getD k 0 := by
  unfold pcost
  rw [take_getD h, wsum_append, List.length_take, Nat.min_eq_left (by omega), Nat.zero_add]
  simp [wsum]
theorem pcost_all (ws ls : List Int) : pcost ws ls ls.length = costL ws ls := by unfold pcost costL; rw [List.take_length]
theorem term_bound {ws ls : List Int} (h : okC ws ls = true) {k : Nat} (hk : k < ls.length) : 0 ≤ wt ws k * ls.getD k 0 ∧ wt ws k * ls.getD k 0 ≤ 1099511627776 := by
  obtain ⟨h1, h2, _⟩ := okC_parts h
  have ⟨_, _, hw⟩ := isW_of h1
  have hl := (fitB_true.1 h2).small _ (getD_mem hk)
  have a := hw k
  refine ⟨Int.mul_nonneg a.1 hl.1, ?_⟩
  have h3 : wt ws k * ls.getD k 0 ≤ 4294967296 * 256 := Int.mul_le_mul a.2 hl.2 hl.1 (by omega)
  omega
theorem pcost_bound {ws ls : List Int} (h : okC ws ls = true) : ∀ k, k ≤ ls.length → 0 ≤ pcost ws ls k ∧ pcost ws ls k ≤ (k : Int) * 1099511627776
  | 0, _ => by simp [pcost, wsum]
  | k + 1, hk => by
    rw [pcost_step (by omega)]
    have := pcost_bound h k (by omega)
    have := term_bound h (k := k) (by omega)
    omega
theorem okC_few {ws ls : List Int} (h : okC ws ls = true) : 1 ≤ ls.length ∧ ls.length ≤ 257 := (fitB_true.1 (okC_parts h).2.1).few

set_option maxHeartbeats 4000000 in
theorem cost_any {A B : Option Addr} {c1 c2 : Nat} {ws ls : List Int} {w : World} (hw : RdI w A ws) (hl : RdI w B ls) (hi : InI ls) (h1 : ws.length ≤ 9223372036854775807) (h2 : ls.length ≤ 9223372036854775807) :
    Calls Try.prog 41 #[.slice A ws.length c1, .slice B ls.length c2] w fun e w' => e = .returned (costE ws ls) ∧ Hid (Only (fun _ => False) w w') := by
  have HA := hid (areW_any (cap := c1) hw h1)
  have HB : Hid (Calls Try.prog 43 #[.slice B ls.length c2] w fun e w' => e = .returned (.bool (fitB ls)) ∧ Hid (Only (fun _ => False) w w')) := hid (fits_any hl hi h2)
  have HW := hid hw
  have HL := hid hl
  cases hok : okC ws ls with
  | false =>
    have HE : Hid (costE ws ls = .tuple #[.int .i64 0, .int .i64 2]) := hid (by unfold costE; rw [if_neg (by simp [hok])])
    have hok' := hok
    unfold okC at hok'
    clear hw hl hi hok
    generalize costE ws ls = ce at HE ⊢
    cases hiw : isW ws with
    | false =>
      rw [hiw] at HA
      clear hok' hiw
      generalize ws.length = N at *
      generalize ls.length = M at *
      go_enter Try.func41, Try.ntmps41
      go_wp2_with (go_at_call 45; refine HA.out.mono ?_; rintro e w' ⟨rfl, rfl⟩)
      go_ret2
      exact ⟨by rw [HE.out]; rfl, hid (Only.refl _ w)⟩
    | true =>
      rw [hiw] at HA hok'
      cases hf : fitB ls with
      | false =>
        rw [hf] at HB
        clear hok' hiw hf
        generalize ws.length = N at *
        generalize ls.length = M at *
        go_enter Try.func41, Try.ntmps41
        go_wp2_with (first | (go_at_call 45; refine HA.out.mono ?_; rintro e w' ⟨rfl, rfl⟩) | (go_at_call 43; refine HB.out.mono ?_; rintro e w2 ⟨rfl, HO⟩))
        go_ret2
        exact ⟨by rw [HE.out]; rfl, HO⟩
      | true =>
        rw [hf] at HB hok'
        have hne : ¬ ws.length = ls.length := by simpa using hok'
        clear hok' hiw hf
        generalize ws.length = N at *
        generalize ls.length = M at *
        have hne' : ¬ (N : Int) = (M : Int) := by omega
        go_enter Try.func41, Try.ntmps41
        go_wp2_with (first | (go_at_call 45; refine HA.out.mono ?_; rintro e w' ⟨rfl, rfl⟩) | (go_at_call 43; refine HB.out.mono ?_; rintro e w2 ⟨rfl, HO⟩))
        go_ret2
        exact ⟨by rw [HE.out]; rfl, HO⟩
  | true =>
    obtain ⟨hiw, hf, hn⟩ := okC_parts hok
    have HE : Hid (costE ws ls = .tuple #[.int .i64 (pcost ws ls ls.length), .int .i64 0]) := hid (by unfold costE; rw [if_pos hok, pcost_all])
    have hfew := (okC_few hok).2
    have HS : Hid (∀ k, k < ls.length → pcost ws ls (k + 1) = pcost ws ls k + wt ws k * ls.getD k 0) := hid fun k hk => pcost_step hk
    have HT : Hid (∀ k, k < ls.length → 0 ≤ wt ws k * ls.getD k 0 ∧ wt ws k * ls.getD k 0 ≤ 1099511627776) := hid fun k hk => term_bound hok hk
    have HP : Hid (∀ k, k ≤ ls.length → 0 ≤ pcost ws ls k ∧ pcost ws ls k ≤ (k : Int) * 1099511627776) := hid (pcost_bound hok)
    have H0 : Hid (pcost ws ls 0 = 0) := hid (by simp [pcost, wsum])
    rw [hiw] at HA
    rw [hf] at HB
    rw [hn] at HA ⊢
    have HW2 : Hid (RdV w A ls.length (vI ws)) := hid (by rw [← hn]; exact hw)
    have HL2 : Hid (RdV w B ls.length (vI ls)) := hid hl
    clear hw hl hi hok hiw hf HW HL hn h1
    generalize costE ws ls = ce at HE ⊢
    generalize pcost ws ls = P at *
    generalize ls.length = N at *
    go_enter Try.func41, Try.ntmps41
    go_wp2_with (first | (go_at_call 45; refine HA.out.mono ?_; rintro e w' ⟨rfl, rfl⟩) | (go_at_call 43; refine HB.out.mono ?_; rintro e w2 ⟨rfl, HO⟩))
    have HW3 := hid (HW2.out.only HO.out fun _ _ _ => no_)
    have HL3 := hid (HL2.out.only HO.out fun _ _ _ => no_)
    clear HW2 HL2 HA HB
    go_loop [6, 26] (fun s i => ∃ k : Nat, k ≤ N ∧ i = .int .i64 k ∧ s = .int .i64 (P k)) (fun _ i => N - (intOf i).toNat)
    case atStart => exact ⟨0, by omega, rfl, by rw [H0.out]⟩
    case round =>
      obtain ⟨k, hk, rfl, rfl⟩ := hrel
      have hPk := HP.out k hk
      by_cases hp : k < N
      · obtain ⟨b, off, hA, hc, _⟩ := HW3.out.at hp
        obtain ⟨b2, off2, hB, hc2, _⟩ := HL3.out.at hp
        unfold vI at hc hc2
        subst hA
        subst hB
        have ht := HT.out k hp
        have HN := hid (HS.out k hp)
        unfold wt at ht HN
        generalize ws.getD k 0 = x at hc ht HN
        generalize ls.getD k 0 = y at hc2 ht HN
        have hwr : IntKind.i64.wrap (x * y) = x * y := by rw [IntKind.wrap_i64]; omega
        generalize P k = p at hPk HN ⊢
        go_wp2
        go_round
        case rel => exact ⟨k + 1, by omega, by go_num, by rw [HN.out]⟩
        case measure => simp [intOf]; omega
      · obtain rfl : k = N := by omega
        go_wp2
        go_ret2
        exact ⟨by rw [HE.out]; rfl, HO⟩
end Go.Proofs.Ythfnpgmjbfbocaa
