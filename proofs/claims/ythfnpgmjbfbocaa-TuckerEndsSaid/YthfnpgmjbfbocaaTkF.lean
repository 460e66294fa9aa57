/- The document's weights, fits, costs. -/
import Derived.Test.YthfnpgmjbfbocaaTkE
namespace Go.Proofs.Ythfnpgmjbfbocaa
open Go.RowKit

set_option maxHeartbeats 1000000 in
theorem refW_any {A : Option Addr} {cap : Nat} {zs : List Int} {w : World} (hz : RdI w A zs) (hl : zs.length ≤ 9223372036854775807) :
    Calls Try.prog 76 #[.slice A zs.length cap] w fun e w' => e = .returned (.bool (isW zs)) ∧ w = w' := by
  have HZ : Hid (RdV w A zs.length (vI zs)) := hid hz
  have HB : Hid (∀ k, k < zs.length → badW (zs.getD k 0) = true → isW zs = false) := hid fun k hk h => by rw [isW_noBad, noBad_not hk h]; simp
  have HG : Hid ((∀ j, j < zs.length → badW (zs.getD j 0) = false) → isW zs = decide (1 ≤ zs.length ∧ zs.length ≤ 257)) := hid fun h => by rw [isW_noBad, noBad_of h]; simp
  clear hz
  generalize isW zs = b at *
  generalize zs.length = N at *
  go_enter Try.func76, Try.ntmps76
  go_wp2
  go_loop [3] (fun s => ∃ k : Nat, k ≤ N ∧ s = .int .i64 k ∧ Hid (∀ j, j < k → badW (zs.getD j 0) = false)) (fun s => N - (intOf s).toNat)
  case atStart => exact ⟨0, by omega, rfl, hid fun j hj => absurd hj (by omega)⟩
  case round =>
    obtain ⟨k, hk, rfl, HA⟩ := hrel
    by_cases hp : k < N
    · obtain ⟨b2, off, hA, hc, _⟩ := HZ.out.at hp
      unfold vI at hc
      subst hA
      have HBk := hid (HB.out k hp)
      obtain ⟨z, hz⟩ : ∃ z, z = zs.getD k 0 := ⟨_, rfl⟩
      rw [← hz] at hc HBk
      by_cases h0 : z < 0
      · have HF : Hid (b = false) := hid (HBk.out (decide_eq_true (.inl h0)))
        clear hz HA HBk
        go_wp2
        go_ret
        exact ⟨ret_bool HF.out.symm, rfl⟩
      · by_cases h1 : 4294967296 < z
        · have HF : Hid (b = false) := hid (HBk.out (decide_eq_true (.inr h1)))
          clear hz HA HBk
          go_wp2
          go_ret
          exact ⟨ret_bool HF.out.symm, rfl⟩
        · have HA2 : Hid (∀ j, j < k + 1 → badW (zs.getD j 0) = false) := hid fun j hj => by
            by_cases e : j = k
            · subst e; rw [← hz]; exact decide_eq_false (by omega)
            · exact HA.out j (by omega)
          clear hz HA HBk
          go_wp2
          go_round
          case rel => exact ⟨k + 1, by omega, by go_num, HA2⟩
          case measure => simp [intOf]; omega
    · obtain rfl : k = N := by omega
      have HF := hid (HG.out HA.out)
      clear HA
      by_cases h1 : 1 ≤ k
      · have h1' : (1 : Int) ≤ (k : Int) := by omega
        by_cases h2 : k ≤ 257
        · have h2' : (k : Int) ≤ 257 := by omega
          have HF2 : Hid (b = true) := hid (by rw [HF.out]; exact decide_eq_true ⟨h1, h2⟩)
          clear HF
          go_wp2
          go_ret
          exact ⟨ret_bool HF2.out.symm, rfl⟩
        · have h2' : ¬ (k : Int) ≤ 257 := by omega
          have HF2 : Hid (b = false) := hid (by rw [HF.out]; exact decide_eq_false (by omega))
          clear HF
          go_wp2
          go_ret
          exact ⟨ret_bool HF2.out.symm, rfl⟩
      · have h1' : ¬ (1 : Int) ≤ (k : Int) := by omega
        have HF2 : Hid (b = false) := hid (by rw [HF.out]; exact decide_eq_false (by omega))
        clear HF
        go_wp2
        go_ret
        exact ⟨ret_bool HF2.out.symm, rfl⟩

/-- The first of the greatest, of the first i. -/
def MaxAt (a : List Int) (b i : Nat) : Prop := b < i ∧ (∀ j, j < b → a.getD j 0 < a.getD b 0) ∧ (∀ j, j < i → a.getD j 0 ≤ a.getD b 0)
theorem MaxAt.start (a : List Int) : MaxAt a 0 1 := ⟨by omega, fun j h => absurd h (by omega), fun j h => by
  obtain rfl : j = 0 := by omega
  exact Int.le_refl _⟩
theorem MaxAt.more {a : List Int} {b i : Nat} (h : MaxAt a b i) (hi : a.getD b 0 < a.getD i 0) : MaxAt a i (i + 1) :=
  ⟨by omega, fun j hj => by have := h.2.2 j hj; omega, fun j hj => by
    by_cases e : j = i
    · subst e; exact Int.le_refl _
    · have := h.2.2 j (by omega); omega⟩
theorem MaxAt.less {a : List Int} {b i : Nat} (h : MaxAt a b i) (hi : ¬ a.getD b 0 < a.getD i 0) : MaxAt a b (i + 1) :=
  ⟨by have := h.1; omega, h.2.1, fun j hj => by
    by_cases e : j = i
    · subst e; omega
    · exact h.2.2 j (by omega)⟩
theorem MaxAt.cut {a : List Int} {b : Nat} (h : MaxAt a b a.length) : a = a.take b ++ a.getD b 0 :: a.drop (b + 1) ∧ (∀ e ∈ a.take b, e < a.getD b 0) ∧ (∀ e ∈ a.drop (b + 1), e ≤ a.getD b 0) := by
  have hb := h.1
  refine ⟨?_, fun e he => ?_, fun e he => ?_⟩
  · have : a.drop b = a.getD b 0 :: a.drop (b + 1) := by
      rw [List.drop_eq_getElem_cons hb]
      simp [List.getD, hb]
    rw [← this, List.take_append_drop]
  · obtain ⟨j, hj, rfl⟩ := List.mem_iff_getElem.1 he
    rw [List.length_take] at hj
    have := h.2.1 j (by omega)
    rw [List.getElem_take]
    simpa [List.getD, show j < a.length by omega, hb] using this
  · obtain ⟨j, hj, rfl⟩ := List.mem_iff_getElem.1 he
    rw [List.length_drop] at hj
    have := h.2.2 (b + 1 + j) (by omega)
    rw [List.getElem_drop]
    simpa [List.getD, show b + 1 + j < a.length by omega, hb] using this
/-- The deepest has no fellow: no tree. -/
theorem MaxAt.no {a : List Int} {b : Nat} (h : MaxAt a b a.length) (h2 : 2 ≤ a.length) (hx : a.getD b 0 < 1 ∨ b + 1 = a.length ∨ a.getD (b + 1) 0 ≠ a.getD b 0) : ¬ Tr 0 a := by
  intro ht
  obtain ⟨e, h1, h3⟩ := h.cut
  rw [e] at ht h2
  obtain ⟨h4, z, h5, _⟩ := Tr.step h1 h3 h2 ht
  rcases hx with hx | hx | hx
  · omega
  · have := congrArg List.length h5
    rw [List.length_drop] at this
    simp at this
    omega
  · apply hx
    have hl := congrArg List.length h5
    rw [List.length_drop] at hl
    simp at hl
    have : (a.drop (b + 1)).getD 0 0 = a.getD b 0 := by rw [h5]; rfl
    simp only [List.getD, List.getElem?_drop, Nat.add_zero] at this
    simpa [List.getD] using this
/-- It has one: both are as good as one, one less deep. -/
theorem MaxAt.yes {a : List Int} {b : Nat} (h : MaxAt a b a.length) (hx : b + 1 < a.length) (he : a.getD (b + 1) 0 = a.getD b 0) : Tr 0 a ↔ Tr 0 (a.take b ++ [a.getD b 0 - 1] ++ a.drop (b + 2)) := by
  obtain ⟨e, h1, h3⟩ := h.cut
  have hd : a.drop (b + 1) = a.getD b 0 :: a.drop (b + 2) := by
    rw [List.drop_eq_getElem_cons hx, ← he]
    simp [List.getD, hx]
  rw [hd] at h3 e
  have := Tr.step_iff h1 (fun x hx => h3 x (List.mem_cons_of_mem _ hx))
  rw [← e] at this
  rw [this, List.append_assoc]
  rfl
theorem ref_take {a : List Int} {b : Nat} (hb : b < a.length) (x : Int) : (a.set b x).take (b + 1) = a.take b ++ [x] := by
  rw [List.set_eq_take_append_cons_drop, if_pos hb, List.take_append]
  have e : (a.take b).length = b := by rw [List.length_take]; omega
  rw [e, show b + 1 - b = 1 by omega, List.take_of_length_le (by omega)]
  rfl
theorem ref_drop {a : List Int} {b : Nat} (x : Int) : (a.set b x).drop (b + 2) = a.drop (b + 2) := by
  apply List.ext_getElem?
  intro j
  rw [List.getElem?_drop, List.getElem?_drop, List.getElem?_set, if_neg (by omega)]
set_option maxHeartbeats 4000000 in
theorem refCost_any {A B : Option Addr} {c1 c2 : Nat} {ws ls : List Int} {w : World} (hw : RdI w A ws) (hl : RdI w B ls)
    (HB : Hid (Calls Try.prog 44 #[.slice B ls.length c2] w fun e w' => e = .returned (.bool (fitB ls)) ∧ StO w w')) (h1 : ws.length ≤ 9223372036854775807) (h2 : ls.length ≤ 9223372036854775807) :
    Calls Try.prog 42 #[.slice A ws.length c1, .slice B ls.length c2] w fun e w' => e = .returned (costE ws ls) ∧ StO w w' := by
  have HA := hid (refW_any (cap := c1) hw h1)
  cases hok : okC ws ls with
  | false =>
    have HE : Hid (costE ws ls = .tuple #[.int .i64 0, .int .i64 2]) := hid (by unfold costE; rw [if_neg (by simp [hok])])
    have hok' := hok
    unfold okC at hok'
    clear hw hl hok
    generalize costE ws ls = ce at HE ⊢
    cases hiw : isW ws with
    | false =>
      rw [hiw] at HA
      clear hok' hiw
      generalize ws.length = N at *
      generalize ls.length = M at *
      go_enter Try.func42, Try.ntmps42
      go_wp2_with (go_at_call 76; refine HA.out.mono ?_; rintro e w' ⟨rfl, rfl⟩)
      go_ret2
      exact ⟨by rw [HE.out]; rfl, hid (Only.refl _ w)⟩
    | true =>
      rw [hiw] at HA hok'
      cases hf : fitB ls with
      | false =>
        rw [hf] at HB
        clear hok' hiw hf
        generalize ws.length = N at *
        generalize ls.length = M at *
        go_enter Try.func42, Try.ntmps42
        go_wp2_with (first | (go_at_call 76; refine HA.out.mono ?_; rintro e w' ⟨rfl, rfl⟩) | (go_at_call 44; refine HB.out.mono ?_; rintro e w2 ⟨rfl, HO⟩))
        go_ret2
        exact ⟨by rw [HE.out]; rfl, HO⟩
      | true =>
        rw [hf] at HB hok'
        have hne : ¬ ws.length = ls.length := by simpa using hok'
        clear hok' hiw hf
        generalize ws.length = N at *
        generalize ls.length = M at *
        have hne' : ¬ (N : Int) = (M : Int) := by omega
        go_enter Try.func42, Try.ntmps42
        go_wp2_with (first | (go_at_call 76; refine HA.out.mono ?_; rintro e w' ⟨rfl, rfl⟩) | (go_at_call 44; refine HB.out.mono ?_; rintro e w2 ⟨rfl, HO⟩))
        go_ret2
        exact ⟨by rw [HE.out]; rfl, HO⟩
  | true =>
    obtain ⟨hiw, hf, hn⟩ := okC_parts hok
    have HE : Hid (costE ws ls = .tuple #[.int .i64 (pcost ws ls ls.length), .int .i64 0]) := hid (by unfold costE; rw [if_pos hok, pcost_all])
    have hfew := (okC_few hok).2
    have HS : Hid (∀ k, k < ls.length → pcost ws ls (k + 1) = pcost ws ls k + wt ws k * ls.getD k 0) := hid fun k hk => pcost_step hk
    have HT : Hid (∀ k, k < ls.length → 0 ≤ wt ws k * ls.getD k 0 ∧ wt ws k * ls.getD k 0 ≤ 1099511627776) := hid fun k hk => term_bound hok hk
    have HP : Hid (∀ k, k ≤ ls.length → 0 ≤ pcost ws ls k ∧ pcost ws ls k ≤ (k : Int) * 1099511627776) := hid (pcost_bound hok)
    have H0 : Hid (pcost ws ls 0 = 0) := hid (by simp [pcost, wsum])
    rw [hiw] at HA
    rw [hf] at HB
    rw [hn] at HA ⊢
    have HW2 : Hid (RdV w A ls.length (vI ws)) := hid (by rw [← hn]; exact hw)
    have HL2 : Hid (RdV w B ls.length (vI ls)) := hid hl
    clear hw hl hok hiw hf hn h1
    generalize costE ws ls = ce at HE ⊢
    generalize pcost ws ls = P at *
    generalize ls.length = N at *
    go_enter Try.func42, Try.ntmps42
    go_wp2_with (first | (go_at_call 76; refine HA.out.mono ?_; rintro e w' ⟨rfl, rfl⟩) | (go_at_call 44; refine HB.out.mono ?_; rintro e w2 ⟨rfl, HO⟩))
    have HW3 := hid (HW2.out.only HO.out fun _ _ _ => no_)
    have HL3 := hid (HL2.out.only HO.out fun _ _ _ => no_)
    clear HW2 HL2 HA HB
    go_loopw [6, 7] (fun s i wr => ∃ k : Nat, k ≤ N ∧ i = .int .i64 k ∧ s = .int .i64 (P k) ∧ StO w2 wr) (fun _ i _ => N - (intOf i).toNat)
    case atStart => exact ⟨0, by omega, rfl, by rw [H0.out], hid (Only.refl _ _)⟩
    case round =>
      obtain ⟨k, hk, rfl, rfl, HOr⟩ := hrel
      have hPk := HP.out k hk
      by_cases hp : k < N
      · obtain ⟨b, off, hA, hc, _⟩ := (HW3.out.only HOr.out fun _ _ _ => no_).at hp
        obtain ⟨b2, off2, hB, hc2, _⟩ := (HL3.out.only HOr.out fun _ _ _ => no_).at hp
        unfold vI at hc hc2
        subst hA
        subst hB
        have ht := HT.out k hp
        have HN := hid (HS.out k hp)
        unfold wt at ht HN
        generalize ws.getD k 0 = x at hc ht HN
        generalize ls.getD k 0 = y at hc2 ht HN
        have hwr : IntKind.i64.wrap (x * y) = x * y := by rw [IntKind.wrap_i64]; omega
        generalize P k = p at hPk HN ⊢
        go_wp2
        go_quiet (fail)
        go_wp2
        go_roundw
        case rel => exact ⟨k + 1, by omega, by go_num, by rw [HN.out], hid (HOr.out.drewN _)⟩
        case measure => simp [intOf]; omega
      · obtain rfl : k = N := by omega
        go_wp2
        go_ret2
        exact ⟨by rw [HE.out]; rfl, hid (HO.out.trans HOr.out)⟩
end Go.Proofs.Ythfnpgmjbfbocaa
