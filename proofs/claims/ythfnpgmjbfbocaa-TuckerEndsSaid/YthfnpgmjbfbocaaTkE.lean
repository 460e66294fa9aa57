/- TuckerBest: no lengths that fit cost less. -/
import Derived.Test.YthfnpgmjbfbocaaTkD
namespace Go.Proofs.Ythfnpgmjbfbocaa
open Go.RowKit

theorem wt_rev {l : List Int} {k : Nat} (hk : k < l.length) : wt l.reverse k = wt l (l.length - 1 - k) := by
  unfold wt
  simp only [List.getD]
  rw [List.getElem?_reverse hk]
/-- Turned round, the same cost. -/
theorem wsum_rev (w : Nat → Int) : ∀ (ls : List Int) (a : Nat), wsum (fun k => w (a + ls.length - 1 - k)) 0 ls.reverse = wsum w a ls
  | [], a => rfl
  | x :: t, a => by
    have ih := wsum_rev w t (a + 1)
    rw [List.reverse_cons, wsum_append, List.length_reverse]
    have e1 : wsum (fun k => w (a + (x :: t).length - 1 - k)) 0 t.reverse = wsum (fun k => w (a + 1 + t.length - 1 - k)) 0 t.reverse := by
      congr 1
      funext k
      congr 1
      simp only [List.length_cons]
      omega
    rw [e1, ih]
    show wsum w (a + 1) t + (w (a + (t.length + 1) - 1 - (0 + t.length)) * x + 0) = w a * x + wsum w (a + 1) t
    have e2 : a + (t.length + 1) - 1 - (0 + t.length) = a := by omega
    rw [e2]
    omega
theorem wsum_congr {w v : Nat → Int} : ∀ (ls : List Int) (a : Nat), (∀ k, a ≤ k → k < a + ls.length → w k = v k) → wsum w a ls = wsum v a ls
  | [], _, _ => rfl
  | x :: t, a, h => by
    show w a * x + wsum w (a + 1) t = v a * x + wsum v (a + 1) t
    rw [h a (Nat.le_refl _) (by simp only [List.length_cons]; omega), wsum_congr t (a + 1) fun k k1 k2 => h k (by omega) (by simp only [List.length_cons]; omega)]
theorem costL_rev {w l : List Int} (h : w.length = l.length) : costL w.reverse l.reverse = costL w l := by
  unfold costL
  rw [← wsum_rev (wt w) l 0]
  refine wsum_congr _ _ fun k _ k2 => ?_
  rw [List.length_reverse] at k2
  rw [wt_rev (by omega)]
  congr 1
  omega
theorem fit_rev {l : List Int} (h : Fit l) : Fit l.reverse := by
  rcases h with ⟨h1, rfl⟩ | ⟨h1, h2, h3⟩
  · exact .inl ⟨rfl, rfl⟩
  · exact .inr ⟨by rw [List.length_reverse]; exact h1, by rw [List.length_reverse]; exact h2, h3.reverse⟩
theorem isW_rev {l : List Int} (h : isW l = true) : isW l.reverse = true := by
  unfold isW at h ⊢
  rw [List.length_reverse, List.all_reverse]
  exact h
theorem best_rev {w : List Int} (h : isW w = true) : costL w.reverse (bestL w.reverse) = costL w (bestL w) := by
  have h1 := bestL_least (w := w.reverse) (l := (bestL w).reverse) (by rw [List.length_reverse, List.length_reverse, bestL_len]) (fit_rev (bestL_fit h))
  rw [costL_rev (by rw [bestL_len])] at h1
  have h2 := bestL_least (w := w) (l := (bestL w.reverse).reverse) (by rw [List.length_reverse, bestL_len, List.length_reverse]) (fit_rev (bestL_fit (isW_rev h)))
  have h3 : costL w (bestL w.reverse).reverse = costL w.reverse (bestL w.reverse) := by
    have := costL_rev (w := w.reverse) (l := bestL w.reverse) (by rw [bestL_len])
    rw [List.reverse_reverse] at this
    exact this
  omega
theorem okC_of {w l : List Int} (hw : isW w = true) (hf : Fit l) (hl : w.length = l.length) : okC w l = true := by
  unfold okC
  rw [hw, fitB_true.2 hf, decide_eq_true hl]
  rfl
theorem costE_of {w l : List Int} (hw : isW w = true) (hf : Fit l) (hl : w.length = l.length) : costE w l = .tuple #[.int .i64 (costL w l), .int .i64 0] := by
  unfold costE
  rw [if_pos (okC_of hw hf hl)]
theorem fit_inI {l : List Int} (h : Fit l) : InI l := fun z hz => by
  have := h.small z hz
  omega
theorem rev_take {l : List Int} {k : Nat} (h : k < l.length) : (l.drop k).reverse = (l.drop (k + 1)).reverse ++ [l.getD k 0] := by
  rw [List.drop_eq_getElem_cons h, List.reverse_cons]
  simp [List.getD, h]
theorem cost_of {A B : Option Addr} {c1 c2 n m : Nat} {ws ls : List Int} {u : World} (hw : RdI u A ws) (hl : RdI u B ls) (hi : InI ls) (hn : n = ws.length) (hm : m = ls.length) (h1 : n ≤ 1000000) (h2 : m ≤ 1000000) :
    Calls Try.prog 41 #[.slice A n c1, .slice B m c2] u fun e w' => e = .returned (costE ws ls) ∧ StO u w' := by
  subst hn
  subst hm
  exact cost_any hw hl hi (by omega) (by omega)
/-- Lengths of weights. -/
theorem len_ok {A : Option Addr} {c n : Nat} {zs : List Int} {u : World} (hw : isW zs = true) (hz : RdI u A zs) (hn : n = zs.length) : Calls Try.prog 10 #[.slice A n c] u fun e w' => ∃ B c', e = .returned (.tuple #[.slice B n c', .int .i64 0]) ∧ Hid (RdI w' B (bestL zs)) ∧ StO u w' := by
  have h := isW_of hw
  subst hn
  refine (Lengths_any (cap := c) hz (by omega)).mono ?_
  rintro e w' ⟨B, n, c2, he, hn, hc, hr, _, _, ho⟩
  have hn := hn.out
  have hr := hr.out
  rw [hw, if_pos rfl] at hn hr
  rw [hw, if_pos rfl] at he
  rw [bestL_len] at hn
  subst hn
  exact ⟨B, c2, he, hid hr, ho⟩

end Go.Proofs.Ythfnpgmjbfbocaa
