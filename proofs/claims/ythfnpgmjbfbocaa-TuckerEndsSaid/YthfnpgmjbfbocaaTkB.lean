/- Trees that are grown: rows that wait, and what has been laid. -/
import Derived.Test.YthfnpgmjbfbocaaTkA
namespace Go.Proofs.Ythfnpgmjbfbocaa
open Go.RowKit

/-! Rows that wait, the last one first: their sizes, their depths. -/
def tot : List (Nat × Int) → Nat
  | [] => 0
  | p :: r => p.1 + tot r
def pos : List (Nat × Int) → List (Int × Int)
  | [] => []
  | p :: r => pos r ++ [(((tot r : Nat) : Int), ((tot r + p.1 : Nat) : Int))]
def outL : List (Nat × Int) → List Int → List Int
  | [], t => t
  | p :: r, t => outL r (List.replicate p.1 p.2 ++ t)
/-- Whatever trees the rows that wait become, all is a tree. -/
def JJ : List (Nat × Int) → List Int → Prop
  | [], t => Tr 0 t
  | p :: r, t => ∀ l, l.length = p.1 → Tr p.2 l → JJ r (l ++ t)
def cntL : List (Nat × Int) → Nat
  | [] => 0
  | p :: r => 2 * p.1 - 1 + cntL r
theorem pos_len : ∀ L, (pos L).length = L.length
  | [] => rfl
  | p :: r => by simp [pos, pos_len r]
theorem outL_app : ∀ L s, outL L s = outL L [] ++ s
  | [], s => rfl
  | p :: r, s => by
    show outL r (List.replicate p.1 p.2 ++ s) = outL r (List.replicate p.1 p.2 ++ []) ++ s
    rw [outL_app r (List.replicate p.1 p.2 ++ s), outL_app r (List.replicate p.1 p.2 ++ []), List.append_nil, List.append_assoc]
theorem outL_len : ∀ L s, (outL L s).length = tot L + s.length
  | [], s => by simp [outL, tot]
  | p :: r, s => by
    show (outL r _).length = p.1 + tot r + _
    rw [outL_len r, List.length_append, List.length_replicate]
    omega
theorem outL_mid {r : List (Nat × Int)} {m : Nat} {d : Int} {t : List Int} (k : Nat) (h : tot r ≤ k) (h2 : k < tot r + m) : (outL ((m, d) :: r) t).getD k 0 = d := by
  show (outL r (List.replicate m d ++ t)).getD k 0 = d
  rw [outL_app]
  have e : (outL r []).length = tot r := by rw [outL_len]; rfl
  simp only [List.getD]
  rw [List.getElem?_append_right (by omega), e, List.getElem?_append_left (by rw [List.length_replicate]; omega), List.getElem?_replicate, if_pos (by omega)]
  rfl
theorem outL_up {r : List (Nat × Int)} {m : Nat} {d : Int} {t : List Int} (k : Nat) : upF (fun j => (outL ((m, d) :: r) t).getD j 0) (tot r) (tot r + m) k = (outL ((m, d + 1) :: r) t).getD k 0 := by
  unfold upF
  by_cases h : tot r ≤ k ∧ k < tot r + m
  · rw [if_pos h]
    show (outL ((m, d) :: r) t).getD k 0 + 1 = _
    rw [outL_mid k h.1 h.2, outL_mid k h.1 h.2]
  · rw [if_neg h]
    show (outL r (List.replicate m d ++ t)).getD k 0 = (outL r (List.replicate m (d + 1) ++ t)).getD k 0
    rw [outL_app r (List.replicate m d ++ t), outL_app r (List.replicate m (d + 1) ++ t)]
    have e : (outL r []).length = tot r := by rw [outL_len]; rfl
    simp only [List.getD]
    by_cases h1 : k < tot r
    · rw [List.getElem?_append_left (by omega), List.getElem?_append_left (by omega)]
    · have e2 : (List.replicate m d).length = m := List.length_replicate
      have e3 : (List.replicate m (d + 1)).length = m := List.length_replicate
      rw [List.getElem?_append_right (by omega), List.getElem?_append_right (l₁ := outL r []) (by omega), List.getElem?_append_right (l₁ := List.replicate m d) (by omega), List.getElem?_append_right (l₁ := List.replicate m (d + 1)) (by omega), e2, e3]
theorem outL_split {r : List (Nat × Int)} {m1 m2 : Nat} {d : Int} {t : List Int} : outL ((m2, d) :: (m1, d) :: r) t = outL ((m1 + m2, d) :: r) t := by
  show outL r (List.replicate m1 d ++ (List.replicate m2 d ++ t)) = outL r (List.replicate (m1 + m2) d ++ t)
  rw [← List.append_assoc, List.replicate_append_replicate]
theorem outL_single {r : List (Nat × Int)} {d : Int} {t : List Int} : outL ((1, d) :: r) t = outL r (d :: t) := rfl
theorem JJ.single {r : List (Nat × Int)} {d : Int} {t : List Int} (h : JJ ((1, d) :: r) t) : JJ r (d :: t) := h [d] rfl (.one d)
theorem JJ.split {r : List (Nat × Int)} {m1 m2 : Nat} {d : Int} {t : List Int} (h : JJ ((m1 + m2, d) :: r) t) : JJ ((m2, d + 1) :: (m1, d + 1) :: r) t := by
  intro l2 hl2 ht2 l1 hl1 ht1
  rw [← List.append_assoc]
  exact h (l1 ++ l2) (by rw [List.length_append, hl1, hl2]) (.two ht1 ht2)

def pv : List (Int × Int) → List Value
  | [] => []
  | p :: r => iv p.1 :: iv p.2 :: pv r
theorem pv_len : ∀ l, (pv l).length = l.length * 2
  | [] => rfl
  | p :: r => by simp [pv, pv_len r]; omega
theorem pv_app : ∀ l r, pv (l ++ r) = pv l ++ pv r
  | [], r => rfl
  | p :: l, r => by simp [pv, pv_app l r]
theorem pv_one : ∀ l, ∀ u ∈ pv l, u.oneCell' = true
  | [], u, h => by simp [pv] at h
  | p :: l, u, h => by
    simp only [pv, List.mem_cons] at h
    rcases h with rfl | rfl | h
    · rfl
    · rfl
    · exact pv_one l u h
theorem len_tot : ∀ L : List (Nat × Int), (∀ p ∈ L, 1 ≤ p.1) → L.length ≤ tot L
  | [], _ => Nat.le_refl _
  | p :: r, h => by
    have h1 := h p (by simp)
    have h2 := len_tot r fun q hq => h q (by simp [hq])
    simp only [List.length_cons, tot]
    omega
end Go.Proofs.Ythfnpgmjbfbocaa
