/- Trees that are grown: rows that wait, and what has been laid. -/
import Derived.Test.YtfongdnehfphmaaTkA
namespace Go.Proofs.Ytfongdnehfphmaa
open Go.RowKit

/-! Rows that wait, the last one first: their sizes, their depths. -/
def tot : List (Nat × Int) → Nat
  | [] => 0
  | p :: r => p.1 + tot r
def pos : List (Nat × Int) → List (Int × Int)
  | [] => []
  | p :: r => pos r ++ [(((tot r : Nat) : Int), ((tot r + p.1 : Nat) : Int))]
def outL : List (Nat × Int) → List Int → List Int
  | [], t => t
  | p :: r, t => outL r (List.replicate p.1 p.2 ++ t)
/-- Whatever trees the rows that wait become, all is a tree. -/
def JJ : List (Nat × Int) → List Int → Prop
  | [], t => Tr 0 t
  | p :: r, t => ∀ l, l.length = p.1 → Tr p.2 l → JJ r (l ++ t)
def cntL : List (Nat × Int) → Nat
  | [] => 0
  | p :: r => 2 * p.1 - 1 + cntL r
theorem pos_len : ∀ L, (pos L).length = L.length
  | [] => rfl
  | p :: r => by simp [pos, pos_len r]
theorem outL_app : ∀ L s, outL L s = outL L [] ++ s
  | [], s => rfl
  | p :: r, s => by
    show outL r (List.replicate p.1 p.2 ++ s) = outL r (List.replicate p.1 p.2 ++ []) ++ s
    rw [outL_app r (List.replicate p.1 p.2 ++ s), outL_app r (List.replicate p.1 p.2 ++ []), List.append_nil, List.append_assoc]
theorem outL_len : ∀ L s, (outL L s).length = tot L + s.length
  | [], s => by simp [outL, tot]
  | p :: r, s => by
    show (outL r _).length = p.1 + tot r + _
    rw [outL_len r, List.length_append, List.length_replicate]
    omega
theorem outL_mid {r : List (Nat × Int)} {m : Nat} {d : Int} {t : List Int} (k : Nat) (h : tot r ≤ k) (h2 : k < tot r + m) : (outL ((m, d) :: r) t).getD k 0 = d := by
  show (outL r (List.replicate m d ++ t)).getD k 0 = d
  rw [outL_app]
  have e : (outL r []).length = tot r := by rw [outL_len]; rfl
  simp only [List.getD]
  rw [List.getElem?_append_right (by omega), e, List.getElem?_append_left (by rw [List.length_replicate]; omega), List.getElem?_replicate, if_pos (by omega)]
  rfl
theorem outL_up {r : List (Nat × Int)} {m : Nat} {d : Int} {t : List Int} (k : Nat) : upF (fun j => (outL ((m, d) :: r) t).getD j 0) (tot r) (tot r + m) k = (outL ((m, d + 1) :: r) t).getD k 0 := by
  unfold upF
  by_cases h : tot r ≤ k ∧ k < tot r + m
  · rw [if_pos h]
    show (outL ((m, d) :: r) t).getD k 0 + 1 = _
    rw [outL_mid k h.1 h.2, outL_mid k h.1 h.2]
  · rw [if_neg h]
    show (outL r (List.replicate m d ++ t)).getD k 0 = (outL r (List.replicate m (d + 1) ++ t)).getD k 0
    rw [outL_app r (List.replicate m d ++ t), outL_app r (List.replicate m (d + 1) ++ t)]
    have e : (outL r []).length = tot r := by rw [outL_len]; rfl
    simp only [List.getD]
    by_cases h1 : k < tot r
    · rw [List.getElem?_append_left (by omega), List.getElem?_append_left (by omega)]
    · have e2 : (List.replicate m d).length = m := List.length_replicate
      have e3 : (List.replicate m (d + 1)).length = m := List.length_replicate
      rw [List.getElem?_append_right (by omega), List.getElem?_append_right (l₁ := outL r []) (by omega), List.getElem?_append_right (l₁ := List.replicate m d) (by omega), List.getElem?_append_right (l₁ := List.replicate m (d + 1)) (by omega), e2, e3]
theorem outL_split {r : List (Nat × Int)} {m1 m2 : Nat} {d : Int} {t : List Int} : outL ((m2, d) :: (m1, d) :: r) t = outL ((m1 + m2, d) :: r) t := by
  show outL r (List.replicate m1 d ++ (List.replicate m2 d ++ t)) = outL r (List.replicate (m1 + m2) d ++ t)
  rw [← List.append_assoc, List.replicate_append_replicate]
theorem outL_single {r : List (Nat × Int)} {d : Int} {t : List Int} : outL ((1, d) :: r) t = outL r (d :: t) := rfl
theorem JJ.single {r : List (Nat × Int)} {d : Int} {t : List Int} (h : JJ ((1, d) :: r) t) : JJ r (d :: t) := h [d] rfl (.one d)
theorem JJ.split {r : List (Nat × Int)} {m1 m2 : Nat} {d : Int} {t : List Int} (h : JJ ((m1 + m2, d) :: r) t) : JJ ((m2, d + 1) :: (m1, d + 1) :: r) t := by
  intro l2 hl2 ht2 l1 hl1 ht1
  rw [← List.append_assoc]
  exact h (l1 ++ l2) (by rw [List.length_append, hl1, hl2]) (.two ht1 ht2)

def pv : List (Int × Int) → List Value
  | [] => []
  | p :: r => iv p.1 :: iv p.2 :: pv r
theorem pv_len : ∀ l, (pv l).length = l.length * 2
  | [] => rfl
  | p :: r => by simp [pv, pv_len r]; omega
theorem pv_app : ∀ l r, pv (l ++ r) = pv l ++ pv r
  | [], r => rfl
  | p :: l, r => by simp [pv, pv_app l r]
theorem pv_one : ∀ l, ∀ u ∈ pv l, u.oneCell' = true
  | [], u, h => by simp [pv] at h
  | p :: l, u, h => by
    simp only [pv, List.mem_cons] at h
    rcases h with rfl | rfl | h
    · rfl
    · rfl
    · exact pv_one l u h
/-- Pairs of the call's own. -/
structure OwP (w0 w : World) (v : Value) (ps : List (Int × Int)) : Prop where
  own : w.ownsRow w0.heap.size 47 2 v ps.length (pv ps)
  only : Only (fun _ => False) w0 w
theorem OwP.top {w0 w : World} {A : Option Addr} {c t : Nat} {ps : List (Int × Int)} {x y : Int} (h : OwP w0 w (.slice A (t + 1) c) (ps ++ [(x, y)])) (ht : ps.length = t) :
    ∃ g, A = some ⟨g, 0, none⟩ ∧ w.cell? ⟨g, t * 2, none⟩ = some (.int .i64 x) ∧ w.cell? ⟨g, t * 2 + 1, none⟩ = some (.int .i64 y) ∧ t + 1 ≤ c ∧ c ≤ maxLen := by
  rcases h.own.2 with ⟨_, h0⟩ | ⟨g, cap, cur, e, _, hh, hle, hcm, hsz, htk⟩
  · simp at h0
  · injection e with e1 e2 e3
    subst e1
    subst e3
    have hl : (ps ++ [(x, y)]).length = t + 1 := by simp [ht]
    rw [hl] at htk hle
    have hp : pv (ps ++ [(x, y)]) = pv ps ++ [iv x, iv y] := pv_app ps [(x, y)]
    have hpl : (pv ps).length = t * 2 := by rw [pv_len, ht]
    have key : ∀ j z, (pv (ps ++ [(x, y)]))[j]? = some z → j < (t + 1) * 2 → w.cell? ⟨g, j, none⟩ = some z := by
      intro j z hj hlt
      rw [← htk, List.getElem?_take_of_lt hlt] at hj
      simp [World.cell?, hh]
      simpa using hj
    refine ⟨g, rfl, key _ _ ?_ (by omega), key _ _ ?_ (by omega), hle, hcm⟩
    · rw [hp, List.getElem?_append_right (by omega), hpl]; simp [iv]
    · rw [hp, List.getElem?_append_right (by omega), hpl]; simp [iv]
theorem OwP.pop {w0 w : World} {A : Option Addr} {c t : Nat} {ps : List (Int × Int)} {p : Int × Int} (h : OwP w0 w (.slice A (t + 1) c) (ps ++ [p])) (ht : ps.length = t) : OwP w0 w (.slice A t c) ps := by
  refine ⟨⟨pv_len ps, ?_⟩, h.only⟩
  rcases h.own.2 with ⟨_, h0⟩ | ⟨g, cap, cur, e, hge, hh, hle, hcm, hsz, htk⟩
  · simp at h0
  · injection e with e1 e2 e3
    subst e1
    subst e3
    have hl : (ps ++ [p]).length = t + 1 := by simp [ht]
    rw [hl] at htk hle
    refine .inr ⟨g, c, cur, by rw [ht], hge, hh, by omega, hcm, hsz, ?_⟩
    have : cur.toList.take (t * 2) = (cur.toList.take ((t + 1) * 2)).take (t * 2) := by rw [List.take_take]; congr 1; omega
    rw [ht, this, htk, pv_app, List.take_append_of_le_length (by rw [pv_len, ht]; omega), List.take_of_length_le (by rw [pv_len, ht]; omega)]
theorem OwP.shape {w0 w : World} {v : Value} {ps : List (Int × Int)} (h : OwP w0 w v ps) : ∃ A c, v = .slice A ps.length c := by
  rcases h.own.2 with ⟨rfl, h0⟩ | ⟨g, cap, cur, e, _⟩
  · exact ⟨none, 0, by rw [h0]⟩
  · exact ⟨_, _, e⟩
/-- Blocks of ints may be others. -/
theorem OwP.carry {w0 w w' : World} {v : Value} {ps : List (Int × Int)} {g n : Nat} {f : Nat → Value} (h : OwP w0 w v ps) (hg : w.rowIs g 3 n f) (ho : Only (fun c => c = g) w w') (hge : w0.heap.size ≤ g) : OwP w0 w' v ps := by
  refine ⟨⟨h.own.1, ?_⟩, ?_⟩
  · rcases h.own.2 with h0 | ⟨b, cap, cur, e, hge, hh, hr⟩
    · exact .inl h0
    · refine .inr ⟨b, cap, cur, e, hge, ?_, hr⟩
      have hne : b ≠ g := by
        rintro rfl
        obtain ⟨c, hb, _, _⟩ := hg
        rw [hh] at hb
        injection hb with hb
        injection hb with _ ht
        exact absurd ht (by decide)
      have hlt : b < w.heap.size := by
        rcases Nat.lt_or_ge b w.heap.size with a | a
        · exact a
        · rw [Array.getElem?_eq_none a] at hh; cases hh
      rw [ho.block b hlt hne]; exact hh
  · have h1 := h.only
    exact ⟨ho.os.trans h1.os, ho.tape.trans h1.tape, ho.output.trans h1.output, Nat.le_trans h1.size ho.size, fun k hk hf => (ho.block k (Nat.lt_of_lt_of_le hk h1.size) (fun e => by have e' : k = g := e; omega)).trans (h1.block k hk hf)⟩
theorem OwP.same {w0 w w' : World} {v : Value} {ps : List (Int × Int)} (h : OwP w0 w v ps) (ho : Only (fun _ => False) w w') : OwP w0 w' v ps := ⟨own_of_block h.own fun g _ hg => ho.block g hg no_, h.only.trans ho⟩
theorem pairInfoK : (Try.prog.info? 47).map (fun i => (i.zero, i.size, i.bytes)) = some (some (.agg #[.int .i64 0, .int .i64 0]), 2, 16) := by kernel_rfl
/-- The state of growing. -/
structure GR (w wr : World) (gO n : Nat) (A : Option Addr) (q c : Nat) (L : List (Nat × Int)) (t : List Int) (k : Nat) : Prop where
  rows : OwP w wr (.slice A q c) (pos L)
  many : L.length = q
  out : wr.rowIs gO 3 n (fun j => .int .i64 ((outL L t).getD j 0))
  ge : w.heap.size ≤ gO
  jj : JJ L t
  ms : ∀ p ∈ L, 1 ≤ p.1
  len : tot L + t.length = n
  cnt : k + cntL L = 2 * n - 1
  bd : ∀ j, 0 ≤ (outL L t).getD j 0 ∧ (outL L t).getD j 0 ≤ (k : Int)
theorem GR.single {w wr w' : World} {gO n : Nat} {A : Option Addr} {q c : Nat} {d : Int} {r : List (Nat × Int)} {t : List Int} {k : Nat} (h : GR w wr gO n A (q + 1) c ((1, d) :: r) t k) (ho : Only (fun _ => False) wr w') : GR w w' gO n A q c r (d :: t) (k + 1) := by
  have hm : r.length = q := by have := h.many; simp at this; omega
  refine ⟨(h.rows.pop (by rw [pos_len, hm])).same ho, hm, ho.row h.out no_, h.ge, h.jj.single, fun p hp => h.ms p (by simp [hp]), ?_, ?_, fun j => ?_⟩
  · have := h.len
    simp only [tot, List.length_cons] at this ⊢
    omega
  · have := h.cnt
    simp only [cntL] at this
    omega
  · have := h.bd j
    rw [outL_single] at this
    omega
theorem GR.parts {w wr w' : World} {gO n : Nat} {A A' : Option Addr} {q c c' : Nat} {m1 m2 : Nat} {d : Int} {r : List (Nat × Int)} {t : List Int} {k : Nat} (h : GR w wr gO n A (q + 1) c ((m1 + m2, d) :: r) t k) (h1 : 1 ≤ m1) (h2 : 1 ≤ m2)
    (hr : OwP w w' (.slice A' (q + 2) c') (pos ((m2, d + 1) :: (m1, d + 1) :: r))) (ho : w'.rowIs gO 3 n (fun j => .int .i64 (upF (fun j => (outL ((m1 + m2, d) :: r) t).getD j 0) (tot r) (tot r + (m1 + m2)) j))) : GR w w' gO n A' (q + 2) c' ((m2, d + 1) :: (m1, d + 1) :: r) t (k + 1) := by
  have hm : r.length = q := by have := h.many; simp at this; omega
  refine ⟨hr, by simp [hm], ho.congr fun j _ => by rw [outL_up, outL_split], h.ge, h.jj.split, fun p hp => ?_, ?_, ?_, fun j => ?_⟩
  · simp only [List.mem_cons] at hp
    rcases hp with rfl | rfl | hp
    · exact h2
    · exact h1
    · exact h.ms p (by simp [hp])
  · have := h.len
    simp only [tot] at this ⊢
    omega
  · have := h.cnt
    simp only [cntL] at this ⊢
    omega
  · have := h.bd j
    rw [outL_split, ← outL_up]
    unfold upF
    split
    · show 0 ≤ (outL ((m1 + m2, d) :: r) t).getD j 0 + 1 ∧ (outL ((m1 + m2, d) :: r) t).getD j 0 + 1 ≤ _
      omega
    · show 0 ≤ (outL ((m1 + m2, d) :: r) t).getD j 0 ∧ (outL ((m1 + m2, d) :: r) t).getD j 0 ≤ _
      omega
theorem GR.bound {w wr : World} {gO n : Nat} {A : Option Addr} {q c : Nat} {m : Nat} {d : Int} {r : List (Nat × Int)} {t : List Int} {k : Nat} (h : GR w wr gO n A q c ((m, d) :: r) t k) : k + 1 ≤ 2 * n ∧ tot r + m ≤ n ∧ 1 ≤ m := by
  have h1 := h.cnt
  have h2 := h.len
  have h3 := h.ms (m, d) (by simp)
  simp only [cntL, tot] at h1 h2 h3
  omega
theorem len_tot : ∀ L : List (Nat × Int), (∀ p ∈ L, 1 ≤ p.1) → L.length ≤ tot L
  | [], _ => Nat.le_refl _
  | p :: r, h => by
    have h1 := h p (by simp)
    have h2 := len_tot r fun q hq => h q (by simp [hq])
    simp only [List.length_cons, tot]
    omega
theorem GR.few {w wr : World} {gO n : Nat} {A : Option Addr} {q c : Nat} {L : List (Nat × Int)} {t : List Int} {k : Nat} (h : GR w wr gO n A q c L t k) : q ≤ n := by
  have h1 := len_tot L h.ms
  have h2 := h.len
  have h3 := h.many
  omega
theorem GR.start {w wr : World} {gO n : Nat} (hn : 2 ≤ n) (hO : wr.rowIs gO 3 n (fun _ => .int .i64 0)) (hge : w.heap.size ≤ gO) {A : Option Addr} {c : Nat} (hr : OwP w wr (.slice A 1 c) [(0, (n : Int))]) : GR w wr gO n A 1 c [(n, 0)] [] 0 := by
  have hz : ∀ j, (outL [(n, 0)] []).getD j 0 = 0 := by
    intro j
    show ((List.replicate n (0 : Int) ++ [])).getD j 0 = 0
    rw [List.append_nil]
    simp only [List.getD, List.getElem?_replicate]
    split <;> rfl
  refine ⟨by simpa [pos, tot] using hr, rfl, hO.congr fun j _ => by rw [hz], hge, ?_, fun p hp => ?_, by simp [tot], by simp [cntL], fun j => by rw [hz]; omega⟩
  · intro l _ ht
    show Tr 0 (l ++ [])
    rw [List.append_nil]
    exact ht
  · simp at hp
    subst hp
    show 1 ≤ n
    omega
end Go.Proofs.Ytfongdnehfphmaa
