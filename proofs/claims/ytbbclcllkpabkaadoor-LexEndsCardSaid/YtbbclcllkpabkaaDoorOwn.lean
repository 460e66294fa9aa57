/- append([]T{}, l...): a copy of the call's own, elements of one cell. -/
import Derived.Test.YtbbclcllkpabkaaDoorRows
import Derived.Test.YtbbclcllkpabkaaDoorRd
import Derived.Laws.OwnMore
import Derived.Maps.AppendAt
import Derived.OwnWalk
namespace Go.Proofs.YtbbclcllkpabkaaDoor
open Go.RowKit

/-- A row of the call's own, with room for cap, that reads V. -/
structure OwnV (w0 w' : World) (t : TypeId) (g cap n : Nat) (V : Nat → Value) : Prop where
  row : ∃ F, w'.rowIs g t cap F ∧ ∀ j, j < n → F j = V j
  le : n ≤ cap
  ge : w0.heap.size ≤ g
  only : Only (fun _ => False) w0 w'
def valsL (V : Nat → Value) (n : Nat) : List Value := (List.range n).map V
theorem valsL_len (V : Nat → Value) (n : Nat) : (valsL V n).length = n := by simp [valsL]
theorem valsL_get {V : Nat → Value} {n j : Nat} (h : j < n) : (valsL V n)[j]? = some (V j) := by simp [valsL, h]
theorem valsL_one {V : Nat → Value} (h : ∀ j, (V j).oneCell' = true) (n : Nat) : ∀ u ∈ valsL V n, u.oneCell' = true := by
  intro u hu
  obtain ⟨j, _, rfl⟩ := List.mem_map.1 hu
  exact h j
theorem own_rowV {w' : World} {t : TypeId} {g cap n : Nat} {cur : Array Value} {V : Nat → Value} (hh : w'.heap[g]? = some (.cells cur t (0, 0))) (hs : cur.size = cap * 1) (ht : cur.toList.take (n * 1) = valsL V n) :
    ∃ F, w'.rowIs g t cap F ∧ ∀ j, j < n → F j = V j := by
  refine ⟨fun j => cur.toList.getD j undef, ⟨cur, hh, by omega, fun i hi => ?_⟩, fun j hj => ?_⟩
  · have h1 : i < cur.toList.length := by rw [Array.length_toList]; omega
    have : cur[i]? = cur.toList[i]? := by simp
    rw [this]
    simp only [List.getD, List.getElem?_eq_getElem h1, Option.getD_some]
  · have h1 : (cur.toList.take (n * 1))[j]? = (valsL V n)[j]? := by rw [ht]
    rw [List.getElem?_take_of_lt (by omega), valsL_get hj] at h1
    simp only [List.getD, h1, Option.getD_some]
theorem RdV.news {w : World} {A : Option Addr} {n : Nat} {V : Nat → Value} (h : RdV w A n V) : ∀ ad, A = some ad → ∀ j u, (valsL V n)[j]? = some u → w.cell? (ad.add j) = some u := by
  intro ad hA j u hu
  have hj : j < n := by
    rcases Nat.lt_or_ge j n with a | a
    · exact a
    · rw [List.getElem?_eq_none (by rw [valsL_len]; exact a)] at hu; cases hu
  obtain ⟨b, off, hA', hc, _⟩ := h.at hj
  rw [hA] at hA'
  injection hA' with hA'
  subst hA'
  have ha : (⟨b, off, none⟩ : Addr).add j = ⟨b, off + j, none⟩ := by
    unfold Addr.add
    by_cases e : j = 0 <;> simp [e]
  rw [valsL_get hj] at hu
  rw [ha, hc, hu]

theorem wpList_copy_new {ops : Array Oper} {rest : List Oper} {o : Oper} {a : Act} {Q : Exit → Act → World → Prop} (w0 : World) (t st : TypeId) (z : Value) (bytes : Nat) (hu : Tryd.prog.underlying st = some (.slice t))
    (hinfo : (Tryd.prog.info? t).map (fun i => (i.zero, i.size, i.bytes)) = some (some z, 1, bytes)) (hzc : z.cells.size = 1) (hb8 : bytes ≤ 16) (hgd : o.guard = none) (s x : Operand)
    (hop : o.op = Op.call { callee := Callee.builtin Builtin.append, args := #[s, x], argTypes := #[st, st] })
    (hs : a.eval s = .slice (some ⟨w0.heap.size, 0, none⟩) 0 0) (A : Option Addr) (n c : Nat) (V : Nat → Value) (hx : a.eval x = .slice A n c) (h1 : ∀ j, (V j).oneCell' = true) (hA : Hid (A = none → n = 0 ∧ c = 0)) (hr : Hid (RdV w0 A n V)) (hn : n ≤ 16777216)
    (h : ∀ g cap w', Hid (OwnV w0 w' t g cap n V) → wpList Tryd.prog ops Q rest (a.put o.dst (.slice (some ⟨g, 0, none⟩) n cap)) w') :
    wpList Tryd.prog ops Q (o :: rest) a (w0.alloc (.cells #[] t)) := by
  obtain ⟨i0, hi0, hz0, hz1, hz2⟩ := info_parts hinfo
  have ho : Only (fun _ => False) w0 (w0.alloc (.cells #[] t)) := (Only.refl _ w0).alloc _
  have hown : (w0.alloc (.cells #[] t)).ownsRow w0.heap.size t 1 (.slice (some ⟨w0.heap.size, 0, none⟩) 0 0) 0 [] := World.ownsRow_made w0 _ 0 (Nat.le_refl _) (by simp [maxLen]) (by simp)
  have hr1 : RdV (w0.alloc (.cells #[] t)) A n V := hr.out.only ho fun _ _ _ => no_
  by_cases h0 : n = 0
  · refine wpList_append_fits_any _ hgd s x _ hop w0.heap.size t i0 1 hu hi0 hz1 w0.heap.size 0 0 [] hs hown A n c (valsL V n) hx (by rw [valsL_len]; omega) hA.out hr1.news (valsL_one h1 n) (by omega) ?_
    intro w' hown' hg
    rw [Nat.zero_add]
    rw [Nat.zero_add] at hown'
    refine h _ _ _ (hid ?_)
    rcases hown'.2 with ⟨h2, _⟩ | ⟨g, cap, cur, hv, hge, hh, hle, hcm, hsz, ht⟩
    · cases h2
    · injection hv with e1 _ e3
      injection e1 with e1
      injection e1 with e1
      subst e1
      subst e3
      exact ⟨own_rowV hh hsz (by simpa using ht), hle, Nat.le_refl _, ho.grown hg (fun k e => .inr (by injection e with e; omega))⟩
  · obtain ⟨ad, rfl⟩ : ∃ ad, A = some ad := by
      cases A with
      | none => exact absurd (hA.out rfl).1 h0
      | some ad => exact ⟨ad, rfl⟩
    have hby : (0 + n) * bytes ≤ 140737488355328 := by
      have := Nat.mul_le_mul (show 0 + n ≤ 16777216 by omega) hb8
      omega
    refine wpList_append_own _ hgd s x _ hop w0.heap.size t i0 z 1 bytes hu hi0 hz0 hz1 hz2 hzc (by omega) _ 0 [] hs hown ad n c (valsL V n) hx (by rw [valsL_len]; omega) (hr1.news ad rfl) (valsL_one h1 n) (by unfold maxLen; omega) hby ho.size ?_
    intro v' w' hown' hg _
    rw [Nat.zero_add] at hown'
    rcases hown'.2 with ⟨_, h2⟩ | ⟨g, cap, cur, rfl, hge, hh, hle, hcm, hsz, ht⟩
    · exact absurd h2 h0
    · exact h _ _ _ (hid ⟨own_rowV hh hsz (by simpa using ht), hle, hge, ho.grown hg (fun k e => .inr (by simp [Value.ownBlock] at e; omega))⟩)

theorem own_of_block {w w' : World} {base : Nat} {e : TypeId} {s : Nat} {v : Value} {n : Nat} {xs : List Value} (h : w.ownsRow base e s v n xs) (hb : ∀ g, base ≤ g → g < w.heap.size → w'.heap[g]? = w.heap[g]?) : w'.ownsRow base e s v n xs := by
  refine ⟨h.1, ?_⟩
  rcases h.2 with h2 | ⟨g, cap, cur, hv, hge, hh, hr⟩
  · exact .inl h2
  · have hg : g < w.heap.size := by
      rcases Nat.lt_or_ge g w.heap.size with a | a
      · exact a
      · rw [Array.getElem?_eq_none a] at hh; cases hh
    exact .inr ⟨g, cap, cur, hv, hge, by rw [hb g hge hg]; exact hh, hr⟩
/-- What owns a row of one-cell elements, one at least: its block, its elements. -/
theorem own_at {w : World} {base : Nat} {t : TypeId} {v : Value} {n : Nat} {V : Nat → Value} (h : w.ownsRow base t 1 v n (valsL V n)) (hn : 0 < n) :
    ∃ g cap F, v = .slice (some ⟨g, 0, none⟩) n cap ∧ base ≤ g ∧ w.rowIs g t cap F ∧ (∀ j, j < n → F j = V j) ∧ n ≤ cap ∧ cap ≤ maxLen := by
  rcases h.2 with ⟨_, h2⟩ | ⟨g, cap, cur, hv, hge, hh, hle, hcm, hsz, ht⟩
  · omega
  · obtain ⟨F, hF, hF2⟩ := own_rowV hh hsz ht
    exact ⟨g, cap, F, hv, hge, hF, hF2, hle, hcm⟩
theorem own_mk {w : World} {base g cap : Nat} {t : TypeId} {n : Nat} {V F : Nat → Value} (hge : base ≤ g) (hr : w.rowIs g t cap F) (hF : ∀ j, j < n → F j = V j) (hle : n ≤ cap) (hcm : cap ≤ maxLen) :
    w.ownsRow base t 1 (.slice (some ⟨g, 0, none⟩) n cap) n (valsL V n) := by
  obtain ⟨cur, hh, hsz, hc⟩ := hr
  refine ⟨by rw [valsL_len, Nat.mul_one], .inr ⟨g, cap, cur, rfl, hge, hh, hle, hcm, by omega, ?_⟩⟩
  apply List.ext_getElem?
  intro j
  rw [Nat.mul_one]
  by_cases hj : j < n
  · rw [valsL_get hj, List.getElem?_take_of_lt hj, ← hF j hj, ← hc j (by omega)]; simp
  · rw [List.getElem?_eq_none (by rw [List.length_take]; omega), List.getElem?_eq_none (by rw [valsL_len]; omega)]
end Go.Proofs.YtbbclcllkpabkaaDoor
