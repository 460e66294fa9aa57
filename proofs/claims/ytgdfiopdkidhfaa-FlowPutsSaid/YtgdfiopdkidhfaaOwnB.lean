/- append([]bool{}, l...): a copy of the call's own; the document's Of. -/
import Derived.Test.YtgdfiopdkidhfaaRefD
namespace Go.Proofs.Ytgdfiopdkidhfaa.V1
open Go.RowKit
open Fen

structure OwnB (w0 w' : World) (g cap : Nat) (xs : List Bool) : Prop where
  row : ∃ F, w'.rowIs g 4 cap F ∧ ∀ j, j < xs.length → F j = .bool (xs.getD j false)
  le : xs.length ≤ cap
  ge : w0.heap.size ≤ g
  only : Only (fun _ => False) w0 w'
theorem own_row {w' : World} {g cap n : Nat} {cur : Array Value} {xs : List Bool} (hh : w'.heap[g]? = some (.cells cur 4 (0, 0))) (hs : cur.size = cap * 1) (ht : cur.toList.take (n * 1) = xs.map Value.bool) (_hn : n = xs.length) :
    ∃ F, w'.rowIs g 4 cap F ∧ ∀ j, j < xs.length → F j = .bool (xs.getD j false) := by
  refine ⟨fun j => cur.toList.getD j undef, ⟨cur, hh, by omega, fun i hi => ?_⟩, fun j hj => ?_⟩
  · have h1 : i < cur.toList.length := by rw [Array.length_toList]; omega
    have : cur[i]? = cur.toList[i]? := by simp
    rw [this]
    simp only [List.getD, List.getElem?_eq_getElem h1, Option.getD_some]
  · have h1 : (cur.toList.take (n * 1))[j]? = (xs.map Value.bool)[j]? := by rw [ht]
    rw [List.getElem?_take_of_lt (by omega)] at h1
    simp only [List.getD, h1]
    simp [hj]
theorem bools_one (xs : List Bool) : ∀ u ∈ xs.map Value.bool, u.oneCell' = true := by
  intro u hu
  obtain ⟨b, _, rfl⟩ := List.mem_map.1 hu
  rfl
theorem RdB.news {w w0 : World} {A : Option Addr} {xs : List Bool} (h : RdB w0 A xs) (ho : Only (fun _ => False) w0 w) : ∀ ad, A = some ad → ∀ j u, (xs.map Value.bool)[j]? = some u → w.cell? (ad.add j) = some u := by
  intro ad hA j u hu
  have hj : j < xs.length := by
    rcases Nat.lt_or_ge j xs.length with a | a
    · exact a
    · rw [List.getElem?_eq_none (by simpa using a)] at hu; cases hu
  obtain ⟨b, off, hA', hc⟩ := h j hj
  rw [hA] at hA'
  injection hA' with hA'
  subst hA'
  have h1 := hc j hj
  have ha : (⟨b, off, none⟩ : Addr).add j = ⟨b, off + j, none⟩ := by
    unfold Addr.add
    by_cases e : j = 0 <;> simp [e]
  rw [ha, ho.cell (cell_lt h1) no_, h1]
  simp [hj] at hu
  simp [List.getD, hj, hu]

theorem wpList_append_bools {ops : Array Oper} {rest : List Oper} {o : Oper} {a : Act} {Q : Exit → Act → World → Prop} (w0 : World) (hgd : o.guard = none) (s x : Operand)
    (hop : o.op = Op.call { callee := Callee.builtin Builtin.append, args := #[s, x], argTypes := #[28, 28] })
    (hs : a.eval s = .slice (some ⟨w0.heap.size, 0, none⟩) 0 0) (A : Option Addr) (n c : Nat) (xs : List Bool) (hx : a.eval x = .slice A n c) (hL : Hid (n = xs.length)) (hA : Hid (A = none → n = 0 ∧ c = 0)) (hr : Hid (RdB w0 A xs)) (hn : n ≤ 16777216)
    (h : ∀ g cap w', Hid (OwnB w0 w' g cap xs) → wpList Try.prog ops Q rest (a.put o.dst (.slice (some ⟨g, 0, none⟩) n cap)) w') :
    wpList Try.prog ops Q (o :: rest) a (w0.alloc (.cells #[] 4)) := by
  obtain ⟨i0, hi0, hz0, hz1, hz2⟩ := info_parts boolInfo
  have ho : Only (fun _ => False) w0 (w0.alloc (.cells #[] 4)) := (Only.refl _ w0).alloc _
  have hown : (w0.alloc (.cells #[] 4)).ownsRow w0.heap.size 4 1 (.slice (some ⟨w0.heap.size, 0, none⟩) 0 0) 0 [] := World.ownsRow_made w0 _ 0 (Nat.le_refl _) (by simp [maxLen]) (by simp)
  by_cases h0 : n = 0
  · refine wpList_append_fits_any _ hgd s x _ hop w0.heap.size 4 i0 1 Try.underlying28 hi0 hz1 w0.heap.size 0 0 [] hs hown A n c (xs.map Value.bool) hx (by rw [List.length_map, ← hL.out]; omega) hA.out (hr.out.news ho) (bools_one xs) (by omega) ?_
    intro w' hown' hg
    rw [Nat.zero_add]
    rw [Nat.zero_add] at hown'
    refine h _ _ _ (hid ?_)
    rcases hown'.2 with ⟨h2, _⟩ | ⟨g, cap, cur, hv, hge, hh, hle, hcm, hsz, ht⟩
    · cases h2
    · injection hv with e1 _ e3
      injection e1 with e1
      injection e1 with e1
      subst e1
      subst e3
      exact ⟨own_row hh hsz (by simpa using ht) hL.out, by rw [← hL.out]; exact hle, Nat.le_refl _, ho.grown hg (fun k e => .inr (by injection e with e; omega))⟩
  · obtain ⟨ad, rfl⟩ : ∃ ad, A = some ad := by
      cases A with
      | none => exact absurd (hA.out rfl).1 h0
      | some ad => exact ⟨ad, rfl⟩
    refine wpList_append_own _ hgd s x _ hop w0.heap.size 4 i0 (.bool false) 1 1 Try.underlying28 hi0 hz0 hz1 hz2 rfl (by omega) _ 0 [] hs hown ad n c (xs.map Value.bool) hx (by rw [List.length_map, ← hL.out]; omega) (hr.out.news ho ad rfl) (bools_one xs) (by unfold maxLen; omega) (by omega) ho.size ?_
    intro v' w' hown' hg _
    rw [Nat.zero_add] at hown'
    rcases hown'.2 with ⟨_, h2⟩ | ⟨g, cap, cur, rfl, hge, hh, hle, hcm, hsz, ht⟩
    · exact absurd h2 h0
    · exact h _ _ _ (hid ⟨own_row hh hsz (by simpa using ht) hL.out, by rw [← hL.out]; exact hle, hge, ho.grown hg (fun k e => .inr (by simp [Value.ownBlock] at e; omega))⟩)

set_option maxHeartbeats 1000000 in
theorem refOf_any (A : Option Addr) (cap n : Nat) (xs : List Bool) (w : World) (hx : RdB w A xs) (hA : A = none → n = 0 ∧ cap = 0) (hL : n = xs.length) (hn : n ≤ 16777216) :
    Calls Try.prog 18 #[.slice A n cap] w (RMade w n (fun i => xs.getD i false)) := by
  have HX := hid hx
  have HA := hid hA
  have HL := hid hL
  clear hx hA hL
  go_enter Try.func18, Try.ntmps18
  go_wp2_with fail
  refine (refNew_new n w hn).mono ?_
  rintro e w1 ⟨rfl, hnew⟩
  have HX1 : Hid (RdB w1 A xs) := hid (HX.out.below (hnew.out.only.to_below (fun _ h => h.elim) (Nat.le_refl _)))
  have c0 := hnew.out.self.cell (i := 0) (by omega)
  have fz := hnew.out.self.frozen 0
  go_wp2_with (at_builtin; refine wpList_append_bools _ rfl (.tmp 16) (.tmp 17) rfl rfl A n cap xs rfl HL HA HX1 hn ?_; intro g cap' w2 HO; have c2 := (HO.out.only.row hnew.out.self no_).cell (i := 0) (by omega); have fz2 := (HO.out.only.row hnew.out.self no_).frozen 0)
  go_ret2
  have hg : w.heap.size + 2 ≤ g := by have := HO.out.ge; have := hnew.out.size; omega
  obtain ⟨F, hF1, hF2⟩ := HO.out.row
  have hs := HO.out.only.row hnew.out.self no_
  have hle := HO.out.le
  have hL := HL.out
  refine ⟨w.heap.size + 1, g, cap', rfl, ⟨hn, fun i hi => getD_far xs i (by omega), (hs.set 0 _).congr fun i hi => ?_, ⟨F, hF1.setOther (by simp; omega) _, fun j hj => hF2 j (by omega)⟩, by omega⟩, by omega, by omega, by omega, ?_⟩
  · have : i = 0 := by omega
    subst this; rw [if_pos rfl]
  · exact ((hnew.out.only.trans HO.out.only).to_below (B := w.heap.size) (fun _ h => h.elim) (Nat.le_refl _)).setCell (by simp) _
end Go.Proofs.Ytgdfiopdkidhfaa.V1
