/- The word behind a word. -/
import Derived.Test.YtmbcinbkijnblaaAl2
namespace Go.Proofs.Ytmbcinbkijnblaa
open Go.RowKit

theorem boolInfoK : (Try.prog.info? 4).map (fun i => (i.zero, i.size, i.bytes)) = some (some (.bool false), 1, 1) := by kernel_rfl
theorem boolSize : (Try.prog.info? 4).map (·.size) = some 1 := by kernel_rfl
theorem madeList (z : Value) (n : Nat) : madeCells #[z] n = (List.replicate n z).toArray := by
  apply Array.ext'
  apply List.ext_getElem?
  intro j
  by_cases hj : j < n
  · simp [madeCells, hj, Nat.mod_one]
  · rw [List.getElem?_eq_none (by simp [madeCells]; omega), List.getElem?_eq_none (by simp; omega)]
theorem addr_add (b off k : Nat) : (⟨b, off, none⟩ : Addr).add k = ⟨b, off + k, none⟩ := by
  unfold Addr.add
  by_cases e : k = 0 <;> simp [e]
theorem splice_get {α : Type} {L cs : List α} {k : Nat} (_h : cs.length ≤ L.length) : (splice L 0 cs)[k]? = if k < cs.length then cs[k]? else L[k]? := by
  unfold splice
  rw [List.take_zero, List.nil_append, Nat.zero_add]
  by_cases h1 : k < cs.length
  · rw [if_pos h1, List.getElem?_append_left h1]
  · rw [if_neg h1, List.getElem?_append_right (by omega), List.getElem?_drop]
    congr 1
    omega
/-- A word that a call made: a row of its own. -/
def OwnW (w w' : World) (v : Value) (u : List Bool) : Prop := ∃ g, v = .slice (some ⟨g, 0, none⟩) u.length u.length ∧ w.heap.size ≤ g ∧ w'.rowIs g 4 u.length (vB u) ∧ Only (fun _ => False) w w'
set_option maxRecDepth 4000 in
set_option maxHeartbeats 1000000 in
theorem next_any {A : Option Addr} {c n i j : Nat} {p : List Bool} {w : World} (hu : RdB w A (p ++ false :: List.replicate j true)) (hn : n = p.length + 1 + i) (hs : p.length + 1 + j ≤ 1000) (hs2 : n ≤ 1000) (hc : p.length + 1 + j ≤ c) :
    Calls Try.prog 107 #[.slice A (p.length + 1 + j) c, .int .i64 (n : Int)] w fun e w' => ∃ v, e = .returned v ∧ Hid (OwnW w w' v (p ++ true :: List.replicate i false)) := by
  have hlen : (p ++ false :: List.replicate j true).length = p.length + 1 + j := by simp; omega
  have HL := hid (lastNought_any (c := c) (m := p.length) (j := j) hu (by omega) (by simp [List.getD]) (fun k h1 h2 => by
    rw [hlen] at h2
    simp only [List.getD]
    rw [List.getElem?_append_right (by omega)]
    obtain ⟨x, hx⟩ : ∃ x, k - p.length = x + 1 := ⟨k - p.length - 1, by omega⟩
    rw [hx, List.getElem?_cons_succ]
    simp [show x < j by omega]) (by omega))
  rw [hlen] at HL
  obtain ⟨b, off, rfl, hcell⟩ := hu (by omega)
  rw [hlen] at hcell
  have HC : Hid (∀ k, k < p.length → w.cell? ⟨b, off + k, none⟩ = some (.bool (p.getD k false))) := hid fun k hk => by
    rw [hcell k (by omega)]
    simp [vB, List.getD, List.getElem?_append_left hk]
  clear hcell hu hlen
  obtain ⟨m, hm⟩ : ∃ m, m = p.length := ⟨_, rfl⟩
  rw [← hm] at hn hs hc HL ⊢
  have Hm := hid hm
  have Hn := hid hn
  clear hm
  have hmk := fun W => run_make_row' (P := Try.prog) 101 4 (.bool false) 1 Try.underlying101 boolInfoK rfl .i64 .i64 n (by omega) (by omega) W
  have hmn : (m : Int) < (n : Int) := by omega
  have hmc : (m : Int) ≤ (c : Int) := by omega
  have hmn2 : m < n := by omega
  clear hn
  have hcur : Hid ((w.alloc (.cells (madeCells #[.bool false] n) 4)).heap[w.heap.size]? = some (.cells (List.replicate n (Value.bool false)).toArray 4 (0, 0))) := hid (by
    rw [← madeList]; exact Go.Deep.blk_alloc_new _ _)
  have HO1 : Hid (Only (fun _ => False) w (w.alloc (.cells (madeCells #[.bool false] n) 4))) := hid ((Only.refl _ w).alloc _)
  have HC1 : Hid (∀ k, k < p.length → (w.alloc (.cells (madeCells #[.bool false] n) 4)).cell? ⟨b, off + k, none⟩ = some (.bool (p.getD k false))) := hid fun k hk => by
    have h := HC.out k hk
    rw [World.cell?_alloc_past _ _ _ (cell_lt h)]
    exact h
  go_enter Try.func107, Try.ntmps107
  go_wp2_with (first
    | (go_at_call 118; refine HL.out.mono ?_; rintro e w1 ⟨rfl, rfl⟩)
    | (with_reducible refine wpList_copy_splice rfl (.tmp 11) (.tmp 14) 101 101 rfl 4 Try.underlying101 boolSize _ _ n n m c rfl rfl w.heap.size 0 (List.replicate n (Value.bool false)) 4 hcur.out (p.map Value.bool) ?_ ?_ ?_ ?_ w.heap.size w ?_ (Nat.le_refl _) ?_))
  · rw [List.length_map, ← Hm.out]; show m = min m n; omega
  · intro _ k v hv
    rcases hv with ⟨h1, rfl⟩ | ⟨h1, rfl⟩
    all_goals
      rw [HC1.out k (List.getElem?_eq_some_iff.1 h1).1]
      simp [List.getD, h1]
  · rw [List.length_map, List.length_replicate, ← Hm.out]; omega
  · intro v hv
    obtain ⟨x, _, rfl⟩ := List.mem_map.1 hv
    rfl
  · exact HO1.out.to_below (fun _ h => h.elim) (Nat.le_refl _)
  · intro w2 HG HB2
    have HO2 : Hid (Only (fun _ => False) w w2) := hid (Only.of_below HB2 _)
    have hrow : w2.rowIs w.heap.size 4 n (fun k => if k < m then .bool (p.getD k false) else .bool false) := by
      refine ⟨_, HG.out, ?_, fun k hk => ?_⟩
      · rw [List.size_toArray, length_splice]
        · rw [List.length_replicate]
        · rw [List.length_map, List.length_replicate, ← Hm.out]; omega
      · rw [List.getElem?_toArray, splice_get (by rw [List.length_map, List.length_replicate, ← Hm.out]; omega), List.length_map, ← Hm.out]
        by_cases h : k < m
        · rw [if_pos h]; simp [h, List.getD, show k < p.length by rw [← Hm.out]; exact h]
        · rw [if_neg h]; simp [hk, h]
    have hset := (hrow.set m (.bool true)).congr (g := vB (p ++ true :: List.replicate i false)) fun k hk => by
      unfold vB
      simp only [List.getD]
      have hm := Hm.out
      by_cases h1 : k = m
      · rw [if_pos h1, List.getElem?_append_right (by omega), show k - p.length = 0 by omega, List.getElem?_cons_zero]; rfl
      · rw [if_neg h1]
        by_cases h2 : k < m
        · rw [if_pos h2, List.getElem?_append_left (by omega)]
        · rw [if_neg h2, List.getElem?_append_right (by omega)]
          obtain ⟨x, hx⟩ : ∃ x, k - p.length = x + 1 := ⟨k - p.length - 1, by omega⟩
          rw [hx, List.getElem?_cons_succ]
          have := Hn.out
          simp [show x < i by omega]
    have hge : w.heap.size ≤ w.heap.size := Nat.le_refl _
    have c1 := hrow.cell (i := m) (by omega)
    rw [if_neg (Nat.lt_irrefl m)] at c1
    have f1 := hrow.frozen m
    have HS := hid hset
    have HE : Hid (OwnW w (w2.setCell ⟨w.heap.size, m, none⟩ (.bool true)) (.slice (some ⟨w.heap.size, 0, none⟩) n n) (p ++ true :: List.replicate i false)) := hid (by
      have hl : (p ++ true :: List.replicate i false).length = n := by have := Hm.out; have := Hn.out; simp; omega
      refine ⟨w.heap.size, by rw [hl], Nat.le_refl _, by rw [hl]; exact HS.out, HO2.out.setCell (.inr (Nat.le_refl _)) _⟩)
    clear hrow hset HB2 HG HC HC1 HO1 hcur
    generalize w.heap.size = g at *
    go_wp2
    go_ret
    exact ⟨_, rfl, HE⟩
end Go.Proofs.Ytmbcinbkijnblaa
