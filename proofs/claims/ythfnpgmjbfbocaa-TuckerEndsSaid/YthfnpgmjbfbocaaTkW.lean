/- Two slices of the call's own that lie apart; appends to one of them. -/
import Derived.Test.YthfnpgmjbfbocaaTk6
import Derived.Test.YthfnpgmjbfbocaaTkD
import Derived.Maps.OwnIn
namespace Go.Proofs.Ythfnpgmjbfbocaa
open Go.RowKit

/-- Two slices of the call's own that lie apart. -/
structure TwoI (wb w : World) (v : Value) (xs : List Int) (u : Value) (ys : List Int) : Prop where
  a : OwI wb w v xs
  b : OwI wb w u ys
  ne : ∀ g, v.ownBlock = some g → u.ownBlock ≠ some g
theorem TwoI.swap {wb w : World} {v u : Value} {xs ys : List Int} (h : TwoI wb w v xs u ys) : TwoI wb w u ys v xs := ⟨h.b, h.a, fun g h1 h2 => h.ne g h2 h1⟩
theorem TwoI.st {wb w w' : World} {v u : Value} {xs ys : List Int} (h : TwoI wb w v xs u ys) (ho : Only (fun _ => False) w w') : TwoI wb w' v xs u ys := ⟨h.a.carry ho, h.b.carry ho, h.ne⟩
theorem TwoI.nil {w : World} : TwoI w w (.slice none 0 0) [] (.slice none 0 0) [] := ⟨OwI.nil (Only.refl _ w), OwI.nil (Only.refl _ w), fun g h => by cases h⟩
theorem OwI.block_lt {wb w : World} {u : Value} {ys : List Int} (h : OwI wb w u ys) {g : Nat} (hg : u.ownBlock = some g) : g < w.heap.size := by
  rcases h.own.2 with ⟨rfl, _⟩ | ⟨b, cap, cur, rfl, hge, hh, _⟩
  · cases hg
  · simp [Value.ownBlock] at hg
    subst hg
    rcases Nat.lt_or_ge b w.heap.size with a | a
    · exact a
    · rw [Array.getElem?_eq_none a] at hh; cases hh
theorem wpList_add2 {ops : Array Oper} {rest : List Oper} {o : Oper} {a : Act} {Q : Exit → Act → World → Prop} (wb w : World) (hgd : o.guard = none) (s x : Operand)
    (hop : o.op = Op.call { callee := Callee.builtin Builtin.append, args := #[s, x], argTypes := #[22, 22] })
    (v : Value) (xs : List Int) (u : Value) (ys : List Int) (hs : a.eval s = v) (h : Hid (TwoI wb w v xs u ys)) (ad : Addr) (c : Nat) (z : Int) (hx : a.eval x = .slice (some ad) 1 c) (hr : Hid (RdI w (some ad) [z])) (hb : xs.length ≤ 16777000)
    (K : ∀ v' w', Hid (TwoI wb w' v' (xs ++ [z]) u ys) → wpList Try.prog ops Q rest (a.put o.dst v') w') :
    wpList Try.prog ops Q (o :: rest) a w := by
  obtain ⟨i0, hi0, hz0, hz1, hz2⟩ := info_parts intInfoK
  refine wpList_append_own_at w hgd s x 22 hop wb.heap.size 3 i0 (.int .i64 0) 1 8 Try.underlying22 hi0 hz0 hz1 hz2 rfl (by omega) v xs.length _ hs h.out.a.own ad 1 c ([z].map iv) hx (by simp) (by rw [← vals_mapI]; exact hr.out.news ad rfl) (iv_one [z]) (by unfold maxLen; omega) (by omega) h.out.a.only.size ?_
  intro v' w' hown hg _ hat
  have hab : ∀ k, v.ownBlock = some k → wb.heap.size ≤ k := fun k e => by
    rcases h.out.a.own.2 with ⟨rfl, _⟩ | ⟨g, cap, cur, rfl, hge, _⟩
    · cases e
    · simp [Value.ownBlock] at e; omega
  have ho : Only (fun _ => False) wb w' := h.out.a.only.grown hg fun k e => .inr (hab k e)
  refine K v' w' (hid ⟨⟨by rw [List.length_append, List.map_append]; exact hown, ho⟩, ⟨⟨h.out.b.own.1, ?_⟩, ho⟩, fun g h1 h2 => ?_⟩)
  · rcases h.out.b.own.2 with h0 | ⟨g, cap, cur, e, hge, hh, hrest⟩
    · exact .inl h0
    · refine .inr ⟨g, cap, cur, e, hge, ?_, hrest⟩
      have hg1 : u.ownBlock = some g := by rw [e]; rfl
      have hlt := h.out.b.block_lt hg1
      rw [hg.block g hlt (fun e2 => h.out.ne g e2.symm hg1)]
      exact hh
  · have hlt := h.out.b.block_lt h2
    rcases hat with e | e
    · exact h.out.ne g (by rw [← e]; exact h1) h2
    · rw [e] at h1
      injection h1 with h1
      omega
theorem wpListIn_add2 {F : Fence} {nF : Nat} {ops : Array Oper} {rest : List Oper} {o : Oper} {a : Act} {Q : Exit → Act → World → Prop} (wb w : World) (hgd : o.guard = none) (s x : Operand)
    (hop : o.op = Op.call { callee := Callee.builtin Builtin.append, args := #[s, x], argTypes := #[22, 22] })
    (v : Value) (xs : List Int) (u : Value) (ys : List Int) (hs : a.eval s = v) (h : Hid (TwoI wb w v xs u ys)) (ad : Addr) (c : Nat) (z : Int) (hx : a.eval x = .slice (some ad) 1 c) (hr : Hid (RdI w (some ad) [z])) (hb : xs.length ≤ 16777000)
    (K : ∀ v' w', Hid (TwoI wb w' v' (xs ++ [z]) u ys) → wpListIn F nF Try.prog ops Q rest (a.put o.dst v') w') :
    wpListIn F nF Try.prog ops Q (o :: rest) a w := by
  obtain ⟨i0, hi0, hz0, hz1, hz2⟩ := info_parts intInfoK
  refine wpListIn_append_own_at w hgd s x 22 hop wb.heap.size 3 i0 (.int .i64 0) 1 8 Try.underlying22 hi0 hz0 hz1 hz2 rfl (by omega) v xs.length _ hs h.out.a.own ad 1 c ([z].map iv) hx (by simp) (by rw [← vals_mapI]; exact hr.out.news ad rfl) (iv_one [z]) (by unfold maxLen; omega) (by omega) h.out.a.only.size ?_
  intro v' w' hown hg _ hat
  have hab : ∀ k, v.ownBlock = some k → wb.heap.size ≤ k := fun k e => by
    rcases h.out.a.own.2 with ⟨rfl, _⟩ | ⟨g, cap, cur, rfl, hge, _⟩
    · cases e
    · simp [Value.ownBlock] at e; omega
  have ho : Only (fun _ => False) wb w' := h.out.a.only.grown hg fun k e => .inr (hab k e)
  refine K v' w' (hid ⟨⟨by rw [List.length_append, List.map_append]; exact hown, ho⟩, ⟨⟨h.out.b.own.1, ?_⟩, ho⟩, fun g h1 h2 => ?_⟩)
  · rcases h.out.b.own.2 with h0 | ⟨g, cap, cur, e, hge, hh, hrest⟩
    · exact .inl h0
    · refine .inr ⟨g, cap, cur, e, hge, ?_, hrest⟩
      have hg1 : u.ownBlock = some g := by rw [e]; rfl
      have hlt := h.out.b.block_lt hg1
      rw [hg.block g hlt (fun e2 => h.out.ne g e2.symm hg1)]
      exact hh
  · have hlt := h.out.b.block_lt h2
    rcases hat with e | e
    · exact h.out.ne g (by rw [← e]; exact h1) h2
    · rw [e] at h1
      injection h1 with h1
      omega
end Go.Proofs.Ythfnpgmjbfbocaa
