/- A row of one-cell values that is the call's own: kept, appended to, read. No function of the program. -/
import Derived.Test.YtbbclcllkpabkaaDoorFr
import Derived.Lib.Walk
import Derived.Laws.Append
namespace Go.Proofs.YtbbclcllkpabkaaDoor.G
open Go.RowKit

structure OwG (e : TypeId) (w0 w : World) (v : Value) (xs : List Value) : Prop where
  own : w.ownsRow w0.heap.size e 1 v xs.length xs
  ge : w0.heap.size ≤ w.heap.size
theorem own_block {a : World} {base : Nat} {e : TypeId} {s : Nat} {v : Value} {n : Nat} {xs : List Value} (h : a.ownsRow base e s v n xs) {k : Nat} (hk : v.ownBlock = some k) : base ≤ k ∧ k < a.heap.size ∧ ∀ T : TypeId → Prop, T e → TyAt a k T := by
  rcases h.2 with ⟨rfl, _⟩ | ⟨g, cap, cur, rfl, hge, hh, _⟩
  · cases hk
  · have e1 : g = k := by simpa [Value.ownBlock] using hk
    subst e1
    refine ⟨hge, ?_, fun T hT => ⟨_, _, _, hh, hT⟩⟩
    rcases Nat.lt_or_ge g a.heap.size with x | x
    · exact x
    · rw [Array.getElem?_eq_none x] at hh; cases hh
/-- The row stays where only blocks of other types change. -/
theorem OwG.fr {e : TypeId} {w0 w w' : World} {v : Value} {xs : List Value} {S : Nat → Prop} (h : OwG e w0 w v xs) (o : Only S w w') (hS : ∀ k, TyAt w k (fun t => t = e) → w0.heap.size ≤ k → ¬ S k) : OwG e w0 w' v xs :=
  ⟨own_keep h.own o fun k hk => hS k ((own_block h.own hk).2.2 _ rfl) (own_block h.own hk).1, Nat.le_trans h.ge o.size⟩
theorem OwG.same {e : TypeId} {w0 w w' : World} {v : Value} {xs : List Value} (h : OwG e w0 w v xs) (ho : Only (fun _ => False) w w') : OwG e w0 w' v xs := h.fr ho fun _ _ _ h => h
theorem OwG.nil {e : TypeId} {w0 w : World} (h : w0.heap.size ≤ w.heap.size) : OwG e w0 w (.slice none 0 0) [] := ⟨⟨rfl, .inl ⟨rfl, rfl⟩⟩, h⟩
theorem OwG.rd {e : TypeId} {w0 w : World} {v : Value} {xs : List Value} (h : OwG e w0 w v xs) : ∃ A cap, v = .slice A xs.length cap ∧ RdV w A xs.length (fun j => xs.getD j undef) ∧ (A = none → xs.length = 0 ∧ cap = 0) ∧ xs.length ≤ cap ∧ ∀ g o s, A = some ⟨g, o, s⟩ → w0.heap.size ≤ g := by
  rcases h.own.2 with ⟨rfl, h0⟩ | ⟨g, cap, cur, rfl, hge, hh, hle, hcm, hsz, ht⟩
  · have : xs = [] := by simpa using h0
    subst this
    exact ⟨none, 0, rfl, RdV.nil _, fun _ => ⟨rfl, rfl⟩, Nat.le_refl _, fun _ _ _ h => by cases h⟩
  · refine ⟨some ⟨g, 0, none⟩, cap, rfl, fun _ => ⟨g, 0, rfl, fun j hj => ?_⟩, (fun h => by cases h), hle, fun _ _ _ h => by injection h with h; injection h with h; subst h; exact hge⟩
    have h1 : j < cur.size := by rw [hsz]; omega
    have h2 : (cur.toList.take (xs.length * 1))[j]? = xs[j]? := by rw [ht]
    rw [List.getElem?_take_of_lt (by omega)] at h2
    have h3 : cur[j]? = xs[j]? := by simpa using h2
    have hc : w.cell? ⟨g, j, none⟩ = cur[j]? := by simp [World.cell?, hh]
    rw [Nat.zero_add, hc, h3]
    simp [List.getD, hj]
theorem cell_one (w u : World) (b : Nat) (x : Value) (e : TypeId) (hb : b = u.heap.size) (hw : w = u.alloc (.cells #[x] e)) : ∀ j y, [x][j]? = some y → w.cell? ((⟨b, 0, none⟩ : Addr).add j) = some y := by
  subst hb
  subst hw
  intro j y hj
  cases j with
  | zero => simp at hj; subst hj; simp [Addr.add]
  | succ j => simp at hj
theorem wpList_addV {ops : Array Oper} {rest : List Oper} {o : Oper} {a : Act} {Q : Exit → Act → World → Prop} (w0 w : World) (t e : TypeId) (z : Value) (bytes : Nat) (ht : Tryd.prog.underlying t = some (.slice e)) (hinfo : (Tryd.prog.info? e).map (fun i => (i.zero, i.size, i.bytes)) = some (some z, 1, bytes)) (hby : bytes ≤ 24)
    (hz1 : z.cells = #[z]) (hgd : o.guard = none) (s x : Operand) (hop : o.op = Op.call { callee := Callee.builtin Builtin.append, args := #[s, x], argTypes := #[t, t] })
    (v : Value) (xs : List Value) (hs : a.eval s = v) (h : Hid (OwG e w0 w v xs)) (y : Value) (hy : y.oneCell' = true) (b c : Nat) (hx : a.eval x = .slice (some ⟨b, 0, none⟩) 1 c) (hb : xs.length ≤ 1000000) (u : World) (hbu : b = u.heap.size) (hwu : w = u.alloc (.cells #[y] e))
    (K : ∀ v' w', Hid (OwG e w0 w' v' (xs ++ [y])) → Hid (FrT (fun k => k = e) w0.heap.size w w') → wpList Tryd.prog ops Q rest (a.put o.dst v') w') :
    wpList Tryd.prog ops Q (o :: rest) a w := by
  obtain ⟨i0, hi0, hq0, hq1, hq2⟩ := info_parts hinfo
  refine wpList_append_own_at w hgd s x t hop w0.heap.size e i0 z 1 bytes ht hi0 hq0 hq1 hq2 (by rw [hz1]; rfl) (by omega) v xs.length _ hs h.out.own ⟨b, 0, none⟩ 1 c [y] hx (by simp) (cell_one w u b y e hbu hwu) (by intro q hq; simp at hq; subst hq; exact hy) (by unfold maxLen; omega) (Nat.le_trans (Nat.mul_le_mul (show xs.length + 1 ≤ 2000000 by omega) hby) (by decide)) h.out.ge ?_
  intro v' w' hown hg _ hat
  refine K v' w' (hid ⟨by rw [List.length_append]; exact hown, Nat.le_trans h.out.ge hg.size⟩) (hid ((FrT.refl _ _ w).grown hg fun k hk => ?_))
  have := own_block h.out.own hk
  exact ⟨this.1, this.2.2 _ rfl⟩
end Go.Proofs.YtbbclcllkpabkaaDoor.G
