/- What a call may change, by the types of the blocks. No program. -/
import Derived.Test.YtbbclcllkpabkaaDoorOwn
namespace Go.Proofs.YtbbclcllkpabkaaDoor
open Go.RowKit

def TyAt (w : World) (k : Nat) (T : TypeId → Prop) : Prop := ∃ cs t fz, w.heap[k]? = some (.cells cs t fz) ∧ T t
/-- Of what was there in a, only blocks from B on of the types T may be others in w. -/
def FrT (T : TypeId → Prop) (B : Nat) (a w : World) : Prop := Only (fun k => B ≤ k ∧ TyAt a k T) a w
theorem TyAt.of_row {w : World} {b n : Nat} {t : TypeId} {f : Nat → Value} {T : TypeId → Prop} (h : w.rowIs b t n f) (ht : T t) : TyAt w b T := by
  obtain ⟨c, hb, _, _⟩ := h
  exact ⟨c, t, _, hb, ht⟩
theorem TyAt.not_row {w : World} {b n : Nat} {t : TypeId} {f : Nat → Value} {T : TypeId → Prop} (h : w.rowIs b t n f) (ht : ¬ T t) : ¬ TyAt w b T := by
  rintro ⟨cs, t', fz, hb, ht'⟩
  obtain ⟨c, hb2, _, _⟩ := h
  rw [hb2] at hb
  injection hb with hb
  injection hb with _ e
  subst e
  exact ht ht'
section
variable {T : TypeId → Prop} {B : Nat} {a b w : World}
theorem FrT.refl (T : TypeId → Prop) (B : Nat) (w : World) : FrT T B w w := Only.refl _ w
theorem FrT.trans (h : FrT T B a b) (k : FrT T B b w) : FrT T B a w := by
  refine ⟨k.os.trans h.os, k.tape.trans h.tape, k.output.trans h.output, Nat.le_trans h.size k.size, fun i hi hs => ?_⟩
  have e := h.block i hi hs
  refine (k.block i (Nat.lt_of_lt_of_le hi h.size) fun hk => hs ⟨hk.1, ?_⟩).trans e
  obtain ⟨cs, t, fz, hb, ht⟩ := hk.2
  exact ⟨cs, t, fz, by rw [← e]; exact hb, ht⟩
theorem FrT.of_only (h : Only (fun _ => False) a w) : FrT T B a w := h.mono fun _ _ h => h.elim
theorem FrT.drewN (h : FrT T B a w) (n : Nat) : FrT T B a (w.drewN n) := Only.drewN h n
theorem FrT.drew (h : FrT T B a w) : FrT T B a w.drew := Only.drew h
theorem FrT.alloc (h : FrT T B a w) (o : Obj) : FrT T B a (w.alloc o) := Only.alloc h o
theorem FrT.setCell (h : FrT T B a w) {p : Addr} (hB : B ≤ p.block) (hp : TyAt w p.block T) (u : Value) : FrT T B a (w.setCell p u) :=
  h.trans ((Only.refl _ w).setCell (.inl ⟨hB, hp⟩) u)
theorem FrT.grown {row : Option Nat} (h : FrT T B a w) {c : World} (hg : w.grownBy c row) (hr : ∀ k, row = some k → B ≤ k ∧ TyAt w k T) : FrT T B a c :=
  h.trans ((Only.refl _ w).grown hg fun k e => .inl (hr k e))
theorem FrT.row (h : FrT T B a w) {g n : Nat} {t : TypeId} {f : Nat → Value} (hr : a.rowIs g t n f) (hg : ¬ T t) : w.rowIs g t n f := Only.row h hr fun hs => TyAt.not_row hr hg hs.2
theorem FrT.below (h : FrT T B a w) (hB : B ≤ a.heap.size) : Below B a w := Only.to_below h (fun _ hk => hk.1) hB
theorem FrT.mono {T' : TypeId → Prop} {B' : Nat} (h : FrT T B a w) (hT : ∀ t, T t → T' t) (hB : B' ≤ B) : FrT T' B' a w := Only.mono h fun _ _ hk => ⟨Nat.le_trans hB hk.1, by obtain ⟨cs, t, fz, hb, ht⟩ := hk.2; exact ⟨cs, t, fz, hb, hT t ht⟩⟩
theorem FrT.of_below (h : Below a.heap.size a w) : FrT T B a w := Only.of_below h _
theorem FrT.cell (h : FrT T B a w) {p : Addr} (hp : p.block < a.heap.size) (hs : p.block < B) : w.cell? p = a.cell? p := Only.cell h hp fun hk => by omega
theorem FrT.rdV (h : FrT T B a w) {A : Option Addr} {L : Nat} {V : Nat → Value} (hr : RdV a A L V) (hA : ∀ b off, A = some ⟨b, off, none⟩ → b < B) : RdV w A L V := hr.only h fun b off e hk => by have := hA b off e; omega
theorem FrT.rdV' (h : FrT T B a w) {A : Option Addr} {L : Nat} {V : Nat → Value} (hr : RdV a A L V) (hA : ∀ b off, A = some ⟨b, off, none⟩ → b < a.heap.size → b < B ∨ ¬ TyAt a b T) : RdV w A L V := by
  intro h0
  obtain ⟨b, off, e, hc⟩ := hr h0
  refine ⟨b, off, e, fun j hj => ?_⟩
  have hlt := cell_lt (hc j hj)
  rw [Only.cell h hlt (fun hk => (hA b off e hlt).elim (fun h2 => absurd hk.1 (Nat.not_le.2 h2)) fun h2 => h2 hk.2), hc j hj]
end
/-- A row of the call's own stays, if its block does. -/
theorem own_keep {a w : World} {base : Nat} {e : TypeId} {s : Nat} {v : Value} {n : Nat} {xs : List Value} {S : Nat → Prop} (h : a.ownsRow base e s v n xs) (o : Only S a w) (hS : ∀ k, v.ownBlock = some k → ¬ S k) : w.ownsRow base e s v n xs := by
  refine ⟨h.1, ?_⟩
  rcases h.2 with h2 | ⟨g, cap, cur, hv, hge, hh, hr⟩
  · exact .inl h2
  · have hg : g < a.heap.size := by
      rcases Nat.lt_or_ge g a.heap.size with x | x
      · exact x
      · rw [Array.getElem?_eq_none x] at hh; cases hh
    exact .inr ⟨g, cap, cur, hv, hge, by rw [o.block g hg (hS g (by rw [hv]; rfl))]; exact hh, hr⟩
/-- .. by its type. -/
theorem own_ty {a w : World} {base B : Nat} {e : TypeId} {s : Nat} {v : Value} {n : Nat} {xs : List Value} {T : TypeId → Prop} (h : a.ownsRow base e s v n xs) (o : FrT T B a w) (he : ¬ T e) : w.ownsRow base e s v n xs := by
  refine own_keep h o fun k hk hs => ?_
  rcases h.2 with ⟨rfl, _⟩ | ⟨g, cap, cur, rfl, hge, hh, hr⟩
  · cases hk
  · obtain ⟨cs, t, fz, hb, ht⟩ := hs.2
    have : g = k := by simpa [Value.ownBlock] using hk
    subst this
    rw [hh] at hb
    injection hb with hb
    injection hb with _ e1
    subst e1
    exact he ht
theorem own_block {w : World} {base : Nat} {e : TypeId} {s : Nat} {v : Value} {n : Nat} {xs : List Value} (h : w.ownsRow base e s v n xs) {k : Nat} (hk : v.ownBlock = some k) : base ≤ k ∧ k < w.heap.size ∧ ∀ T : TypeId → Prop, T e → TyAt w k T := by
  rcases h.2 with ⟨rfl, _⟩ | ⟨g, cap, cur, rfl, hge, hh, hr⟩
  · cases hk
  · have : g = k := by simpa [Value.ownBlock] using hk
    subst this
    refine ⟨hge, ?_, fun T ht => ⟨cur, e, _, hh, ht⟩⟩
    rcases Nat.lt_or_ge g w.heap.size with x | x
    · exact x
    · rw [Array.getElem?_eq_none x] at hh; cases hh
theorem own_drewN {w : World} {base : Nat} {e : TypeId} {s : Nat} {v : Value} {n : Nat} {xs : List Value} (h : w.ownsRow base e s v n xs) (k : Nat) : (w.drewN k).ownsRow base e s v n xs := h
end Go.Proofs.YtbbclcllkpabkaaDoor
