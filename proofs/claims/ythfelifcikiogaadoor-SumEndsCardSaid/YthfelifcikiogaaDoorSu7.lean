/- SumTells. -/
import Derived.Test.YthfelifcikiogaaDoorSu6
import Derived.Maps.AppendAt
namespace Go.Proofs.YthfelifcikiogaaDoor
open Go.RowKit
open Cr

theorem rowInfoY : (Tryd.prog.info? 23).map (fun i => (i.zero, i.size, i.bytes)) = some (some (.slice none 0 0), 1, 24) := by kernel_rfl
def inV (L : List (List Nat)) (g : Nat → Nat) (j : Nat) : Value := .slice (some ⟨g j, 0, none⟩) (L.getD j []).length ((L.getD j []).length + 12)
/-- Rows that are lent, k of them so far. -/
structure InS (w wr : World) (z : Value) (L : List (List Nat)) (g : Nat → Nat) (k : Nat) : Prop where
  own : wr.ownsRow w.heap.size 23 1 z k (valsL (inV L g) k)
  row : ∀ j, j < k → wr.rowIs (g j) 5 ((L.getD j []).length + 12) (lentV (L.getD j []).length (vY (L.getD j [])) mY)
  only : Only (fun _ => False) w wr
theorem InS.begin (w : World) (L : List (List Nat)) (g : Nat → Nat) : InS w w (.slice none 0 0) L g 0 :=
  ⟨World.ownsRow_nil _ _ _ _, fun j h => absurd h (by omega), Only.refl _ w⟩
theorem valsL_snoc (V : Nat → Value) (k : Nat) : valsL V (k + 1) = valsL V k ++ [V k] := by unfold valsL; rw [List.range_succ, List.map_append]; rfl
theorem valsL_eq {V V' : Nat → Value} {k : Nat} (h : ∀ j, j < k → V j = V' j) : valsL V k = valsL V' k := by
  unfold valsL
  exact List.map_congr_left fun j hj => h j (List.mem_range.1 hj)
theorem own_ne {w : World} {base n m g : Nat} {t t' : TypeId} {v : Value} {xs : List Value} {F : Nat → Value} (h : w.ownsRow base t 1 v n xs) (hr : w.rowIs g t' m F) (hne : t ≠ t') : some g ≠ v.ownBlock := by
  intro e
  rcases h.2 with ⟨rfl, _⟩ | ⟨g2, cap, cur, rfl, _, hh, _⟩
  · cases e
  · simp [Value.ownBlock] at e
    subst e
    obtain ⟨c, hb, _, _⟩ := hr
    rw [hh] at hb
    injection hb with hb
    injection hb with _ ht
    exact hne ht
theorem own_below {w w' : World} {base n : Nat} {t : TypeId} {v : Value} {xs : List Value} (h : w.ownsRow base t 1 v n xs) (hb : Below w.heap.size w w') : w'.ownsRow base t 1 v n xs := own_of_block h fun g _ hg => hb.block g hg
theorem InS.step {w wr w1 w2 : World} {z v : Value} {L : List (List Nat)} {g : Nat → Nat} {k g0 : Nat} {o : Obj} (h : InS w wr z L g k)
    (h1 : w1.rowIs g0 5 ((L.getD k []).length + 12) (lentV (L.getD k []).length (vY (L.getD k [])) mY)) (hb : Below wr.heap.size wr w1)
    (hown : w2.ownsRow w.heap.size 23 1 v (k + 1) (valsL (inV L g) k ++ [.slice (some ⟨g0, 0, none⟩) (L.getD k []).length ((L.getD k []).length + 12)]))
    (hg : (w1.alloc o).grownBy w2 z.ownBlock) : InS w w2 v L (fun j => if j = k then g0 else g j) (k + 1) := by
  have ho : w1.ownsRow w.heap.size 23 1 z k (valsL (inV L g) k) := own_below h.own hb
  refine ⟨?_, fun j hj => ?_, ?_⟩
  · rw [valsL_snoc]
    have e : valsL (inV L fun j => if j = k then g0 else g j) k = valsL (inV L g) k := valsL_eq fun j hj => by unfold inV; dsimp only; rw [if_neg (by omega)]
    rw [e]
    unfold inV
    dsimp only
    rw [if_pos rfl]
    exact hown
  · have key : ∀ {g' m : Nat} {F : Nat → Value}, w1.rowIs g' 5 m F → w2.rowIs g' 5 m F := fun hr =>
      (hr.alloc o).of_block (hg.block _ (hr.alloc o).lt (own_ne ho hr (by decide)))
    by_cases e : j = k
    · subst e; rw [if_pos rfl]; exact key h1
    · rw [if_neg e]; exact key (rowIs_below' (h.row j (by omega)) hb)
  · exact ((h.only.trans (Only.of_below hb _)).alloc o).grown hg fun k e => .inr (h.own.lt k e.symm.symm).1
theorem InS.below {w wr w' : World} {z : Value} {L : List (List Nat)} {g : Nat → Nat} {k : Nat} (h : InS w wr z L g k) (hb : Below wr.heap.size wr w') : InS w w' z L g k :=
  ⟨own_below h.own hb, fun j hj => rowIs_below' (h.row j hj) hb, h.only.trans (Only.of_below hb _)⟩
theorem InS.shape {w wr : World} {z : Value} {L : List (List Nat)} {g : Nat → Nat} (h : InS w wr z L g L.length) :
    ∃ A cap, z = .slice A L.length cap ∧ ∀ W, Below wr.heap.size wr W → RdR W A L (fun j => some ⟨g j, 0, none⟩) (fun j => (L.getD j []).length + 12) := by
  have key : ∀ A, (0 < L.length → ∃ b off, A = some (⟨b, off, none⟩ : Addr) ∧ ∀ j, j < L.length → wr.cell? ⟨b, off + j, none⟩ = some (inV L g j)) → RdR wr A L (fun j => some ⟨g j, 0, none⟩) (fun j => (L.getD j []).length + 12) := fun A hA =>
    ⟨hA, fun j hj => ((RdV.of_row (h.row j hj)).take (by omega)).congr fun i hi => by unfold lentV; rw [if_pos hi], fun j hj h => by cases h⟩
  by_cases h0 : 0 < L.length
  · obtain ⟨gz, cap, F, rfl, _, hF, hV, hle, _⟩ := own_at h.own h0
    exact ⟨_, cap, rfl, fun W hb => (key _ fun _ => ⟨gz, 0, rfl, fun j hj => by rw [Nat.zero_add, hF.cell (by omega), hV j hj]⟩).below hb⟩
  · rcases h.own.2 with ⟨rfl, h2⟩ | ⟨gz, cap, cur, rfl, _⟩
    · exact ⟨none, 0, by rw [h2], fun W hb => (key _ fun h => absurd h h0).below hb⟩
    · exact ⟨_, cap, rfl, fun W hb => (key _ fun h => absurd h h0).below hb⟩
theorem OwY.rd {w0 w W : World} {A : Option Addr} {n cap : Nat} {bs : List Nat} (h : OwY w0 w (.slice A n cap) bs) (ho : Only (fun _ => False) w W) : n = bs.length ∧ RdY W A bs := by
  obtain ⟨A', c', e, h1, _⟩ := h.shape
  injection e with e1 e2 e3
  subst e1
  exact ⟨e2, h1.only ho fun _ _ _ => no_⟩
theorem OwY.isSlice {w0 w : World} {v : Value} {bs : List Nat} (h : OwY w0 w v bs) : ∃ A cap, v = .slice A bs.length cap ∧ bs.length ≤ cap := by
  obtain ⟨A', c', e, _, _, _, h2, _⟩ := h.shape
  exact ⟨A', c', e, h2⟩
theorem OwY.nilA {w0 w : World} {A : Option Addr} {n cap : Nat} {bs : List Nat} (h : OwY w0 w (.slice A n cap) bs) : A = none → bs.length = 0 ∧ cap = 0 := by
  obtain ⟨A', c', e, _, h2, _⟩ := h.shape
  injection e with e1 e2 e3
  subst e1
  subst e3
  exact h2
theorem vY_one (bs : List Nat) : ∀ j, (vY bs j).oneCell' = true := fun _ => rfl
/-- Two of the same bytes. -/
theorem same_two {w01 w02 wA wB w : World} {A B : Option Addr} {n m c1 c2 : Nat} {bs : List Nat} (h1 : OwY w01 wA (.slice A n c1) bs) (h2 : OwY w02 wB (.slice B m c2) bs) (o1 : Only (fun _ => False) wA w) (o2 : Only (fun _ => False) wB w) (hb : ∀ b ∈ bs, b < 256) (hl : bs.length ≤ 10000000) :
    Calls Tryd.prog 16 #[.slice A n c1, .slice B m c2] w (Quiet1 (.bool true) w) := by
  obtain ⟨rfl, r1⟩ := h1.rd o1
  obtain ⟨rfl, r2⟩ := h2.rd o2
  exact sameBytes_eq (y := fun j => bs.getD j 0) (byts_of hb) r1 r2 (by omega)
end Go.Proofs.YthfelifcikiogaaDoor
