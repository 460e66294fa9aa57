/- BitsDo: one deed. -/
import Derived.Test.YtneipjocimcmnaaDoorDeeds
import Derived.Test.YtneipjocimcmnaaDoorLawD
namespace Go.Proofs.YtneipjocimcmnaaDoor
open Go.RowKit
open Fen

theorem getD_intsV (zs : List Int) (ms : List Value) {i : Nat} (h : i < zs.length) : (intsV zs ++ ms).getD i undef = .int .i64 (zs.getD i 0) := by
  have h1 : i < (intsV zs).length := by simp [intsV, h]
  rw [List.getD, List.getElem?_append_left h1]
  simp [intsV, List.getD, h]
theorem intsV_len (zs : List Int) : (intsV zs).length = zs.length := by simp [intsV]
theorem lent_rdi {w : World} {g : Nat} {zs : List Int} {ms : List Value} (h : w.rowIs g 3 (zs.length + 12) (fun j => (intsV zs ++ ms).getD j undef)) : RdI w (some ⟨g, 0, none⟩) zs := by
  refine fun j hj => ⟨g, 0, rfl, fun i hi => ?_⟩
  rw [Nat.zero_add, h.cell (i := i) (by omega), getD_intsV zs ms hi]

/-- What Set answers, and what the bits are behind it. -/
def code (n : Nat) (zs : List Int) : Int := if zs.any (bad n) then 6 else 0
def nextF (n : Nat) (f : Nat → Bool) (one : Bool) (zs : List Int) : Nat → Bool := if zs.any (bad n) then f else fset f one zs

def Dist (B g gs gw r gl gi : Nat) : Prop := B ≤ g ∧ B ≤ gs ∧ B ≤ gw ∧ B ≤ r ∧ B ≤ gl ∧ B ≤ gi ∧ r ≠ g ∧ r ≠ gs ∧ r ≠ gw ∧ gl ≠ g ∧ gl ≠ gs ∧ gl ≠ gw ∧ r ≠ gl ∧ gi ≠ g ∧ gi ≠ gs ∧ gi ≠ gw ∧ gi ≠ gl

structure DoS (w W : World) (g gs gw n r gl rc gi : Nat) (zs : List Int) (fv fr : Nat → Bool) : Prop where
  vec : IsVec W g gs gw n fv
  ref : IsRef W r gl n rc fr
  bel : Below w.heap.size w W
  inn : W.rowIs gi 3 (zs.length + 12) (fun j => (intsV zs ++ marksI).getD j undef)
  d : Dist w.heap.size g gs gw r gl gi

section
variable {w W : World} {g gs gw n r gl rc gi : Nat} {zs : List Int} {fv fr : Nat → Bool}
theorem DoS.same {W' : World} (h : DoS w W g gs gw n r gl rc gi zs fv fr) (o : Only (fun _ => False) W W') : DoS w W' g gs gw n r gl rc gi zs fv fr :=
  ⟨h.vec.same o, h.ref.same o, h.bel.trans (o.to_below (fun _ h => h.elim) h.bel.size), o.row h.inn no_, h.d⟩
theorem DoS.drew (h : DoS w W g gs gw n r gl rc gi zs fv fr) : DoS w W.drew g gs gw n r gl rc gi zs fv fr := h.same (Only.refl _ W).drew
theorem DoS.cell (h : DoS w W g gs gw n r gl rc gi zs fv fr) {p : Addr} {v : Value} (hc : w.cell? p = some v) : W.cell? p = some v := (h.bel.cell (cell_lt hc)).trans hc
theorem RdI.below {A : Option Addr} (h : RdI w A zs) (hb : Below w.heap.size w W) : RdI W A zs := h.only (Only.of_below hb (fun _ => False)) (fun _ _ _ => no_)

theorem setStep (h : Hid (DoS w W g gs gw n r gl rc gi zs fv fr)) (one : Bool) {m : Nat} (hm : Hid (m = zs.length)) (hl : m ≤ 3000) :
    Calls Tryd.prog 14 #[.pointer (some ⟨g, 0, none⟩), .bool one, .slice (some ⟨gi, 0, none⟩) m (m + 12)] W fun e w' => e = .returned (.int .i64 (code n zs)) ∧ Hid (DoS w w' g gs gw n r gl rc gi zs (nextF n fv one zs) fr) := by
  obtain ⟨h1, h2, h3, h4, h5⟩ := h.out
  obtain rfl := hm.out
  have hd := h5
  unfold Dist at hd
  cases hb : zs.any (bad n) with
  | true =>
    refine (set_bad h1 one (some ⟨gi, 0, none⟩) (zs.length + 12) zs (lent_rdi h4) (by omega) hb).mono fun e w' ⟨he, ho⟩ => ⟨by rw [he]; simp [code, hb], hid ?_⟩
    have := h.out.same ho.out
    unfold nextF
    rw [hb]
    exact this
  | false =>
    refine (set_ok h1 one (some ⟨gi, 0, none⟩) (zs.length + 12) zs (lent_rdi h4) (by omega) hb (fun b off e => by injection e with e; injection e with e; omega)).mono fun e w' ⟨he, ho⟩ => ⟨by rw [he]; simp [code, hb], hid ?_⟩
    unfold nextF
    rw [hb]
    exact ⟨ho.out.1, h2.only ho.out.2 (by omega) (by omega), h3.trans (ho.out.2.to_below (fun k hk => by omega) h3.size), ho.out.2.row h4 (by omega), h5⟩

theorem refStep (h : Hid (DoS w W g gs gw n r gl rc gi zs fv fr)) (one : Bool) {m : Nat} (hm : Hid (m = zs.length)) (hl : m ≤ 3000) {A : Option Addr} {c : Nat} (hz : Hid (RdI w A zs)) :
    Calls Tryd.prog 15 #[.pointer (some ⟨r, 0, none⟩), .bool one, .slice A m c] W fun e w' => e = .returned (.int .i64 (code n zs)) ∧ Hid (DoS w w' g gs gw n r gl rc gi zs fv (nextF n fr one zs)) := by
  obtain ⟨h1, h2, h3, h4, h5⟩ := h.out
  obtain rfl := hm.out
  have hd := h5
  unfold Dist at hd
  have hA : 0 < zs.length → ∀ b off, A = some ⟨b, off, none⟩ → b ≠ gl := fun h0 b off e => by
    obtain ⟨b', off', e', hc⟩ := hz.out 0 (by omega)
    rw [e] at e'
    injection e' with e'
    injection e' with e1 e2
    subst e1
    have := cell_lt (hc 0 (by omega))
    simp at this
    omega
  refine (refSet_any h2 (by omega) one A c zs (hz.out.below h3) (by omega) hA).mono fun e w' hr => ?_
  rcases hr with ⟨hb, he, ho⟩ | ⟨hb, he, ho⟩
  · refine ⟨by rw [he]; simp [code, hb], hid ?_⟩
    unfold nextF
    rw [hb]
    exact h.out.same ho.out
  · refine ⟨by rw [he]; simp [code, hb], hid ?_⟩
    unfold nextF
    rw [hb]
    exact ⟨h1.only ho.out.2 (by omega) (by omega) (by omega), ho.out.1, h3.trans (ho.out.2.to_below (fun k hk => by omega) h3.size), ho.out.2.row h4 (by omega), h5⟩

theorem sameStep (h : Hid (DoS w W g gs gw n r gl rc gi zs fv fv)) (at' : Int) (hT : Hid (Tab w)) :
    Calls Tryd.prog 12 #[.pointer (some ⟨g, 0, none⟩), .pointer (some ⟨r, 0, none⟩), .int .i64 at'] W fun e w' => e = .returned (.bool true) ∧ Hid (DoS w w' g gs gw n r gl rc gi zs fv fv) :=
  (same_any at' h.out.vec h.out.ref (hT.out.only (Only.of_below h.out.bel (fun _ => False)) no_)).mono fun _ _ ⟨he, ho⟩ => ⟨he, hid (h.out.same ho.out)⟩

theorem keptStep (h : Hid (DoS w W g gs gw n r gl rc gi zs fv fr)) {m : Nat} (hm : Hid (m = zs.length)) (hl : m ≤ 3000) {A : Option Addr} {c : Nat} (hz : Hid (RdI w A zs)) :
    Calls Tryd.prog 16 #[.slice (some ⟨gi, 0, none⟩) m (m + 12), .slice A m c] W fun e w' => e = .returned (.bool true) ∧ Hid (DoS w w' g gs gw n r gl rc gi zs fv fr) := by
  obtain rfl := hm.out
  exact (keptInts_any A c gi zs.length zs W (by omega) rfl (hz.out.below h.out.bel) h.out.inn).mono fun _ _ ⟨he, hk⟩ => ⟨he, hid (h.out.same (quiet_only hk))⟩
end
end Go.Proofs.YtneipjocimcmnaaDoor
