/- pack: a row made. -/
import Derived.Test.YtimkclmaglofaaaPk3
import Derived.Deep.RegionHeld3
import Derived.Deep.RegionWith
namespace Go.Proofs.Ytimkclmaglofaaa
open Go.RowKit
open Bit

/-- A row as blank makes it, numbers laid so far: f. -/
structure IsBl (w w' : World) (g gw wd n : Nat) (f : Nat → Bool) : Prop where
  newg : w.heap.size ≤ g
  neww : w.heap.size ≤ gw
  words : w'.rowIs gw 79 (nw (wd * n)) fun j => .int .u64 ((word f j : Nat) : Int)
  self : w'.rowIs g 67 4 (rcell g gw wd n)
  only : Only (fun _ => False) w w'
theorem IsBl.put {w w1 w2 : World} {g gw wd n : Nat} {f f' : Nat → Bool} (h : IsBl w w1 g gw wd n f) (hp : PutR w1 w2 gw (nw (wd * n)) f') : IsBl w w2 g gw wd n f' := by
  have hne : g ≠ gw := rowIs_ne h.self h.words (by decide)
  refine ⟨h.newg, h.neww, hp.1, hp.2.row h.self (by simpa using hne), ?_⟩
  have h1 : Only (fun k => k = gw) w w1 := h.only.mono fun _ _ x => x.elim
  exact (h1.trans hp.2).mono fun k hk e => by have := h.neww; omega
theorem IsBl.drewN {w w' : World} {g gw wd n : Nat} {f : Nat → Bool} (h : IsBl w w' g gw wd n f) (k : Nat) : IsBl w (w'.drewN k) g gw wd n f := ⟨h.newg, h.neww, h.words, h.self, h.only.drewN k⟩
theorem IsBl.drew {w w' : World} {g gw wd n : Nat} {f : Nat → Bool} (h : IsBl w w' g gw wd n f) : IsBl w w'.drew g gw wd n f := h.drewN 1
theorem IsBl.row {w w' : World} {g gw wd n : Nat} {f : Nat → Bool} (h : IsBl w w' g gw wd n f) (h1 : 1 ≤ wd) (h2 : wd ≤ 60) (h3 : wd * n ≤ 16777216) (h4 : ∀ i, wd * n ≤ i → f i = false) : IsRow w' g gw wd n f :=
  ⟨h1, h2, h3, h4, h.self, h.words⟩
def BlankE (w : World) (wd n : Nat) (e : Ending) (w' : World) : Prop := ∃ g gw : Nat, e = .returned (.pointer (some ⟨g, 0, none⟩)) ∧ Hid (IsBl w w' g gw wd n (fun _ => false))

set_option maxHeartbeats 1000000 in
theorem blank_any (wd n : Nat) (w : World) (hn : wd * n ≤ 16777216) :
    Calls Try.prog 45 #[.int .i64 (wd : Int), .int .i64 (n : Int)] w (BlankE w wd n) := by
  have e : (wd : Int) * (n : Int) = ((wd * n : Nat) : Int) := by simp
  have hw : wrap64 ((wd : Int) * (n : Int)) = ((wd * n : Nat) : Int) := by rw [e]; exact IntWalk.wrap64_in _ ⟨by omega, by omega⟩
  have HW := hid hw
  have HN := hid hn
  clear e hw hn
  go_enter Try.func45, Try.ntmps45
  go_wp2_with (go_at_call 60; rw [HW.out]; refine (room_any (wd * n) _ HN.out).mono ?_; rintro e w1 ⟨rfl, rfl⟩)
  go_ret
  refine ⟨w.heap.size + 1, w.heap.size, rfl, hid ⟨by omega, by omega, ?_, ?_, ?_⟩⟩
  · exact ((World.rowIs_made w _ _ _).alloc _).congr fun i _ => by rw [word_none]; rfl
  · have h := World.rowIs_alloc (w.alloc (Obj.cells (madeCells #[Value.int IntKind.u64 0] (nw (wd * n))) 79)) #[Value.slice (some ⟨w.heap.size, 0, none⟩) (nw (wd * n)) (nw (wd * n)), Value.pointer (some ⟨w.heap.size + 1, 0, none⟩), Value.int IntKind.i64 wd, Value.int IntKind.i64 n] 67
      (rcell (w.heap.size + 1) w.heap.size wd n) (fun i hi => by
        match i, hi with
        | 0, _ => rfl
        | 1, _ => rfl
        | 2, _ => rfl
        | 3, _ => rfl
        | i + 4, hi => exact absurd (show i + 4 < 4 from hi) (by omega))
    simpa using h
  · exact ((Only.refl _ w).alloc _).alloc _

/-- What New, Of, Read answer where there is no error. -/
def Made (w : World) (wd n : Nat) (f : Nat → Bool) (e : Ending) (w' : World) : Prop :=
  ∃ g gw : Nat, e = .returned (.tuple #[.pointer (some ⟨g, 0, none⟩), .int .i64 0]) ∧ IsRow w' g gw wd n f ∧ w.heap.size ≤ g ∧ w.heap.size ≤ gw ∧ Below w.heap.size w w'
end Go.Proofs.Ytimkclmaglofaaa
