/- What every row of this seat's laws wants, where no table is listed: what came in, read. -/
import Derived.Test.YtbbclcllkpabkaaDoorRows
import Derived.WalkKit
import Derived.ProofKit
import Derived.OpenShut
import Derived.Carry
import Derived.Deep.Slices
import Derived.Deep.DeepHandedRow
import Derived.SizedLaws
import Derived.Test.YtbbclcllkpabkaaDoorRd
namespace Go.Proofs.YtbbclcllkpabkaaDoor
open Go.ChangeShapes Go.WideShapes Go.ChangeAt Go.RowKit Go.Deep

theorem own : ownKnob Tryd.prog.godebug = none := by kernel_rfl
theorem laidOut : laidOutB Tryd.prog = true := by kernel_rfl

/-- The reading of a slice that is nil, or of so many elements. -/
def SliceOf {H : Type} (d : DataW H) (len : Nat) : Prop := (d = .nil ∧ len = 0) ∨ ∃ el sp, d = .slice el sp ∧ el.length = len
theorem room_of {H : Type} {P : Program} {ts : List TypeId} {ds : List (DataW H)} (h : (DataW.weightsEach P ts ds).all (· ≤ reachBytes) = true) {j : Nat} {t e : TypeId} {len : Nat} {d : DataW H} (ht : ts[j]? = some t) (hd : ds[j]? = some d)
    (hu : P.underlying t = some (.slice e)) (hb : 1 ≤ P.bytesOf e) (hs : SliceOf d len) : len ≤ 140737488355328 := by
  rcases hs with ⟨_, rfl⟩ | ⟨el, sp, rfl, rfl⟩
  · omega
  · have h1 := sized_slice h ht hd hu
    have h2 := reachBytes_lt
    have h3 : el.length + sp.length ≤ (el.length + sp.length) * P.bytesOf e := Nat.le_mul_of_pos_right _ hb
    omega

section
variable {H : Type} {enc : TypeId × Value → H} {W : World} {sp : Nat → Bool} {hd : Bool} {A : Option Addr} {len cap : Nat} {d : DataW H} {p : List MemPlace}
/-- A slice of one-cell elements that came in. -/
theorem row_in {t e : TypeId} (ht : Tryd.prog.underlying t = some (.slice e)) (he : Tryd.prog.cellsOf e = 1) (h : DataW.Trod enc Tryd.prog W 0 sp hd t (.slice A len cap) d p) :
    SliceOf d len ∧ len ≤ maxLen ∧ (A = none → len = 0 ∧ cap = 0) ∧ ∃ V : Nat → Value, (∀ i, i < len → ∃ n D Pl, DataW.trod enc Tryd.prog W 0 sp hd n e [V i] = some (D, Pl)) ∧ RdV W A len V := by
  obtain ⟨fuel, hf⟩ := h
  rcases open_slice1 ht he hf with ⟨hcs, hx⟩ | ⟨a, l, c, m, n, V, D, Pl, hcs, _, hl, hm, hmm, hx, hi⟩
  · simp [Value.cells] at hcs
    obtain ⟨rfl, rfl, rfl⟩ := hcs
    simp only [Prod.mk.injEq] at hx
    exact ⟨.inl ⟨hx.1, rfl⟩, by simp [maxLen], fun _ => ⟨rfl, rfl⟩, fun _ => default, fun i hi => absurd hi (by omega), RdV.nil _⟩
  · simp [Value.cells] at hcs
    obtain ⟨rfl, rfl, rfl⟩ := hcs
    simp only [Prod.mk.injEq] at hx
    have hlm : len ≤ m := by rw [hmm]; split <;> omega
    refine ⟨.inr ⟨_, _, hx.1, by simp⟩, by omega, (fun h => by cases h), V, fun i hil => ⟨n, D i, Pl i, (hi i (by omega)).2⟩, fun h0 => ?_⟩
    obtain ⟨b, off, spot⟩ := a
    have hs : spot = none := by
      have := (hi 0 (by omega)).1
      simpa [Addr.add] using World.cell?_spot this
    subst hs
    refine ⟨b, off, rfl, fun i hil => ?_⟩
    have h1 := (hi i (by omega)).1
    have ha : (⟨b, off, none⟩ : Addr).add i = ⟨b, off + i, none⟩ := by
      unfold Addr.add
      by_cases e : i = 0 <;> simp [e]
    rwa [ha] at h1
theorem vals_int {t : TypeId} {k : IntKind} (ht : Tryd.prog.underlying t = some (.int k)) {V : Nat → Value} (hV : ∀ i, i < len → ∃ n D Pl, DataW.trod enc Tryd.prog W 0 sp hd n t [V i] = some (D, Pl)) :
    ∃ z : Nat → Int, ∀ i, i < len → V i = .int k (z i) ∧ k.min ≤ z i ∧ z i ≤ k.max := by
  refine ⟨fun i => match V i with | .int _ z => z | _ => 0, fun i hi => ?_⟩
  obtain ⟨n, D, Pl, h⟩ := hV i hi
  obtain ⟨x, hx, _, hw⟩ := DataW.trod_int ht h
  have hx' : V i = .int k x := by simpa using hx
  have hb : k.min ≤ x ∧ x ≤ k.max := by simpa [Lit.wf] using hw
  show V i = .int k (match V i with | .int _ z => z | _ => 0) ∧ k.min ≤ (match V i with | .int _ z => z | _ => 0) ∧ (match V i with | .int _ z => z | _ => 0) ≤ k.max
  rw [hx']
  exact ⟨rfl, hb⟩
end

/-- A world for the witness. -/
noncomputable def laidWorld (os : Os) : World := World.holding Tryd.prog os ⟨#[], #[], []⟩

end Go.Proofs.YtbbclcllkpabkaaDoor
