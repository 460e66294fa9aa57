/- What every row of this seat's laws wants: the table; bits that came in, read. -/
import Derived.Test.YtneipjocimcmnaaDoorCards
import Derived.Test.YtneipjocimcmnaaDoorTie
import Derived.Test.YtneipjocimcmnaaDoorVecN
import Derived.WalkKit
import Derived.ProofKit
import Derived.OpenShut
import Derived.Carry
import Derived.Deep.Slices
import Derived.Deep.DeepHandedRow
import Derived.Lib.LaidTab
import Derived.SizedLaws
import Derived.Test.YtneipjocimcmnaaDoorVecRd
import Derived.Test.YtneipjocimcmnaaDoorVecSet
namespace Go.Proofs.YtneipjocimcmnaaDoor
open Go.ChangeShapes Go.WideShapes Go.ChangeAt Go.RowKit Go.Deep

theorem own : ownKnob Tryd.prog.godebug = none := by kernel_rfl
theorem laidOut : laidOutB Tryd.prog = true := by kernel_rfl
theorem gTab : Tryd.prog.globalNamed "math/bits.deBruijn64tab" = some 0 := by kernel_rfl
theorem gTabType : (Tryd.prog.globals[0]?).map (·.type) = some 87 := by kernel_rfl
theorem cellsTab : Tryd.prog.cellsOf 87 = 64 := by kernel_rfl
theorem cellsByte : Tryd.prog.cellsOf 5 = 1 := by kernel_rfl
theorem cellsBool : Tryd.prog.cellsOf 4 = 1 := by kernel_rfl
def tabInts : List Int := Lib.deBruijn64tab.map Int.ofNat
theorem tabLaid (H : Type) : Rows.laid_math_bits_deBruijn64tab (H := H) = Lib.tabData .u8 tabInts := by rfl
theorem tab_of {W : World} (h : laidMetH Tryd.prog [("math/bits.deBruijn64tab", Rows.laid_math_bits_deBruijn64tab)] W) : Tab W := by
  have ht : Lib.TabIs Tryd.prog W "math/bits.deBruijn64tab" .u8 tabInts :=
    Lib.tabIs_of_head (rest := []) gTab gTabType Tryd.underlying87 Tryd.underlying5 cellsByte cellsTab h
  intro i hi
  rw [ht.cell gTab i (by simpa [tabInts, Lib.deBruijn64tab] using hi)]
  have : ∀ i, i < 64 → tabInts.getD i 0 = ((Lib.deBruijn64tab.getD i 0 : Nat) : Int) := by decide +kernel
  rw [this i hi]

/-- The reading of a slice that is nil, or of so many elements. -/
def SliceOf {H : Type} (d : DataW H) (len : Nat) : Prop := (d = .nil ∧ len = 0) ∨ ∃ el sp, d = .slice el sp ∧ el.length = len
theorem room_of {H : Type} {P : Program} {ts : List TypeId} {ds : List (DataW H)} (h : (DataW.weightsEach P ts ds).all (· ≤ reachBytes) = true) {j : Nat} {t e : TypeId} {len : Nat} {d : DataW H} (ht : ts[j]? = some t) (hd : ds[j]? = some d)
    (hu : P.underlying t = some (.slice e)) (hb : 1 ≤ P.bytesOf e) (hs : SliceOf d len) : len ≤ 140737488355328 := by
  rcases hs with ⟨_, rfl⟩ | ⟨el, sp, rfl, rfl⟩
  · omega
  · have h1 := sized_slice h ht hd hu
    have h2 := reachBytes_lt
    have h3 : el.length + sp.length ≤ (el.length + sp.length) * P.bytesOf e := Nat.le_mul_of_pos_right _ hb
    omega

section
variable {H : Type} {enc : TypeId × Value → H} {W : World} {sp : Nat → Bool} {hd : Bool} {A : Option Addr} {len cap : Nat} {d : DataW H} {p : List MemPlace}
/-- A slice of one-cell elements that came in. -/
theorem row_in {t e : TypeId} (ht : Tryd.prog.underlying t = some (.slice e)) (he : Tryd.prog.cellsOf e = 1) (h : DataW.Trod enc Tryd.prog W 0 sp hd t (.slice A len cap) d p) :
    SliceOf d len ∧ len ≤ maxLen ∧ ∃ V : Nat → Value, (∀ i, i < len → ∃ n D Pl, DataW.trod enc Tryd.prog W 0 sp hd n e [V i] = some (D, Pl)) ∧ (0 < len → ∃ b off, A = some ⟨b, off, none⟩ ∧ ∀ i, i < len → W.cell? ⟨b, off + i, none⟩ = some (V i)) := by
  obtain ⟨fuel, hf⟩ := h
  rcases open_slice1 ht he hf with ⟨hcs, hx⟩ | ⟨a, l, c, m, n, V, D, Pl, hcs, _, hl, hm, hmm, hx, hi⟩
  · simp [Value.cells] at hcs
    obtain ⟨rfl, rfl, rfl⟩ := hcs
    simp only [Prod.mk.injEq] at hx
    exact ⟨.inl ⟨hx.1, rfl⟩, by simp [maxLen], fun _ => default, fun i hi => absurd hi (by omega), fun h => absurd h (by omega)⟩
  · simp [Value.cells] at hcs
    obtain ⟨rfl, rfl, rfl⟩ := hcs
    simp only [Prod.mk.injEq] at hx
    have hlm : len ≤ m := by rw [hmm]; split <;> omega
    refine ⟨.inr ⟨_, _, hx.1, by simp⟩, by omega, V, fun i hil => ⟨n, D i, Pl i, (hi i (by omega)).2⟩, fun h0 => ?_⟩
    obtain ⟨b, off, spot⟩ := a
    have hs : spot = none := by
      have := (hi 0 (by omega)).1
      simpa [Addr.add] using World.cell?_spot this
    subst hs
    refine ⟨b, off, rfl, fun i hil => ?_⟩
    have h1 := (hi i (by omega)).1
    have ha : (⟨b, off, none⟩ : Addr).add i = ⟨b, off + i, none⟩ := by
      unfold Addr.add
      by_cases e : i = 0 <;> simp [e]
    rwa [ha] at h1

theorem bits_in (h : DataW.Trod enc Tryd.prog W 0 sp hd 22 (.slice A len cap) d p) : SliceOf d len ∧ len ≤ maxLen ∧ ∃ xs : List Bool, xs.length = len ∧ RdB W A xs := by
  obtain ⟨h1, h2, V, hV, hc⟩ := row_in Tryd.underlying22 cellsBool h
  refine ⟨h1, h2, (List.range len).map (fun i => match V i with | .bool b => b | _ => false), by simp, fun j hj => ?_⟩
  have hj' : j < len := by simpa using hj
  obtain ⟨b, off, hA, hcell⟩ := hc (by omega)
  refine ⟨b, off, hA, fun i hil => ?_⟩
  have hil' : i < len := by simpa using hil
  obtain ⟨n, D, Pl, ht⟩ := hV i hil'
  obtain ⟨x, hx, _⟩ := DataW.trod_bool Tryd.underlying4 ht
  have hv : V i = .bool x := by simpa using hx
  rw [hcell i hil']
  simp [List.getD, hil', hv]
theorem bytes_in (h : DataW.Trod enc Tryd.prog W 0 sp hd 41 (.slice A len cap) d p) : SliceOf d len ∧ len ≤ maxLen ∧ ∃ bs : List Nat, bs.length = len ∧ RdY W A bs := by
  obtain ⟨h1, h2, V, hV, hc⟩ := row_in Tryd.underlying41 cellsByte h
  have hint : ∀ i, i < len → ∃ x : Nat, V i = .int .u8 (x : Int) ∧ x < 256 := fun i hi => by
    obtain ⟨n, D, Pl, ht⟩ := hV i hi
    obtain ⟨x, hx, _, hw⟩ := DataW.trod_int Tryd.underlying5 ht
    have hb : 0 ≤ x ∧ x ≤ 255 := by simpa [Lit.wf, IntKind.min, IntKind.max, IntKind.signed, IntKind.bits] using hw
    obtain ⟨k, rfl⟩ := Int.eq_ofNat_of_zero_le hb.1
    exact ⟨k, by simpa using hx, by omega⟩
  refine ⟨h1, h2, (List.range len).map (fun i => match V i with | .int _ z => z.toNat | _ => 0), by simp, fun j => ?_, fun j hj => ?_⟩
  · by_cases hj : j < len
    · obtain ⟨x, hx, hlt⟩ := hint j hj
      simp [List.getD, hj, hx]; omega
    · rw [getDn_far _ _ (by simp; omega)]; omega
  · have hj' : j < len := by simpa using hj
    obtain ⟨b, off, hA, hcell⟩ := hc (by omega)
    refine ⟨b, off, hA, fun i hil => ?_⟩
    have hil' : i < len := by simpa using hil
    obtain ⟨x, hx, hlt⟩ := hint i hil'
    rw [hcell i hil']
    simp [List.getD, hil', hx]
end

/-- A world for the witness: the table laid. -/
noncomputable def laidWorld (os : Os) : World :=
  { World.holding Tryd.prog os ⟨#[], #[], []⟩ with heap := (World.holding Tryd.prog os ⟨#[], #[], []⟩).heap.modify 0 fun
      | .cells _ t frozen => .cells (tabInts.map fun n => Value.int .u8 n).toArray t frozen
      | o => o }

end Go.Proofs.YtneipjocimcmnaaDoor
