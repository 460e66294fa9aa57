/- AlphaOrder returns true for every input. No condition. -/
import Derived.Test.YtmbcinbkijnblaaRows
import Derived.WalkKit
import Derived.ProofKit
import Derived.OpenShut
import Derived.Carry
import Derived.Deep.Slices
import Derived.Deep.DeepHandedRow
import Derived.SizedLaws
import Derived.Test.YtmbcinbkijnblaaRd
import Derived.Test.YtmbcinbkijnblaaQE
import Derived.Deep.Strs
import Derived.Test.YtmbcinbkijnblaaQP
namespace Go.Proofs.Ytmbcinbkijnblaa
open Go.ChangeShapes Go.WideShapes Go.ChangeAt Go.RowKit Go.Deep

theorem own : ownKnob Try.prog.godebug = none := by kernel_rfl
theorem laidOut : laidOutB Try.prog = true := by kernel_rfl

/-- The reading of a slice that is nil, or of so many elements. -/
def SliceOf {H : Type} (d : DataW H) (len : Nat) : Prop := (d = .nil ∧ len = 0) ∨ ∃ el sp, d = .slice el sp ∧ el.length = len
theorem room_of {H : Type} {P : Program} {ts : List TypeId} {ds : List (DataW H)} (h : (DataW.weightsEach P ts ds).all (· ≤ reachBytes) = true) {j : Nat} {t e : TypeId} {len : Nat} {d : DataW H} (ht : ts[j]? = some t) (hd : ds[j]? = some d)
    (hu : P.underlying t = some (.slice e)) (hb : 1 ≤ P.bytesOf e) (hs : SliceOf d len) : len ≤ 140737488355328 := by
  rcases hs with ⟨_, rfl⟩ | ⟨el, sp, rfl, rfl⟩
  · omega
  · have h1 := sized_slice h ht hd hu
    have h2 := reachBytes_lt
    have h3 : el.length + sp.length ≤ (el.length + sp.length) * P.bytesOf e := Nat.le_mul_of_pos_right _ hb
    omega

section
variable {H : Type} {enc : TypeId × Value → H} {W : World} {sp : Nat → Bool} {hd : Bool} {A : Option Addr} {len cap : Nat} {d : DataW H} {p : List MemPlace}
/-- A slice of one-cell elements that came in. -/
theorem row_in {t e : TypeId} (ht : Try.prog.underlying t = some (.slice e)) (he : Try.prog.cellsOf e = 1) (h : DataW.Trod enc Try.prog W 0 sp hd t (.slice A len cap) d p) :
    SliceOf d len ∧ len ≤ maxLen ∧ (A = none → len = 0 ∧ cap = 0) ∧ ∃ V : Nat → Value, (∀ i, i < len → ∃ n D Pl, DataW.trod enc Try.prog W 0 sp hd n e [V i] = some (D, Pl)) ∧ RdV W A len V := by
  obtain ⟨fuel, hf⟩ := h
  rcases open_slice1 ht he hf with ⟨hcs, hx⟩ | ⟨a, l, c, m, n, V, D, Pl, hcs, _, hl, hm, hmm, hx, hi⟩
  · simp [Value.cells] at hcs
    obtain ⟨rfl, rfl, rfl⟩ := hcs
    simp only [Prod.mk.injEq] at hx
    exact ⟨.inl ⟨hx.1, rfl⟩, by simp [maxLen], fun _ => ⟨rfl, rfl⟩, fun _ => default, fun i hi => absurd hi (by omega), RdV.nil _⟩
  · simp [Value.cells] at hcs
    obtain ⟨rfl, rfl, rfl⟩ := hcs
    simp only [Prod.mk.injEq] at hx
    have hlm : len ≤ m := by rw [hmm]; split <;> omega
    refine ⟨.inr ⟨_, _, hx.1, by simp⟩, by omega, (fun h => by cases h), V, fun i hil => ⟨n, D i, Pl i, (hi i (by omega)).2⟩, fun h0 => ?_⟩
    obtain ⟨b, off, spot⟩ := a
    have hs : spot = none := by
      have := (hi 0 (by omega)).1
      simpa [Addr.add] using World.cell?_spot this
    subst hs
    refine ⟨b, off, rfl, fun i hil => ?_⟩
    have h1 := (hi i (by omega)).1
    have ha : (⟨b, off, none⟩ : Addr).add i = ⟨b, off + i, none⟩ := by
      unfold Addr.add
      by_cases e : i = 0 <;> simp [e]
    rwa [ha] at h1
theorem vals_int {t : TypeId} {k : IntKind} (ht : Try.prog.underlying t = some (.int k)) {V : Nat → Value} (hV : ∀ i, i < len → ∃ n D Pl, DataW.trod enc Try.prog W 0 sp hd n t [V i] = some (D, Pl)) :
    ∃ z : Nat → Int, ∀ i, i < len → V i = .int k (z i) ∧ k.min ≤ z i ∧ z i ≤ k.max := by
  refine ⟨fun i => match V i with | .int _ z => z | _ => 0, fun i hi => ?_⟩
  obtain ⟨n, D, Pl, h⟩ := hV i hi
  obtain ⟨x, hx, _, hw⟩ := DataW.trod_int ht h
  have hx' : V i = .int k x := by simpa using hx
  have hb : k.min ≤ x ∧ x ≤ k.max := by simpa [Lit.wf] using hw
  show V i = .int k (match V i with | .int _ z => z | _ => 0) ∧ k.min ≤ (match V i with | .int _ z => z | _ => 0) ∧ (match V i with | .int _ z => z | _ => 0) ≤ k.max
  rw [hx']
  exact ⟨rfl, hb⟩
end

/-- A world for the witness. -/
noncomputable def laidWorld (os : Os) : World := World.holding Try.prog os ⟨#[], #[], []⟩

end Go.Proofs.Ytmbcinbkijnblaa

namespace Go.Proofs.Ytmbcinbkijnblaa
open Go.ChangeShapes Go.WideShapes Go.ChangeAt Go.RowKit Go.Deep
theorem cellsStr : Try.prog.cellsOf 9 = 1 := by kernel_rfl
theorem weightsAll_mem {H : Type} {P : Program} {e : TypeId} {x : Nat} : ∀ {l : List (DataW H)} {d : DataW H}, d ∈ l → x ∈ d.weights P e → x ∈ DataW.weightsAll P e l
  | [], _, h, _ => by cases h
  | a :: r, d, h, hx => by
    simp only [DataW.weightsAll, List.mem_append]
    rcases List.mem_cons.1 h with rfl | h
    · exact .inl hx
    · exact .inr (weightsAll_mem h hx)
theorem weightsOf {H : Type} {P : Program} {ts : List TypeId} {ds : List (DataW H)} (h : (DataW.weightsEach P ts ds).all (· ≤ reachBytes) = true) {j : Nat} {t : TypeId} {d : DataW H} (ht : ts[j]? = some t) (hd : ds[j]? = some d) : ∀ x ∈ d.weights P t, x ≤ reachBytes := fun x hx => by
  have := List.all_eq_true.1 h _ (DataW.weights_mem_each ht hd x hx)
  simpa using this
section
variable {H : Type} {enc : TypeId × Value → H} {W : World} {sp : Nat → Bool} {hd : Bool} {A : Option Addr} {len cap : Nat} {d : DataW H} {p : List MemPlace}
theorem capOf {t e : TypeId} (ht : Try.prog.underlying t = some (.slice e)) (he : Try.prog.cellsOf e = 1) (h : DataW.Trod enc Try.prog W 0 sp hd t (.slice A len cap) d p) : len ≤ cap := by
  obtain ⟨fuel, hf⟩ := h
  rcases open_slice1 ht he hf with ⟨hcs, hx⟩ | ⟨a, l, c, m, n, V, D, Pl, hcs, _, hl, _⟩
  · simp [Value.cells] at hcs
    omega
  · simp [Value.cells] at hcs
    omega
theorem texts_in (h : DataW.Trod enc Try.prog W 0 sp hd 40 (.slice A len cap) d p) :
    SliceOf d len ∧ len ≤ maxLen ∧ ((∀ x ∈ d.weights Try.prog 40, x ≤ reachBytes) → ∃ L : List ByteArray, L.length = len ∧ RdS W A L ∧ ∀ k, (strAt L k).size ≤ 140737488355328) := by
  obtain ⟨fuel, hf⟩ := h
  rcases open_strs Try.underlying40 Try.underlying9 cellsStr hf with ⟨hcs, hx⟩ | ⟨a, l, c, m, Sx, hcs, _, hl, hm, hmm, hx, hi⟩
  · simp [Value.cells] at hcs
    obtain ⟨rfl, rfl, rfl⟩ := hcs
    simp only [Prod.mk.injEq] at hx
    exact ⟨.inl ⟨hx.1, rfl⟩, by simp [maxLen], fun _ => ⟨[], rfl, RdV.nil _, fun j => by simp [strAt, List.getD]⟩⟩
  · simp [Value.cells] at hcs
    obtain ⟨rfl, rfl, rfl⟩ := hcs
    simp only [Prod.mk.injEq] at hx
    have hlm : len ≤ m := by rw [hmm]; split <;> omega
    refine ⟨.inr ⟨_, _, hx.1, by simp⟩, by omega, fun hw => ⟨(List.range len).map Sx, by simp, ?_, fun k => ?_⟩⟩
    · have hg : ∀ j, j < len → strAt ((List.range len).map Sx) j = Sx j := fun j hj => by simp [strAt, List.getD, hj]
      intro h0
      have h0' : 0 < len := by simpa using h0
      obtain ⟨b, off, spot⟩ := a
      have hs : spot = none := by
        have := (hi 0 (by omega)).1
        simpa [Addr.add] using World.cell?_spot this
      subst hs
      refine ⟨b, off, rfl, fun j hj => ?_⟩
      have hj' : j < len := by simpa using hj
      have h1 := (hi j (by omega)).1
      have ha : (⟨b, off, none⟩ : Addr).add j = ⟨b, off + j, none⟩ := by
        unfold Addr.add
        by_cases e : j = 0 <;> simp [e]
      rw [ha] at h1
      rw [h1, vS, hg j hj']
    · by_cases hk : k < len
      · have e : strAt ((List.range len).map Sx) k = Sx k := by simp [strAt, List.getD, hk]
        rw [e]
        have h2 := hw (Sx k).size (by
          rw [hx.1]
          simp only [DataW.weights, Try.underlying40, List.mem_cons, List.mem_append]
          refine .inr (.inl (weightsAll_mem (d := .lit (.string (Sx k).data.toList)) (List.mem_map.2 ⟨k, List.mem_range.2 hk, rfl⟩) ?_))
          simp [DataW.weights]
          try rfl)
        have h3 := reachBytes_lt
        omega
      · simp [strAt, List.getD, hk]
end
end Go.Proofs.Ytmbcinbkijnblaa

namespace Go.Proofs.Ytmbcinbkijnblaa.alphaOrderLaw
open Go.ChangeShapes Go.WideShapes Go.ChangeAt Go.RowKit

set_option maxRecDepth 100000 in
theorem contract (H : Type) (enc : TypeId × Value → H) (W : World) (base : Nat) (args : Array Value) (ds gs : List (DataW H)) (before : List MemPlace)
    (hval : ∀ (j : Nat) t v, Try.f6.params[j]? = some t → args[j]? = some v → Value.okWide Try.prog W .any base t v)
    (hW : DataW.Whole enc Try.prog Try.f6.params.toList Rows.alphaOrderSpec.vars false W args.toList ds gs before) (hsz0 : (DataW.weightsEach Try.prog (Try.f6.params.toList ++ Rows.alphaOrderSpec.plain.varTypes Try.prog) (ds ++ gs)).all (· ≤ reachBytes) = true) :
    Calls Try.prog 6 args W fun e W' => ∃ v, e = .returned v ∧ Rows.alphaOrderSpec.post enc Try.prog Try.f6 false true false false W args v W' := by
  have hW' := hW
  obtain ⟨p, q, hA0, hV, rfl, hfz, hnd⟩ := hW
  have hA : DataW.TrodAll enc Try.prog W 0 (fun _ => true) true Try.f6.params.toList args.toList ds p := hA0
  have hsz := hsz0
  rw [Try.params6] at hA hval hsz
  obtain ⟨v0, vs0, d0, ds0, p0, q0, hargs, rfl, rfl, h0, r0⟩ := trodAll_cons hA
  obtain ⟨rfl, rfl, rfl⟩ := trodAll_nil r0
  obtain rfl : args = #[v0] := by cases args; simp_all
  obtain ⟨rfl, rfl⟩ := trodVars_none hV
  obtain ⟨a0, len0, cap0, rfl⟩ := okWide_slice Try.underlying40 (hval 0 40 v0 rfl rfl)
  have k0 := h0
  have lt0 : ∀ x ∈ p0, x.block < W.heap.size := by obtain ⟨m, hm⟩ := k0; exact DataW.trod_lt m _ _ _ hm
  have in0 := texts_in h0
  have room0 := room_of hsz (j := 0) rfl rfl Try.underlying40 (of_decide_eq_true (by kernel_rfl)) in0.1
  clear hA0 hsz0
  have walk : Calls Try.prog 6 #[.slice a0 len0 cap0] W fun e w' => e = .returned (.bool true) ∧ Hid (Below W.heap.size W w') := by
    obtain ⟨_, _, hT0⟩ := in0
    obtain ⟨L, hL, hR, hS⟩ := hT0 (weightsOf hsz (j := 0) rfl rfl)
    exact alphaOrder_any hR hL.symm room0 (fun k _ => hS k)
  refine walk.mono fun e W' ⟨he, hbel⟩ => ?_
  subst he
  have bel := hbel.out
  exact ⟨_, rfl, _, _, _, [], _, [], hW', trodAll_mk1 (shut_bool Try.underlying4 _), (trodAll_cons_mk (Below.trod laidOut (by kernel_rfl) (of_decide_eq_true (by kernel_rfl)) k0 bel lt0) trodAll_mk0), rfl, bel.frame _, fun h => by cases h⟩

theorem laid_met (os : Os) : laidMet Try.prog Rows.alphaOrderRow.laid ((laidWorld os).forCall (fun _ _ => 0) ⟨#[], #[.slice none 0 0], []⟩).memory :=
  ⟨[], rfl, List.nodup_nil, fun _ _ h => by cases h⟩
theorem reads (os : Os) {H : Type} (enc : TypeId × Value → H) : ∃ places, DataW.whole enc Try.prog ((laidWorld os).forCall (fun _ _ => 0) ⟨#[], #[.slice none 0 0], []⟩).memory Try.f6.params.toList Rows.alphaOrderSpec.vars false #[Value.slice none 0 0].toList 8 = some ([.nil], [], places) :=
  ⟨[], by kernel_rfl⟩

set_option maxRecDepth 100000 in
theorem lifted (os : Os) (started : os.Started) (H : Type) (enc : TypeId × Value → H) (F : Stop.Interp) :
    ReturnsInHanded {} Try.checked os 6 .any ((OpenSpec.ofChange Rows.alphaOrderSpec).preRow enc Try.prog Try.f6 Rows.alphaOrderRow.domain false Rows.alphaOrderRow.laid) (((OpenSpec.ofChange Rows.alphaOrderSpec).at F).post enc Try.prog Try.f6 false true false false) := by
  obtain ⟨places, hx⟩ := reads os enc
  refine returnsInHanded_of_row (C := Try.checked) (s := OpenSpec.ofChange Rows.alphaOrderSpec) own started (by kernel_rfl) Try.func6
    (witness_row_at (enc := enc) (C := Try.checked) false (laidWorld os) #[.slice none 0 0] rfl (by kernel_rfl) (by kernel_rfl) (by kernel_rfl)
      (OpenSpec.preRow_of_cond 8 hx (by kernel_rfl) (fun k hk => by cases hk) (by kernel_rfl) (laid_met os))) ?_
  intro W base args ds gs before hval hW _ _ hsz _ _ _
  exact contract H enc W base args ds gs before hval hW hsz

theorem said : Rows.AlphaOrderSaid :=
  OpenClaim.holds_of_cond 6 Try.f6 rfl rfl rfl rfl rfl rfl rfl ⟨rfl, rfl, rfl, rfl, rfl⟩ rfl rfl rfl rfl rfl (by kernel_rfl) Try.func6 (by kernel_rfl)
    (of_decide_eq_true (by kernel_rfl)) (by unfold Func.isWrapper; first | (rw [if_pos (by decide +kernel)]; kernel_rfl) | (rw [if_neg (by decide +kernel)]; exact ⟨rfl, rfl⟩))
    (fun os started H enc _ F => by rw [OpenClaim.pre_eq_preRow]; exact lifted os started H enc F)

end Go.Proofs.Ytmbcinbkijnblaa.alphaOrderLaw
