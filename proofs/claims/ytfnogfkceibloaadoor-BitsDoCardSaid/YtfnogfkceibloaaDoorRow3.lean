/- Deeds that came in, read. -/
import Derived.Test.YtfnogfkceibloaaDoorRow2
import Derived.Test.YtfnogfkceibloaaDoorDeeds
import Derived.Deep.SlicePairs
namespace Go.Proofs.YtfnogfkceibloaaDoor
open Go.ChangeShapes Go.WideShapes Go.ChangeAt Go.RowKit Go.Deep

theorem cellsInt : Tryd.prog.cellsOf 3 = 1 := by kernel_rfl
theorem cellsInts : Tryd.prog.cellsOf 34 = 1 := by kernel_rfl
theorem cellsDeed : Tryd.prog.cellsOf 37 = 2 := by kernel_rfl

section
variable {H : Type} {enc : TypeId × Value → H} {W : World} {sp : Nat → Bool} {hd : Bool} {A : Option Addr} {len cap : Nat} {d : DataW H} {p : List MemPlace}
theorem ints_in (h : DataW.Trod enc Tryd.prog W 0 sp hd 34 (.slice A len cap) d p) : SliceOf d len ∧ len ≤ maxLen ∧ ∃ zs : List Int, zs.length = len ∧ RdI W A zs := by
  obtain ⟨h1, h2, V, hV, hc⟩ := row_in Tryd.underlying34 cellsInt h
  refine ⟨h1, h2, (List.range len).map (fun i => match V i with | .int _ z => z | _ => 0), by simp, fun j hj => ?_⟩
  have hj' : j < len := by simpa using hj
  obtain ⟨b, off, hA, hcell⟩ := hc (by omega)
  refine ⟨b, off, hA, fun i hil => ?_⟩
  have hil' : i < len := by simpa using hil
  obtain ⟨n, D, Pl, ht⟩ := hV i hil'
  obtain ⟨x, hx, _, _⟩ := DataW.trod_int Tryd.underlying3 ht
  have hv : V i = .int .i64 x := by simpa using hx
  rw [hcell i hil']
  simp [List.getD, hil', hv]
end

theorem weights_all {H : Type} {P : Program} {e : TypeId} {x : Nat} : ∀ {l : List (DataW H)} {d : DataW H}, d ∈ l → x ∈ d.weights P e → x ∈ DataW.weightsAll P e l
  | [], _, h, _ => by cases h
  | a :: r, d, h, hx => by
    simp only [DataW.weightsAll, List.mem_append]
    rcases List.mem_cons.1 h with rfl | h
    · exact .inl hx
    · exact .inr (weights_all h hx)

section
variable {H : Type} {enc : TypeId × Value → H} {W : World} {sp : Nat → Bool} {hd : Bool} {A : Option Addr} {len cap : Nat} {d : DataW H} {p : List MemPlace}
/-- One deed. -/
def DeedAt (W : World) (a : Addr) (i : Nat) (q : Bool × Option Addr × Nat × List Int) : Prop :=
  W.cell? (a.add (i * 2)) = some (.bool q.1) ∧ W.cell? (a.add (i * 2 + 1)) = some (.slice q.2.1 q.2.2.2.length q.2.2.1) ∧ RdI W q.2.1 q.2.2.2 ∧ (q.2.1 = none → q.2.2.2.length = 0 ∧ q.2.2.1 = 0) ∧ q.2.2.2.length ≤ 140737488355328
theorem deed_at {a : Addr} {i n : Nat} {V0 V1 : Value} {D0 D1 : DataW H} {P0 P1 : List MemPlace} (h0 : W.cell? (a.add (i * 2)) = some V0) (h1 : W.cell? (a.add (i * 2 + 1)) = some V1)
    (t0 : DataW.trod enc Tryd.prog W 0 sp hd n 4 [V0] = some (D0, P0)) (t1 : DataW.trod enc Tryd.prog W 0 sp hd n 34 [V1] = some (D1, P1))
    (hw : ∀ x ∈ D1.weights Tryd.prog 34, x ≤ reachBytes) : ∃ q, DeedAt W a i q := by
  obtain ⟨x, hx, _⟩ := DataW.trod_bool Tryd.underlying4 t0
  have hv : V0 = .bool x := by simpa using hx
  subst hv
  have hs : ∃ A' l' c', V1 = .slice A' l' c' := by
    rcases open_slice1 Tryd.underlying34 cellsInt t1 with ⟨hcs, _⟩ | ⟨a', l, c, m, k, V, D, Pl, hcs, _⟩
    · exact ⟨none, 0, 0, by simpa using hcs⟩
    · exact ⟨some a', l, c, by simpa using hcs⟩
  obtain ⟨A', l', c', rfl⟩ := hs
  have ht : DataW.Trod enc Tryd.prog W 0 sp hd 34 (.slice A' l' c') D1 P1 := ⟨n, by simpa [Value.cells] using t1⟩
  obtain ⟨hso, _, zs, rfl, hz⟩ := ints_in ht
  refine ⟨(x, A', c', zs), h0, h1, hz, nil_in Tryd.underlying34 cellsInt ht, ?_⟩
  rcases hso with ⟨_, h0⟩ | ⟨el, spr, rfl, hl⟩
  · show zs.length ≤ _
    omega
  · have h2 := hw ((el.length + spr.length) * Tryd.prog.bytesOf 3) (by simp [DataW.weights, Tryd.underlying34])
    have h3 := reachBytes_lt
    have h4 : 1 ≤ Tryd.prog.bytesOf 3 := of_decide_eq_true (by kernel_rfl)
    have h5 : el.length + spr.length ≤ (el.length + spr.length) * Tryd.prog.bytesOf 3 := Nat.le_mul_of_pos_right _ h4
    show zs.length ≤ _
    omega

theorem deeds_in (h : DataW.Trod enc Tryd.prog W 0 sp hd 23 (.slice A len cap) d p) : SliceOf d len ∧ len ≤ maxLen ∧ ((∀ x ∈ d.weights Tryd.prog 23, x ≤ reachBytes) → ∃ one pa pc pz, DeedsIn W A len one pa pc pz) := by
  obtain ⟨fuel, hf⟩ := h
  rcases open_slice_pairs Tryd.underlying23 Tryd.underlying37 cellsDeed rfl rfl cellsBool cellsInts hf with ⟨hcs, hx⟩ | ⟨a, l, c, m, n, V0, V1, D0, D1, P0, P1, hcs, _, hl, hm, hmm, hx, hi⟩
  · simp [Value.cells] at hcs
    obtain ⟨rfl, rfl, rfl⟩ := hcs
    simp only [Prod.mk.injEq] at hx
    exact ⟨.inl ⟨hx.1, rfl⟩, by simp [maxLen], fun _ => ⟨fun _ => false, fun _ => none, fun _ => 0, fun _ => [], fun j hj => absurd hj (by omega), fun j hj => absurd hj (by omega), fun j hj => absurd hj (by omega), fun j hj => absurd hj (by omega)⟩⟩
  · simp [Value.cells] at hcs
    obtain ⟨rfl, rfl, rfl⟩ := hcs
    simp only [Prod.mk.injEq] at hx
    have hlm : len ≤ m := by rw [hmm]; split <;> omega
    refine ⟨.inr ⟨_, _, hx.1, by simp⟩, by omega, fun hw => ?_⟩
    have each : ∀ i, i < len → ∃ q, DeedAt W a i q := fun i hil => by
      obtain ⟨h0, h1, t0, t1⟩ := hi i (by omega)
      refine deed_at h0 h1 t0 t1 fun x hxw => hw x ?_
      rw [hx.1]
      simp only [DataW.weights, Tryd.underlying23, List.mem_cons, List.mem_append]
      refine .inr (.inl (weights_all (d := .agg [D0 i, D1 i]) (List.mem_map.2 ⟨i, List.mem_range.2 hil, rfl⟩) ?_))
      simp only [DataW.weights, Tryd.underlying37, DataW.weightsEach, List.map_cons, List.map_nil, List.mem_append]
      exact .inr (.inl hxw)
    obtain ⟨q, hq⟩ := choose_lt each
    refine ⟨fun i => (q i).1, fun i => (q i).2.1, fun i => (q i).2.2.1, fun i => (q i).2.2.2, fun j hj => ?_, fun j hj => (hq j hj).2.2.1, fun j hj => (hq j hj).2.2.2.1, fun j hj => (hq j hj).2.2.2.2⟩
    obtain ⟨b, off, spot⟩ := a
    have hs : spot = none := by
      have := (hq 0 (by omega)).1
      simpa [Addr.add] using World.cell?_spot this
    subst hs
    have ha : ∀ k, (⟨b, off, none⟩ : Addr).add k = ⟨b, off + k, none⟩ := fun k => by
      unfold Addr.add
      by_cases e : k = 0 <;> simp [e]
    have h0 := (hq j hj).1
    have h1 := (hq j hj).2.1
    rw [ha] at h0 h1
    exact ⟨b, off, rfl, h0, by rw [Nat.add_assoc]; exact h1⟩
theorem weights_of {P : Program} {ts : List TypeId} {ds : List (DataW H)} (h : (DataW.weightsEach P ts ds).all (· ≤ reachBytes) = true) {j : Nat} {t : TypeId} {d : DataW H} (ht : ts[j]? = some t) (hd : ds[j]? = some d) : ∀ x ∈ d.weights P t, x ≤ reachBytes := fun x hx => by
  have := List.all_eq_true.1 h _ (DataW.weights_mem_each ht hd x hx)
  simpa using this
end
end Go.Proofs.YtfnogfkceibloaaDoor
