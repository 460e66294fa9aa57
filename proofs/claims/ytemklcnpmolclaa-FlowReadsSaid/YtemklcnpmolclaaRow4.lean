/- Deeds that came in, read. -/
import Derived.Test.YtemklcnpmolclaaRowI
import Derived.Test.YtemklcnpmolclaaFd
import Derived.Deep.SlicePairs
namespace Go.Proofs.Ytemklcnpmolclaa
open Go.ChangeShapes Go.WideShapes Go.ChangeAt Go.RowKit Go.Deep

theorem cellsBool : Try.prog.cellsOf 4 = 1 := by kernel_rfl
theorem cellsInts : Try.prog.cellsOf 32 = 1 := by kernel_rfl
theorem cellsBools : Try.prog.cellsOf 28 = 1 := by kernel_rfl
theorem cellsDeed : Try.prog.cellsOf 35 = 4 := by kernel_rfl
section
variable {H : Type} {enc : TypeId × Value → H} {W : World} {sp : Nat → Bool} {hd : Bool} {A : Option Addr} {len cap : Nat} {d : DataW H} {p : List MemPlace}
theorem bits_in (h : DataW.Trod enc Try.prog W 0 sp hd 28 (.slice A len cap) d p) :
    SliceOf d len ∧ len ≤ maxLen ∧ (A = none → len = 0 ∧ cap = 0) ∧ ∃ xs : List Bool, xs.length = len ∧ RdB W A xs := by
  obtain ⟨h1, h2, h3, V, hV, hc⟩ := row_in Try.underlying28 cellsBool h
  refine ⟨h1, h2, h3, (List.range len).map (fun i => match V i with | .bool b => b | _ => false), by simp, ?_⟩
  have hc' : RdV W A ((List.range len).map (fun i => match V i with | .bool b => b | _ => false)).length V := by simpa using hc
  refine hc'.congr fun j hj => ?_
  have hj' : j < len := by simpa using hj
  obtain ⟨n, D, Pl, ht⟩ := hV j hj'
  obtain ⟨x, hx, _⟩ := DataW.trod_bool Try.underlying4 ht
  have hv : V j = .bool x := by simpa using hx
  rw [hv]
  unfold vB
  simp [List.getD, hj', hv]
end
section
variable {H : Type} {enc : TypeId × Value → H} {W : World} {sp : Nat → Bool} {hd : Bool} {A : Option Addr} {len cap : Nat} {d : DataW H} {p : List MemPlace}
theorem cap_in {t e : TypeId} (ht : Try.prog.underlying t = some (.slice e)) (he : Try.prog.cellsOf e = 1) (h : DataW.Trod enc Try.prog W 0 sp hd t (.slice A len cap) d p) : len ≤ cap := by
  obtain ⟨fuel, hf⟩ := h
  rcases open_slice1 ht he hf with ⟨hcs, hx⟩ | ⟨a, l, c, m, n, V, D, Pl, hcs, _, hl, _⟩
  · simp [Value.cells] at hcs
    omega
  · simp [Value.cells] at hcs
    omega
end
theorem weights_all {H : Type} {P : Program} {e : TypeId} {x : Nat} : ∀ {l : List (DataW H)} {d : DataW H}, d ∈ l → x ∈ d.weights P e → x ∈ DataW.weightsAll P e l
  | [], _, h, _ => by cases h
  | a :: r, d, h, hx => by
    simp only [DataW.weightsAll, List.mem_append]
    rcases List.mem_cons.1 h with rfl | h
    · exact .inl hx
    · exact .inr (weights_all h hx)
theorem weights_of {H : Type} {P : Program} {ts : List TypeId} {ds : List (DataW H)} (h : (DataW.weightsEach P ts ds).all (· ≤ reachBytes) = true) {j : Nat} {t : TypeId} {d : DataW H} (ht : ts[j]? = some t) (hd : ds[j]? = some d) : ∀ x ∈ d.weights P t, x ≤ reachBytes := fun x hx => by
  have := List.all_eq_true.1 h _ (DataW.weights_mem_each ht hd x hx)
  simpa using this
section
variable {H : Type} {enc : TypeId × Value → H} {W : World} {sp : Nat → Bool} {hd : Bool} {A : Option Addr} {len cap : Nat} {d : DataW H} {p : List MemPlace}
/-- One deed. -/
def DeedAt (W : World) (a : Addr) (i : Nat) (q : Dd) : Prop :=
  W.cell? (a.add (i * 4)) = some (.int .i64 q.what) ∧ W.cell? (a.add (i * 4 + 1)) = some (.int .i64 q.width) ∧ W.cell? (a.add (i * 4 + 2)) = some (.slice q.oa q.ys.length q.oc) ∧ W.cell? (a.add (i * 4 + 3)) = some (.slice q.na q.zs.length q.nc) ∧
  I64 q.what ∧ I64 q.width ∧ RdB W q.oa q.ys ∧ RdI W q.na q.zs ∧ I64s q.zs ∧ q.ys.length ≤ 140737488355328 ∧ q.zs.length ≤ 140737488355328 ∧ (q.oa = none → q.ys.length = 0 ∧ q.oc = 0) ∧ (q.na = none → q.zs.length = 0 ∧ q.nc = 0)
theorem slice_shape {n : Nat} {t e : TypeId} {V : Value} {D : DataW H} {P : List MemPlace} (ht : Try.prog.underlying t = some (.slice e)) (he : Try.prog.cellsOf e = 1) (h : DataW.trod enc Try.prog W 0 sp hd n t [V] = some (D, P)) : ∃ A' l' c', V = .slice A' l' c' := by
  rcases open_slice1 ht he h with ⟨hcs, _⟩ | ⟨a', l, c, m, k, V, D, Pl, hcs, _⟩
  · exact ⟨none, 0, 0, by simpa using hcs⟩
  · exact ⟨some a', l, c, by simpa using hcs⟩
theorem len_room {l : Nat} {D : DataW H} {t e : TypeId} (hso : SliceOf D l) (hu : Try.prog.underlying t = some (.slice e)) (h1 : 1 ≤ Try.prog.bytesOf e) (hw : ∀ x ∈ D.weights Try.prog t, x ≤ reachBytes) : l ≤ 140737488355328 := by
  rcases hso with ⟨_, h0⟩ | ⟨el, spr, rfl, hl⟩
  · omega
  · have h2 := hw ((el.length + spr.length) * Try.prog.bytesOf e) (by simp [DataW.weights, hu])
    have h3 := reachBytes_lt
    have h5 : el.length + spr.length ≤ (el.length + spr.length) * Try.prog.bytesOf e := Nat.le_mul_of_pos_right _ h1
    omega
theorem deed_at {a : Addr} {i n : Nat} {V0 V1 V2 V3 : Value} {D0 D1 D2 D3 : DataW H} {P0 P1 P2 P3 : List MemPlace} (h0 : W.cell? (a.add (i * 4)) = some V0) (h1 : W.cell? (a.add (i * 4 + 1)) = some V1) (h2 : W.cell? (a.add (i * 4 + 2)) = some V2) (h3 : W.cell? (a.add (i * 4 + 3)) = some V3)
    (t0 : DataW.trod enc Try.prog W 0 sp hd n 3 [V0] = some (D0, P0)) (t1 : DataW.trod enc Try.prog W 0 sp hd n 3 [V1] = some (D1, P1)) (t2 : DataW.trod enc Try.prog W 0 sp hd n 28 [V2] = some (D2, P2)) (t3 : DataW.trod enc Try.prog W 0 sp hd n 32 [V3] = some (D3, P3))
    (hw2 : ∀ x ∈ D2.weights Try.prog 28, x ≤ reachBytes) (hw3 : ∀ x ∈ D3.weights Try.prog 32, x ≤ reachBytes) : ∃ q, DeedAt W a i q := by
  obtain ⟨x, hx, _, wx⟩ := DataW.trod_int Try.underlying3 t0
  obtain ⟨y, hy, _, wy⟩ := DataW.trod_int Try.underlying3 t1
  have hv0 : V0 = .int .i64 x := by simpa using hx
  have hv1 : V1 = .int .i64 y := by simpa using hy
  subst hv0
  subst hv1
  have bx : I64 x := by simpa [I64, Lit.wf, IntKind.min, IntKind.max, IntKind.signed, IntKind.bits] using wx
  have by_ : I64 y := by simpa [I64, Lit.wf, IntKind.min, IntKind.max, IntKind.signed, IntKind.bits] using wy
  obtain ⟨A2, l2, c2, rfl⟩ := slice_shape Try.underlying28 cellsBool t2
  obtain ⟨A3, l3, c3, rfl⟩ := slice_shape Try.underlying32 cellsInt t3
  have r2 : DataW.Trod enc Try.prog W 0 sp hd 28 (.slice A2 l2 c2) D2 P2 := ⟨n, by simpa [Value.cells] using t2⟩
  have r3 : DataW.Trod enc Try.prog W 0 sp hd 32 (.slice A3 l3 c3) D3 P3 := ⟨n, by simpa [Value.cells] using t3⟩
  obtain ⟨hs2, _, hn2, xs, rfl, hxs⟩ := bits_in r2
  obtain ⟨hs3, _, hn3, zs, rfl, hzs, hi⟩ := ints_in r3
  exact ⟨⟨x, y, A2, c2, xs, A3, c3, zs⟩, h0, h1, h2, h3, bx, by_, hxs, hzs, hi, len_room hs2 Try.underlying28 (of_decide_eq_true (by kernel_rfl)) hw2, len_room hs3 Try.underlying32 (of_decide_eq_true (by kernel_rfl)) hw3, hn2, hn3⟩
instance : Inhabited Dd := ⟨⟨0, 0, none, 0, [], none, 0, []⟩⟩
set_option maxRecDepth 100000 in
theorem deeds_in (h : DataW.Trod enc Try.prog W 0 sp hd 22 (.slice A len cap) d p) : SliceOf d len ∧ len ≤ maxLen ∧ ((∀ x ∈ d.weights Try.prog 22, x ≤ reachBytes) → ∃ q, DsIn W A len q) := by
  obtain ⟨fuel, hf⟩ := h
  rcases open_slice Try.underlying22 hf with ⟨hcs, hx⟩ | ⟨a, l, c, m, n, D, Pl, hcs, _, hl, hm, hmm, hx, hi⟩
  · simp [Value.cells] at hcs
    obtain ⟨rfl, rfl, rfl⟩ := hcs
    simp only [Prod.mk.injEq] at hx
    exact ⟨.inl ⟨hx.1, rfl⟩, by simp [maxLen], fun _ => ⟨fun _ => ⟨0, 0, none, 0, [], none, 0, []⟩, fun j hj => absurd hj (by omega), fun j hj => absurd hj (by omega), fun j hj => absurd hj (by omega), fun j hj => absurd hj (by omega), fun j hj => absurd hj (by omega), fun j hj => absurd hj (by omega), fun j hj => absurd hj (by omega), fun j hj => absurd hj (by omega), fun j hj => absurd hj (by omega), fun j hj => absurd hj (by omega)⟩⟩
  · simp [Value.cells] at hcs
    obtain ⟨rfl, rfl, rfl⟩ := hcs
    simp only [Prod.mk.injEq] at hx
    have hlm : len ≤ m := by rw [hmm]; split <;> omega
    refine ⟨.inr ⟨_, _, hx.1, by simp⟩, by omega, fun hw => ?_⟩
    have each : ∀ i, i < len → ∃ q, DeedAt W a i q := fun i hil => by
      obtain ⟨cs', h1, h2⟩ := hi i (by omega)
      rw [cellsDeed] at h1
      obtain ⟨_, hlen, hcell⟩ := World.cells?_some h1
      obtain ⟨xs, k, hk, hxy, _, hxl, hff⟩ := DataW.trod_struct Try.underlying35 h2
      match xs, hxl, cs', hlen with
      | [y0, y1, y2, y3], _, [v0, v1, v2, v3], _ =>
        have g0 := hff 0 _ rfl
        have g1 := hff 1 _ rfl
        have g2 := hff 2 _ rfl
        have g3 := hff 3 _ rfl
        simp [cellsInt, cellsInts, cellsBools] at g0 g1 g2 g3
        have e0 := hcell 0 (by omega)
        have e1 := hcell 1 (by omega)
        have e2 := hcell 2 (by omega)
        have e3 := hcell 3 (by omega)
        rw [add_add] at e0 e1 e2 e3
        simp only [Prod.mk.injEq] at hxy
        have hD : D i = .agg [y0.1, y1.1, y2.1, y3.1] := by simpa using hxy.1
        have hmem : ∀ x ∈ (D i).weights Try.prog 35, x ≤ reachBytes := fun x hxw => hw x (by
          rw [hx.1]
          simp only [DataW.weights, Try.underlying22, List.mem_cons, List.mem_append]
          exact .inr (.inl (weights_all (d := D i) (List.mem_map.2 ⟨i, List.mem_range.2 hil, rfl⟩) hxw)))
        rw [hD] at hmem
        simp only [DataW.weights, Try.underlying35, DataW.weightsEach, List.map_cons, List.map_nil, List.mem_append] at hmem
        exact deed_at (by simpa using e0) (by simpa using e1) (by simpa using e2) (by simpa using e3) g0 g1 g2 g3 (fun x hx => hmem x (by simp [hx])) (fun x hx => hmem x (by simp [hx]))
    obtain ⟨q, hq⟩ := choose_lt each
    refine ⟨q, fun j hj => ?_, fun j hj => (hq j hj).2.2.2.2.1, fun j hj => (hq j hj).2.2.2.2.2.1, fun j hj => (hq j hj).2.2.2.2.2.2.1, fun j hj => (hq j hj).2.2.2.2.2.2.2.1, fun j hj => (hq j hj).2.2.2.2.2.2.2.2.1, fun j hj => (hq j hj).2.2.2.2.2.2.2.2.2.1, fun j hj => (hq j hj).2.2.2.2.2.2.2.2.2.2.1, fun j hj => (hq j hj).2.2.2.2.2.2.2.2.2.2.2.1, fun j hj => (hq j hj).2.2.2.2.2.2.2.2.2.2.2.2⟩
    obtain ⟨b, off, spot⟩ := a
    have hs : spot = none := by
      have := (hq 0 (by omega)).1
      simpa [Addr.add] using World.cell?_spot this
    subst hs
    have ha : ∀ k, (⟨b, off, none⟩ : Addr).add k = ⟨b, off + k, none⟩ := fun k => by
      unfold Addr.add
      by_cases e : k = 0 <;> simp [e]
    obtain ⟨h0, h1, h2, h3, _⟩ := hq j hj
    rw [ha] at h0 h1 h2 h3
    exact ⟨b, off, rfl, h0, by rw [Nat.add_assoc]; exact h1, by rw [Nat.add_assoc]; exact h2, by rw [Nat.add_assoc]; exact h3⟩
end
end Go.Proofs.Ytemklcnpmolclaa
