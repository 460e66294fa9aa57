/- Rows of bytes that came in, read. -/
import Derived.Test.YthfelifcikiogaaDoorRowY
import Derived.Test.YthfelifcikiogaaDoorSu2
namespace Go.Proofs.YthfelifcikiogaaDoor
open Go.ChangeShapes Go.WideShapes Go.ChangeAt Go.RowKit Go.Deep

theorem cellsBytes : Tryd.prog.cellsOf 23 = 1 := by kernel_rfl
section
variable {H : Type} {enc : TypeId × Value → H} {W : World} {sp : Nat → Bool} {hd : Bool} {A : Option Addr} {len cap : Nat} {d : DataW H} {p : List MemPlace}
theorem capIn {t e : TypeId} (ht : Tryd.prog.underlying t = some (.slice e)) (he : Tryd.prog.cellsOf e = 1) (h : DataW.Trod enc Tryd.prog W 0 sp hd t (.slice A len cap) d p) : len ≤ cap := by
  obtain ⟨fuel, hf⟩ := h
  rcases open_slice1 ht he hf with ⟨hcs, hx⟩ | ⟨a, l, c, m, n, V, D, Pl, hcs, _, hl, _⟩
  · simp [Value.cells] at hcs
    omega
  · simp [Value.cells] at hcs
    omega
end
theorem weightsAll_in {H : Type} {P : Program} {e : TypeId} {x : Nat} : ∀ {l : List (DataW H)} {d : DataW H}, d ∈ l → x ∈ d.weights P e → x ∈ DataW.weightsAll P e l
  | [], _, h, _ => by cases h
  | a :: r, d, h, hx => by
    simp only [DataW.weightsAll, List.mem_append]
    rcases List.mem_cons.1 h with rfl | h
    · exact .inl hx
    · exact .inr (weightsAll_in h hx)
theorem weightsAt {H : Type} {P : Program} {ts : List TypeId} {ds : List (DataW H)} (h : (DataW.weightsEach P ts ds).all (· ≤ reachBytes) = true) {j : Nat} {t : TypeId} {d : DataW H} (ht : ts[j]? = some t) (hd : ds[j]? = some d) : ∀ x ∈ d.weights P t, x ≤ reachBytes := fun x hx => by
  have := List.all_eq_true.1 h _ (DataW.weights_mem_each ht hd x hx)
  simpa using this
section
variable {H : Type} {enc : TypeId × Value → H} {W : World} {sp : Nat → Bool} {hd : Bool} {A : Option Addr} {len cap : Nat} {d : DataW H} {p : List MemPlace}
theorem sliceShape {n : Nat} {t e : TypeId} {V : Value} {D : DataW H} {P : List MemPlace} (ht : Tryd.prog.underlying t = some (.slice e)) (he : Tryd.prog.cellsOf e = 1) (h : DataW.trod enc Tryd.prog W 0 sp hd n t [V] = some (D, P)) : ∃ A' l' c', V = .slice A' l' c' := by
  rcases open_slice1 ht he h with ⟨hcs, _⟩ | ⟨a', l, c, m, k, V, D, Pl, hcs, _⟩
  · exact ⟨none, 0, 0, by simpa using hcs⟩
  · exact ⟨some a', l, c, by simpa using hcs⟩
theorem lenRoom {l : Nat} {D : DataW H} {t e : TypeId} (hso : SliceOf D l) (hu : Tryd.prog.underlying t = some (.slice e)) (h1 : 1 ≤ Tryd.prog.bytesOf e) (hw : ∀ x ∈ D.weights Tryd.prog t, x ≤ reachBytes) : l ≤ 140737488355328 := by
  rcases hso with ⟨_, h0⟩ | ⟨el, spr, rfl, hl⟩
  · omega
  · have h2 := hw ((el.length + spr.length) * Tryd.prog.bytesOf e) (by simp [DataW.weights, hu])
    have h3 := reachBytes_lt
    have h5 : el.length + spr.length ≤ (el.length + spr.length) * Tryd.prog.bytesOf e := Nat.le_mul_of_pos_right _ h1
    omega
/-- One row. -/
def RowAt (W : World) (V : Value) (q : Option Addr × Nat × List Nat) : Prop :=
  V = .slice q.1 q.2.2.length q.2.1 ∧ RdY W q.1 q.2.2 ∧ (q.1 = none → q.2.2.length = 0 ∧ q.2.1 = 0) ∧ Byts q.2.2 ∧ q.2.2.length ≤ 140737488355328
theorem rows_in (h : DataW.Trod enc Tryd.prog W 0 sp hd 22 (.slice A len cap) d p) :
    SliceOf d len ∧ len ≤ maxLen ∧ ((∀ x ∈ d.weights Tryd.prog 22, x ≤ reachBytes) → ∃ L aF cF, L.length = len ∧ RdR W A L aF cF ∧ BtsR L ∧ ∀ j, (L.getD j []).length ≤ 140737488355328) := by
  obtain ⟨fuel, hf⟩ := h
  rcases open_slice1 Tryd.underlying22 cellsBytes hf with ⟨hcs, hx⟩ | ⟨a, l, c, m, n, V, D, Pl, hcs, _, hl, hm, hmm, hx, hi⟩
  · simp [Value.cells] at hcs
    obtain ⟨rfl, rfl, rfl⟩ := hcs
    simp only [Prod.mk.injEq] at hx
    exact ⟨.inl ⟨hx.1, rfl⟩, by simp [maxLen], fun _ => ⟨[], fun _ => none, fun _ => 0, rfl, ⟨RdV.nil _, fun j hj => absurd hj (by simp), fun j hj => absurd hj (by simp)⟩, (fun l hl => (by cases hl) : BtsR []), fun j => by simp [List.getD]⟩⟩
  · simp [Value.cells] at hcs
    obtain ⟨rfl, rfl, rfl⟩ := hcs
    simp only [Prod.mk.injEq] at hx
    have hlm : len ≤ m := by rw [hmm]; split <;> omega
    refine ⟨.inr ⟨_, _, hx.1, by simp⟩, by omega, fun hw => ?_⟩
    have each : ∀ i, i < len → ∃ q, RowAt W (V i) q := fun i hil => by
      obtain ⟨_, ht⟩ := hi i (by omega)
      obtain ⟨A', l', c', hv⟩ := sliceShape Tryd.underlying23 cellsByte ht
      rw [hv] at ht
      have ht2 : DataW.Trod enc Tryd.prog W 0 sp hd 23 (.slice A' l' c') (D i) (Pl i) := ⟨n, by simpa [Value.cells] using ht⟩
      obtain ⟨hso, _, hnl, bs, rfl, hr, hb⟩ := bytes_in ht2
      refine ⟨(A', c', bs), hv, hr, hnl, hb, lenRoom hso Tryd.underlying23 (of_decide_eq_true (by kernel_rfl)) fun x hxw => hw x ?_⟩
      rw [hx.1]
      simp only [DataW.weights, Tryd.underlying22, List.mem_cons, List.mem_append]
      exact .inr (.inl (weightsAll_in (d := D i) (List.mem_map.2 ⟨i, List.mem_range.2 hil, rfl⟩) hxw))
    obtain ⟨q, hq⟩ := choose_lt each
    have hg : ∀ j, j < len → ((List.range len).map fun j => (q j).2.2).getD j [] = (q j).2.2 := fun j hj => by simp [List.getD, hj]
    refine ⟨(List.range len).map fun j => (q j).2.2, fun j => (q j).1, fun j => (q j).2.1, by simp, ⟨fun h0 => ?_, fun j hj => ?_, fun j hj => ?_⟩, fun l hl => ?_, fun j => ?_⟩
    · have h0' : 0 < len := by simpa using h0
      obtain ⟨b, off, spot⟩ := a
      have hs : spot = none := by
        have := (hi 0 (by omega)).1
        simpa [Addr.add] using World.cell?_spot this
      subst hs
      refine ⟨b, off, rfl, fun j hj => ?_⟩
      have hj' : j < len := by simpa using hj
      have h1 := (hi j (by omega)).1
      have ha : (⟨b, off, none⟩ : Addr).add j = ⟨b, off + j, none⟩ := by
        unfold Addr.add
        by_cases e : j = 0 <;> simp [e]
      rw [ha, (hq j hj').1] at h1
      rw [h1]
      dsimp only
      rw [hg j hj']
    · have hj' : j < len := by simpa using hj
      rw [hg j hj']; exact (hq j hj').2.1
    · have hj' : j < len := by simpa using hj
      rw [hg j hj']; exact (hq j hj').2.2.1
    · obtain ⟨i, hi2, rfl⟩ := List.mem_map.1 hl
      exact of_byts (hq i (by simpa using hi2)).2.2.2.1
    · by_cases hj : j < len
      · rw [hg j hj]; exact (hq j hj).2.2.2.2
      · simp [List.getD, hj]
end
end Go.Proofs.YthfelifcikiogaaDoor
