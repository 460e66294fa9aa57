/- Terms and triples that came in. -/
import Derived.Test.YtefcnaccemefnaaGreatDoorRowU
import Derived.Test.YtefcnaccemefnaaGreatDoorTe1
import Derived.Lib.SmallJoins
namespace Go.Proofs.YtefcnaccemefnaaGreatDoor
open Go.ChangeShapes Go.WideShapes Go.ChangeAt Go.RowKit Go.Deep Go.Joins

section
variable {H : Type} {enc : TypeId × Value → H} {W : World} {base : Nat} {sp : Nat → Bool} {hd : Bool} {d : DataW H} {p : List MemPlace}
def tmData (t : Tm) : DataW H := .agg [.lit (.int .i64 t.k), .lit (.string t.x.data.toList), .lit (.string t.g.data.toList), .lit (.string t.y.data.toList)]
theorem cells_tm : Tryz.prog.cellsOf 27 = 4 := by kernel_rfl
theorem cells_kd : Tryz.prog.cellsOf 25 = 1 := by kernel_rfl
theorem cells_st : Tryz.prog.cellsOf 9 = 1 := by kernel_rfl
set_option maxRecDepth 100000 in
theorem tm_of_trod {fuel : Nat} {cs : List Value} {x : DataW H × List MemPlace} (h : DataW.trod enc Tryz.prog W 0 sp hd fuel 27 cs = some x) : ∃ t : Tm, cs = [.int .i64 t.k, .string t.x, .string t.g, .string t.y] ∧ x = (tmData t, []) := by
  obtain ⟨y0, y1, y2, y3, n, hx, hl, h0, h1, h2, h3⟩ := trod_struct4 Tryz.underlying27 h
  rw [cells_tm] at hl
  match cs, hl with
  | [c0, c1, c2, c3], _ =>
    simp only [cells_kd, cells_st, List.drop_zero, List.drop_succ_cons, List.take_succ_cons, List.take_zero] at h0 h1 h2 h3
    obtain ⟨k, e0, rfl, _⟩ := DataW.trod_int Tryz.underlying25 h0
    obtain ⟨s1, e1, rfl, _⟩ := DataW.trod_string Tryz.underlying9 h1
    obtain ⟨s2, e2, rfl, _⟩ := DataW.trod_string Tryz.underlying9 h2
    obtain ⟨s3, e3, rfl, _⟩ := DataW.trod_string Tryz.underlying9 h3
    simp only [List.cons.injEq, and_true] at e0 e1 e2 e3
    subst e0; subst e1; subst e2; subst e3
    exact ⟨⟨k, s1, s2, s3⟩, rfl, by rw [hx]; rfl⟩
set_option maxRecDepth 100000 in
theorem open_tm {v : Value} (hv : Value.okWide Tryz.prog W .any base 27 v) (h : DataW.Trod enc Tryz.prog W 0 sp hd 27 v d p) : ∃ t : Tm, v = tmV t ∧ d = tmData t ∧ p = [] := by
  obtain ⟨cs, rfl, hsz⟩ := okWide_struct Tryz.underlying27 hv
  obtain ⟨fuel, hf⟩ := h
  obtain ⟨t, ht, hx⟩ := tm_of_trod hf
  simp only [Prod.mk.injEq] at hx
  refine ⟨t, ?_, hx.1, hx.2⟩
  unfold tmV
  congr 1
  exact Array.toList_inj.1 ht
theorem weights_of' {P : Program} {ts : List TypeId} {ds : List (DataW H)} (h : (DataW.weightsEach P ts ds).all (· ≤ reachBytes) = true) {j : Nat} {t : TypeId} {d : DataW H} (ht : ts[j]? = some t) (hd : ds[j]? = some d) : ∀ x ∈ d.weights P t, x ≤ reachBytes := fun x hx => by
  have := List.all_eq_true.1 h _ (DataW.weights_mem_each ht hd x hx)
  simpa using this
set_option maxRecDepth 100000 in
theorem room_tm {t : Tm} (h : ∀ x ∈ (tmData (H := H) t).weights Tryz.prog 27, x ≤ reachBytes) : sizeT t ≤ 422212465065984 := by
  have hr := reachBytes_lt
  have e : (tmData (H := H) t).weights Tryz.prog 27 = [t.x.data.toList.length, t.g.data.toList.length, t.y.data.toList.length] := by
    simp [tmData, DataW.weights, Tryz.underlying27, DataW.weightsEach]
  rw [e] at h
  have h1 := h _ (List.mem_cons_self ..)
  have h2 := h _ (List.mem_cons_of_mem _ (List.mem_cons_self ..))
  have h3 := h _ (List.mem_cons_of_mem _ (List.mem_cons_of_mem _ (List.mem_cons_self ..)))
  have e1 : t.x.size = t.x.data.toList.length := by rw [Array.length_toList]; rfl
  have e2 : t.g.size = t.g.data.toList.length := by rw [Array.length_toList]; rfl
  have e3 : t.y.size = t.y.data.toList.length := by rw [Array.length_toList]; rfl
  unfold sizeT
  omega
end
end Go.Proofs.YtefcnaccemefnaaGreatDoor
