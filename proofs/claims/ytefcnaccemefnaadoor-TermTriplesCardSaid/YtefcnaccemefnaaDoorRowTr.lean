/- Triples that came in. -/
import Derived.Test.YtefcnaccemefnaaDoorRowTm
import Derived.Test.YtefcnaccemefnaaDoorTeK
import Derived.Deep.Strs
namespace Go.Proofs.YtefcnaccemefnaaDoor
open Go.ChangeShapes Go.WideShapes Go.ChangeAt Go.RowKit Go.Deep Go.Joins

section
variable {H : Type} {enc : TypeId × Value → H} {W : World} {base : Nat} {sp : Nat → Bool} {hd : Bool} {d : DataW H} {p : List MemPlace}
theorem cells_tr : Tryd.prog.cellsOf 36 = 12 := by kernel_rfl
set_option maxRecDepth 100000 in
theorem tr_of_trod {fuel : Nat} {cs : List Value} {x : DataW H × List MemPlace} (h : DataW.trod enc Tryd.prog W 0 sp hd fuel 36 cs = some x) : ∃ a b c : Tm, cs = [.int .i64 a.k, .string a.x, .string a.g, .string a.y, .int .i64 b.k, .string b.x, .string b.g, .string b.y, .int .i64 c.k, .string c.x, .string c.g, .string c.y] ∧ x = (.agg [tmData a, tmData b, tmData c], []) := by
  obtain ⟨y0, y1, y2, n, hx, hl, h0, h1, h2⟩ := trod_struct3 Tryd.underlying36 h
  rw [cells_tr] at hl
  simp only [cells_tm] at h0 h1 h2
  obtain ⟨a, ea, rfl⟩ := tm_of_trod h0
  obtain ⟨b, eb, rfl⟩ := tm_of_trod h1
  obtain ⟨c, ec, rfl⟩ := tm_of_trod h2
  refine ⟨a, b, c, ?_, by rw [hx]; rfl⟩
  have e : cs = cs.take 4 ++ ((cs.drop 4).take 4 ++ (cs.drop 8).take 4) := by
    have e1 := List.take_append_drop 4 cs
    have e2 := List.take_append_drop 4 (cs.drop 4)
    rw [List.drop_drop] at e2
    have e3 : (cs.drop (4 + 4)).take 4 = cs.drop (4 + 4) := List.take_of_length_le (by rw [List.length_drop]; omega)
    rw [← e3] at e2
    rw [e2, e1]
  rw [e]
  simp only [List.drop_zero] at ea
  rw [ea, eb, ec]
  rfl
set_option maxRecDepth 100000 in
theorem open_tr {v : Value} (hv : Value.okWide Tryd.prog W .any base 36 v) (h : DataW.Trod enc Tryd.prog W 0 sp hd 36 v d p) : ∃ a b c : Tm, v = trV a b c ∧ d = .agg [tmData a, tmData b, tmData c] ∧ p = [] := by
  obtain ⟨cs, rfl, hsz⟩ := okWide_struct Tryd.underlying36 hv
  obtain ⟨fuel, hf⟩ := h
  obtain ⟨a, b, c, ht, hx⟩ := tr_of_trod hf
  simp only [Prod.mk.injEq] at hx
  refine ⟨a, b, c, ?_, hx.1, hx.2⟩
  unfold trV
  congr 1
  exact Array.toList_inj.1 ht
set_option maxRecDepth 100000 in
theorem room_tr {a b c : Tm} (h : ∀ x ∈ (DataW.agg [tmData (H := H) a, tmData b, tmData c]).weights Tryd.prog 36, x ≤ reachBytes) : sizeT a ≤ 422212465065984 ∧ sizeT b ≤ 422212465065984 ∧ sizeT c ≤ 422212465065984 := by
  have e : (DataW.agg [tmData (H := H) a, tmData b, tmData c]).weights Tryd.prog 36 = (tmData (H := H) a).weights Tryd.prog 24 ++ ((tmData (H := H) b).weights Tryd.prog 24 ++ ((tmData (H := H) c).weights Tryd.prog 24 ++ [])) := by
    simp only [DataW.weights, Tryd.underlying36, DataW.weightsEach, List.map_cons, List.map_nil]
  rw [e] at h
  exact ⟨room_tm fun x hx => h x (List.mem_append_left _ hx), room_tm fun x hx => h x (List.mem_append_right _ (List.mem_append_left _ hx)), room_tm fun x hx => h x (List.mem_append_right _ (List.mem_append_right _ (List.mem_append_left _ hx)))⟩
end
end Go.Proofs.YtefcnaccemefnaaDoor
