/- What every row of a great seat's laws wants: the library's tables and its errors, laid. -/
import Derived.Test.YtbbclcllkpabkaaDoorRowU
import Derived.Test.YtbbclcllkpabkaaDoorLx5
import Derived.LaidLaws
namespace Go.Proofs.YtbbclcllkpabkaaDoor
open Go.ChangeShapes Go.WideShapes Go.ChangeAt Go.RowKit Go.Deep

theorem tabL9 {W : World} {l : List (String × DataW Unit)} (h : laidMet Tryd.prog l W) (h1 : ("unicode/utf8.first", Rows.laid_unicode_utf8_first) ∈ l) (h2 : ("unicode/utf8.acceptRanges", Rows.laid_unicode_utf8_acceptRanges) ∈ l) : Tb W := by
  have e : Rows.laid_unicode_utf8_acceptRanges (H := Unit) = Lib.acceptData := by kernel_rfl
  exact utf8Tabs_of_reads (ρ := Tryd.lays260_ren) Tryd.lays260 ⟨by kernel_rfl, by kernel_rfl, by kernel_rfl, by kernel_rfl, by kernel_rfl, by kernel_rfl, by kernel_rfl⟩ (Pinned.utf8First_eq ▸ Lib.laidMet.reads h h1) (e ▸ Lib.laidMet.reads h h2)
theorem errL9 {W : World} {l : List (String × DataW Unit)} (h : laidMet Tryd.prog l W) (h1 : ("strconv.ErrSyntax", Rows.laid_strconv_ErrSyntax) ∈ l) : X.XerrAt W := by
  obtain ⟨g, t, cs, fuel, p, hg, hty, hvar, hd⟩ := Lib.laidMet.reads h h1
  obtain rfl := Option.some.inj ((show Tryd.prog.globalNamed "strconv.ErrSyntax" = some 3 by kernel_rfl).symm.trans hg)
  obtain rfl := Option.some.inj ((show (Tryd.prog.globals[3]?).map (·.type) = some 104 by kernel_rfl).symm.trans hty)
  obtain ⟨f1, u, v, e, _, _⟩ := iface_of_trod Tryd.underlying104 hd
  refine ⟨.iface u v, ?_, .inr ⟨u, v, rfl⟩⟩
  rw [World.var?_cell hg hvar 0]
  obtain ⟨l⟩ := cs
  have e2 : l = [.iface u v] := e
  subst e2
  rfl
/-- The cells of a table that is listed. -/
def tabCells9 : DataW Unit → Array Value
  | .agg ds => (ds.map fun
    | .lit (.int k z) => Value.int k z
    | _ => .bool false).toArray
  | _ => #[]
/-- A world for the witness: tables and errors laid. -/
noncomputable def laidWorldL9 (os : Os) : World :=
  let w0 := World.holding Tryd.prog os ⟨#[], #[], []⟩
  let n := w0.heap.size
  let put (h : Array Obj) (g : Nat) (cs : Array Value) : Array Obj := h.modify g fun
    | .cells _ t frozen => .cells cs t frozen
    | o => o
  let h1 := put w0.heap 0 (Lib.firstTab.map fun z => Value.int .u8 z).toArray
  let h2 := put h1 1 ((List.range 16).flatMap fun i => [Value.int .u8 (Lib.accLo i), Value.int .u8 (Lib.accHi i)]).toArray
  let h3 := put h2 6 (tabCells9 Rows.laid_math_bits_deBruijn32tab)
  let h4 := put h3 7 (tabCells9 Rows.laid_math_bits_deBruijn64tab)
  let h5 := put h4 5 (tabCells9 Rows.laid_internal_strconv_uint64pow10)
  let h6 := put h5 4 #[.iface 122 (.pointer (some ⟨n, 0, none⟩))]
  let h7 := put h6 3 #[.iface 122 (.pointer (some ⟨n + 1, 0, none⟩))]
  let h8 := h7.push (.cells #[.string ⟨#[118, 97, 108, 117, 101, 32, 111, 117, 116, 32, 111, 102, 32, 114, 97, 110, 103, 101]⟩] 124 (0, 0))
  let h9 := h8.push (.cells #[.string ⟨#[105, 110, 118, 97, 108, 105, 100, 32, 115, 121, 110, 116, 97, 120]⟩] 124 (0, 0))
  { w0 with heap := h9 }
theorem laid_metL9 (os : Os) (args : Array Value) : laidMet Tryd.prog Rows.lexPartsRow.laid ((laidWorldL9 os).forCall (fun _ _ => 0) ⟨#[], args, []⟩).memory :=
  laidMet_of_run' 8 (by kernel_rfl) (by kernel_rfl)
end Go.Proofs.YtbbclcllkpabkaaDoor
