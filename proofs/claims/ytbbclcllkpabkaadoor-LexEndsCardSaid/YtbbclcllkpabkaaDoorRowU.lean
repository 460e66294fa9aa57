/- What every row of this stage's laws wants: the library's two tables, laid; texts that came in. -/
import Derived.Test.YtbbclcllkpabkaaDoorCards
import Derived.Test.YtbbclcllkpabkaaDoorTie
import Derived.Test.YtbbclcllkpabkaaDoorRowI
import Derived.Test.YtbbclcllkpabkaaDoorUt3
import Derived.Lib.LaidU8
import Derived.PinnedBridge
namespace Go.Proofs.YtbbclcllkpabkaaDoor
open Go.ChangeShapes Go.WideShapes Go.ChangeAt Go.RowKit Go.Deep

theorem tab_of {W : World} (h : laidMetH Tryd.prog [("unicode/utf8.acceptRanges", Rows.laid_unicode_utf8_acceptRanges), ("unicode/utf8.first", Rows.laid_unicode_utf8_first)] W) : Tb W := by
  have h' : laidMet Tryd.prog [("unicode/utf8.acceptRanges", Rows.laid_unicode_utf8_acceptRanges), ("unicode/utf8.first", Rows.laid_unicode_utf8_first)] W := h
  have e : Rows.laid_unicode_utf8_acceptRanges (H := Unit) = Lib.acceptData := by kernel_rfl
  exact utf8Tabs_of_reads (ρ := Tryd.lays260_ren) Tryd.lays260 ⟨by kernel_rfl, by kernel_rfl, by kernel_rfl, by kernel_rfl, by kernel_rfl, by kernel_rfl, by kernel_rfl⟩ (Pinned.utf8First_eq ▸ Lib.laidMet.reads h' (.tail _ (.head _))) (e ▸ Lib.laidMet.reads h' (.head _))
/-- A text that came in is no longer than memory reaches. -/
theorem strRoom {H : Type} {P : Program} {ts : List TypeId} {ds : List (DataW H)} (h : (DataW.weightsEach P ts ds).all (· ≤ reachBytes) = true) {j : Nat} {t : TypeId} {s : ByteArray} (ht : ts[j]? = some t) (hd : ds[j]? = some (.lit (.string s.data.toList))) : s.size ≤ 140737488355328 := by
  have h1 := List.all_eq_true.1 h s.data.toList.length (DataW.weights_mem_each ht hd _ (by simp [DataW.weights]))
  have h2 := reachBytes_lt
  have h3 : s.data.toList.length ≤ reachBytes := of_decide_eq_true h1
  have h4 : s.size = s.data.toList.length := by rw [Array.length_toList]; rfl
  omega
theorem stu_below {P : Program} {f : FuncId} {args : Array Value} {W : World} {v : Value} (h : Calls P f args W fun e w' => e = .returned v ∧ StU W w') : Calls P f args W fun e w' => e = .returned v ∧ Hid (Below W.heap.size W w') :=
  h.mono fun _ _ h => ⟨h.1, hid (h.2.out.to_below (fun _ h => h.elim) (Nat.le_refl _))⟩
/-- A world for the witness: the tables laid. -/
noncomputable def laidWorldU (os : Os) : World :=
  let w0 := World.holding Tryd.prog os ⟨#[], #[], []⟩
  let put (h : Array Obj) (g : Nat) (cs : Array Value) : Array Obj := h.modify g fun
    | .cells _ t frozen => .cells cs t frozen
    | o => o
  let h1 := put w0.heap 0 (Lib.firstTab.map fun z => Value.int .u8 z).toArray
  let h2 := put h1 1 ((List.range 16).flatMap fun i => [Value.int .u8 (Lib.accLo i), Value.int .u8 (Lib.accHi i)]).toArray
  { w0 with heap := h2 }
end Go.Proofs.YtbbclcllkpabkaaDoor
