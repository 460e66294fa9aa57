/- Signs, Label, Tag. -/
import Derived.Test.YtefcnaccemefnaaGreatDoorUt3
import Derived.Test.YtefcnaccemefnaaGreatDoorOg
import Derived.Shelf.Abstract
import Derived.BigQuiet
namespace Go.Proofs.YtefcnaccemefnaaGreatDoor
open Go.RowKit U G

theorem such_is : Such 99 isZ := ⟨enters_of Tryz.func99 (by kernel_rfl) rfl, is_any⟩
theorem such_opens : Such 58 opnZ := ⟨enters_of Tryz.func58 (by kernel_rfl) rfl, opensLabel_any⟩
theorem such_letter : Such 60 letZ := ⟨enters_of Tryz.func60 (by kernel_rfl) rfl, isLetter_any⟩
theorem such_point : Such 61 ptZ := ⟨enters_of Tryz.func61 (by kernel_rfl) rfl, isPoint_any⟩
theorem such_hyphen : Such 63 hyZ := ⟨enters_of Tryz.func63 (by kernel_rfl) rfl, isHyphen_any⟩
theorem such_latin : Such 62 latZ := ⟨enters_of Tryz.func62 (by kernel_rfl) rfl, isLatin_any⟩
theorem such_ld : Such 64 ldZ := ⟨enters_of Tryz.func64 (by kernel_rfl) rfl, isLatinOrDigit_any⟩
/-- A new cursor. -/
theorem cu_new (w : World) (s : ByteArray) : CuS (w.alloc (.cells #[.string s, .int .i64 0] 68)) w.heap.size s 0 :=
  World.rowIs_alloc w #[.string s, .int .i64 0] 68 (cuF s 0) (fun i hi => by
    match i, hi with
    | 0, _ => rfl
    | 1, _ => rfl
    | i + 2, hi => exact absurd (show i + 2 < 2 from hi) (by omega))
theorem tb_new {w : World} (h : Tb w) (o : Obj) : Tb (w.alloc o) := h.only ((Only.refl (fun _ => False) w).alloc o) no_ no_
def ivs (ns : List Nat) : List Value := ns.map fun n : Nat => Value.int .i64 (n : Int)
theorem ivs_len (ns : List Nat) : (ivs ns).length = ns.length := by simp [ivs]
/-- Signs so far. -/
structure SgS (w wr : World) (s : ByteArray) (a : Nat) (v : Value) (ns : List Nat) : Prop where
  cu : CuS wr w.heap.size s a
  own : OwG 3 w wr v (ivs ns)
  only : Only (fun _ => False) w wr
theorem only_new {w w1 w2 : World} (h : Only (fun _ => False) w w1) (k : Only (fun j => j = w.heap.size) w1 w2) : Only (fun _ => False) w w2 :=
  ((h.mono (S' := fun j => j = w.heap.size) fun _ _ h => h.elim).trans k).mono fun j hj e => by omega
theorem ty_ne {w : World} {c n : Nat} {t t' : TypeId} {f : Nat → Value} (h : w.rowIs c t n f) (hne : t' ≠ t) : ∀ k, TyAt w k (fun x => x = t') → ¬ k = c := by
  rintro k hk rfl
  exact TyAt.not_row (T := fun x => x = t') h (fun e => hne e.symm) hk
theorem SgS.next {w wr w' : World} {s : ByteArray} {a a' : Nat} {v : Value} {ns : List Nat} (h : SgS w wr s a v ns) (hc : CuS w' w.heap.size s a') (o : Only (fun k => k = w.heap.size) wr w') : SgS w w' s a' v ns :=
  ⟨hc, h.own.fr o fun k hk _ => ty_ne h.cu (by decide) k hk, only_new h.only o⟩
theorem SgS.same {w wr w' : World} {s : ByteArray} {a : Nat} {v : Value} {ns : List Nat} (h : SgS w wr s a v ns) (o : Only (fun _ => False) wr w') : SgS w w' s a v ns :=
  h.next (o.row h.cu no_) (o.mono fun _ _ h => h.elim)
theorem SgS.add {w wr w' : World} {s : ByteArray} {a n : Nat} {v v' : Value} {ns : List Nat} (h : SgS w wr s a v ns) (hown : OwG 3 w w' v' (ivs ns ++ [.int .i64 (n : Int)])) (o : FrT (fun k => k = 3) w.heap.size wr w') : SgS w w' s a v' (ns ++ [n]) :=
  ⟨o.row h.cu (by decide), by simpa [ivs] using hown, by
    have h1 := h.only
    exact ⟨o.os.trans h1.os, o.tape.trans h1.tape, o.output.trans h1.output, Nat.le_trans h1.size o.size, fun i hi _ => (o.block i (Nat.lt_of_lt_of_le hi h1.size) (fun hk => by have := hk.1; omega)).trans (h1.block i hi no_)⟩⟩
def iNs (ns : List Nat) : List Int := ns.map fun n : Nat => (n : Int)
theorem iNs_len (ns : List Nat) : (iNs ns).length = ns.length := by simp [iNs]
/-- What Signs answers. -/
def SignsE (w : World) (s : ByteArray) (e : Ending) (w' : World) : Prop :=
  StU w w' ∧ (((sgsL (bl s)).2 = s.size ∧ ∃ A cap, e = .returned (.tuple #[.slice A (sgsL (bl s)).1.length cap, .int .i64 0, .int .i64 0]) ∧ Hid (RdI w' A (iNs (sgsL (bl s)).1) ∧ (A = none → (sgsL (bl s)).1.length = 0 ∧ cap = 0) ∧ (sgsL (bl s)).1.length ≤ cap)) ∨
    ((sgsL (bl s)).2 < s.size ∧ e = .returned (.tuple #[.slice none 0 0, .int .i64 (((sgsL (bl s)).2 : Nat) : Int), .int .i64 11])))
theorem intInfoU : (Tryz.prog.info? 3).map (fun i => (i.zero, i.size, i.bytes)) = some (some (.int .i64 0), 1, 8) := by kernel_rfl
theorem SgS.done {w wr : World} {s : ByteArray} {a : Nat} {v : Value} {ns : List Nat} (h : SgS w wr s a v ns) : ∃ A cap, v = .slice A ns.length cap ∧ RdI wr A (iNs ns) ∧ (A = none → ns.length = 0 ∧ cap = 0) ∧ ns.length ≤ cap := by
  obtain ⟨A, cap, h1, h2, h3, h4, _⟩ := h.own.rd
  rw [ivs_len] at h1 h2 h3 h4
  refine ⟨A, cap, h1, ?_, h3, h4⟩
  show RdV wr A (iNs ns).length (vI (iNs ns))
  rw [iNs_len]
  refine h2.congr fun j hj => ?_
  simp [ivs, iNs, vI, List.getD, hj]
end Go.Proofs.YtefcnaccemefnaaGreatDoor
