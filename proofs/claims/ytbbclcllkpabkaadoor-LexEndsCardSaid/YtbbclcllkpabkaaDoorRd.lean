/- Slices that read as something; a machine's words as natural numbers. No program. -/
import Derived.Test.YtbbclcllkpabkaaDoorBase
import Derived.Test.YtbbclcllkpabkaaDoorBit
import Derived.Laws.BitsAllLaws
import Derived.Laws.BitsLemmas
import Derived.Laws.Bits64
namespace Go.Proofs.YtbbclcllkpabkaaDoor
open Go.RowKit

theorem no_ : ¬ False := fun h => h
theorem cell_lt {w : World} {p : Addr} {v : Value} (h : w.cell? p = some v) : p.block < w.heap.size := by
  unfold World.cell? at h
  rcases Nat.lt_or_ge p.block w.heap.size with h2 | h2
  · exact h2
  · rw [Array.getElem?_eq_none h2] at h
    cases h
/-- A slice whose first L elements, of one cell each, read so. -/
def RdV (w : World) (A : Option Addr) (L : Nat) (V : Nat → Value) : Prop := 0 < L → ∃ b off, A = some ⟨b, off, none⟩ ∧ ∀ j, j < L → w.cell? ⟨b, off + j, none⟩ = some (V j)
section
variable {w w' : World} {A : Option Addr} {L : Nat} {V : Nat → Value}
theorem RdV.at (h : RdV w A L V) {k : Nat} (hk : k < L) : ∃ b off, A = some ⟨b, off, none⟩ ∧ w.cell? ⟨b, off + k, none⟩ = some (V k) ∧ b < w.heap.size := by
  obtain ⟨b, off, e, hc⟩ := h (by omega)
  exact ⟨b, off, e, hc k hk, cell_lt (hc k hk)⟩
theorem RdV.only {S : Nat → Prop} (h : RdV w A L V) (ho : Only S w w') (hS : ∀ b off, A = some ⟨b, off, none⟩ → ¬ S b) : RdV w' A L V := by
  intro h0
  obtain ⟨b, off, e, hc⟩ := h h0
  refine ⟨b, off, e, fun j hj => ?_⟩
  rw [ho.cell (cell_lt (hc j hj)) (hS b off e), hc j hj]
theorem RdV.below (h : RdV w A L V) (hb : Below w.heap.size w w') : RdV w' A L V := by
  intro h0
  obtain ⟨b, off, e, hc⟩ := h h0
  refine ⟨b, off, e, fun j hj => ?_⟩
  rw [hb.cell (cell_lt (hc j hj)), hc j hj]
theorem RdV.drewN (h : RdV w A L V) (k : Nat) : RdV (w.drewN k) A L V := h
theorem RdV.congr {V' : Nat → Value} (h : RdV w A L V) (e : ∀ j, j < L → V j = V' j) : RdV w A L V' := by
  intro h0
  obtain ⟨b, off, ha, hc⟩ := h h0
  exact ⟨b, off, ha, fun j hj => by rw [← e j hj]; exact hc j hj⟩
theorem RdV.take (h : RdV w A L V) {k : Nat} (hk : k ≤ L) : RdV w A k V := by
  intro h0
  obtain ⟨b, off, ha, hc⟩ := h (by omega)
  exact ⟨b, off, ha, fun j hj => hc j (by omega)⟩
theorem RdV.nil (V : Nat → Value) : RdV w A 0 V := fun h => absurd h (by omega)
theorem RdV.of_row {g : Nat} {t : TypeId} {n : Nat} (h : w.rowIs g t n V) : RdV w (some ⟨g, 0, none⟩) n V := fun _ => ⟨g, 0, rfl, fun j hj => by rw [Nat.zero_add]; exact h.cell hj⟩
end
def vI (zs : List Int) (j : Nat) : Value := .int .i64 (zs.getD j 0)
def vY (bs : List Nat) (j : Nat) : Value := .int .u8 ((bs.getD j 0 : Nat) : Int)
def vB (xs : List Bool) (j : Nat) : Value := .bool (xs.getD j false)
/-- A slice that reads as ints, as bytes, as bits. -/
abbrev RdI (w : World) (A : Option Addr) (zs : List Int) : Prop := RdV w A zs.length (vI zs)
def Byts (bs : List Nat) : Prop := ∀ j, bs.getD j 0 < 256
abbrev RdY (w : World) (A : Option Addr) (bs : List Nat) : Prop := RdV w A bs.length (vY bs)
abbrev RdB (w : World) (A : Option Addr) (xs : List Bool) : Prop := RdV w A xs.length (vB xs)

theorem getDn_far (bs : List Nat) (i : Nat) (h : bs.length ≤ i) : bs.getD i 0 = 0 := by simp [List.getD, List.getElem?_eq_none h]
theorem getDi_far (zs : List Int) (i : Nat) (h : zs.length ≤ i) : zs.getD i 0 = 0 := by simp [List.getD, List.getElem?_eq_none h]
theorem getD_mem {zs : List Int} {k : Nat} (h : k < zs.length) : zs.getD k 0 ∈ zs := by simp [List.getD, h]
theorem take_getD {zs : List Int} {k : Nat} (h : k < zs.length) : zs.take (k + 1) = zs.take k ++ [zs.getD k 0] := by
  rw [List.take_succ_eq_append_getElem h]; simp [List.getD, h]

/-! A machine's words. -/
theorem wrapU (n : Nat) : IntKind.u64.wrap (n : Int) = ((n % 2 ^ 64 : Nat) : Int) := by rw [IntKind.wrap_u64]; omega
theorem wrapU_fit (n : Nat) (h : n < 18446744073709551616) : IntKind.u64.wrap (n : Int) = (n : Int) := by rw [IntKind.wrap_u64]; omega
theorem shlU (x s : Nat) : IntKind.u64.wrap ((x : Int) * 2 ^ s) = ((x * 2 ^ s % 2 ^ 64 : Nat) : Int) := by
  have e : (x : Int) * 2 ^ s = ((x * 2 ^ s : Nat) : Int) := by simp
  rw [e, wrapU]
theorem divU (x s : Nat) : (x : Int) / 2 ^ s = ((x / 2 ^ s : Nat) : Int) := by simp
theorem mod_lt64 (x : Nat) : x % 2 ^ 64 < 18446744073709551616 := Nat.mod_lt _ (by decide)
theorem div_lt64 {x : Nat} (s : Nat) (h : x < 18446744073709551616) : x / 2 ^ s < 18446744073709551616 := Nat.lt_of_le_of_lt (Nat.div_le_self _ _) h
theorem orU_shl (x y s : Nat) (hx : x < 18446744073709551616) : bits .or .u64 (x : Int) (IntKind.u64.wrap ((y : Int) * 2 ^ s)) = ((x ||| y * 2 ^ s % 2 ^ 64 : Nat) : Int) := by
  rw [shlU]; exact u64_or_nat x _ hx (mod_lt64 _)
theorem orU_shr (x y s : Nat) (hx : x < 18446744073709551616) (hy : y < 18446744073709551616) : bits .or .u64 (x : Int) ((y : Int) / 2 ^ s) = ((x ||| y / 2 ^ s : Nat) : Int) := by
  rw [divU]; exact u64_or_nat x _ hx (div_lt64 s hy)

end Go.Proofs.YtbbclcllkpabkaaDoor
