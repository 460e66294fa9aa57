/- Text, Raw. -/
import Derived.Test.YtefcnaccemefnaaGreatDoorUt5
import Derived.Test.YtefcnaccemefnaaGreatDoorRowI
import Derived.Shelf.Strings.Runes
import Derived.Shelf.Utf8.AppendRunePlain
import Derived.Laws.BytesArg
import Derived.Laws.Runes
import Derived.Lib.OthersKept
import Derived.Deep.LoopGhost
namespace Go.Proofs.YtefcnaccemefnaaGreatDoor
open Go.RowKit U G

theorem rune_enc {n : Nat} (h : sgn n) : Lib.encodeRuneZ (n : Int) = (encN n).map fun x : Nat => (x : Int) := by
  unfold sgn at h
  unfold encN
  by_cases h1 : n ≤ 127
  · rw [Lib.encodeRuneZ_one (by omega) (by omega), if_pos h1]; rfl
  · by_cases h2 : n ≤ 2047
    · rw [if_neg h1, if_pos h2, show Lib.encodeRuneZ (n : Int) = [192 + (n : Int) / 64, 128 + (n : Int) % 64] from Lib.encodeRuneZ_two (by omega) (by omega)]
      simp
    · by_cases h3 : n ≤ 65535
      · rw [if_neg h1, if_neg h2, if_pos h3, show Lib.encodeRuneZ (n : Int) = [224 + (n : Int) / 4096, 128 + (n : Int) / 64 % 64, 128 + (n : Int) % 64] from Lib.encodeRuneZ_three (by omega)]
        simp
      · rw [if_neg h1, if_neg h2, if_neg h3, show Lib.encodeRuneZ (n : Int) = [240 + (n : Int) / 262144, 128 + (n : Int) / 4096 % 64, 128 + (n : Int) / 64 % 64, 128 + (n : Int) % 64] from Lib.encodeRuneZ_four (by omega) (by omega)]
        simp
def yvs (l : List Nat) : List Value := l.map fun n : Nat => Value.int .u8 (n : Int)
theorem yvs_len (l : List Nat) : (yvs l).length = l.length := by simp [yvs]
theorem rune_cells {n : Nat} (h : sgn n) : Lib.runeCells (n : Int) = yvs (encN n) := by
  unfold Lib.runeCells yvs
  rw [rune_enc h, List.map_map]
  rfl
/-- The text of bytes. -/
def strB (l : List Nat) : ByteArray := strOfNums (l.map fun n : Nat => (n : Int))
theorem bl_strB {l : List Nat} (h : Bys l) : bl (strB l) = l := by
  unfold bl strB
  rw [strOfNums_data, List.map_map, List.map_map]
  refine (List.map_congr_left fun x hx => ?_).trans (List.map_id l)
  have := h x hx
  simp
  omega
theorem strB_bl (s : ByteArray) : strB (bl s) = s := bl_inj (bl_strB (bl_bys s))
def natZ (zs : List Int) : List Nat := zs.map Int.toNat
def allSg (zs : List Int) : Bool := zs.all isZ
theorem encL_app (a b : List Nat) : encL (a ++ b) = encL a ++ encL b := by simp [encL]
theorem encL_len (a : List Nat) : (encL a).length ≤ 4 * a.length := by
  induction a with
  | nil => simp [encL]
  | cons n a ih =>
    have e : encL (n :: a) = encN n ++ encL a := by simp [encL]
    have := (encN_len n).2
    rw [e, List.length_append, List.length_cons]
    omega
theorem encL_bys {ns : List Nat} (h : ∀ n ∈ ns, sgn n) : Bys (encL ns) := fun x hx => by
  obtain ⟨n, hn, hx⟩ := List.mem_flatMap.1 hx
  exact encN_bys (h n hn) x hx
/-- What Text answers. -/
def TextE (w : World) (zs : List Int) (e : Ending) (w' : World) : Prop :=
  StU w w' ∧ e = (if allSg zs then .returned (.tuple #[.string (strB (encL (natZ zs))), .int .i64 0]) else .returned (.tuple #[.string ByteArray.empty, .int .i64 11]))
/-- Bytes so far. -/
structure TxS (w wr : World) (v : Value) (l : List Nat) : Prop where
  own : OwG 5 w wr v (yvs l)
  only : Only (fun _ => False) w wr
theorem own_only {w w1 w2 : World} {o : Obj} {e : TypeId} {v : Value} {xs : List Value} (h : Only (fun _ => False) w w1) (hown : OwG e w w1 v xs) (hg : (w1.alloc o).grownBy w2 v.ownBlock) : Only (fun _ => False) w w2 := by
  refine (h.alloc o).grown hg fun k hk => .inr ?_
  exact (own_block hown.own hk).1
end Go.Proofs.YtefcnaccemefnaaGreatDoor
