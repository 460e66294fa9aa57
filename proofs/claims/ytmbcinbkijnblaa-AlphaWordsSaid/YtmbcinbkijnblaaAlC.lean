/- The signs of a text, one by one. -/
import Derived.Test.YtmbcinbkijnblaaAlB
import Derived.RangeFuncNested
import Derived.RangeFuncBound
import Derived.RangeFuncCalls
import Derived.RangeFuncLeaves
import Derived.Shelf.Abstract
import Derived.Shelf.RegionOpen
import Derived.WalkKit
import Derived.OwnWalkIn
import Derived.TacticsInMore
import Derived.LoopNIn
import Derived.LoopIn
namespace Go.Proofs.Ytmbcinbkijnblaa
open Go.RowKit Go.Shelf
attribute [local go_sem] Oper.semAt_some

/-- The signs of a text: its bytes, the end. -/
def sgB (s : ByteArray) (i : Nat) : Nat := s[i]!.toNat
def sgT (s : ByteArray) : List (Fin 257) := (List.range s.size).map (fun i => (⟨s[i]!.toNat + 1, by have := s[i]!.toNat_lt; omega⟩ : Fin 257)) ++ [0]
def encS (x : Fin 257) : Array Value := #[.int .i64 ((x.val : Nat) : Int)]
theorem sgT_len (s : ByteArray) : (sgT s).length = s.size + 1 := by simp [sgT]
theorem sgT_take {s : ByteArray} {i : Nat} (h : i < s.size) : (sgT s).take (i + 1) = (sgT s).take i ++ [(⟨s[i]!.toNat + 1, by have := s[i]!.toNat_lt; omega⟩ : Fin 257)] := by
  rw [List.take_add_one]
  congr 1
  simp [sgT, List.getElem?_append_left, h]
theorem sgT_end (s : ByteArray) : (sgT s).take s.size ++ [0] = sgT s := by
  unfold sgT
  rw [List.take_append_of_le_length (by simp), List.take_of_length_le (by simp)]
/-- The text's cell stays. -/
def KpS (Bn : Nat) (s : ByteArray) (W W' : World) : Prop := W.cell? ⟨Bn, 0, none⟩ = some (.string s) → W'.cell? ⟨Bn, 0, none⟩ = some (.string s)
theorem kpS_t {Bn : Nat} {s : ByteArray} {A B C : World} (h : KpS Bn s A B) (k : KpS Bn s B C) : KpS Bn s A C := fun hc => k (h hc)
theorem kpS_b {Bn : Nat} {s : ByteArray} {b : Nat} : ∀ (W : World) (l : Nat) (o o' : Obj), b ≤ l → W.heap[l]? = some o → o.isCells = false → o.isWalk = false → KpS Bn s W (W.putObj l o') := fun W l o o' _ ho hc _ h =>
  cell_kept h (grownBy_putObj' W l o') (fun r e => by cases e; exact ⟨o, ho, hc⟩)
set_option maxRecDepth 100000 in
set_option maxHeartbeats 1000000 in
theorem iter_in (n : Nat) (hn : 2 ≤ n) (l Bn : Nat) (s : ByteArray) (hsz : s.size ≤ 1000000) (J Jx : List (Fin 257) → World → Prop)
    (hY : ∀ pre x W, J pre W → pre.length < (sgT s).length → YieldAt Fence.wide (n - 1) Try.prog l (encS x) W fun e W' =>
      (e = .returned (.bool true) ∧ J (pre ++ [x]) W' ∧ KpS Bn s W W') ∨ (e = .returned (.bool false) ∧ Jx (pre ++ [x]) W'))
    (W : World) (hBn : W.cell? ⟨Bn, 0, none⟩ = some (.string s)) (h0 : J [] W) :
    CallsIn Fence.wide n Try.prog 93 #[.func (.yield l) #[] #[], .pointer (some ⟨Bn, 0, none⟩)] W fun e W' => (∃ v, e = .returned v) ∧
      ((∃ ys, ys = sgT s ∧ J ys W') ∨ (∃ pre, pre <+: sgT s ∧ Jx pre W')) := by
  have h1n : 1 ≤ n := by omega
  have hfn : Fence.wide.fn 94 := trivial
  refine callsIn_of_wp Try.func93 rfl trivial ?_ rfl
  simp only [Try.ntmps93, List.size_toArray, List.length_cons, List.length_nil, Nat.reduceAdd, Nat.reduceSub, Array.replicate_succ, Array.replicate_zero, List.push_toArray, List.append_toArray, List.nil_append, List.cons_append]
  gi_wp2
  gi_loopw [6] (fun v wr => ∃ k : Nat, k ≤ s.size ∧ v = .int .i64 (k : Int) ∧ J ((sgT s).take k) wr ∧ wr.cell? ⟨Bn, 0, none⟩ = some (.string s)) (fun v _ => s.size - (intOf v).toNat)
  case atStart => exact ⟨0, by omega, rfl, by simpa using h0, hBn⟩
  case round =>
    obtain ⟨k, hk, rfl, hJ, hc⟩ := hrel
    clear hBn
    by_cases hp : k < s.size
    · have hp' : (k : Int) < (s.size : Int) := by omega
      obtain ⟨fn, tmps, assign, body, hy, hR⟩ := hY ((sgT s).take k) ⟨s[k]!.toNat + 1, by have := s[k]!.toNat_lt; omega⟩ wr hJ (by rw [sgT_len, List.length_take, sgT_len]; omega)
      rw [← sgT_take hp] at hR
      have hb : s[k]!.toNat < 256 := s[k]!.toNat_lt
      have hix : ∀ W, (Instr.index 9 (.string s) (.int .i64 (k : Int))).run Try.prog W = .ok (.int .u8 ((s[k]!.toNat : Nat) : Int)) W := fun W => by
        rw [run_index_string W 9 s .i64 (k : Int) Try.underlying9, dif_pos ⟨by omega, hp'⟩]
        simp [hp]
      unfold encS at hy
      dsimp only at hy
      have HSo := hid fun W => signOf_any s[k]!.toNat hb W
      generalize s[k]!.toNat = b at *
      have hb1 : ((b + 1 : Nat) : Int) = (b : Int) + 1 := by omega
      rw [hb1] at hy
      gi_wp2_with (gi_at_call 94; refine (callsIn_wide.2 (HSo.out _)).mono ?_; rintro e w' ⟨rfl, rfl⟩)
      refine hR.mono ?_
      rintro e W3 (⟨rfl, hJ3, hk3⟩ | ⟨rfl, hJx3⟩)
      · have hc3 : W3.cell? ⟨Bn, 0, none⟩ = some (.string s) := hk3 hc
        gi_wp2
        go_roundw
        case rel => exact ⟨k + 1, by omega, by go_num, hJ3, hc3⟩
        case measure => simp [intOf]; omega
      · gi_wp2
        refine bodyPost_ret (results_none rfl _ _ _) rfl ?_
        exact ⟨⟨_, rfl⟩, .inr ⟨_, List.take_prefix _ _, hJx3⟩⟩
    · obtain rfl : k = s.size := by omega
      obtain ⟨fn, tmps, assign, body, hy, hR⟩ := hY ((sgT s).take s.size) 0 wr hJ (by rw [sgT_len, List.length_take, sgT_len]; omega)
      rw [sgT_end] at hR
      unfold encS at hy
      have hz0 : (((0 : Fin 257).val : Nat) : Int) = 0 := rfl
      rw [hz0] at hy
      gi_wp2
      refine hR.mono ?_
      rintro e W3 (⟨rfl, hJ3, hk3⟩ | ⟨rfl, hJx3⟩)
      · gi_wp2
        go_end0
        exact ⟨⟨_, rfl⟩, .inl ⟨_, rfl, hJ3⟩⟩
      · gi_wp2
        go_end0
        exact ⟨⟨_, rfl⟩, .inr ⟨_, List.prefix_refl _, hJx3⟩⟩
theorem signsOf_any (s : ByteArray) (w : World) : Calls Try.prog 63 #[.string s] w fun e w' => e = .returned (.func (.func 93) #[] #[.pointer (some ⟨w.heap.size, 0, none⟩)]) ∧ w' = w.alloc (.cells #[.string s] 9) := by
  go_enter Try.func63, Try.ntmps63
  go_wp2
  go_ret
  exact ⟨rfl, rfl⟩
theorem sg_stops (n : Nat) (hn : 2 ≤ n) (Bn : Nat) (s : ByteArray) (hsz : s.size ≤ 1000000) (w : World) (hBn : Bn < w.heap.size) (hc : w.cell? ⟨Bn, 0, none⟩ = some (.string s)) :
    SeqStopsK Fence.wide n Try.prog 93 #[.pointer (some ⟨Bn, 0, none⟩)] encS (KpS Bn s) (fun ys => ys = sgT s) (fun pre => pre <+: sgT s) (sgT s).length w := fun l J Jx W hW _ _ hY h0 =>
  iter_in n hn l Bn s hsz J Jx hY W ((hW.cell (p := ⟨Bn, 0, none⟩) hBn).trans hc) h0
end Go.Proofs.Ytmbcinbkijnblaa
