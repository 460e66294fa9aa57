/- The document's rows: Read. -/
import Derived.Test.YtimkclmaglofaaaPkB
import Derived.Test.YtimkclmaglofaaaPk8
import Derived.Test.YtimkclmaglofaaaKtL
namespace Go.Proofs.Ytimkclmaglofaaa
open Go.RowKit
open Bit

/-! Numbers laid so far, bit by bit. -/
def fR (P : Nat) (f : Nat → Bool) (j : Nat) : Bool := decide (j < P) && f j
theorem fR_in {P : Nat} (f : Nat → Bool) {j : Nat} (h : j < P) : fR P f j = f j := by simp [fR, h]
theorem fR_out {P : Nat} (f : Nat → Bool) {j : Nat} (h : P ≤ j) : fR P f j = false := by
  have : ¬ j < P := by omega
  simp [fR, this]
theorem dig_part (f : Nat → Bool) {wd m : Nat} (q : Nat) (hm : m ≤ wd) : dig (fH f (wd * q + m)) wd q = ofB f (wd * q) m := by
  apply Nat.eq_of_testBit_eq
  intro i
  rw [testBit_dig, testBit_ofB]
  unfold fH
  have e : decide (wd * q + i < wd * q + m) = decide (i < m) := by rw [decide_eq_decide]; omega
  rw [e]
  by_cases h : i < m
  · have : i < wd := by omega
    simp [h, this]
  · simp [h]
theorem dig_before (f : Nat → Bool) {wd i j : Nat} (h : wd * (j + 1) ≤ i) : dig (fH f (i + 1)) wd j = dig (fH f i) wd j :=
  ofB_ext fun t ht => fH_same f (by rw [Nat.mul_succ] at h; omega)
def bitN (b : Bool) : Nat := if b then 1 else 0
theorem bitN_le (b : Bool) : bitN b ≤ 1 := by cases b <;> simp [bitN]
theorem dig_next (f : Nat → Bool) {wd m : Nat} (q : Nat) (hm : m < wd) : dig (fH f (wd * q + m + 1)) wd q = dig (fH f (wd * q + m)) wd q + bitN (f (wd * q + m)) * 2 ^ m := by
  rw [show wd * q + m + 1 = wd * q + (m + 1) by omega, dig_part f q (by omega), dig_part f q (by omega)]
  simp only [ofB]
  cases f (wd * q + m) <;> simp [bitN]
theorem dig_room (f : Nat → Bool) {wd m : Nat} (q : Nat) (hm : m ≤ wd) : dig (fH f (wd * q + m)) wd q < 2 ^ m := by
  rw [dig_part f q hm]; exact ofB_lt f _ m
def cnt (wd i : Nat) : Nat := (i + (wd - 1)) / wd
theorem cnt_at {wd : Nat} (h : 1 ≤ wd) (q : Nat) : cnt wd (wd * q) = q := by
  unfold cnt
  rw [Nat.mul_add_div (by omega), Nat.div_eq_of_lt (by omega)]; rfl
theorem cnt_next {wd m : Nat} (q : Nat) (h : m < wd) : cnt wd (wd * q + m + 1) = q + 1 := by
  unfold cnt
  rw [show wd * q + m + 1 + (wd - 1) = wd * (q + 1) + m by rw [Nat.mul_succ]; omega, Nat.mul_add_div (by omega), Nat.div_eq_of_lt h]
theorem bit_int (y s : Nat) : ((y : Int) / 2 ^ s).tmod 2 = ((bitN (y.testBit s) : Nat) : Int) := by
  rw [divU, Nat.testBit_eq_decide_div_mod_eq]
  generalize y / 2 ^ s = q
  rw [Int.tmod_eq_emod_of_nonneg (by omega)]
  by_cases h : q % 2 = 1
  · simp [bitN, h]; omega
  · simp [bitN, h]; omega

theorem own_of_block {w w' : World} {base : Nat} {e : TypeId} {s : Nat} {v : Value} {n : Nat} {xs : List Value} (h : w.ownsRow base e s v n xs) (hb : ∀ g, base ≤ g → g < w.heap.size → w'.heap[g]? = w.heap[g]?) : w'.ownsRow base e s v n xs := by
  refine ⟨h.1, ?_⟩
  rcases h.2 with h2 | ⟨g, cap, cur, hv, hge, hh, hr⟩
  · exact .inl h2
  · have hg : g < w.heap.size := by
      rcases Nat.lt_or_ge g w.heap.size with a | a
      · exact a
      · rw [Array.getElem?_eq_none a] at hh; cases hh
    exact .inr ⟨g, cap, cur, hv, hge, by rw [hb g hge hg]; exact hh, hr⟩
/-- What owns a row of one-cell elements, one at least: its block, its elements. -/
theorem own_at {w : World} {base : Nat} {t : TypeId} {v : Value} {n : Nat} {V : Nat → Value} (h : w.ownsRow base t 1 v n (valsL V n)) (hn : 0 < n) :
    ∃ g cap F, v = .slice (some ⟨g, 0, none⟩) n cap ∧ base ≤ g ∧ w.rowIs g t cap F ∧ (∀ j, j < n → F j = V j) ∧ n ≤ cap ∧ cap ≤ maxLen := by
  rcases h.2 with ⟨_, h2⟩ | ⟨g, cap, cur, hv, hge, hh, hle, hcm, hsz, ht⟩
  · omega
  · obtain ⟨F, hF, hF2⟩ := own_rowV hh hsz ht
    exact ⟨g, cap, F, hv, hge, hF, hF2, hle, hcm⟩
theorem own_mk {w : World} {base g cap : Nat} {t : TypeId} {n : Nat} {V F : Nat → Value} (hge : base ≤ g) (hr : w.rowIs g t cap F) (hF : ∀ j, j < n → F j = V j) (hle : n ≤ cap) (hcm : cap ≤ maxLen) :
    w.ownsRow base t 1 (.slice (some ⟨g, 0, none⟩) n cap) n (valsL V n) := by
  obtain ⟨cur, hh, hsz, hc⟩ := hr
  refine ⟨by rw [valsL_len, Nat.mul_one], .inr ⟨g, cap, cur, rfl, hge, hh, hle, hcm, by omega, ?_⟩⟩
  apply List.ext_getElem?
  intro j
  rw [Nat.mul_one]
  by_cases hj : j < n
  · rw [valsL_get hj, List.getElem?_take_of_lt hj, ← hF j hj, ← hc j (by omega)]; simp
  · rw [List.getElem?_eq_none (by rw [List.length_take]; omega), List.getElem?_eq_none (by rw [valsL_len]; omega)]

def rcl (wd : Nat) (v : Value) : Nat → Value
  | 0 => .int .i64 ((wd : Nat) : Int)
  | _ => v
def vN (V : Nat → Nat) (j : Nat) : Value := .int .i64 ((V j : Nat) : Int)
/-- The row so far: k numbers, V. -/
structure RdS (w wr : World) (v : Value) (wd k : Nat) (V : Nat → Nat) : Prop where
  self : wr.rowIs w.heap.size 70 2 (rcl wd v)
  own : wr.ownsRow (w.heap.size + 1) 3 1 v k (valsL (vN V) k)
  only : Only (fun _ => False) w wr
theorem RdS.begin (w : World) (wd : Nat) (V : Nat → Nat) : RdS w (w.alloc (.cells #[.int .i64 (wd : Int), .slice none 0 0] 70)) (.slice none 0 0) wd 0 V :=
  ⟨World.rowIs_alloc w _ _ _ (fun i hi => by
    match i, hi with
    | 0, _ => rfl
    | 1, _ => rfl
    | i + 2, hi => exact absurd (show i + 2 < 2 from hi) (by omega)), ⟨rfl, .inl ⟨rfl, rfl⟩⟩, (Only.refl _ w).alloc _⟩
theorem RdS.congr {w wr : World} {v : Value} {wd k : Nat} {V V' : Nat → Nat} (h : RdS w wr v wd k V) (e : ∀ j, j < k → V j = V' j) : RdS w wr v wd k V' := by
  refine ⟨h.self, ?_, h.only⟩
  have : valsL (vN V) k = valsL (vN V') k := List.map_congr_left fun j hj => by unfold vN; rw [e j (List.mem_range.1 hj)]
  rw [← this]; exact h.own
theorem RdS.push {w wr w2 : World} {v v' : Value} {wd k : Nat} {V V' : Nat → Nat} {o : Obj} {x : Nat} (h : RdS w wr v wd k V) (ho : w2.ownsRow (w.heap.size + 1) 3 1 v' (k + 1) (valsL (vN V) k ++ [.int .i64 (x : Int)])) (hg : (wr.alloc o).grownBy w2 v.ownBlock)
    (hne : ∀ b, v.ownBlock = some b → w.heap.size + 1 ≤ b) (e : ∀ j, j < k → V j = V' j) (ex : x = V' k) : RdS w (w2.setCell ⟨w.heap.size, 1, none⟩ v') v' wd (k + 1) V' := by
  have hr := h.self.alloc o
  have hself : w2.rowIs w.heap.size 70 2 (rcl wd v) := hr.of_block (hg.block _ hr.lt fun he => by have := hne _ he.symm; omega)
  refine ⟨(hself.set 1 v').congr fun i hi => ?_, ?_, ((h.only.alloc o).grown hg (fun b he => .inr (by have := hne b he; omega))).setCell (.inr (Nat.le_refl _)) _⟩
  · match i, hi with
    | 0, _ => rfl
    | 1, _ => rfl
    | i + 2, hi => exact absurd (show i + 2 < 2 from hi) (by omega)
  · have ev : valsL (vN V') (k + 1) = valsL (vN V) k ++ [.int .i64 (x : Int)] := by
      unfold valsL
      rw [List.range_succ, List.map_append]
      congr 1
      · exact (List.map_congr_left fun j hj => by unfold vN; rw [e j (List.mem_range.1 hj)]).symm
      · simp [vN, ex]
    rw [ev]
    exact own_of_block ho fun g hge _ => Below.heap_setCell w2 _ _ g (by simp; omega)
theorem RdS.store {w wr : World} {wd k g cap q x : Nat} {V V' : Nat → Nat} {F : Nat → Value} (h : RdS w wr (.slice (some ⟨g, 0, none⟩) k cap) wd k V) (hge : w.heap.size + 1 ≤ g) (hF : wr.rowIs g 3 cap F) (hFV : ∀ j, j < k → F j = vN V j) (hle : k ≤ cap) (hcm : cap ≤ maxLen)
    (e : ∀ j, j < k → j ≠ q → V j = V' j) (ex : x = V' q) : RdS w (wr.setCell ⟨g, q, none⟩ (.int .i64 (x : Int))) (.slice (some ⟨g, 0, none⟩) k cap) wd k V' := by
  refine ⟨h.self.setOther (by simp; omega) _, own_mk hge (hF.set q _) (fun j hj => ?_) hle hcm, h.only.setCell (.inr (by simp; omega)) _⟩
  by_cases hq : j = q
  · subst hq; rw [if_pos rfl]; simp [vN, ex]
  · rw [if_neg hq, hFV j hj]; unfold vN; rw [e j hj hq]
theorem RdS.drew {w wr : World} {v : Value} {wd k : Nat} {V : Nat → Nat} (h : RdS w wr v wd k V) : RdS w wr.drew v wd k V := ⟨h.self, h.own, h.only.drew⟩
theorem RdS.ownB {w wr : World} {v : Value} {wd k : Nat} {V : Nat → Nat} (h : RdS w wr v wd k V) : ∀ b, v.ownBlock = some b → w.heap.size + 1 ≤ b := by
  rcases h.own.2 with ⟨rfl, _⟩ | ⟨g, cap, cur, rfl, hge, _⟩
  · intro b hb; cases hb
  · intro b hb; injection hb with hb; subst hb; exact hge
end Go.Proofs.Ytimkclmaglofaaa
