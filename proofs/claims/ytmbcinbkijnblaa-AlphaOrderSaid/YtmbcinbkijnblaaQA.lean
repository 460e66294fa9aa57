/- codeOf, walked. -/
import Derived.Test.YtmbcinbkijnblaaTk1
import Derived.Test.YtmbcinbkijnblaaTk6
import Derived.Test.YtmbcinbkijnblaaFl1
import Derived.Laws.CopyOwn
import Derived.Test.YtmbcinbkijnblaaFr
import Derived.BigQuiet
import Derived.Deep.RegionHeld3
namespace Go.Proofs.Ytmbcinbkijnblaa
open Go.RowKit

/-- The leaves of a tree, below a beginning. -/
inductive Lv : List Bool → List (List Bool) → Prop
  | one (p : List Bool) : Lv p [p]
  | two {p : List Bool} {us vs : List (List Bool)} : Lv (p ++ [false]) us → Lv (p ++ [true]) vs → Lv p (us ++ vs)
/-- v stands right behind u. -/
def Nx (u v : List Bool) : Prop := ∃ (p : List Bool) (i j : Nat), u = p ++ false :: List.replicate j true ∧ v = p ++ true :: List.replicate i false
/-- u stands ahead of v, and neither begins the other. -/
def Ahd (u v : List Bool) : Prop := ∃ q s t : List Bool, u = q ++ false :: s ∧ v = q ++ true :: t
theorem Lv.pos {p : List Bool} {ws : List (List Bool)} (h : Lv p ws) : 1 ≤ ws.length := by
  induction h with
  | one => simp
  | two _ _ a b => simp; omega
theorem Lv.ext {p : List Bool} {ws : List (List Bool)} (h : Lv p ws) : ∀ u ∈ ws, ∃ s, u = p ++ s := by
  induction h with
  | one p => intro u hu; simp at hu; exact ⟨[], by simp [hu]⟩
  | @two p us vs _ _ a b =>
    intro u hu
    rcases List.mem_append.1 hu with hu | hu
    · obtain ⟨s, rfl⟩ := a u hu; exact ⟨false :: s, by simp⟩
    · obtain ⟨s, rfl⟩ := b u hu; exact ⟨true :: s, by simp⟩
theorem Lv.first {p : List Bool} {ws : List (List Bool)} (h : Lv p ws) : ∃ i, ws.getD 0 [] = p ++ List.replicate i false := by
  induction h with
  | one p => exact ⟨0, by simp⟩
  | @two p us vs ha _ a _ =>
    obtain ⟨i, hi⟩ := a
    have := ha.pos
    refine ⟨i + 1, ?_⟩
    have e : (us ++ vs).getD 0 [] = us.getD 0 [] := by simp [List.getD, List.getElem?_append_left (show 0 < us.length by omega)]
    rw [e, hi]
    simp [List.replicate_succ]
theorem Lv.last {p : List Bool} {ws : List (List Bool)} (h : Lv p ws) : ∃ j, ws.getD (ws.length - 1) [] = p ++ List.replicate j true := by
  induction h with
  | one p => exact ⟨0, by simp⟩
  | @two p us vs ha hb _ b =>
    obtain ⟨j, hj⟩ := b
    have := hb.pos
    refine ⟨j + 1, ?_⟩
    have e : (us ++ vs).getD ((us ++ vs).length - 1) [] = vs.getD (vs.length - 1) [] := by
      simp only [List.getD, List.length_append]
      rw [List.getElem?_append_right (by omega), show us.length + vs.length - 1 - us.length = vs.length - 1 by omega]
    rw [e, hj]
    simp [List.replicate_succ]
theorem getD_left {us vs : List (List Bool)} {k : Nat} (h : k < us.length) : (us ++ vs).getD k [] = us.getD k [] := by simp [List.getD, List.getElem?_append_left h]
theorem getD_right {us vs : List (List Bool)} {k : Nat} (h : us.length ≤ k) : (us ++ vs).getD k [] = vs.getD (k - us.length) [] := by simp [List.getD, List.getElem?_append_right h]
theorem Lv.next {p : List Bool} {ws : List (List Bool)} (h : Lv p ws) : ∀ k, k + 1 < ws.length → Nx (ws.getD k []) (ws.getD (k + 1) []) := by
  induction h with
  | one p => intro k hk; simp at hk
  | @two p us vs ha hb a b =>
    intro k hk
    rw [List.length_append] at hk
    by_cases h1 : k + 1 < us.length
    · rw [getD_left (by omega), getD_left h1]; exact a k h1
    · by_cases h2 : us.length ≤ k
      · rw [getD_right h2, getD_right (by omega), show k + 1 - us.length = k - us.length + 1 by omega]
        exact b _ (by omega)
      · have hu := ha.pos
        have e : k = us.length - 1 := by omega
        rw [getD_left (by omega), getD_right (by omega), show k + 1 - us.length = 0 by omega, e]
        obtain ⟨j, hj⟩ := ha.last
        obtain ⟨i, hi⟩ := hb.first
        exact ⟨p, i, j, by rw [hj]; simp, by rw [hi]; simp⟩
theorem Lv.apart {p : List Bool} {ws : List (List Bool)} (h : Lv p ws) : ∀ i j, i < j → j < ws.length → Ahd (ws.getD i []) (ws.getD j []) := by
  induction h with
  | one p => intro i j hi hj; simp at hj; omega
  | @two p us vs ha hb a b =>
    intro i j hij hj
    rw [List.length_append] at hj
    by_cases h1 : j < us.length
    · rw [getD_left (by omega), getD_left h1]; exact a i j hij h1
    · by_cases h2 : us.length ≤ i
      · rw [getD_right h2, getD_right (by omega)]
        exact b _ _ (by omega) (by omega)
      · rw [getD_left (by omega), getD_right (by omega)]
        obtain ⟨s, hs⟩ := ha.ext (us.getD i []) (getD_mem' (by omega))
        obtain ⟨t, ht⟩ := hb.ext (vs.getD (j - us.length) []) (getD_mem' (by omega))
        exact ⟨p, s, t, by rw [hs]; simp, by rw [ht]; simp⟩
where
  getD_mem' {l : List (List Bool)} {k : Nat} (h : k < l.length) : l.getD k [] ∈ l := by
    simp [List.getD, h]
theorem Lv.full {p : List Bool} {ws : List (List Bool)} (h : Lv p ws) : ∀ s : List Bool, (∃ u ∈ ws, ∃ t, p ++ s = u ++ t) ∨ ∃ u ∈ ws, ∃ b t, u = p ++ s ++ b :: t := by
  induction h with
  | one p => intro s; exact .inl ⟨p, by simp, s, rfl⟩
  | @two p us vs ha hb a b =>
    intro s
    cases s with
    | nil =>
      have h1 := ha.pos
      obtain ⟨t, ht⟩ := ha.ext (us.getD 0 []) (by simp [List.getD, show 0 < us.length by omega])
      exact .inr ⟨us.getD 0 [], by simp [List.getD, show 0 < us.length by omega], false, t, by rw [ht]; simp⟩
    | cons x s =>
      cases x with
      | false =>
        rcases a s with ⟨u, hu, t, ht⟩ | ⟨u, hu, y, t, ht⟩
        · exact .inl ⟨u, List.mem_append_left _ hu, t, by rw [← ht]; simp⟩
        · exact .inr ⟨u, List.mem_append_left _ hu, y, t, by rw [ht]; simp⟩
      | true =>
        rcases b s with ⟨u, hu, t, ht⟩ | ⟨u, hu, y, t, ht⟩
        · exact .inl ⟨u, List.mem_append_right _ hu, t, by rw [← ht]; simp⟩
        · exact .inr ⟨u, List.mem_append_right _ hu, y, t, by rw [ht]; simp⟩
theorem Lv.longer {p : List Bool} {ws : List (List Bool)} (h : Lv p ws) (h2 : 2 ≤ ws.length) : ∀ u ∈ ws, p.length < u.length := by
  cases h with
  | one => simp at h2
  | two ha hb =>
    intro u hu
    rcases List.mem_append.1 hu with hu | hu
    · obtain ⟨s, rfl⟩ := ha.ext u hu; simp
    · obtain ⟨s, rfl⟩ := hb.ext u hu; simp
def lens (ws : List (List Bool)) : List Int := ws.map fun u => ((u.length : Nat) : Int)
theorem Tr.lv {d : Int} {l : List Int} (h : Tr d l) : ∀ p : List Bool, ((p.length : Nat) : Int) = d → ∃ ws, Lv p ws ∧ lens ws = l := by
  induction h with
  | one d => intro p hp; exact ⟨[p], .one p, by simp [lens, hp]⟩
  | two _ _ a b =>
    intro p hp
    obtain ⟨us, hu, hu2⟩ := a (p ++ [false]) (by simp; omega)
    obtain ⟨vs, hv, hv2⟩ := b (p ++ [true]) (by simp; omega)
    exact ⟨us ++ vs, .two hu hv, by rw [← hu2, ← hv2]; simp [lens]⟩
/-- The words of lengths that fit. -/
def WordsOf (ls : List Int) (ws : List (List Bool)) : Prop := (ls = [1] ∧ ws = [[false]]) ∨ (2 ≤ ws.length ∧ Lv [] ws ∧ lens ws = ls)
theorem Fit.words {ls : List Int} (h : Fit ls) : ∃ ws, WordsOf ls ws := by
  rcases h with ⟨_, rfl⟩ | ⟨h2, _, ht⟩
  · exact ⟨[[false]], .inl ⟨rfl, rfl⟩⟩
  · obtain ⟨ws, hw, hl⟩ := ht.lv [] (by simp)
    refine ⟨ws, .inr ⟨?_, hw, hl⟩⟩
    rw [← hl, lens, List.length_map] at h2
    exact h2
section
variable {ls : List Int} {ws : List (List Bool)} (h : WordsOf ls ws)
include h
theorem WordsOf.lens : lens ws = ls := by
  rcases h with ⟨rfl, rfl⟩ | ⟨_, _, h⟩
  · rfl
  · exact h
theorem WordsOf.len : ws.length = ls.length := by rw [← h.lens, Go.Proofs.Ytmbcinbkijnblaa.lens, List.length_map]
theorem WordsOf.pos : 1 ≤ ws.length := by
  rcases h with ⟨rfl, rfl⟩ | ⟨h, _⟩
  · simp
  · omega
theorem WordsOf.first : ws.getD 0 [] = List.replicate (ls.getD 0 0).toNat false := by
  rcases h with ⟨rfl, rfl⟩ | ⟨h2, hw, rfl⟩
  · rfl
  · obtain ⟨i, hi⟩ := hw.first
    rw [List.nil_append] at hi
    have e : (Go.Proofs.Ytmbcinbkijnblaa.lens ws).getD 0 0 = ((ws.getD 0 []).length : Int) := by
      simp [Go.Proofs.Ytmbcinbkijnblaa.lens, List.getD, show 0 < ws.length by omega]
    rw [e, hi]
    simp
theorem WordsOf.next : ∀ k, k + 1 < ws.length → Nx (ws.getD k []) (ws.getD (k + 1) []) := by
  rcases h with ⟨rfl, rfl⟩ | ⟨_, hw, _⟩
  · intro k hk; simp at hk
  · exact hw.next
theorem WordsOf.apart : ∀ i j, i < j → j < ws.length → Ahd (ws.getD i []) (ws.getD j []) := by
  rcases h with ⟨rfl, rfl⟩ | ⟨_, hw, _⟩
  · intro i j hi hj; simp at hj; omega
  · exact hw.apart
theorem WordsOf.long {k : Nat} (hk : k < ws.length) : 1 ≤ (ws.getD k []).length := by
  rcases h with ⟨rfl, rfl⟩ | ⟨h2, hw, _⟩
  · simp at hk; subst hk; simp
  · have := hw.longer h2 (ws.getD k []) (by simp [List.getD, hk])
    exact Nat.succ_le_of_lt (by simpa using this)
theorem WordsOf.length {k : Nat} (hk : k < ws.length) : (((ws.getD k []).length : Nat) : Int) = ls.getD k 0 := by
  rw [← h.lens]
  simp [Go.Proofs.Ytmbcinbkijnblaa.lens, List.getD, hk]
end
theorem Ahd.ne {u v : List Bool} (h : Ahd u v) : u ≠ v := by
  obtain ⟨q, s, t, rfl, rfl⟩ := h
  intro e
  have := List.append_cancel_left e
  simp at this
/-- Neither is the beginning of the other. -/
theorem Ahd.no_begin {u v : List Bool} (h : Ahd u v) : (∀ t, v ≠ u ++ t) ∧ ∀ t, u ≠ v ++ t := by
  obtain ⟨q, s, t, rfl, rfl⟩ := h
  constructor
  · intro r e
    rw [List.append_assoc] at e
    have := List.append_cancel_left e
    simp at this
  · intro r e
    rw [List.append_assoc] at e
    have := List.append_cancel_left e
    simp at this
theorem WordsOf.no_begin {ls : List Int} {ws : List (List Bool)} (h : WordsOf ls ws) {i j : Nat} (hi : i < ws.length) (hj : j < ws.length) (hne : i ≠ j) (t : List Bool) : ws.getD j [] ≠ ws.getD i [] ++ t := by
  rcases Nat.lt_or_gt_of_ne hne with a | a
  · exact (h.apart i j a hj).no_begin.1 t
  · exact (h.apart j i a hi).no_begin.2 t
end Go.Proofs.Ytmbcinbkijnblaa

namespace Go.Proofs.Ytmbcinbkijnblaa
open Go.RowKit

theorem digit_any (b : Bool) (w : World) : Calls Try.prog 102 #[.bool b] w fun e w' => e = .returned (.int .i64 ((b.toNat : Nat) : Int)) ∧ w = w' := by
  cases b
  all_goals
    go_enter Try.func102, Try.ntmps102
    go_wp2
    go_ret
    exact ⟨rfl, rfl⟩
theorem wayTo_any (s : Nat) (hs : s ≤ 1000) (w : World) : Calls Try.prog 109 #[.int .i64 (s : Int)] w fun e w' => e = .returned (.int .i64 (-1 - (s : Int))) ∧ w = w' := by
  have h1 : IntKind.i64.wrap (-1 - (s : Int)) = -1 - (s : Int) := by rw [IntKind.wrap_i64]; omega
  go_enter Try.func109, Try.ntmps109
  go_wp2
  go_ret
  exact ⟨rfl, rfl⟩
theorem waySign_neg (s : Nat) (hs : s ≤ 1000) (w : World) : Calls Try.prog 103 #[.int .i64 (-1 - (s : Int))] w fun e w' => e = .returned (.tuple #[.int .i64 (s : Int), .bool true]) ∧ w = w' := by
  obtain ⟨z, hz⟩ : ∃ z : Int, z = -1 - (s : Int) := ⟨_, rfl⟩
  have h1 : IntKind.i64.wrap (-1 - z) = (s : Int) := by rw [IntKind.wrap_i64]; omega
  have h2 : z < 0 := by omega
  have h3 : -1 - z = (s : Int) := by omega
  rw [← hz]
  clear hz
  go_enter Try.func103, Try.ntmps103
  go_wp2
  go_ret2
  exact ⟨rfl, rfl⟩
theorem waySign_pos (k : Nat) (hk : k ≤ 100000000) (w : World) : Calls Try.prog 103 #[.int .i64 (k : Int)] w fun e w' => e = .returned (.tuple #[.int .i64 (-1 - (k : Int)), .bool false]) ∧ w = w' := by
  have h1 : IntKind.i64.wrap (-1 - (k : Int)) = -1 - (k : Int) := by rw [IntKind.wrap_i64]; omega
  go_enter Try.func103, Try.ntmps103
  go_wp2
  go_ret2
  exact ⟨rfl, rfl⟩
def isSg (z : Int) : Bool := decide (0 ≤ z) && decide (z < 257)
theorem isSign_any (z : Int) (w : World) : Calls Try.prog 74 #[.int .i64 z] w fun e w' => e = .returned (.bool (isSg z)) ∧ w = w' := by
  by_cases h0 : 0 ≤ z
  · go_enter Try.func74, Try.ntmps74
    go_wp2
    go_ret
    exact ⟨ret_bool (by simp [isSg, h0]), rfl⟩
  · go_enter Try.func74, Try.ntmps74
    go_wp2
    go_ret
    exact ⟨ret_bool (by simp [isSg]; omega), rfl⟩
theorem signOf_any (b : Nat) (hb : b < 256) (w : World) : Calls Try.prog 94 #[.int .u8 (b : Int)] w fun e w' => e = .returned (.int .i64 ((b + 1 : Nat) : Int)) ∧ w = w' := by
  have h1 : IntKind.i64.wrap ((b : Int) + 1) = (b : Int) + 1 := by rw [IntKind.wrap_i64]; omega
  have h2 : IntKind.i64.wrap (b : Int) = (b : Int) := by rw [IntKind.wrap_i64]; omega
  go_enter Try.func94, Try.ntmps94
  go_wp2
  go_ret
  exact ⟨by simp, rfl⟩
theorem byteOf_any (b : Nat) (hb : b < 256) (w : World) : Calls Try.prog 70 #[.int .i64 ((b + 1 : Nat) : Int)] w fun e w' => e = .returned (.int .u8 (b : Int)) ∧ w = w' := by
  obtain ⟨z, hz⟩ : ∃ z : Int, z = ((b + 1 : Nat) : Int) := ⟨_, rfl⟩
  rw [← hz]
  have h1 : IntKind.i64.wrap (z - 1) = (b : Int) := by rw [IntKind.wrap_i64]; omega
  have h2 : IntKind.u8.wrap (b : Int) = (b : Int) := by rw [IntKind.wrap_u8]; omega
  have h3 : z - 1 = (b : Int) := by omega
  go_enter Try.func70, Try.ntmps70
  go_wp2
  go_ret
  exact ⟨rfl, rfl⟩
theorem codeInfo : (Try.prog.info? 107).map (fun i => i.size) = some 259 := by kernel_rfl
theorem answered_yes {g : Nat} {w : World} (h : w.cell? ⟨g, 1, none⟩ = some (.pointer (some ⟨g, 0, none⟩))) :
    Calls Try.prog 68 #[.pointer (some ⟨g, 0, none⟩)] w fun e' w' => e' = .returned (.bool true) ∧ w = w' := by
  obtain ⟨j, hj, _⟩ := Option.map_eq_some_iff.1 codeInfo
  have heq := run_eql_ptr_same (P := Try.prog) w (tp := 31) (te := 107) (j := j) ⟨g, 0, none⟩ Try.underlying31 hj
  clear hj
  go_enter Try.func68, Try.ntmps68
  go_wp2
  go_ret
  exact ⟨rfl, rfl⟩
theorem answered_nil {w : World} :
    Calls Try.prog 68 #[.pointer none] w fun e' w' => e' = .returned (.bool false) ∧ w = w' := by
  go_enter Try.func68, Try.ntmps68
  go_wp2
  go_ret
  exact ⟨rfl, rfl⟩
theorem has_any {g s n c : Nat} {A : Option Addr} {w : World} (hs : s < 257) (h : w.cell? ⟨g, 2 + s, none⟩ = some (.slice A n c)) :
    Calls Try.prog 73 #[.pointer (some ⟨g, 0, none⟩), .int .i64 (s : Int)] w fun e' w' => e' = .returned (.bool (decide (0 < n))) ∧ w = w' := by
  have h1 : (s : Int) < 257 := by omega
  go_enter Try.func73, Try.ntmps73
  go_wp2
  go_ret
  exact ⟨ret_bool (by simp), rfl⟩
/-- The last nought of a word. -/
theorem lastNought_any {A : Option Addr} {c m j : Nat} {u : List Bool} {w : World} (hu : RdB w A u) (hl : u.length = m + 1 + j) (hm : u.getD m true = false) (hj : ∀ k, m < k → k < u.length → u.getD k false = true) (hs : u.length ≤ 1000) :
    Calls Try.prog 118 #[.slice A u.length c] w fun e w' => e = .returned (.int .i64 (m : Int)) ∧ w = w' := by
  obtain ⟨b, off, rfl, hc⟩ := hu (by omega)
  have HC := hid hc
  have HM := hid hm
  have HJ := hid hj
  generalize u.length = n at *
  have hn1 : IntKind.i64.wrap ((n : Int) - 1) = (n : Int) - 1 := by rw [IntKind.wrap_i64]; omega
  clear hu hc hm hj
  go_enter Try.func118, Try.ntmps118
  go_wp2
  go_loop [3] (fun s3 => ∃ k : Nat, m ≤ k ∧ k + 1 ≤ n ∧ s3 = .int .i64 (k : Int)) (fun s3 => (intOf s3).toNat)
  case atStart => exact ⟨n - 1, by omega, by omega, by go_num⟩
  case round =>
    obtain ⟨k, hmk, hkn, rfl⟩ := hrel
    have ck := HC.out k (by omega)
    unfold vB at ck
    have hkn' : (k : Int) < (n : Int) := by omega
    by_cases hk : k = m
    · subst hk
      have e : u.getD k false = false := by
        have := HM.out
        simp only [List.getD] at this ⊢
        cases h : u[k]? with
        | none => rfl
        | some x => rw [h] at this; exact this
      rw [e] at ck
      go_wp2
      go_ret
      exact ⟨rfl, rfl⟩
    · have e := HJ.out k (by omega) (by omega)
      rw [e] at ck
      have hk1 : IntKind.i64.wrap ((k : Int) - 1) = (k : Int) - 1 := by rw [IntKind.wrap_i64]; omega
      go_wp2
      go_round
      case rel => exact ⟨k - 1, by omega, by omega, by go_num⟩
      case measure => simp [intOf]; omega
end Go.Proofs.Ytmbcinbkijnblaa

namespace Go.Proofs.Ytmbcinbkijnblaa
open Go.RowKit

theorem boolInfoK : (Try.prog.info? 4).map (fun i => (i.zero, i.size, i.bytes)) = some (some (.bool false), 1, 1) := by kernel_rfl
theorem boolSize : (Try.prog.info? 4).map (·.size) = some 1 := by kernel_rfl
theorem madeList (z : Value) (n : Nat) : madeCells #[z] n = (List.replicate n z).toArray := by
  apply Array.ext'
  apply List.ext_getElem?
  intro j
  by_cases hj : j < n
  · simp [madeCells, hj, Nat.mod_one]
  · rw [List.getElem?_eq_none (by simp [madeCells]; omega), List.getElem?_eq_none (by simp; omega)]
theorem addr_add (b off k : Nat) : (⟨b, off, none⟩ : Addr).add k = ⟨b, off + k, none⟩ := by
  unfold Addr.add
  by_cases e : k = 0 <;> simp [e]
theorem splice_get {α : Type} {L cs : List α} {k : Nat} (_h : cs.length ≤ L.length) : (splice L 0 cs)[k]? = if k < cs.length then cs[k]? else L[k]? := by
  unfold splice
  rw [List.take_zero, List.nil_append, Nat.zero_add]
  by_cases h1 : k < cs.length
  · rw [if_pos h1, List.getElem?_append_left h1]
  · rw [if_neg h1, List.getElem?_append_right (by omega), List.getElem?_drop]
    congr 1
    omega
/-- A word that a call made: a row of its own. -/
def OwnW (w w' : World) (v : Value) (u : List Bool) : Prop := ∃ g, v = .slice (some ⟨g, 0, none⟩) u.length u.length ∧ w.heap.size ≤ g ∧ w'.rowIs g 4 u.length (vB u) ∧ Only (fun _ => False) w w'
set_option maxRecDepth 4000 in
set_option maxHeartbeats 1000000 in
theorem next_any {A : Option Addr} {c n i j : Nat} {p : List Bool} {w : World} (hu : RdB w A (p ++ false :: List.replicate j true)) (hn : n = p.length + 1 + i) (hs : p.length + 1 + j ≤ 1000) (hs2 : n ≤ 1000) (hc : p.length + 1 + j ≤ c) :
    Calls Try.prog 107 #[.slice A (p.length + 1 + j) c, .int .i64 (n : Int)] w fun e w' => ∃ v, e = .returned v ∧ Hid (OwnW w w' v (p ++ true :: List.replicate i false)) := by
  have hlen : (p ++ false :: List.replicate j true).length = p.length + 1 + j := by simp; omega
  have HL := hid (lastNought_any (c := c) (m := p.length) (j := j) hu (by omega) (by simp [List.getD]) (fun k h1 h2 => by
    rw [hlen] at h2
    simp only [List.getD]
    rw [List.getElem?_append_right (by omega)]
    obtain ⟨x, hx⟩ : ∃ x, k - p.length = x + 1 := ⟨k - p.length - 1, by omega⟩
    rw [hx, List.getElem?_cons_succ]
    simp [show x < j by omega]) (by omega))
  rw [hlen] at HL
  obtain ⟨b, off, rfl, hcell⟩ := hu (by omega)
  rw [hlen] at hcell
  have HC : Hid (∀ k, k < p.length → w.cell? ⟨b, off + k, none⟩ = some (.bool (p.getD k false))) := hid fun k hk => by
    rw [hcell k (by omega)]
    simp [vB, List.getD, List.getElem?_append_left hk]
  clear hcell hu hlen
  obtain ⟨m, hm⟩ : ∃ m, m = p.length := ⟨_, rfl⟩
  rw [← hm] at hn hs hc HL ⊢
  have Hm := hid hm
  have Hn := hid hn
  clear hm
  have hmk := fun W => run_make_row' (P := Try.prog) 101 4 (.bool false) 1 Try.underlying101 boolInfoK rfl .i64 .i64 n (by omega) (by omega) W
  have hmn : (m : Int) < (n : Int) := by omega
  have hmc : (m : Int) ≤ (c : Int) := by omega
  have hmn2 : m < n := by omega
  clear hn
  have hcur : Hid ((w.alloc (.cells (madeCells #[.bool false] n) 4)).heap[w.heap.size]? = some (.cells (List.replicate n (Value.bool false)).toArray 4 (0, 0))) := hid (by
    rw [← madeList]; exact Go.Deep.blk_alloc_new _ _)
  have HO1 : Hid (Only (fun _ => False) w (w.alloc (.cells (madeCells #[.bool false] n) 4))) := hid ((Only.refl _ w).alloc _)
  have HC1 : Hid (∀ k, k < p.length → (w.alloc (.cells (madeCells #[.bool false] n) 4)).cell? ⟨b, off + k, none⟩ = some (.bool (p.getD k false))) := hid fun k hk => by
    have h := HC.out k hk
    rw [World.cell?_alloc_past _ _ _ (cell_lt h)]
    exact h
  go_enter Try.func107, Try.ntmps107
  go_wp2_with (first
    | (go_at_call 118; refine HL.out.mono ?_; rintro e w1 ⟨rfl, rfl⟩)
    | (with_reducible refine wpList_copy_splice rfl (.tmp 11) (.tmp 14) 101 101 rfl 4 Try.underlying101 boolSize _ _ n n m c rfl rfl w.heap.size 0 (List.replicate n (Value.bool false)) 4 hcur.out (p.map Value.bool) ?_ ?_ ?_ ?_ w.heap.size w ?_ (Nat.le_refl _) ?_))
  · rw [List.length_map, ← Hm.out]; show m = min m n; omega
  · intro _ k v hv
    rcases hv with ⟨h1, rfl⟩ | ⟨h1, rfl⟩
    all_goals
      rw [HC1.out k (List.getElem?_eq_some_iff.1 h1).1]
      simp [List.getD, h1]
  · rw [List.length_map, List.length_replicate, ← Hm.out]; omega
  · intro v hv
    obtain ⟨x, _, rfl⟩ := List.mem_map.1 hv
    rfl
  · exact HO1.out.to_below (fun _ h => h.elim) (Nat.le_refl _)
  · intro w2 HG HB2
    have HO2 : Hid (Only (fun _ => False) w w2) := hid (Only.of_below HB2 _)
    have hrow : w2.rowIs w.heap.size 4 n (fun k => if k < m then .bool (p.getD k false) else .bool false) := by
      refine ⟨_, HG.out, ?_, fun k hk => ?_⟩
      · rw [List.size_toArray, length_splice]
        · rw [List.length_replicate]
        · rw [List.length_map, List.length_replicate, ← Hm.out]; omega
      · rw [List.getElem?_toArray, splice_get (by rw [List.length_map, List.length_replicate, ← Hm.out]; omega), List.length_map, ← Hm.out]
        by_cases h : k < m
        · rw [if_pos h]; simp [h, List.getD, show k < p.length by rw [← Hm.out]; exact h]
        · rw [if_neg h]; simp [hk, h]
    have hset := (hrow.set m (.bool true)).congr (g := vB (p ++ true :: List.replicate i false)) fun k hk => by
      unfold vB
      simp only [List.getD]
      have hm := Hm.out
      by_cases h1 : k = m
      · rw [if_pos h1, List.getElem?_append_right (by omega), show k - p.length = 0 by omega, List.getElem?_cons_zero]; rfl
      · rw [if_neg h1]
        by_cases h2 : k < m
        · rw [if_pos h2, List.getElem?_append_left (by omega)]
        · rw [if_neg h2, List.getElem?_append_right (by omega)]
          obtain ⟨x, hx⟩ : ∃ x, k - p.length = x + 1 := ⟨k - p.length - 1, by omega⟩
          rw [hx, List.getElem?_cons_succ]
          have := Hn.out
          simp [show x < i by omega]
    have hge : w.heap.size ≤ w.heap.size := Nat.le_refl _
    have c1 := hrow.cell (i := m) (by omega)
    rw [if_neg (Nat.lt_irrefl m)] at c1
    have f1 := hrow.frozen m
    have HS := hid hset
    have HE : Hid (OwnW w (w2.setCell ⟨w.heap.size, m, none⟩ (.bool true)) (.slice (some ⟨w.heap.size, 0, none⟩) n n) (p ++ true :: List.replicate i false)) := hid (by
      have hl : (p ++ true :: List.replicate i false).length = n := by have := Hm.out; have := Hn.out; simp; omega
      refine ⟨w.heap.size, by rw [hl], Nat.le_refl _, by rw [hl]; exact HS.out, HO2.out.setCell (.inr (Nat.le_refl _)) _⟩)
    clear hrow hset HB2 HG HC HC1 HO1 hcur
    generalize w.heap.size = g at *
    go_wp2
    go_ret
    exact ⟨_, rfl, HE⟩
end Go.Proofs.Ytmbcinbkijnblaa

namespace Go.Proofs.Ytmbcinbkijnblaa
open Go.RowKit

/-- A row of values of one cell that is the call's own. -/
structure OwG (e : TypeId) (w0 w : World) (v : Value) (xs : List Value) : Prop where
  own : w.ownsRow w0.heap.size e 1 v xs.length xs
  ge : w0.heap.size ≤ w.heap.size
theorem OwG.same {e : TypeId} {w0 w w' : World} {v : Value} {xs : List Value} (h : OwG e w0 w v xs) (ho : Only (fun _ => False) w w') : OwG e w0 w' v xs := ⟨own_of_block h.own fun g _ hg => ho.block g hg no_, Nat.le_trans h.ge ho.size⟩
theorem OwG.shape {e : TypeId} {w0 w : World} {v : Value} {xs : List Value} {n : Nat} (h : OwG e w0 w v xs) (hl : xs.length = n) (hn : 0 < n) : ∃ g cap F, v = .slice (some ⟨g, 0, none⟩) n cap ∧ w0.heap.size ≤ g ∧ w.rowIs g e cap F ∧ (∀ j, j < n → F j = xs.getD j undef) ∧ n ≤ cap ∧ cap ≤ maxLen := by
  subst hl
  rcases h.own.2 with ⟨rfl, h0⟩ | ⟨g, cap, cur, rfl, hge, hh, hle, hcm, hsz, ht⟩
  · omega
  · refine ⟨g, cap, fun j => cur.getD j undef, rfl, hge, ⟨cur, hh, by rw [hsz, Nat.mul_one], fun i hi => ?_⟩, fun j hj => ?_, hle, hcm⟩
    · have : i < cur.size := by rw [hsz]; omega
      simp [Array.getD, this]
    · have h1 : j < cur.size := by rw [hsz]; omega
      have h2 : (cur.toList.take (xs.length * 1))[j]? = xs[j]? := by rw [ht]
      rw [List.getElem?_take_of_lt (by omega)] at h2
      simp [Array.getD, h1, List.getD, ← h2]
theorem cell_one (w u : World) (b : Nat) (x : Value) (e : TypeId) (hb : b = u.heap.size) (hw : w = u.alloc (.cells #[x] e)) : ∀ j y, [x][j]? = some y → w.cell? ((⟨b, 0, none⟩ : Addr).add j) = some y := by
  subst hb
  subst hw
  intro j y hj
  cases j with
  | zero => simp at hj; subst hj; simp [Addr.add]
  | succ j => simp at hj
theorem wpList_addV {ops : Array Oper} {rest : List Oper} {o : Oper} {a : Act} {Q : Exit → Act → World → Prop} (w0 w : World) (t e : TypeId) (z : Value) (bytes : Nat) (ht : Try.prog.underlying t = some (.slice e)) (hinfo : (Try.prog.info? e).map (fun i => (i.zero, i.size, i.bytes)) = some (some z, 1, bytes)) (hby : bytes ≤ 100)
    (hz1 : z.cells = #[z]) (hgd : o.guard = none) (s x : Operand) (hop : o.op = Op.call { callee := Callee.builtin Builtin.append, args := #[s, x], argTypes := #[t, t] })
    (v : Value) (xs : List Value) (hs : a.eval s = v) (h : Hid (OwG e w0 w v xs)) (y : Value) (hy : y.oneCell' = true) (b c : Nat) (hx : a.eval x = .slice (some ⟨b, 0, none⟩) 1 c) (hb : xs.length ≤ 1000000) (u : World) (hbu : b = u.heap.size) (hwu : w = u.alloc (.cells #[y] e))
    (K : ∀ v' w', Hid (OwG e w0 w' v' (xs ++ [y])) → Hid (FrT (fun k => k = e) w0.heap.size w w') → wpList Try.prog ops Q rest (a.put o.dst v') w') :
    wpList Try.prog ops Q (o :: rest) a w := by
  obtain ⟨i0, hi0, hq0, hq1, hq2⟩ := info_parts hinfo
  refine wpList_append_own_at w hgd s x t hop w0.heap.size e i0 z 1 bytes ht hi0 hq0 hq1 hq2 (by rw [hz1]; rfl) (by omega) v xs.length _ hs h.out.own ⟨b, 0, none⟩ 1 c [y] hx (by simp) (cell_one w u b y e hbu hwu) (by intro q hq; simp at hq; subst hq; exact hy) (by unfold maxLen; omega) (Nat.le_trans (Nat.mul_le_mul (show xs.length + 1 ≤ 1000001 by omega) hby) (by omega)) h.out.ge ?_
  intro v' w' hown hg _ hat
  refine K v' w' (hid ⟨by rw [List.length_append]; exact hown, Nat.le_trans h.out.ge hg.size⟩) (hid ((FrT.refl _ _ w).grown hg fun k hk => ?_))
  have := own_block h.out.own hk
  exact ⟨this.1, this.2.2 _ rfl⟩
theorem wordInfoK : (Try.prog.info? 101).map (fun i => (i.zero, i.size, i.bytes)) = some (some (.slice none 0 0), 1, 24) := by kernel_rfl
abbrev TWd (k : TypeId) : Prop := k = 101
abbrev wAt (ws : List (List Bool)) (i : Nat) : List Bool := ws.getD i []
/-- A word that lies somewhere behind w0. -/
def WordV (w0 w : World) (v : Value) (u : List Bool) : Prop := ∃ g, v = .slice (some ⟨g, 0, none⟩) u.length u.length ∧ w0.heap.size ≤ g ∧ w.rowIs g 4 u.length (vB u)
theorem WordV.fr {w0 w w' : World} {v : Value} {u : List Bool} {T : TypeId → Prop} {B : Nat} (h : WordV w0 w v u) (o : FrT T B w w') (hT : ¬ T 4) : WordV w0 w' v u := by
  obtain ⟨g, h1, h2, h3⟩ := h
  exact ⟨g, h1, h2, o.row h3 hT⟩
theorem WordV.same {w0 w w' : World} {v : Value} {u : List Bool} (h : WordV w0 w v u) (o : Only (fun _ => False) w w') : WordV w0 w' v u := h.fr (T := fun _ => False) (B := 0) (FrT.of_only o) (fun h => h)
theorem WordV.rd {w0 w : World} {v : Value} {u : List Bool} (h : WordV w0 w v u) : ∃ g, v = .slice (some ⟨g, 0, none⟩) u.length u.length ∧ RdB w (some ⟨g, 0, none⟩) u := by
  obtain ⟨g, h1, _, h3⟩ := h
  exact ⟨g, h1, RdV.of_row h3⟩
/-- Words so far. -/
structure WsK (w0 w : World) (v : Value) (xs : List Value) (ws : List (List Bool)) (k : Nat) : Prop where
  own : OwG 101 w0 w v xs
  len : xs.length = k
  wd : ∀ i, i < k → WordV w0 w (xs.getD i undef) (wAt ws i)
  only : Only (fun _ => False) w0 w
theorem WsK.more {w0 w w1 w2 : World} {v v' y : Value} {xs : List Value} {ws : List (List Bool)} {k : Nat} (h : WsK w0 w v xs ws k) (o1 : Only (fun _ => False) w w1) (hown : OwG 101 w0 w2 v' (xs ++ [y])) (o2 : FrT TWd w0.heap.size w1 w2) (hy : WordV w0 w1 y (wAt ws k)) : WsK w0 w2 v' (xs ++ [y]) ws (k + 1) := by
  refine ⟨hown, by rw [List.length_append, h.len]; rfl, fun i hi => ?_, ?_⟩
  · by_cases e : i < k
    · have : (xs ++ [y]).getD i undef = xs.getD i undef := by simp [List.getD, List.getElem?_append_left (show i < xs.length by rw [h.len]; exact e)]
      rw [this]
      exact ((h.wd i e).same o1).fr o2 (by decide)
    · obtain rfl : i = k := by omega
      have : (xs ++ [y]).getD i undef = y := by simp [List.getD, ← h.len]
      rw [this]
      exact hy.fr o2 (by decide)
  · have h1 := h.only.trans o1
    exact ⟨o2.os.trans h1.os, o2.tape.trans h1.tape, o2.output.trans h1.output, Nat.le_trans h1.size o2.size, fun i hi _ => (o2.block i (Nat.lt_of_lt_of_le hi h1.size) (fun hk => by have := hk.1; omega)).trans (h1.block i hi no_)⟩
theorem one_val {e : TypeId} (w0 u : World) (y : Value) (h0 : w0.heap.size ≤ u.heap.size) : OwG e w0 (u.alloc (.cells #[y] e)) (.slice (some ⟨u.heap.size, 0, none⟩) 1 1) [y] := by
  refine ⟨⟨by simp, .inr ⟨u.heap.size, 1, #[y], rfl, h0, Go.Deep.blk_alloc_new _ _, by simp, by unfold maxLen; omega, by simp, by simp⟩⟩, by simp; omega⟩
theorem nx_parts {u v : List Bool} (h : Nx u v) : ∃ (p : List Bool) (i j : Nat), u = p ++ false :: List.replicate j true ∧ v = p ++ true :: List.replicate i false ∧ u.length = p.length + 1 + j ∧ v.length = p.length + 1 + i := by
  obtain ⟨p, i, j, rfl, rfl⟩ := h
  exact ⟨p, i, j, rfl, rfl, by simp; omega, by simp; omega⟩
/-- next, told by words. -/
theorem next_of {u v : List Bool} {g c : Nat} {w : World} (h : Nx u v) (hu : RdB w (some ⟨g, 0, none⟩) u) (h1 : u.length ≤ 1000) (h2 : v.length ≤ 1000) (hc : u.length ≤ c) :
    Calls Try.prog 107 #[.slice (some ⟨g, 0, none⟩) u.length c, .int .i64 ((v.length : Nat) : Int)] w fun e w' => ∃ y, e = .returned y ∧ Hid (WordV w w' y v) ∧ StO w w' := by
  obtain ⟨p, i, j, e1, e2, l1, l2⟩ := nx_parts h
  rw [l1, l2]
  rw [e1] at hu
  refine (next_any (A := some ⟨g, 0, none⟩) (c := c) (n := p.length + 1 + i) (i := i) (j := j) (p := p) hu rfl (by omega) (by omega) (by omega)).mono ?_
  rintro e w' ⟨y, rfl, g', h3, h4, h5, h6⟩
  exact ⟨y, rfl, hid ⟨g', by rw [e2]; exact h3, h4, by rw [e2]; exact h5⟩, hid h6⟩
theorem first_word (w u : World) (n : Nat) (h0 : w.heap.size ≤ u.heap.size) : WordV w (u.alloc (.cells (madeCells #[.bool false] n) 4)) (.slice (some ⟨u.heap.size, 0, none⟩) n n) (List.replicate n false) := by
  have e : (List.replicate n false).length = n := List.length_replicate
  refine ⟨u.heap.size, by rw [e], h0, ?_⟩
  rw [e]
  exact (World.rowIs_made u (.bool false) n 4).congr fun j hj => by simp [vB, List.getD, hj]
set_option maxHeartbeats 2000000 in
theorem wordsOf_any {A : Option Addr} {c : Nat} {ls : List Int} {ws : List (List Bool)} {w : World} (hw : WordsOf ls ws) (hl : RdI w A ls) (hA : ls.length ≤ c) (hs : ∀ k, k < ws.length → (wAt ws k).length ≤ 1000) (hn : ls.length ≤ 257) :
    Calls Try.prog 85 #[.slice A ls.length c] w fun e w' => ∃ v xs, e = .returned v ∧ Hid (WsK w w' v xs ws ws.length) := by
  have hpos := hw.pos
  have hlen := hw.len
  have HN : Hid (∀ k, k + 1 < ws.length → Nx (wAt ws k) (wAt ws (k + 1))) := hid hw.next
  have HS := hid hs
  have HF := hid hw.first
  obtain ⟨b, off, rfl, hcell⟩ := hl (by omega)
  have HL : Hid (∀ W, StO w W → ∀ k, k < ws.length → W.cell? ⟨b, off + k, none⟩ = some (.int .i64 (((wAt ws k).length : Nat) : Int))) := hid fun W ho k hk => by
    have h := hcell k (by omega)
    rw [ho.out.cell (cell_lt h) no_, h]
    unfold vI
    rw [hw.length hk]
  obtain ⟨n, hnn⟩ : ∃ n, n = ws.length := ⟨_, rfl⟩
  rw [← hnn] at hpos hlen HN HS HL ⊢
  rw [← hlen] at hA hn ⊢
  obtain ⟨z0, hz0⟩ : ∃ z, z = (wAt ws 0).length := ⟨_, rfl⟩
  have c0 := HL.out w (hid (Only.refl _ w)) 0 (by omega)
  rw [← hz0, Nat.add_zero] at c0
  have hz00 : z0 ≤ 1000 := by rw [hz0]; exact HS.out 0 (by omega)
  have HW0 : Hid (wAt ws 0 = List.replicate z0 false) := hid (by
    have := HF.out
    rw [hz0]
    generalize (ls.getD 0 0).toNat = q at this
    rw [show wAt ws 0 = List.replicate q false from this]
    simp)
  have hmk := fun W => run_make_row' (P := Try.prog) 101 4 (.bool false) 1 Try.underlying101 boolInfoK rfl .i64 .i64 z0 (by omega) (by omega) W
  clear hcell hl hw hs HF hz0 hlen
  have Hnn := hid hnn
  clear hnn
  have hpos' : (0 : Int) < (n : Int) := by omega
  have hpos2 : (1 : Int) ≤ (n : Int) := by omega
  have hAc : (n : Int) ≤ (c : Int) := by omega
  have hK0 : Hid (WsK w ((w.alloc (.cells (madeCells #[.bool false] z0) 4)).alloc (.cells #[.slice (some ⟨w.heap.size, 0, none⟩) z0 z0] 101)) (.slice (some ⟨w.heap.size + 1, 0, none⟩) 1 1) [.slice (some ⟨w.heap.size, 0, none⟩) z0 z0] ws 1) := hid (by
    have h1 := one_val (e := 101) w (w.alloc (.cells (madeCells #[.bool false] z0) 4)) (.slice (some ⟨w.heap.size, 0, none⟩) z0 z0) (by simp)
    refine ⟨by simpa using h1, rfl, fun i hi => ?_, ((Only.refl _ w).alloc _).alloc _⟩
    obtain rfl : i = 0 := by omega
    rw [HW0.out]
    exact (first_word w w z0 (Nat.le_refl _)).same ((Only.refl _ _).alloc _))
  by_cases hc1 : c = 1
  · obtain rfl : n = 1 := by omega
    subst hc1
    go_enter Try.func85, Try.ntmps85
    go_wp2_with fail
    generalize (w.alloc (.cells (madeCells #[.bool false] z0) 4)).alloc (.cells #[.slice (some ⟨w.heap.size, 0, none⟩) z0 z0] 101) = wq at *
    go_loopw [3, 14] (fun v s wr => v = .slice (some ⟨w.heap.size + 1, 0, none⟩) 1 1 ∧ s = .int .i64 0 ∧ wr = wq) (fun _ _ _ => 0)
    case atStart => exact ⟨rfl, rfl, rfl⟩
    case round =>
      obtain ⟨rfl, rfl, rfl⟩ := hrel
      go_wp2_with fail
      go_ret
      exact ⟨_, _, rfl, hK0⟩
  · have hc1' : ¬ (c : Int) = 1 := by omega
    go_enter Try.func85, Try.ntmps85
    go_wp2_with fail
    generalize (w.alloc (.cells (madeCells #[.bool false] z0) 4)).alloc (.cells #[.slice (some ⟨w.heap.size, 0, none⟩) z0 z0] 101) = wq at *
    clear hmk HW0
    go_loopw [3, 14] (fun v s wr => ∃ (xs : List Value) (k : Nat), k + 1 ≤ n ∧ s = .int .i64 k ∧ Hid (WsK w wr v xs ws (k + 1))) (fun _ s _ => n - (intOf s).toNat)
    case atStart => exact ⟨_, 0, by omega, rfl, hK0⟩
    case round =>
      obtain ⟨xs, k, hk, rfl, HK⟩ := hrel
      clear hK0
      by_cases hp : k + 1 < n
      · have hp' : (k : Int) < (n : Int) - 1 := by omega
        obtain ⟨g, cap, F, rfl, hge, hrow, hFj, hcap, hcm⟩ := HK.out.own.shape HK.out.len (by omega)
        obtain ⟨gk, hgk, hrk⟩ := (HK.out.wd k (by omega)).rd
        have ck := hrow.cell (i := k) (by omega)
        rw [hFj k (by omega), hgk] at ck
        have cl := HL.out wr (hid HK.out.only) (k + 1) hp
        have hoff : off + (k + 1) = off + 1 + k := by omega
        rw [hoff] at cl
        have hl1 := HS.out k (by omega)
        have hl2 := HS.out (k + 1) hp
        have HNk : Hid (∀ W, StO wr W → Calls Try.prog 107 #[.slice (some ⟨gk, 0, none⟩) (wAt ws k).length (wAt ws k).length, .int .i64 (((wAt ws (k + 1)).length : Nat) : Int)] W fun e w' => ∃ g', e = .returned (.slice (some ⟨g', 0, none⟩) (wAt ws (k + 1)).length (wAt ws (k + 1)).length) ∧ Hid (WordV w w' (.slice (some ⟨g', 0, none⟩) (wAt ws (k + 1)).length (wAt ws (k + 1)).length) (wAt ws (k + 1))) ∧ StO W w') := hid fun W ho => (next_of (c := (wAt ws k).length) (HN.out k hp) (hrk.only ho.out fun _ _ _ => no_) hl1 hl2 (Nat.le_refl _)).mono fun e w' ⟨y, h1, h2, h3⟩ => by
          obtain ⟨g', q1, q2, q3⟩ := h2.out
          subst q1
          exact ⟨g', h1, hid ⟨g', rfl, Nat.le_trans (Nat.le_trans HK.out.only.size ho.out.size) q2, q3⟩, h3⟩
        generalize (wAt ws k).length = lk at *
        have Hlk2 := hid (rfl : (wAt ws (k + 1)).length = (wAt ws (k + 1)).length)
        obtain ⟨l2, hl2e⟩ : ∃ l2, l2 = (wAt ws (k + 1)).length := ⟨_, rfl⟩
        rw [← hl2e] at cl HNk hl2
        clear hl2e Hlk2 hFj hcm hrk hgk hge hrow hoff hl1
        have hkw1 : IntKind.i64.wrap ((k : Int) + 1 - 1) = (k : Int) := by rw [IntKind.wrap_i64]; omega
        have hkw2 : wrap64 ((k : Int) + 1 - 1) = (k : Int) := by rw [show (k : Int) + 1 - 1 = (k : Int) by omega]; exact IntWalk.wrap64_in _ ⟨by omega, by omega⟩
        go_wp2_with (first
          | (go_at_call 107; refine (HNk.out _ (hid (Only.refl _ _))).mono ?_; rintro e w2 ⟨gy, rfl, HY, HO⟩)
          | (at_builtin; refine wpList_addV w _ 131 101 (.slice none 0 0) 24 Try.underlying131 wordInfoK (by omega) rfl rfl (.tmp 18) (.tmp 27) rfl _ xs rfl (hid ((HK.out.own.same HO.out).same ((Only.refl _ _).alloc _))) (.slice (some ⟨gy, 0, none⟩) l2 l2) rfl w2.heap.size 1 rfl (by rw [HK.out.len]; omega) w2 rfl rfl ?_; intro v' w3 HG HT))
        have HK2 : Hid (WsK w w3 v' (xs ++ [.slice (some ⟨gy, 0, none⟩) l2 l2]) ws (k + 1 + 1)) := hid (HK.out.more (HO.out.trans ((Only.refl _ _).alloc _)) HG.out HT.out (HY.out.same ((Only.refl _ _).alloc _)))
        clear HK HG HT HY HO HNk
        go_roundw
        case rel => exact ⟨_, k + 1, by omega, by go_num, HK2⟩
        case measure => simp [intOf]; omega
      · obtain rfl : k + 1 = n := by omega
        go_wp2_with fail
        go_ret
        exact ⟨_, _, rfl, HK⟩
end Go.Proofs.Ytmbcinbkijnblaa

namespace Go.Proofs.Ytmbcinbkijnblaa
open Go.RowKit

abbrev DL := List (Nat × List Bool)
/-- Where a row of bits leads: to a fork, to a sign, nowhere. -/
def wayOf (P : List (List Bool)) (D : DL) (l : List Bool) : Int := if l ∈ P then (P.idxOf l : Nat) else match D.find? (fun d => d.2 == l) with | some d => -1 - (d.1 : Int) | none => 0
def waysL (P : List (List Bool)) (D : DL) : List Int := P.flatMap fun p => [wayOf P D (p ++ [false]), wayOf P D (p ++ [true])]
structure Ts (P : List (List Bool)) (D : DL) (X : List (List Bool)) : Prop where
  root : P[0]? = some []
  nodup : P.Nodup
  par : ∀ l b, l ++ [b] ∈ P → l ∈ P
  dpar : ∀ d ∈ D, ∃ l b, d.2 = l ++ [b] ∧ l ∈ P
  pref : ∀ l ∈ P, ∃ x ∈ X, ∃ b t, x = l ++ b :: t
theorem flat2_len {α β : Type} (f g : α → β) : ∀ P : List α, (P.flatMap fun p => [f p, g p]).length = 2 * P.length
  | [] => rfl
  | p :: P => by simp only [List.flatMap_cons, List.length_append, List.length_cons, List.length_nil, flat2_len f g P]; omega
theorem flat2_get {α β : Type} (f g : α → β) : ∀ (P : List α) (k : Nat) (p : α), P[k]? = some p → (P.flatMap fun p => [f p, g p])[2 * k]? = some (f p) ∧ (P.flatMap fun p => [f p, g p])[2 * k + 1]? = some (g p)
  | [], k, p, h => by simp at h
  | q :: P, 0, p, h => by simp at h; subst h; simp
  | q :: P, k + 1, p, h => by
    have := flat2_get f g P k p (by simpa using h)
    simp only [List.flatMap_cons, List.cons_append, List.nil_append]
    rw [show 2 * (k + 1) = 2 * k + 1 + 1 by omega]
    simpa using this
theorem waysL_len (P : List (List Bool)) (D : DL) : (waysL P D).length = 2 * P.length := flat2_len _ _ P
theorem waysL_get {P : List (List Bool)} {D : DL} {k : Nat} {p : List Bool} (h : P[k]? = some p) (b : Bool) : (waysL P D)[2 * k + b.toNat]? = some (wayOf P D (p ++ [b])) := by
  have := flat2_get (fun p => wayOf P D (p ++ [false])) (fun p => wayOf P D (p ++ [true])) P k p h
  cases b
  · exact this.1
  · exact this.2
theorem ways_ext {P : List (List Bool)} {xs : List Int} {D : DL} (hl : xs.length = 2 * P.length) (h : ∀ k p b, P[k]? = some p → xs[2 * k + b.toNat]? = some (wayOf P D (p ++ [b]))) : xs = waysL P D := by
  apply List.ext_getElem?
  intro i
  by_cases hi : i < 2 * P.length
  · obtain ⟨k, b, rfl⟩ : ∃ (k : Nat) (b : Bool), i = 2 * k + b.toNat := by
      rcases Nat.mod_two_eq_zero_or_one i with e | e
      · exact ⟨i / 2, false, by simp; omega⟩
      · exact ⟨i / 2, true, by simp; omega⟩
    have hk : k < P.length := by omega
    rw [h k P[k] b (List.getElem?_eq_getElem hk), waysL_get (List.getElem?_eq_getElem hk)]
  · rw [List.getElem?_eq_none (by omega), List.getElem?_eq_none (by rw [waysL_len]; omega)]
theorem snoc_inj {l l' : List Bool} {b b' : Bool} (h : l ++ [b] = l' ++ [b']) : l = l' ∧ b = b' := by
  have := List.append_inj' h rfl
  exact ⟨this.1, by simpa using this.2⟩
theorem idx_at {P : List (List Bool)} (hn : P.Nodup) {k : Nat} {p : List Bool} (h : P[k]? = some p) : P.idxOf p = k := by
  obtain ⟨hk, rfl⟩ := List.getElem?_eq_some_iff.1 h
  exact hn.idxOf_getElem k hk
theorem toNat_inj {b b' : Bool} (h : b.toNat = b'.toNat) : b = b' := by cases b <;> cases b' <;> simp_all
theorem pair_at {k k' : Nat} {b b' : Bool} (h : 2 * k + b.toNat = 2 * k' + b'.toNat) : k = k' ∧ b = b' := by
  have h1 : b.toNat ≤ 1 := by cases b <;> simp
  have h2 : b'.toNat ≤ 1 := by cases b' <;> simp
  have : k = k' := by omega
  subst this
  exact ⟨rfl, toNat_inj (by omega)⟩
/-- A new fork. -/
theorem ways_fork {P : List (List Bool)} {D : DL} {X : List (List Bool)} (h : Ts P D X) {k : Nat} {p : List Bool} {b : Bool} (hk : P[k]? = some p) (hp : p ++ [b] ∉ P) (hD : ∀ d ∈ D, d.2 ≠ p ++ [b]) :
    ((waysL P D).set (2 * k + b.toNat) (P.length : Nat)) ++ [0, 0] = waysL (P ++ [p ++ [b]]) D := by
  have hwo : ∀ l, l ≠ p ++ [b] → wayOf (P ++ [p ++ [b]]) D l = wayOf P D l := fun l hl => by
    unfold wayOf
    by_cases hm : l ∈ P
    · rw [if_pos hm, if_pos (List.mem_append_left _ hm), List.idxOf_append, if_pos hm]
    · rw [if_neg hm, if_neg (by simp [hm, hl])]
  have hnew : ∀ b', wayOf (P ++ [p ++ [b]]) D (p ++ [b] ++ [b']) = 0 := fun b' => by
    unfold wayOf
    rw [if_neg]
    · rw [List.find?_eq_none.2]
      intro d hd e
      obtain ⟨l, b2, e2, hl⟩ := h.dpar d hd
      have e : d.2 = p ++ [b] ++ [b'] := by simpa using e
      rw [e2] at e
      obtain ⟨rfl, _⟩ := snoc_inj e
      exact hp hl
    · intro hm
      rcases List.mem_append.1 hm with hm | hm
      · exact hp (h.par _ _ hm)
      · simp at hm
  refine ways_ext (by simp [waysL_len]; omega) fun i q c hi => ?_
  have hc1 : c.toNat ≤ 1 := by cases c <;> simp
  by_cases hiP : i < P.length
  · rw [List.getElem?_append_left hiP] at hi
    rw [List.getElem?_append_left (by rw [List.length_set, waysL_len]; omega)]
    by_cases e : 2 * i + c.toNat = 2 * k + b.toNat
    · obtain ⟨rfl, rfl⟩ := pair_at e
      rw [hi] at hk
      injection hk with hk
      subst hk
      have hlt : 2 * i + c.toNat < (waysL P D).length := by rw [waysL_len]; omega
      rw [List.getElem?_set_self hlt]
      unfold wayOf
      rw [if_pos (by simp), List.idxOf_append, if_neg hp]
      simp
    · rw [List.getElem?_set_ne (fun e2 => e e2.symm), waysL_get hi, hwo]
      intro e2
      obtain ⟨rfl, rfl⟩ := snoc_inj e2
      have h1 := idx_at h.nodup hi
      have h2 := idx_at h.nodup hk
      rw [h1] at h2
      exact e (by rw [h2])
  · have hi2 : i = P.length := by
      have := (List.getElem?_eq_some_iff.1 hi).1
      simp at this
      omega
    subst hi2
    rw [List.getElem?_append_right (Nat.le_refl _)] at hi
    simp at hi
    subst hi
    rw [List.getElem?_append_right (by rw [List.length_set, waysL_len]; omega), List.length_set, waysL_len, hnew, show 2 * P.length + c.toNat - 2 * P.length = c.toNat by omega]
    cases c <;> simp
theorem Ts.fork {P : List (List Bool)} {D : DL} {X : List (List Bool)} (h : Ts P D X) {k : Nat} {p : List Bool} {b : Bool} (hk : P[k]? = some p) (hp : p ++ [b] ∉ P) (hx : ∃ x ∈ X, ∃ c t, x = p ++ [b] ++ c :: t) : Ts (P ++ [p ++ [b]]) D X := by
  have hkl := (List.getElem?_eq_some_iff.1 hk).1
  have hpm : p ∈ P := List.mem_of_getElem? hk
  refine ⟨by rw [List.getElem?_append_left (by omega)]; exact h.root, ?_, fun l c hm => ?_, fun d hd => ?_, fun l hm => ?_⟩
  · rw [List.nodup_append]
    refine ⟨h.nodup, by simp, fun a ha c hc => ?_⟩
    simp at hc
    subst hc
    intro e
    subst e
    exact hp ha
  · rcases List.mem_append.1 hm with hm | hm
    · exact List.mem_append_left _ (h.par l c hm)
    · have : l ++ [c] = p ++ [b] := by simpa using hm
      obtain ⟨rfl, _⟩ := snoc_inj this
      exact List.mem_append_left _ hpm
  · obtain ⟨l, c, e, hl⟩ := h.dpar d hd
    exact ⟨l, c, e, List.mem_append_left _ hl⟩
  · rcases List.mem_append.1 hm with hm | hm
    · exact h.pref l hm
    · have : l = p ++ [b] := by simpa using hm
      subst this
      exact hx
/-- A new sign. -/
theorem ways_leaf {P : List (List Bool)} {D : DL} {X : List (List Bool)} (h : Ts P D X) {k s : Nat} {p : List Bool} {b : Bool} (hk : P[k]? = some p) (hp : p ++ [b] ∉ P) (hD : ∀ d ∈ D, d.2 ≠ p ++ [b]) :
    (waysL P D).set (2 * k + b.toNat) (-1 - (s : Int)) = waysL P (D ++ [(s, p ++ [b])]) := by
  have hnone : D.find? (fun d => d.2 == p ++ [b]) = none := List.find?_eq_none.2 fun d hd e => hD d hd (by simpa using e)
  refine ways_ext (by rw [List.length_set, waysL_len]) fun i q c hi => ?_
  by_cases e : 2 * i + c.toNat = 2 * k + b.toNat
  · obtain ⟨rfl, rfl⟩ := pair_at e
    rw [hi] at hk
    injection hk with hk
    subst hk
    have hil := (List.getElem?_eq_some_iff.1 hi).1
    have hc1 : c.toNat ≤ 1 := by cases c <;> simp
    have hlt : 2 * i + c.toNat < (waysL P D).length := by rw [waysL_len]; omega
    rw [List.getElem?_set_self hlt]
    unfold wayOf
    rw [if_neg hp, List.find?_append, hnone]
    simp
  · rw [List.getElem?_set_ne (fun e2 => e e2.symm), waysL_get hi]
    have hne : q ++ [c] ≠ p ++ [b] := by
      intro e2
      obtain ⟨rfl, rfl⟩ := snoc_inj e2
      have h1 := idx_at h.nodup hi
      have h2 := idx_at h.nodup hk
      rw [h1] at h2
      exact e (by rw [h2])
    unfold wayOf
    by_cases hm : q ++ [c] ∈ P
    · rw [if_pos hm, if_pos hm]
    · rw [if_neg hm, if_neg hm, List.find?_append]
      cases hf : D.find? (fun d => d.2 == q ++ [c]) with
      | some d => rfl
      | none =>
        have : ((p ++ [b]) == (q ++ [c])) = false := by
          rw [beq_eq_false_iff_ne]
          exact fun e => hne e.symm
        simp [this]
theorem Ts.leaf {P : List (List Bool)} {D : DL} {X : List (List Bool)} (h : Ts P D X) {k s : Nat} {p : List Bool} {b : Bool} (hk : P[k]? = some p) : Ts P (D ++ [(s, p ++ [b])]) X := by
  refine ⟨h.root, h.nodup, h.par, fun d hd => ?_, h.pref⟩
  rcases List.mem_append.1 hd with hd | hd
  · exact h.dpar d hd
  · have : d = (s, p ++ [b]) := by simpa using hd
    subst this
    exact ⟨p, b, rfl, List.mem_of_getElem? hk⟩
theorem Ts.more {P : List (List Bool)} {D : DL} {X Y : List (List Bool)} (h : Ts P D X) (hs : ∀ x ∈ X, x ∈ Y) : Ts P D Y := ⟨h.root, h.nodup, h.par, h.dpar, fun l hl => by
  obtain ⟨x, hx, hr⟩ := h.pref l hl
  exact ⟨x, hs x hx, hr⟩⟩
theorem Ts.start {x : List Bool} (hx : x ≠ []) : Ts [[]] [] [x] := by
  refine ⟨rfl, by simp, fun l b h => by simp at h, fun d hd => (by cases hd), fun l hl => ?_⟩
  have : l = [] := by simpa using hl
  subst this
  cases x with
  | nil => exact absurd rfl hx
  | cons b t => exact ⟨b :: t, by simp, b, t, rfl⟩
theorem wayOf_fork {P : List (List Bool)} {D : DL} {l : List Bool} (h : l ∈ P) : wayOf P D l = (P.idxOf l : Nat) := by unfold wayOf; rw [if_pos h]
theorem wayOf_none {P : List (List Bool)} {D : DL} {l : List Bool} (h : l ∉ P) (hD : ∀ d ∈ D, d.2 ≠ l) : wayOf P D l = 0 := by
  unfold wayOf
  rw [if_neg h, List.find?_eq_none.2 fun d hd e => hD d hd (by simpa using e)]
theorem wayOf_sign {P : List (List Bool)} {D : DL} {l : List Bool} {s : Nat} (h : l ∉ P) (hD : (s, l) ∈ D) (hu : ∀ d ∈ D, d.2 = l → d.1 = s) : wayOf P D l = -1 - (s : Int) := by
  unfold wayOf
  rw [if_neg h]
  cases hf : D.find? (fun d => d.2 == l) with
  | none => exact absurd (List.find?_eq_none.1 hf _ hD) (by simp)
  | some d =>
    have h1 := List.find?_some hf
    have h2 := List.mem_of_find?_eq_some hf
    show -1 - (d.1 : Int) = _
    rw [hu d h2 (by simpa using h1)]
theorem Ts.idx_pos {P : List (List Bool)} {D : DL} {X : List (List Bool)} (h : Ts P D X) {l : List Bool} (hl : l ∈ P) (hne : l ≠ []) : 0 < P.idxOf l := by
  rcases Nat.eq_zero_or_pos (P.idxOf l) with e | e
  · have h1 : P[P.idxOf l]? = some l := by
      rw [List.getElem?_eq_getElem (List.idxOf_lt_length_of_mem hl)]
      simp
    rw [e, h.root] at h1
    injection h1 with h1
    exact absurd h1.symm hne
  · exact e
end Go.Proofs.Ytmbcinbkijnblaa

namespace Go.Proofs.Ytmbcinbkijnblaa
open Go.RowKit

theorem own_of_row {w : World} {B g n s cap : Nat} {e : TypeId} {xs : List Value} {F : Nat → Value} (hr : w.rowIs g e (cap * s) F) (hl : xs.length = n * s) (hF : ∀ j, j < n * s → some (F j) = xs[j]?) (hB : B ≤ g) (h1 : n ≤ cap) (h2 : cap ≤ maxLen) : w.ownsRow B e s (.slice (some ⟨g, 0, none⟩) n cap) n xs := by
  obtain ⟨cur, hh, hsz, hc⟩ := hr
  refine ⟨hl, .inr ⟨g, cap, cur, rfl, hB, hh, h1, h2, hsz, ?_⟩⟩
  apply List.ext_getElem?
  intro j
  by_cases hj : j < n * s
  · have hj2 : j < cap * s := Nat.lt_of_lt_of_le hj (Nat.mul_le_mul_right s h1)
    rw [List.getElem?_take_of_lt hj, ← hF j hj]
    have := hc j hj2
    simpa using this
  · rw [List.getElem?_eq_none (by simp; omega), List.getElem?_eq_none (by omega)]
theorem own2 {w : World} {B n s : Nat} {e : TypeId} {v : Value} {xs : List Value} (h : w.ownsRow B e s v n xs) (hn : 0 < n) : ∃ g cap F, v = .slice (some ⟨g, 0, none⟩) n cap ∧ B ≤ g ∧ w.rowIs g e (cap * s) F ∧ (∀ j, j < n * s → some (F j) = xs[j]?) ∧ n ≤ cap ∧ cap ≤ maxLen := by
  rcases h.2 with ⟨_, h2⟩ | ⟨g, cap, cur, rfl, hge, hh, hle, hcm, hsz, ht⟩
  · omega
  · have hF : ∀ i, i < cap * s → cur[i]? = some (cur.getD i undef) := fun i hi => by simp [Array.getD, show i < cur.size by omega]
    refine ⟨g, cap, fun i => cur.getD i undef, rfl, hge, ⟨cur, hh, hsz, hF⟩, fun j hj => ?_, hle, hcm⟩
    rw [← ht, List.getElem?_take_of_lt hj, ← hF j (Nat.lt_of_lt_of_le hj (Nat.mul_le_mul_right s hle))]
    simp
theorem forkInfo : (Try.prog.info? 151).map (fun i => (i.zero, i.size, i.bytes)) = some (some (.agg #[.int .i64 0, .int .i64 0]), 2, 16) := by kernel_rfl
abbrev TC (k : TypeId) : Prop := k = 107 ∨ k = 151
/-- A code's cells, and its tree. -/
structure CodeR (B : Nat) (w : World) (g : Nat) (F : Nat → Value) (P : List (List Bool)) (D : DL) : Prop where
  self : w.rowIs g 107 259 F
  own : w.ownsRow B 151 2 (F 0) P.length ((waysL P D).map iv)
  ge : B ≤ g
  le : B ≤ w.heap.size
theorem CodeR.cells {B : Nat} {w : World} {g : Nat} {F : Nat → Value} {P : List (List Bool)} {D : DL} (h : CodeR B w g F P D) (hP : 0 < P.length) :
    ∃ gf cap, F 0 = .slice (some ⟨gf, 0, none⟩) P.length cap ∧ P.length ≤ cap ∧ cap ≤ maxLen ∧ w.cell? ⟨g, 0, none⟩ = some (.slice (some ⟨gf, 0, none⟩) P.length cap) ∧ w.frozen? ⟨g, 0, none⟩ = false ∧ g < w.heap.size ∧ gf < w.heap.size ∧
      (∀ k p b, P[k]? = some p → w.cell? ⟨gf, k * 2 + b.toNat, none⟩ = some (.int .i64 (wayOf P D (p ++ [b]))) ∧ w.frozen? ⟨gf, k * 2 + b.toNat, none⟩ = false) ∧
      ∀ i x, i < 2 * P.length → (w.setCell ⟨gf, i, none⟩ (.int .i64 x)).rowIs g 107 259 F ∧ (w.setCell ⟨gf, i, none⟩ (.int .i64 x)).ownsRow B 151 2 (F 0) P.length (((waysL P D).set i x).map iv) ∧ FrT TC B w (w.setCell ⟨gf, i, none⟩ (.int .i64 x)) := by
  obtain ⟨gf, cap, Z, hv, hge, hr, hZ, h1, h2⟩ := own2 h.own hP
  have hne : g ≠ gf := rowIs_ne h.self hr (by decide)
  have hcap : P.length * 2 ≤ cap * 2 := Nat.mul_le_mul_right 2 h1
  refine ⟨gf, cap, hv, h1, h2, by rw [h.self.cell (by omega), hv], h.self.frozen 0, h.self.lt, hr.lt, fun k p b hk => ?_, fun i x hi => ⟨h.self.setOther (a := ⟨gf, i, none⟩) hne _, ?_, (FrT.refl _ _ w).setCell (p := ⟨gf, i, none⟩) hge (TyAt.of_row hr (.inr rfl)) _⟩⟩
  · have hkl := (List.getElem?_eq_some_iff.1 hk).1
    have hb : b.toNat ≤ 1 := by cases b <;> simp
    have hi : k * 2 + b.toNat < P.length * 2 := by omega
    have hz := hZ _ hi
    rw [List.getElem?_map, Nat.mul_comm k 2, waysL_get hk b] at hz
    rw [Nat.mul_comm k 2] at hi ⊢
    refine ⟨?_, hr.frozen _⟩
    rw [hr.cell (by omega)]
    have e := Option.some.inj hz
    rw [e]
    rfl
  · rw [hv]
    refine own_of_row (hr.set i (.int .i64 x)) (by rw [List.length_map, List.length_set, waysL_len]; omega) (fun j hj => ?_) hge h1 h2
    rw [List.getElem?_map]
    by_cases e : j = i
    · subst e
      rw [if_pos rfl, List.getElem?_set_self (by rw [waysL_len]; omega)]
      rfl
    · rw [if_neg e, List.getElem?_set_ne (fun e2 => e e2.symm), hZ j hj, List.getElem?_map]
theorem CodeR.same {B : Nat} {w w' : World} {g : Nat} {F : Nat → Value} {P : List (List Bool)} {D : DL} (h : CodeR B w g F P D) (ho : Only (fun _ => False) w w') : CodeR B w' g F P D :=
  ⟨ho.row h.self no_, own_keep h.own ho fun _ _ => no_, h.ge, Nat.le_trans h.le ho.size⟩
theorem CodeR.set {B : Nat} {w : World} {g gf cap : Nat} {F : Nat → Value} {P : List (List Bool)} {D : DL} (h : CodeR B w g F P D) (hP : 0 < P.length) (hv : F 0 = .slice (some ⟨gf, 0, none⟩) P.length cap) (i : Nat) (x : Int) (hi : i < 2 * P.length) :
    (w.setCell ⟨gf, i, none⟩ (.int .i64 x)).rowIs g 107 259 F ∧ (w.setCell ⟨gf, i, none⟩ (.int .i64 x)).ownsRow B 151 2 (F 0) P.length (((waysL P D).set i x).map iv) ∧ FrT TC B w (w.setCell ⟨gf, i, none⟩ (.int .i64 x)) := by
  obtain ⟨gf', cap', hv', _, _, _, _, _, _, _, hs⟩ := h.cells hP
  rw [hv] at hv'
  injection hv' with e _ _
  injection e with e
  injection e with e _ _
  subst e
  exact hs i x hi
theorem two_new (u : World) (x y : Value) (e : TypeId) (b : Nat) (hb : b = u.heap.size) : ∀ j z, [x, y][j]? = some z → (u.alloc (.cells #[x, y] e)).cell? ((⟨b, 0, none⟩ : Addr).add j) = some z := by
  subst hb
  intro j z hj
  match j with
  | 0 => simp at hj; subst hj; simp [Addr.add]
  | 1 => simp at hj; subst hj; simp [Addr.add]
  | j + 2 => simp at hj
theorem own_slice {w : World} {B n s : Nat} {e : TypeId} {v : Value} {xs : List Value} (h : w.ownsRow B e s v n xs) (hn : 0 < n) : ∃ g cap, v = .slice (some ⟨g, 0, none⟩) n cap := by
  obtain ⟨g, cap, _, hv, _⟩ := own2 h hn
  exact ⟨g, cap, hv⟩
abbrev TFk (k : TypeId) : Prop := k = 151
abbrev TCd (k : TypeId) : Prop := k = 107
theorem grown_fork {B n : Nat} {u w : World} {v : Value} {xs : List Value} (hown : u.ownsRow B 151 2 v n xs) (hg : u.grownBy w v.ownBlock) : FrT TFk B u w :=
  (FrT.refl _ _ u).grown hg fun k hk => by
    have := own_block hown hk
    exact ⟨this.1, this.2.2 _ rfl⟩
/-- What a step onward answers: the fork's place. -/
def OnE (B : Nat) (w : World) (g : Nat) (F : Nat → Value) (P : List (List Bool)) (D : DL) (X : List (List Bool)) (l : List Bool) (e : Ending) (w' : World) : Prop :=
  ∃ (P' : List (List Bool)) (j : Nat) (v : Value), e = .returned (.int .i64 (j : Int)) ∧ Hid (P'[j]? = some l ∧ P'.length ≤ P.length + 1 ∧ Ts P' D X ∧ CodeR B w' g (fun i => if i = 0 then v else F i) P' D ∧ FrT TC B w w')
set_option maxHeartbeats 2000000 in
theorem onward_old {B : Nat} {w : World} {g k : Nat} {F : Nat → Value} {P : List (List Bool)} {D : DL} {X : List (List Bool)} {p : List Bool} {b : Bool} (h : CodeR B w g F P D) (hT : Ts P D X) (hk : P[k]? = some p) (hm : p ++ [b] ∈ P) (hl : P.length ≤ 1000000) :
    Calls Try.prog 108 #[.pointer (some ⟨g, 0, none⟩), .int .i64 (k : Int), .bool b] w (OnE B w g F P D X (p ++ [b])) := by
  have hkl := (List.getElem?_eq_some_iff.1 hk).1
  obtain ⟨gf, cap, hv, h1, h2, c0, f0, l0, l1, hc, hs⟩ := h.cells (by omega)
  obtain ⟨cw, fw⟩ := hc k p b hk
  rw [wayOf_fork hm] at cw
  have hix : P.idxOf (p ++ [b]) < P.length := List.idxOf_lt_length_of_mem hm
  have hpos : 0 < P.idxOf (p ++ [b]) := hT.idx_pos hm (by simp)
  have hE : Hid (P[P.idxOf (p ++ [b])]? = some (p ++ [b])) := hid (by rw [List.getElem?_eq_getElem hix]; simp)
  have HT := hid hT
  have HR := hid h
  have HV := hid hv
  have HD := hid fun u => digit_any b u
  generalize P.idxOf (p ++ [b]) = j at *
  obtain ⟨m, hm2⟩ : ∃ m, m = P.length := ⟨_, rfl⟩
  rw [← hm2] at hkl h1 c0 hix hl
  have Hm2 := hid hm2
  have hbn : b.toNat ≤ 1 := by cases b <;> simp
  generalize b.toNat = bn at *
  clear hs hc hv hT h hm hk hm2
  have hj0 : ((j : Int) == 0) = false := by simp; omega
  have hkm : (k : Int) < (m : Int) := by omega
  have hb2 : (bn : Int) < 2 := by omega
  go_enter Try.func108, Try.ntmps108
  go_wp2_with fail
  go_quiet ((go_at_call 102; exact quiet_left (HD.out _)))
  go_wp2_with fail
  have HO1 : StO w (w.drewN nq) := hid (quiet_only ⟨_, rfl⟩)
  have c0' := (HO1.out.cell (p := ⟨g, 0, none⟩) l0 no_).trans c0
  have cw' := (HO1.out.cell (p := ⟨gf, k * 2 + bn, none⟩) l1 no_).trans cw
  generalize w.drewN nq = w2 at HO1 c0' cw' ⊢
  go_quiet ((go_at_call 102; exact quiet_left (HD.out _)))
  have HO2 : StO w2 (w2.drewN nq) := hid (quiet_only ⟨_, rfl⟩)
  generalize w2.drewN nq = w3 at HO2 ⊢
  go_wp2_with fail
  go_ret
  have HO3 := HO1.out.trans HO2.out
  refine ⟨P, j, F 0, rfl, hid ⟨hE.out, by omega, HT.out, ?_, FrT.of_only HO3⟩⟩
  exact ⟨(HO3.row HR.out.self no_).congr fun i _ => by by_cases e : i = 0 <;> simp [e], own_keep HR.out.own HO3 fun _ _ => no_, HR.out.ge, Nat.le_trans HR.out.le HO3.size⟩
set_option maxHeartbeats 4000000 in
theorem onward_new {B : Nat} {w : World} {g k : Nat} {F : Nat → Value} {P : List (List Bool)} {D : DL} {X : List (List Bool)} {p : List Bool} {b : Bool} (h : CodeR B w g F P D) (hT : Ts P D X) (hk : P[k]? = some p) (hm : p ++ [b] ∉ P) (hD : ∀ d ∈ D, d.2 ≠ p ++ [b]) (hx : ∃ x ∈ X, ∃ c t, x = p ++ [b] ++ c :: t) (hl : P.length ≤ 1000000) :
    Calls Try.prog 108 #[.pointer (some ⟨g, 0, none⟩), .int .i64 (k : Int), .bool b] w (OnE B w g F P D X (p ++ [b])) := by
  have hkl := (List.getElem?_eq_some_iff.1 hk).1
  obtain ⟨gf, cap, hv, h1, h2, c0, f0, l0, l1, hc, hs⟩ := h.cells (by omega)
  obtain ⟨cw, fw⟩ := hc k p b hk
  rw [wayOf_none hm hD] at cw
  have HWs := hid (ways_fork hT hk hm hD)
  have HT2 := hid (hT.fork hk hm hx)
  have HR := hid h
  have HV := hid hv
  have HD := hid fun u => digit_any b u
  have hbn : b.toNat ≤ 1 := by cases b <;> simp
  have HPk := hid hk
  have HPm := hid hm
  have Hbt : Hid (b.toNat = b.toNat) := hid rfl
  have HSet : Hid (∀ u, StO w u → (u.setCell ⟨gf, 2 * k + b.toNat, none⟩ (.int .i64 ((P.length : Nat) : Int))).rowIs g 107 259 F ∧ (u.setCell ⟨gf, 2 * k + b.toNat, none⟩ (.int .i64 ((P.length : Nat) : Int))).ownsRow B 151 2 (F 0) P.length (((waysL P D).set (2 * k + b.toNat) ((P.length : Nat) : Int)).map iv) ∧ FrT TC B u (u.setCell ⟨gf, 2 * k + b.toNat, none⟩ (.int .i64 ((P.length : Nat) : Int)))) := hid fun u hu => (h.same hu.out).set (by omega) hv _ _ (by omega)
  have HPl : Hid ((P ++ [p ++ [b]])[P.length]? = some (p ++ [b])) := hid (by simp)
  rw [Nat.mul_comm 2 k] at HSet HWs
  obtain ⟨m, hm2⟩ : ∃ m, m = P.length := ⟨_, rfl⟩
  rw [← hm2] at hkl h1 c0 hl HSet HWs HPl HV
  have Hm2 := hid hm2
  obtain ⟨bn, hbne⟩ : ∃ bn, bn = b.toNat := ⟨_, rfl⟩
  rw [← hbne] at hbn HSet HWs cw fw HD
  have Hbn := hid hbne
  clear hbne Hbt
  clear hs hc hv hT h hm hk hm2 hD hx
  have hkm : (k : Int) < (m : Int) := by omega
  have hb2 : (bn : Int) < 2 := by omega
  go_enter Try.func108, Try.ntmps108
  go_wp2_with fail
  go_quiet ((go_at_call 102; exact quiet_left (HD.out _)))
  go_wp2_with fail
  have HO1 : StO w (w.drewN nq) := hid (quiet_only ⟨_, rfl⟩)
  have c0' := (HO1.out.cell (p := ⟨g, 0, none⟩) l0 no_).trans c0
  have cw' := (HO1.out.cell (p := ⟨gf, k * 2 + bn, none⟩) l1 no_).trans cw
  have fw' : (w.drewN nq).frozen? ⟨gf, k * 2 + bn, none⟩ = false := fw
  generalize w.drewN nq = w2 at *
  have HS2 := hid (HSet.out w2 HO1)
  have c02 : (w2.setCell ⟨gf, k * 2 + bn, none⟩ (.int .i64 ((m : Nat) : Int))).drew.cell? ⟨g, 0, none⟩ = some (.slice (some ⟨gf, 0, none⟩) m cap) := by
    rw [← HV.out]
    exact HS2.out.1.cell (by omega)
  go_region_held3 (fun w' => w'.cell? ⟨g, 0, none⟩ = some (.slice (some ⟨gf, 0, none⟩) m cap))
    (first | assumption)
    (first
      | (go_at_call 102; refine (HD.out _).mono ?_; rintro e w3 ⟨rfl, rfl⟩))
  obtain ⟨i0, hi0, hz0, hz1, hz2⟩ := info_parts forkInfo
  have HI0 := hid (⟨hi0, hz0, hz1, hz2⟩ : Try.prog.info? 151 = some i0 ∧ i0.zero = some (.agg #[.int .i64 0, .int .i64 0]) ∧ i0.size = 2 ∧ i0.bytes = 16)
  have HS4 : Hid ((w2.setCell ⟨gf, k * 2 + bn, none⟩ (.int .i64 ((m : Nat) : Int))).drew.rowIs g 107 259 F ∧ (w2.setCell ⟨gf, k * 2 + bn, none⟩ (.int .i64 ((m : Nat) : Int))).drew.ownsRow B 151 2 (F 0) m (((waysL P D).set (k * 2 + bn) ((m : Nat) : Int)).map iv) ∧ FrT TC B w (w2.setCell ⟨gf, k * 2 + bn, none⟩ (.int .i64 ((m : Nat) : Int))).drew ∧ B ≤ (w2.setCell ⟨gf, k * 2 + bn, none⟩ (.int .i64 ((m : Nat) : Int))).drew.heap.size) := hid ⟨HS2.out.1, HS2.out.2.1, ((FrT.of_only HO1.out).trans HS2.out.2.2).drew, Nat.le_trans HR.out.le (Nat.le_trans HO1.out.size HS2.out.2.2.size)⟩
  generalize (w2.setCell ⟨gf, k * 2 + bn, none⟩ (.int .i64 ((m : Nat) : Int))).drew = w4 at *
  clear hi0 hz0 hz1 hz2 HS2 HSet HO1 c0' cw' fw' c0 f0 cw fw
  rw [HV.out] at HS4
  go_wp2_with (at_builtin; refine wpList_append_own_at _ rfl (.tmp 36) (.tmp 38) 102 rfl B 151 i0 (.agg #[.int .i64 0, .int .i64 0]) 2 16 Try.underlying102 HI0.out.1 HI0.out.2.1 HI0.out.2.2.1 HI0.out.2.2.2 rfl (by omega) _ m _ rfl (own_keep HS4.out.2.1 ((Only.refl _ _).alloc _) fun _ _ => no_) ⟨w4.heap.size, 0, none⟩ 1 1 [.int .i64 0, .int .i64 0] rfl (by simp) (two_new w4 _ _ _ _ rfl) (by intro q hq; simp at hq; subst hq; rfl) (by unfold maxLen; omega) (by omega) (by have := HS4.out.2.2.2; simp; omega) ?_; intro v' w5 hown hg _ hat; obtain ⟨g5, cap5, rfl⟩ := own_slice hown (by omega); have HG5 : Hid (FrT TFk B w4 w5) := hid ((FrT.of_only ((Only.refl _ w4).alloc _)).trans (grown_fork (own_keep HS4.out.2.1 ((Only.refl _ _).alloc _) fun _ _ => no_) hg)); have hr5 := HG5.out.row HS4.out.1 (by decide); have c50 := hr5.cell (i := 0) (by omega); have f50 := hr5.frozen 0; have l50 := hr5.lt; have HN5 := hid hown; have HR5 := hid hr5; clear hr5 hown hg hat)
  have HN6 : Hid (CodeR B (w5.setCell ⟨g, 0, none⟩ (.slice (some ⟨g5, 0, none⟩) (m + 1) cap5)) g (fun i => if i = 0 then .slice (some ⟨g5, 0, none⟩) (m + 1) cap5 else F i) (P ++ [p ++ [b]]) D ∧ FrT TC B w (w5.setCell ⟨g, 0, none⟩ (.slice (some ⟨g5, 0, none⟩) (m + 1) cap5))) := hid (by
    have hF : FrT TCd B w5 (w5.setCell ⟨g, 0, none⟩ (.slice (some ⟨g5, 0, none⟩) (m + 1) cap5)) := (FrT.refl _ _ w5).setCell (p := ⟨g, 0, none⟩) HR.out.ge (TyAt.of_row (T := TCd) HR5.out rfl) _
    refine ⟨⟨HR5.out.set 0 _, ?_, HR.out.ge, ?_⟩, ?_⟩
    · have h1 := own_ty HN5.out hF (by decide)
      have h2 : ((waysL P D).set (k * 2 + bn) ((m : Nat) : Int)).map iv ++ [.int .i64 0, .int .i64 0] = (waysL (P ++ [p ++ [b]]) D).map iv := by
        rw [← HWs.out, List.map_append]
        rfl
      rw [h2] at h1
      rw [List.length_append, ← Hm2.out]
      exact h1
    · exact Nat.le_trans HS4.out.2.2.2 (Nat.le_trans HG5.out.size hF.size)
    · exact (HS4.out.2.2.1.trans (HG5.out.mono (fun t ht => .inr ht) (Nat.le_refl _))).trans (hF.mono (fun t ht => .inl ht) (Nat.le_refl _)))
  have cw6 : (w5.setCell ⟨g, 0, none⟩ (.slice (some ⟨g5, 0, none⟩) (m + 1) cap5)).cell? ⟨g5, k * 2 + bn, none⟩ = some (.int .i64 ((m : Nat) : Int)) := by
    obtain ⟨gf', cap', hv', _, _, _, _, _, _, hc', _⟩ := HN6.out.1.cells (by simp)
    rw [if_pos rfl] at hv'
    injection hv' with e1 _ _
    injection e1 with e1
    injection e1 with e1 _ _
    subst e1
    have h1 := (hc' k p b (by rw [List.getElem?_append_left (List.getElem?_eq_some_iff.1 HPk.out).1]; exact HPk.out)).1
    rw [← Hbn.out, wayOf_fork (by simp), List.idxOf_append, if_neg HPm.out, ← Hm2.out] at h1
    simpa using h1
  have c06 : (w5.setCell ⟨g, 0, none⟩ (.slice (some ⟨g5, 0, none⟩) (m + 1) cap5)).cell? ⟨g, 0, none⟩ = some (.slice (some ⟨g5, 0, none⟩) (m + 1) cap5) := HN6.out.1.self.cell (by omega)
  clear c50 f50 l50 c02 HI0 HR5 HN5 HG5 HS4 HWs
  generalize w5.setCell ⟨g, 0, none⟩ (.slice (some ⟨g5, 0, none⟩) (m + 1) cap5) = w6 at *
  go_quiet ((go_at_call 102; exact quiet_left (HD.out _)))
  have HO7 : StO w6 (w6.drewN nq) := hid (quiet_only ⟨_, rfl⟩)
  generalize w6.drewN nq = w7 at HO7 ⊢
  go_wp2_with fail
  go_ret
  exact ⟨_, m, _, rfl, hid ⟨HPl.out, by simp, HT2.out, HN6.out.1.same HO7.out, HN6.out.2.trans (FrT.of_only HO7.out)⟩⟩
end Go.Proofs.Ytmbcinbkijnblaa

namespace Go.Proofs.Ytmbcinbkijnblaa
open Go.RowKit

theorem onward_any {B : Nat} {w : World} {g k : Nat} {F : Nat → Value} {P : List (List Bool)} {D : DL} {X : List (List Bool)} {p : List Bool} {b : Bool} (h : CodeR B w g F P D) (hT : Ts P D X) (hk : P[k]? = some p) (hD : ∀ d ∈ D, d.2 ≠ p ++ [b]) (hx : ∃ x ∈ X, ∃ c t, x = p ++ [b] ++ c :: t) (hl : P.length ≤ 1000000) :
    Calls Try.prog 108 #[.pointer (some ⟨g, 0, none⟩), .int .i64 (k : Int), .bool b] w (OnE B w g F P D X (p ++ [b])) := by
  by_cases hm : p ++ [b] ∈ P
  · exact onward_old h hT hk hm hl
  · exact onward_new h hT hk hm hD hx hl
theorem takeB_snoc {u : List Bool} {k : Nat} (h : k < u.length) : u.take (k + 1) = u.take k ++ [u.getD k false] := by
  rw [List.take_add_one]
  simp [List.getD, h]
theorem if_if (v v' : Value) (F : Nat → Value) : (fun i => if i = 0 then v' else (fun i => if i = 0 then v else F i) i) = fun i => if i = 0 then v' else F i := by
  funext i
  by_cases e : i = 0 <;> simp [e]
/-- In the midst of laying a word. -/
structure LayK (B : Nat) (w wr : World) (g : Nat) (F : Nat → Value) (P : List (List Bool)) (D : DL) (X : List (List Bool)) (u : List Bool) (N k j : Nat) (v : Value) : Prop where
  at_ : P[j]? = some (u.take k)
  ts : Ts P D X
  code : CodeR B wr g (fun i => if i = 0 then v else F i) P D
  fr : FrT TC B w wr
  len : P.length ≤ N + k
/-- A word's end is laid. -/
theorem leaf_cells {B : Nat} {w : World} {g j s : Nat} {F : Nat → Value} {P : List (List Bool)} {D : DL} {X : List (List Bool)} {p : List Bool} {b : Bool} (h : CodeR B w g F P D) (hT : Ts P D X) (hj : P[j]? = some p) (hp : p ++ [b] ∉ P) (hD : ∀ d ∈ D, d.2 ≠ p ++ [b]) :
    ∃ gf cap, F 0 = .slice (some ⟨gf, 0, none⟩) P.length cap ∧ P.length ≤ cap ∧ w.cell? ⟨g, 0, none⟩ = some (.slice (some ⟨gf, 0, none⟩) P.length cap) ∧ (w.cell? ⟨gf, j * 2 + b.toNat, none⟩).isSome = true ∧ w.frozen? ⟨gf, j * 2 + b.toNat, none⟩ = false ∧ gf < w.heap.size ∧
      CodeR B (w.setCell ⟨gf, j * 2 + b.toNat, none⟩ (.int .i64 (-1 - (s : Int)))) g F P (D ++ [(s, p ++ [b])]) ∧ FrT TC B w (w.setCell ⟨gf, j * 2 + b.toNat, none⟩ (.int .i64 (-1 - (s : Int)))) := by
  have hjl := (List.getElem?_eq_some_iff.1 hj).1
  obtain ⟨gf, cap, hv, h1, h2, c0, f0, l0, l1, hc, hs⟩ := h.cells (by omega)
  obtain ⟨cw, fw⟩ := hc j p b hj
  have hb : b.toNat ≤ 1 := by cases b <;> simp
  obtain ⟨s1, s2, s3⟩ := hs (2 * j + b.toNat) (-1 - (s : Int)) (by omega)
  rw [ways_leaf hT hj hp hD] at s2
  rw [Nat.mul_comm 2 j] at s1 s2 s3
  exact ⟨gf, cap, hv, h1, c0, by rw [cw]; rfl, fw, l1, ⟨s1, s2, h.ge, Nat.le_trans h.le s3.size⟩, s3⟩
set_option maxHeartbeats 4000000 in
theorem lay_old {B : Nat} {w : World} {g s : Nat} {F : Nat → Value} {P : List (List Bool)} {D : DL} {X : List (List Bool)} {u : List Bool} {gu : Nat} (h : CodeR B w g F P D) (hT : Ts P D X) (hu : w.rowIs gu 4 u.length (vB u)) (hu1 : 1 ≤ u.length) (hu2 : u.length ≤ 1000) (hX : u ∈ X) (hD : ∀ d ∈ D, (∀ t, u ≠ d.2 ++ t) ∧ ∀ t, d.2 ≠ u ++ t) (hXD : ∀ x ∈ X, x = u ∨ ∃ d ∈ D, d.2 = x) (hl : P.length ≤ 500000) (hs : s ≤ 1000) :
    Calls Try.prog 86 #[.pointer (some ⟨g, 0, none⟩), .int .i64 (s : Int), .slice (some ⟨gu, 0, none⟩) u.length u.length] w fun e w' => ∃ P' v, e = .returned (.tuple #[]) ∧ Hid (Ts P' (D ++ [(s, u)]) X ∧ CodeR B w' g (fun i => if i = 0 then v else F i) P' (D ++ [(s, u)]) ∧ FrT TC B w w' ∧ P'.length ≤ P.length + u.length) := by
  obtain ⟨m, hm⟩ : ∃ m, m + 1 = u.length := ⟨u.length - 1, by omega⟩
  have hpos : 0 < P.length := (List.getElem?_eq_some_iff.1 hT.root).1
  obtain ⟨gf, cap, hv, h1, h2, c0, f0, l0, l1, _, _⟩ := h.cells hpos
  have HK0 : Hid (LayK B w w g F P D X u P.length 0 0 (F 0)) := hid ⟨by rw [List.take_zero]; exact hT.root, hT, ⟨h.self.congr fun i _ => by by_cases e : i = 0 <;> simp [e], by simpa using h.own, h.ge, h.le⟩, FrT.refl _ _ w, by omega⟩
  have HU : Hid (∀ W, FrT TC B w W → ∀ k, k < u.length → W.cell? ⟨gu, k, none⟩ = some (.bool (u.getD k false))) := hid fun W hW k hk => (hW.row hu (by decide)).cell hk
  have HOn : Hid (∀ (wr : World) (P' : List (List Bool)) (k j : Nat) (v : Value), k < m → LayK B w wr g F P' D X u P.length k j v → Calls Try.prog 108 #[.pointer (some ⟨g, 0, none⟩), .int .i64 (j : Int), .bool (u.getD k false)] wr fun e w' => ∃ (P2 : List (List Bool)) (j2 : Nat) (v2 : Value), e = .returned (.int .i64 (j2 : Int)) ∧ Hid (LayK B w w' g F P2 D X u P.length (k + 1) j2 v2)) := hid fun wr P' k j v hk hK => by
    have e1 : u.take k ++ [u.getD k false] = u.take (k + 1) := (takeB_snoc (by omega)).symm
    have hon := onward_any (b := u.getD k false) hK.code hK.ts hK.at_ (fun d hd e => by
      rw [e1] at e
      exact (hD d hd).1 (u.drop (k + 1)) (by rw [e, List.take_append_drop])) ⟨u, hX, u.getD (k + 1) false, u.drop (k + 2), by
        rw [e1]
        have : u.drop (k + 1) = u.getD (k + 1) false :: u.drop (k + 2) := by
          rw [List.drop_eq_getElem_cons (show k + 1 < u.length by omega)]
          simp [List.getD, show k + 1 < u.length by omega]
        rw [← this, List.take_append_drop]⟩ (by have := hK.len; omega)
    refine hon.mono ?_
    rintro e w' ⟨P2, j2, v2, he, hH⟩
    obtain ⟨q1, q2, q3, q4, q5⟩ := hH.out
    rw [if_if] at q4
    rw [e1] at q1
    exact ⟨P2, j2, v2, he, hid ⟨q1, q3, q4, hK.fr.trans q5, by have := hK.len; omega⟩⟩
  have HEnd : Hid (∀ (wr : World) (P' : List (List Bool)) (j : Nat) (v : Value), LayK B w wr g F P' D X u P.length m j v → ∃ gf cap, v = .slice (some ⟨gf, 0, none⟩) P'.length cap ∧ j < P'.length ∧ wr.cell? ⟨g, 0, none⟩ = some (.slice (some ⟨gf, 0, none⟩) P'.length cap) ∧ (wr.cell? ⟨gf, j * 2 + (u.getD m false).toNat, none⟩).isSome = true ∧ wr.frozen? ⟨gf, j * 2 + (u.getD m false).toNat, none⟩ = false ∧ gf < wr.heap.size ∧
      Hid (Ts P' (D ++ [(s, u)]) X ∧ CodeR B (wr.setCell ⟨gf, j * 2 + (u.getD m false).toNat, none⟩ (.int .i64 (-1 - (s : Int)))) g (fun i => if i = 0 then v else F i) P' (D ++ [(s, u)]) ∧ FrT TC B w (wr.setCell ⟨gf, j * 2 + (u.getD m false).toNat, none⟩ (.int .i64 (-1 - (s : Int)))) ∧ P'.length ≤ P.length + u.length)) := hid fun wr P' j v hK => by
    have e1 : u.take m ++ [u.getD m false] = u := by rw [← takeB_snoc (by omega), hm, List.take_length]
    have hnm : u ∉ P' := fun hin => by
      obtain ⟨x, hx, b, t, e⟩ := hK.ts.pref u hin
      rcases hXD x hx with rfl | ⟨d, hd, rfl⟩
      · have := congrArg List.length e
        simp at this
      · exact (hD d hd).2 _ e
    obtain ⟨gf, cap, r1, r2, r3, r4, r5, r6, r7, r8⟩ := leaf_cells (s := s) (b := u.getD m false) hK.code hK.ts hK.at_ (by rw [e1]; exact hnm) (fun d hd e => by
      rw [e1] at e
      exact (hD d hd).1 [] (by rw [e, List.append_nil]))
    have hts := hK.ts.leaf (s := s) (b := u.getD m false) hK.at_
    rw [e1] at r7 hts
    rw [if_pos rfl] at r1
    exact ⟨gf, cap, r1, (List.getElem?_eq_some_iff.1 hK.at_).1, r3, r4, r5, r6, hid ⟨hts, r7, hK.fr.trans r8, by have := hK.len; omega⟩⟩
  have HDg := hid fun b u => digit_any b u
  have HWt := hid fun u => wayTo_any s hs u
  have hne : ((P.length : Int) == 0) = false := by rw [beq_eq_false_iff_ne]; omega
  rw [hv] at HK0
  have HR := hid h
  have hml : Hid (m + 1 = u.length) := hid hm
  obtain ⟨n, hn⟩ : ∃ n, n = u.length := ⟨_, rfl⟩
  obtain ⟨q, hq⟩ : ∃ q, q = P.length := ⟨_, rfl⟩
  rw [← hn] at hm hu2 ⊢
  rw [← hq] at c0 hne
  clear h hT hu hD hXD hX hv l1 f0 hu1
  have hnI : IntKind.i64.wrap ((n : Int) - 1) = (m : Int) := by rw [IntKind.wrap_i64]; omega
  have hnI2 : (n : Int) - 1 = (m : Int) := by omega
  have hmn : (m : Int) ≤ (n : Int) := by omega
  have Hnu := hid hn
  have Hq := hid hq
  clear hn hm hq
  go_enter Try.func86, Try.ntmps86
  go_wp2_with fail
  go_loopw [6, 28] (fun s6 s28 wr => ∃ (P' : List (List Bool)) (k j : Nat) (v : Value), k ≤ m ∧ s28 = .int .i64 (k : Int) ∧ s6 = .int .i64 (j : Int) ∧ Hid (LayK B w wr g F P' D X u P.length k j v)) (fun _ s _ => m - (intOf s).toNat)
  case atStart => exact ⟨P, 0, 0, _, by omega, rfl, rfl, HK0⟩
  case round =>
    obtain ⟨P', k, j, v, hk, rfl, rfl, HK⟩ := hrel
    clear HK0 c0
    by_cases hp : k < m
    · have hp' : (k : Int) < (m : Int) := by omega
      have cu := HU.out wr HK.out.fr k (by have := hml.out; omega)
      have HC := hid (HOn.out wr P' k j v hp HK.out)
      generalize u.getD k false = b at *
      go_wp2_with fail
      refine HC.out.mono ?_
      rintro e w2 ⟨P2, j2, v2, rfl, HK2⟩
      go_wp2_with fail
      go_roundw
      case rel => exact ⟨P2, k + 1, j2, v2, by omega, by go_num, rfl, HK2⟩
      case measure => simp [intOf]; omega
    · obtain rfl : k = m := by omega
      obtain ⟨gf2, cap2, rfl, hj2, c2, hsome, f2, l2, HF⟩ := HEnd.out wr P' j v HK.out
      have cu := HU.out wr HK.out.fr k (by have := hml.out; omega)
      generalize hbb : u.getD k false = b at *
      have HDb := hid fun u => HDg.out b u
      have hbn : b.toNat ≤ 1 := by cases b <;> simp
      generalize b.toNat = bn at *
      have hkn : (k : Int) < (n : Int) := by omega
      have hjq : (j : Int) < ((P'.length : Nat) : Int) := by omega
      have hb2 : (bn : Int) < 2 := by omega
      generalize hq2 : P'.length = q2 at *
      have Hq2 := hid hq2
      clear hq2
      have c2' : (wr.setCell ⟨gf2, j * 2 + bn, none⟩ (.int .i64 (-1 - (s : Int)))).drew.cell? ⟨g, 0, none⟩ = some (.slice (some ⟨gf2, 0, none⟩) q2 cap2) := HF.out.2.1.self.cell (i := 0) (by omega)
      have cu' : (wr.setCell ⟨gf2, j * 2 + bn, none⟩ (.int .i64 (-1 - (s : Int)))).drew.cell? ⟨gu, k, none⟩ = some (.bool b) := (HU.out _ HF.out.2.2.1 k (by have := hml.out; omega)).trans (by rw [hbb])
      clear HK
      obtain ⟨cv, ccv⟩ := Option.isSome_iff_exists.1 hsome
      go_wp2_with fail
      go_region_held3 (fun w' => w'.cell? ⟨g, 0, none⟩ = some (.slice (some ⟨gf2, 0, none⟩) q2 cap2) ∧ w'.cell? ⟨gu, k, none⟩ = some (.bool b))
        (first | assumption | exact ⟨c2, cu⟩ | exact ⟨c2', cu'⟩)
        (first
          | (go_at_call 102; refine (HDb.out _).mono ?_; rintro e w3 ⟨rfl, rfl⟩)
          | (go_at_call 109; refine (HWt.out _).mono ?_; rintro e w4 ⟨rfl, rfl⟩))
      clear c2 cu c2' cu' ccv f2
      go_wp2_with fail
      go_end0
      obtain ⟨r1, r2, r3, r4⟩ := HF.out
      exact ⟨P', _, rfl, hid ⟨r1, r2.same (Only.refl _ _).drew, r3.drew, by rw [Hq2.out, Hnu.out]; exact r4⟩⟩
set_option maxHeartbeats 4000000 in
theorem lay_first {B : Nat} {w : World} {g s : Nat} {F : Nat → Value} {u : List Bool} {gu : Nat} (h : w.rowIs g 107 259 F) (hF0 : F 0 = .slice none 0 0) (hB : B ≤ g) (hu : w.rowIs gu 4 u.length (vB u)) (hu1 : 1 ≤ u.length) (hu2 : u.length ≤ 1000) (hs : s ≤ 1000) :
    Calls Try.prog 86 #[.pointer (some ⟨g, 0, none⟩), .int .i64 (s : Int), .slice (some ⟨gu, 0, none⟩) u.length u.length] w fun e w' => ∃ P' v, e = .returned (.tuple #[]) ∧ Hid (Ts P' [(s, u)] [u] ∧ CodeR B w' g (fun i => if i = 0 then v else F i) P' [(s, u)] ∧ FrT TC B w w' ∧ P'.length ≤ 1 + u.length) := by
  have hune : u ≠ [] := fun e => by rw [e] at hu1; simp at hu1
  obtain ⟨P, hP⟩ : ∃ P : List (List Bool), P = [[]] := ⟨_, rfl⟩
  obtain ⟨D, hDe⟩ : ∃ D : DL, D = [] := ⟨_, rfl⟩
  obtain ⟨X, hXe⟩ : ∃ X : List (List Bool), X = [u] := ⟨_, rfl⟩
  have hPl : P.length = 1 := by rw [hP]; rfl
  have hT : Ts P D X := by rw [hP, hDe, hXe]; exact Ts.start hune
  have hX : u ∈ X := by rw [hXe]; simp
  have hD : ∀ d ∈ D, (∀ t, u ≠ d.2 ++ t) ∧ ∀ t, d.2 ≠ u ++ t := by rw [hDe]; intro d hd; cases hd
  have hXD : ∀ x ∈ X, x = u ∨ ∃ d ∈ D, d.2 = x := by rw [hXe]; intro x hx; left; simpa using hx
  have hl : P.length ≤ 500000 := by omega
  have hDs : [(s, u)] = D ++ [(s, u)] := by rw [hDe]; rfl
  rw [← hXe, hDs, ← hPl]
  obtain ⟨m, hm⟩ : ∃ m, m + 1 = u.length := ⟨u.length - 1, by omega⟩
  have hpos : 0 < P.length := (List.getElem?_eq_some_iff.1 hT.root).1
  have c0 := h.cell (i := 0) (by omega)
  rw [hF0] at c0
  have f0 := h.frozen 0
  have l0 := h.lt
  have HK0 : Hid (LayK B w ((w.setCell ⟨g, 0, none⟩ (.slice (some ⟨w.heap.size, 0, none⟩) 1 1)).alloc (.cells #[.int .i64 0, .int .i64 0] 151)) g F P D X u P.length 0 0 (.slice (some ⟨w.heap.size, 0, none⟩) 1 1)) := hid (by
    have hF : FrT TCd B w (w.setCell ⟨g, 0, none⟩ (.slice (some ⟨w.heap.size, 0, none⟩) 1 1)) := (FrT.refl _ _ _).setCell (p := ⟨g, 0, none⟩) hB (TyAt.of_row (T := TCd) h rfl) _
    have hBw : B ≤ w.heap.size := by omega
    have hsz : (w.setCell ⟨g, 0, none⟩ (.slice (some ⟨w.heap.size, 0, none⟩) 1 1)).heap.size = w.heap.size := by simp [World.setCell]
    refine ⟨by rw [List.take_zero]; exact hT.root, hT, ⟨(h.set 0 _).alloc _, ?_, hB, ?_⟩, (hF.alloc _).mono (fun t ht => .inl ht) (Nat.le_refl _), by omega⟩
    · rw [hP, hDe]
      refine ⟨rfl, .inr ⟨w.heap.size, 1, #[.int .i64 0, .int .i64 0], rfl, hBw, ?_, Nat.le_refl _, by unfold maxLen; omega, rfl, rfl⟩⟩
      have := Go.Deep.blk_alloc_new (w.setCell ⟨g, 0, none⟩ (.slice (some ⟨w.heap.size, 0, none⟩) 1 1)) (.cells #[.int .i64 0, .int .i64 0] 151)
      rw [hsz] at this
      exact this
    · exact Nat.le_trans hBw (hF.alloc _).size)
  have HU : Hid (∀ W, FrT TC B w W → ∀ k, k < u.length → W.cell? ⟨gu, k, none⟩ = some (.bool (u.getD k false))) := hid fun W hW k hk => (hW.row hu (by decide)).cell hk
  have HOn : Hid (∀ (wr : World) (P' : List (List Bool)) (k j : Nat) (v : Value), k < m → LayK B w wr g F P' D X u P.length k j v → Calls Try.prog 108 #[.pointer (some ⟨g, 0, none⟩), .int .i64 (j : Int), .bool (u.getD k false)] wr fun e w' => ∃ (P2 : List (List Bool)) (j2 : Nat) (v2 : Value), e = .returned (.int .i64 (j2 : Int)) ∧ Hid (LayK B w w' g F P2 D X u P.length (k + 1) j2 v2)) := hid fun wr P' k j v hk hK => by
    have e1 : u.take k ++ [u.getD k false] = u.take (k + 1) := (takeB_snoc (by omega)).symm
    have hon := onward_any (b := u.getD k false) hK.code hK.ts hK.at_ (fun d hd e => by
      rw [e1] at e
      exact (hD d hd).1 (u.drop (k + 1)) (by rw [e, List.take_append_drop])) ⟨u, hX, u.getD (k + 1) false, u.drop (k + 2), by
        rw [e1]
        have : u.drop (k + 1) = u.getD (k + 1) false :: u.drop (k + 2) := by
          rw [List.drop_eq_getElem_cons (show k + 1 < u.length by omega)]
          simp [List.getD, show k + 1 < u.length by omega]
        rw [← this, List.take_append_drop]⟩ (by have := hK.len; omega)
    refine hon.mono ?_
    rintro e w' ⟨P2, j2, v2, he, hH⟩
    obtain ⟨q1, q2, q3, q4, q5⟩ := hH.out
    rw [if_if] at q4
    rw [e1] at q1
    exact ⟨P2, j2, v2, he, hid ⟨q1, q3, q4, hK.fr.trans q5, by have := hK.len; omega⟩⟩
  have HEnd : Hid (∀ (wr : World) (P' : List (List Bool)) (j : Nat) (v : Value), LayK B w wr g F P' D X u P.length m j v → ∃ gf cap, v = .slice (some ⟨gf, 0, none⟩) P'.length cap ∧ j < P'.length ∧ wr.cell? ⟨g, 0, none⟩ = some (.slice (some ⟨gf, 0, none⟩) P'.length cap) ∧ (wr.cell? ⟨gf, j * 2 + (u.getD m false).toNat, none⟩).isSome = true ∧ wr.frozen? ⟨gf, j * 2 + (u.getD m false).toNat, none⟩ = false ∧ gf < wr.heap.size ∧
      Hid (Ts P' (D ++ [(s, u)]) X ∧ CodeR B (wr.setCell ⟨gf, j * 2 + (u.getD m false).toNat, none⟩ (.int .i64 (-1 - (s : Int)))) g (fun i => if i = 0 then v else F i) P' (D ++ [(s, u)]) ∧ FrT TC B w (wr.setCell ⟨gf, j * 2 + (u.getD m false).toNat, none⟩ (.int .i64 (-1 - (s : Int)))) ∧ P'.length ≤ P.length + u.length)) := hid fun wr P' j v hK => by
    have e1 : u.take m ++ [u.getD m false] = u := by rw [← takeB_snoc (by omega), hm, List.take_length]
    have hnm : u ∉ P' := fun hin => by
      obtain ⟨x, hx, b, t, e⟩ := hK.ts.pref u hin
      rcases hXD x hx with rfl | ⟨d, hd, rfl⟩
      · have := congrArg List.length e
        simp at this
      · exact (hD d hd).2 _ e
    obtain ⟨gf, cap, r1, r2, r3, r4, r5, r6, r7, r8⟩ := leaf_cells (s := s) (b := u.getD m false) hK.code hK.ts hK.at_ (by rw [e1]; exact hnm) (fun d hd e => by
      rw [e1] at e
      exact (hD d hd).1 [] (by rw [e, List.append_nil]))
    have hts := hK.ts.leaf (s := s) (b := u.getD m false) hK.at_
    rw [e1] at r7 hts
    rw [if_pos rfl] at r1
    exact ⟨gf, cap, r1, (List.getElem?_eq_some_iff.1 hK.at_).1, r3, r4, r5, r6, hid ⟨hts, r7, hK.fr.trans r8, by have := hK.len; omega⟩⟩
  have HDg := hid fun b u => digit_any b u
  have HWt := hid fun u => wayTo_any s hs u
  have hml : Hid (m + 1 = u.length) := hid hm
  obtain ⟨n, hn⟩ : ∃ n, n = u.length := ⟨_, rfl⟩
  rw [← hn] at hm hu2 ⊢
  clear h hT hu hD hXD hX hu1 hune hXe hDe hP hDs hF0 hPl
  have hnI : IntKind.i64.wrap ((n : Int) - 1) = (m : Int) := by rw [IntKind.wrap_i64]; omega
  have hnI2 : (n : Int) - 1 = (m : Int) := by omega
  have hmn : (m : Int) ≤ (n : Int) := by omega
  have Hnu := hid hn
  clear hn hm
  go_enter Try.func86, Try.ntmps86
  go_wp2_with fail
  generalize (w.setCell ⟨g, 0, none⟩ (.slice (some ⟨w.heap.size, 0, none⟩) 1 1)).alloc (.cells #[.int .i64 0, .int .i64 0] 151) = w1 at *
  generalize Value.slice (some ⟨w.heap.size, 0, none⟩) 1 1 = v1 at *
  clear f0 l0
  go_loopw [6, 28] (fun s6 s28 wr => ∃ (P' : List (List Bool)) (k j : Nat) (v : Value), k ≤ m ∧ s28 = .int .i64 (k : Int) ∧ s6 = .int .i64 (j : Int) ∧ Hid (LayK B w wr g F P' D X u P.length k j v)) (fun _ s _ => m - (intOf s).toNat)
  case atStart => exact ⟨P, 0, 0, _, by omega, rfl, rfl, HK0⟩
  case round =>
    obtain ⟨P', k, j, v, hk, rfl, rfl, HK⟩ := hrel
    clear HK0 c0
    by_cases hp : k < m
    · have hp' : (k : Int) < (m : Int) := by omega
      have cu := HU.out wr HK.out.fr k (by have := hml.out; omega)
      have HC := hid (HOn.out wr P' k j v hp HK.out)
      generalize u.getD k false = b at *
      go_wp2_with fail
      refine HC.out.mono ?_
      rintro e w2 ⟨P2, j2, v2, rfl, HK2⟩
      go_wp2_with fail
      go_roundw
      case rel => exact ⟨P2, k + 1, j2, v2, by omega, by go_num, rfl, HK2⟩
      case measure => simp [intOf]; omega
    · obtain rfl : k = m := by omega
      obtain ⟨gf2, cap2, rfl, hj2, c2, hsome, f2, l2, HF⟩ := HEnd.out wr P' j v HK.out
      have cu := HU.out wr HK.out.fr k (by have := hml.out; omega)
      generalize hbb : u.getD k false = b at *
      have HDb := hid fun u => HDg.out b u
      have hbn : b.toNat ≤ 1 := by cases b <;> simp
      generalize b.toNat = bn at *
      have hkn : (k : Int) < (n : Int) := by omega
      have hjq : (j : Int) < ((P'.length : Nat) : Int) := by omega
      have hb2 : (bn : Int) < 2 := by omega
      generalize hq2 : P'.length = q2 at *
      have Hq2 := hid hq2
      clear hq2
      have c2' : (wr.setCell ⟨gf2, j * 2 + bn, none⟩ (.int .i64 (-1 - (s : Int)))).drew.cell? ⟨g, 0, none⟩ = some (.slice (some ⟨gf2, 0, none⟩) q2 cap2) := HF.out.2.1.self.cell (i := 0) (by omega)
      have cu' : (wr.setCell ⟨gf2, j * 2 + bn, none⟩ (.int .i64 (-1 - (s : Int)))).drew.cell? ⟨gu, k, none⟩ = some (.bool b) := (HU.out _ HF.out.2.2.1 k (by have := hml.out; omega)).trans (by rw [hbb])
      clear HK
      obtain ⟨cv, ccv⟩ := Option.isSome_iff_exists.1 hsome
      go_wp2_with fail
      go_region_held3 (fun w' => w'.cell? ⟨g, 0, none⟩ = some (.slice (some ⟨gf2, 0, none⟩) q2 cap2) ∧ w'.cell? ⟨gu, k, none⟩ = some (.bool b))
        (first | assumption | exact ⟨c2, cu⟩ | exact ⟨c2', cu'⟩)
        (first
          | (go_at_call 102; refine (HDb.out _).mono ?_; rintro e w3 ⟨rfl, rfl⟩)
          | (go_at_call 109; refine (HWt.out _).mono ?_; rintro e w4 ⟨rfl, rfl⟩))
      clear c2 cu c2' cu' ccv f2
      go_wp2_with fail
      go_end0
      obtain ⟨r1, r2, r3, r4⟩ := HF.out
      exact ⟨P', _, rfl, hid ⟨r1, r2.same (Only.refl _ _).drew, r3.drew, by rw [Hq2.out, Hnu.out]; exact r4⟩⟩
end Go.Proofs.Ytmbcinbkijnblaa

namespace Go.Proofs.Ytmbcinbkijnblaa
open Go.RowKit

/-- A word that lies somewhere. -/
def WordB (w : World) (v : Value) (u : List Bool) : Prop := ∃ g, v = .slice (some ⟨g, 0, none⟩) u.length u.length ∧ w.rowIs g 4 u.length (vB u)
theorem WordB.fr {w w' : World} {v : Value} {u : List Bool} {T : TypeId → Prop} {B : Nat} (h : WordB w v u) (o : FrT T B w w') (hT : ¬ T 4) : WordB w' v u := by
  obtain ⟨g, h1, h2⟩ := h
  exact ⟨g, h1, o.row h2 hT⟩
theorem WordB.rd {w : World} {v : Value} {u : List Bool} (h : WordB w v u) : ∃ g, v = .slice (some ⟨g, 0, none⟩) u.length u.length ∧ RdB w (some ⟨g, 0, none⟩) u := by
  obtain ⟨g, h1, h3⟩ := h
  exact ⟨g, h1, RdV.of_row h3⟩
theorem WordV.b {w0 w : World} {v : Value} {u : List Bool} (h : WordV w0 w v u) : WordB w v u := by
  obtain ⟨g, h1, _, h3⟩ := h
  exact ⟨g, h1, h3⟩
/-- Signs: they rise, and are below 257. -/
def SgOk (sg : List Nat) : Prop := (∀ i j, i < j → j < sg.length → sg.getD i 0 < sg.getD j 0) ∧ ∀ i, i < sg.length → sg.getD i 0 < 257
theorem sg_zip {sg : List Nat} {ws : List (List Bool)} {k : Nat} (h : sg.length = ws.length) (hk : k < ws.length) : (sg.zip ws).take (k + 1) = (sg.zip ws).take k ++ [(sg.getD k 0, wAt ws k)] := by
  rw [List.take_add_one]
  congr 1
  have h1 : k < sg.length := by omega
  simp [List.getElem?_zip_eq_some, List.getD, h1, hk]
/-- A code so far: k words. -/
structure CodK (B : Nat) (w : World) (g : Nat) (sg : List Nat) (ws : List (List Bool)) (k : Nat) (F : Nat → Value) (P : List (List Bool)) : Prop where
  row : w.rowIs g 107 259 F
  ge : B ≤ g
  nil0 : k = 0 → F 0 = .slice none 0 0
  code : 0 < k → CodeR B w g F P ((sg.zip ws).take k) ∧ Ts P ((sg.zip ws).take k) (ws.take k) ∧ P.length ≤ 1 + 300 * k
  self : F 1 = .pointer (some ⟨g, 0, none⟩)
  wd : ∀ i, i < k → WordB w (F (2 + sg.getD i 0)) (wAt ws i)
  out : ∀ s, s < 257 → (∀ i, i < k → sg.getD i 0 ≠ s) → F (2 + s) = .slice none 0 0
/-- A code that the package answered: its signs, its words. -/
def IsCode (B : Nat) (w : World) (g : Nat) (sg : List Nat) (ws : List (List Bool)) : Prop := ∃ F P, CodK B w g sg ws ws.length F P
theorem CodK.fr {B B' : Nat} {w w' : World} {g k : Nat} {sg : List Nat} {ws : List (List Bool)} {F : Nat → Value} {P : List (List Bool)} {T : TypeId → Prop} (h : CodK B w g sg ws k F P) (o : FrT T B' w w') (h1 : ¬ T 107) (h2 : ¬ T 151) (h3 : ¬ T 4) : CodK B w' g sg ws k F P :=
  ⟨o.row h.row h1, h.ge, h.nil0, fun hk => ⟨⟨o.row (h.code hk).1.self h1, own_ty (h.code hk).1.own o h2, h.ge, Nat.le_trans (h.code hk).1.le o.size⟩, (h.code hk).2⟩, h.self, fun i hi => (h.wd i hi).fr o h3, h.out⟩
theorem zero1 : (Try.zeroCells107).size = 259 := by kernel_rfl
theorem zero2 : (Try.zeroCells107).toList = .slice none 0 0 :: .pointer none :: List.replicate 257 (.slice none 0 0) := by kernel_rfl
def zF (g : Nat) (i : Nat) : Value := if i = 1 then .pointer (some ⟨g, 0, none⟩) else .slice none 0 0
theorem zero_row (w : World) (g : Nat) (hg : g = w.heap.size) : (w.alloc (.cells ((Try.zeroCells107).setIfInBounds 1 (.pointer (some ⟨g, 0, none⟩))) 107)).rowIs g 107 259 (zF g) := by
  subst hg
  refine ⟨_, Go.Deep.blk_alloc_new _ _, by rw [Array.size_setIfInBounds, zero1], fun i hi => ?_⟩
  unfold zF
  by_cases e : i = 1
  · subst e
    rw [if_pos rfl, Array.getElem?_setIfInBounds_self, if_pos (by rw [zero1]; omega)]
  · rw [if_neg e, Array.getElem?_setIfInBounds_ne (fun h => e h.symm), ← Array.getElem?_toList, zero2]
    match i, e, hi with
    | 0, _, _ => rfl
    | 1, e, _ => exact absurd rfl e
    | k + 2, _, hi => rw [List.getElem?_cons_succ, List.getElem?_cons_succ, List.getElem?_replicate, if_pos (by omega)]
/-- A word more: its cell, then the tree. -/
theorem CodK.word {B : Nat} {w : World} {g k : Nat} {sg : List Nat} {ws : List (List Bool)} {F : Nat → Value} {P : List (List Bool)} (h : CodK B w g sg ws k F P) {s : Nat} (y : Value) :
    (w.setCell ⟨g, 2 + s, none⟩ y).rowIs g 107 259 (fun i => if i = 2 + s then y else F i) ∧ FrT TCd B w (w.setCell ⟨g, 2 + s, none⟩ y) ∧ (0 < k → CodeR B (w.setCell ⟨g, 2 + s, none⟩ y) g (fun i => if i = 2 + s then y else F i) P ((sg.zip ws).take k)) := by
  have hF : FrT TCd B w (w.setCell ⟨g, 2 + s, none⟩ y) := (FrT.refl _ _ w).setCell (p := ⟨g, 2 + s, none⟩) h.ge (TyAt.of_row (T := TCd) h.row rfl) _
  refine ⟨h.row.set (2 + s) y, hF, fun hk => ⟨h.row.set (2 + s) y, ?_, h.ge, Nat.le_trans (h.code hk).1.le hF.size⟩⟩
  have := own_ty (h.code hk).1.own hF (by decide)
  rw [if_neg (by omega)]
  exact this
theorem lay_any {B : Nat} {ls : List Int} {sg : List Nat} {ws : List (List Bool)} {w w1 : World} {g k gu : Nat} {F : Nat → Value} {P : List (List Bool)} (hw : WordsOf ls ws) (hsg : SgOk sg) (hlen : sg.length = ws.length) (hn : ws.length ≤ 257) (hk : k < ws.length) (hb : ∀ i, i < ws.length → (wAt ws i).length ≤ 256)
    (h : CodK B w g sg ws k F P) (hy : w.rowIs gu 4 (wAt ws k).length (vB (wAt ws k))) (hw1 : StO (w.setCell ⟨g, 2 + sg.getD k 0, none⟩ (.slice (some ⟨gu, 0, none⟩) (wAt ws k).length (wAt ws k).length)) w1) :
    Calls Try.prog 86 #[.pointer (some ⟨g, 0, none⟩), .int .i64 ((sg.getD k 0 : Nat) : Int), .slice (some ⟨gu, 0, none⟩) (wAt ws k).length (wAt ws k).length] w1 fun e w' => ∃ F' P', e = .returned (.tuple #[]) ∧ Hid (CodK B w' g sg ws (k + 1) F' P' ∧ FrT TC B w w') := by
  have hs256 : sg.getD k 0 < 257 := hsg.2 k (by omega)
  obtain ⟨c1, c2, c3⟩ := h.word (s := sg.getD k 0) (.slice (some ⟨gu, 0, none⟩) (wAt ws k).length (wAt ws k).length)
  replace c1 := hw1.out.row c1 no_
  replace c2 := c2.trans (FrT.of_only hw1.out)
  replace c3 := fun h => (c3 h).same hw1.out
  have hu1 := c2.row hy (by decide)
  have hlk := hb k hk
  have hpos := hw.long hk
  have hD1 : (sg.zip ws).take (k + 1) = (sg.zip ws).take k ++ [(sg.getD k 0, wAt ws k)] := sg_zip hlen hk
  have hX1 : ws.take (k + 1) = ws.take k ++ [wAt ws k] := by
    rw [List.take_add_one]
    simp [hk]
  have key : ∀ (P' : List (List Bool)) (v : Value) (w' : World), Ts P' ((sg.zip ws).take (k + 1)) (ws.take (k + 1)) → CodeR B w' g (fun i => if i = 0 then v else if i = 2 + sg.getD k 0 then .slice (some ⟨gu, 0, none⟩) (wAt ws k).length (wAt ws k).length else F i) P' ((sg.zip ws).take (k + 1)) → FrT TC B w1 w' → P'.length ≤ 1 + 300 * (k + 1) → ∃ F' P', CodK B w' g sg ws (k + 1) F' P' ∧ FrT TC B w w' := fun P' v w' h1 h2 h3 h4 => by
    refine ⟨_, P', ⟨h2.self, h.ge, fun e => by omega, fun _ => ⟨h2, h1, h4⟩, ?_, fun i hi => ?_, fun s hs ho => ?_⟩, (c2.mono (fun t ht => .inl ht) (Nat.le_refl _)).trans h3⟩
    · show (if (1 : Nat) = 0 then v else if 1 = 2 + sg.getD k 0 then _ else F 1) = _
      rw [if_neg (by omega), if_neg (by omega)]
      exact h.self
    · have hu := h3.row hu1 (by decide)
      show WordB w' (if 2 + sg.getD i 0 = 0 then v else if 2 + sg.getD i 0 = 2 + sg.getD k 0 then _ else F (2 + sg.getD i 0)) _
      rw [if_neg (by omega)]
      by_cases e : i = k
      · subst e
        rw [if_pos rfl]
        exact ⟨gu, rfl, hu⟩
      · have := hsg.1 i k (by omega) (by omega)
        rw [if_neg (by omega)]
        exact ((h.wd i (by omega)).fr c2 (by decide)).fr h3 (by decide)
    · show (if 2 + s = 0 then v else if 2 + s = 2 + sg.getD k 0 then _ else F (2 + s)) = _
      have := ho k (by omega)
      rw [if_neg (by omega), if_neg (by omega)]
      exact h.out s hs fun i hi => ho i (by omega)
  by_cases hk0 : k = 0
  · subst hk0
    have hF0 : (fun i => if i = 2 + sg.getD 0 0 then Value.slice (some ⟨gu, 0, none⟩) (wAt ws 0).length (wAt ws 0).length else F i) 0 = .slice none 0 0 := by
      show (if 0 = 2 + sg.getD 0 0 then _ else F 0) = _
      rw [if_neg (by omega)]
      exact h.nil0 rfl
    refine (lay_first (s := sg.getD 0 0) c1 hF0 h.ge hu1 hpos (by omega) (by omega)).mono ?_
    rintro e w' ⟨P', v, rfl, hH⟩
    obtain ⟨q1, q2, q3, q4⟩ := hH.out
    have hD0 : (sg.zip ws).take 1 = [(sg.getD 0 0, wAt ws 0)] := by rw [hD1]; simp
    have hX0 : ws.take 1 = [wAt ws 0] := by rw [hX1]; simp
    obtain ⟨F', P2, k1, k2⟩ := key P' v w' (by rw [hD0, hX0]; exact q1) (by rw [hD0]; exact q2) q3 (by omega)
    exact ⟨F', P2, rfl, hid ⟨k1, k2⟩⟩
  · obtain ⟨r1, r2, r3⟩ := h.code (by omega)
    have hmem : ∀ d ∈ (sg.zip ws).take k, ∃ i, i < k ∧ d = (sg.getD i 0, wAt ws i) := fun d hd => by
      obtain ⟨i, hi, e⟩ := List.mem_iff_getElem.1 hd
      have hi2 : i < k := by rw [List.length_take] at hi; omega
      refine ⟨i, hi2, ?_⟩
      rw [← e, List.getElem_take, List.getElem_zip]
      simp [List.getD, show i < sg.length by omega, show i < ws.length by omega]
    have hmem2 : ∀ i, i < k → (sg.getD i 0, wAt ws i) ∈ (sg.zip ws).take k := fun i hi => by
      refine List.mem_iff_getElem.2 ⟨i, by rw [List.length_take, List.length_zip]; omega, ?_⟩
      rw [List.getElem_take, List.getElem_zip]
      simp [List.getD, show i < sg.length by omega, show i < ws.length by omega]
    have hT2 : Ts P ((sg.zip ws).take k) (ws.take (k + 1)) := r2.more fun x hx => by rw [hX1]; exact List.mem_append_left _ hx
    refine (lay_old (s := sg.getD k 0) (c3 (by omega)) hT2 hu1 hpos (by omega) (by rw [hX1]; simp) (fun d hd => ?_) (fun x hx => ?_) (by omega) (by omega)).mono ?_
    · obtain ⟨i, hi, rfl⟩ := hmem d hd
      exact ⟨hw.no_begin (by omega) hk (by omega), hw.no_begin hk (by omega) (by omega)⟩
    · rw [hX1] at hx
      rcases List.mem_append.1 hx with hx | hx
      · right
        obtain ⟨i, hi, e⟩ := List.mem_iff_getElem.1 hx
        have hi2 : i < k := by rw [List.length_take] at hi; omega
        refine ⟨_, hmem2 i hi2, ?_⟩
        rw [← e, List.getElem_take]
        simp [show i < ws.length by omega]
      · left; simpa using hx
    · rintro e w' ⟨P', v, rfl, hH⟩
      obtain ⟨q1, q2, q3, q4⟩ := hH.out
      rw [← hD1] at q1 q2
      obtain ⟨F', P2, k1, k2⟩ := key P' v w' q1 q2 q3 (by omega)
      exact ⟨F', P2, rfl, hid ⟨k1, k2⟩⟩
end Go.Proofs.Ytmbcinbkijnblaa

namespace Go.Proofs.Ytmbcinbkijnblaa
open Go.RowKit

theorem WsK.cells {w0 w : World} {v : Value} {xs : List Value} {ws : List (List Bool)} {n : Nat} (h : WsK w0 w v xs ws n) (hn : 0 < n) : ∃ gv cap, v = .slice (some ⟨gv, 0, none⟩) n cap ∧ n ≤ cap ∧ ∀ W, FrT TC 0 w W → ∀ k, k < n → ∃ gu, W.cell? ⟨gv, k, none⟩ = some (.slice (some ⟨gu, 0, none⟩) (wAt ws k).length (wAt ws k).length) ∧ W.rowIs gu 4 (wAt ws k).length (vB (wAt ws k)) := by
  obtain ⟨g, cap, F, hv, hge, hrow, hF, hcap, hcm⟩ := h.own.shape h.len hn
  refine ⟨g, cap, hv, hcap, fun W hW k hk => ?_⟩
  obtain ⟨gu, h1, h2⟩ := (h.wd k hk).b
  refine ⟨gu, ?_, hW.row h2 (by decide)⟩
  rw [(hW.row hrow (by decide)).cell (by omega), hF k hk, h1]
set_option maxRecDepth 10000 in
set_option maxHeartbeats 4000000 in
theorem codeOf_any {A C : Option Addr} {c1 c2 : Nat} {ls : List Int} {sg : List Nat} {ws : List (List Bool)} {w : World} (hw : WordsOf ls ws) (hsg : SgOk sg) (hlen : sg.length = ls.length) (hn : ls.length ≤ 257) (hb : ∀ i, i < ws.length → (wAt ws i).length ≤ 256)
    (hs : RdI w A (sg.map fun s => ((s : Nat) : Int))) (hl : RdI w C ls) (hc2 : ls.length ≤ c2) :
    Calls Try.prog 51 #[.slice A ls.length c1, .slice C ls.length c2] w fun e w' => ∃ g : Nat, e = .returned (.pointer (some ⟨g, 0, none⟩)) ∧ Hid (w.heap.size ≤ g ∧ IsCode w.heap.size w' g sg ws ∧ Only (fun _ => False) w w') := by
  have hlw := hw.len
  have hpos := hw.pos
  obtain ⟨b, off, rfl, hcs⟩ := hs (by rw [List.length_map]; omega)
  rw [List.length_map] at hcs
  have HSg : Hid (∀ W, FrT TC w.heap.size w W → ∀ k, k < ls.length → W.cell? ⟨b, off + k, none⟩ = some (.int .i64 ((sg.getD k 0 : Nat) : Int))) := hid fun W hW k hk => by
    have h := hcs k (by omega)
    rw [hW.cell (cell_lt h) (cell_lt h), h]
    simp [vI, List.getD, show k < sg.length by omega]
  have HWo : Hid (∀ W, StO w W → Calls Try.prog 85 #[.slice C ls.length c2] W fun e w' => ∃ v xs, e = .returned v ∧ Hid (WsK W w' v xs ws ws.length)) := hid fun W hW => wordsOf_any hw (hl.only hW.out fun _ _ _ => no_) hc2 (fun k hk => Nat.le_trans (hb k hk) (by omega)) hn
  have HLay : Hid (∀ (wr : World) (k gu : Nat) (F : Nat → Value) (P : List (List Bool)) (W : World), k < ws.length → CodK w.heap.size wr w.heap.size sg ws k F P → wr.rowIs gu 4 (wAt ws k).length (vB (wAt ws k)) → StO (wr.setCell ⟨w.heap.size, 2 + sg.getD k 0, none⟩ (.slice (some ⟨gu, 0, none⟩) (wAt ws k).length (wAt ws k).length)) W → Calls Try.prog 86 #[.pointer (some ⟨w.heap.size, 0, none⟩), .int .i64 ((sg.getD k 0 : Nat) : Int), .slice (some ⟨gu, 0, none⟩) (wAt ws k).length (wAt ws k).length] W fun e w' => ∃ F' P', e = .returned (.tuple #[]) ∧ Hid (CodK w.heap.size w' w.heap.size sg ws (k + 1) F' P' ∧ FrT TC w.heap.size wr w')) := hid fun wr k gu F P W hk hC hr hW => lay_any hw hsg (by omega) (by omega) hk hb hC hr hW
  have HK0 : Hid (∀ W, StO (w.alloc (.cells ((Try.zeroCells107).setIfInBounds 1 (.pointer (some ⟨w.heap.size, 0, none⟩))) 107)) W → CodK w.heap.size W w.heap.size sg ws 0 (zF w.heap.size) []) := hid fun W hW =>
    ⟨hW.out.row (zero_row w _ rfl) no_, Nat.le_refl _, fun _ => rfl, fun h => absurd h (Nat.lt_irrefl 0), rfl, fun i hi => absurd hi (Nat.not_lt_zero i), fun s hs _ => by unfold zF; rw [if_neg (by omega)]⟩
  have HO0 : StO w (w.alloc (.cells ((Try.zeroCells107).setIfInBounds 1 (.pointer (some ⟨w.heap.size, 0, none⟩))) 107)) := hid ((Only.refl _ w).alloc _)
  have HSl : Hid (∀ k, k < ls.length → sg.getD k 0 < 257) := hid fun k hk => hsg.2 k (by omega)
  have Hw := hid hw
  obtain ⟨n, hnn⟩ : ∃ n, n = ls.length := ⟨_, rfl⟩
  rw [← hnn] at hn hc2 HSg HWo HSl hlw ⊢
  have Hnn := hid hnn
  have Hlw := hid hlw
  have hn1 : 0 < n := by omega
  clear hw hsg hlen hb hs hl hcs hnn hlw hpos
  go_enter Try.func51, Try.ntmps51
  go_wp2_with fail
  generalize (Try.zeroCells107).setIfInBounds 1 (.pointer (some ⟨w.heap.size, 0, none⟩)) = zc at *
  refine (HWo.out _ HO0).mono ?_
  rintro e w2 ⟨v, xs, rfl, HWs⟩
  rw [Hlw.out] at HWs
  obtain ⟨gv, cap, rfl, hcap, hcells⟩ := HWs.out.cells hn1
  have HCl := hid hcells
  have HK := hid (HK0.out w2 (hid HWs.out.only))
  have HO2 : StO w w2 := hid (HO0.out.trans HWs.out.only)
  clear hcells HK0 HO0 HWo HWs
  generalize Try.zeroCells107 = zz at *
  have HFw : Hid (∀ W, FrT TC w.heap.size w2 W → FrT TC w.heap.size w W) := hid fun W h => (FrT.of_only HO2.out).trans h
  have HFo : Hid (∀ W, FrT TC w.heap.size w2 W → Only (fun _ => False) w W) := hid fun W h => Only.of_below (((FrT.of_only (T := TC) (B := w.heap.size) HO2.out).trans h).below (Nat.le_refl _)) _
  have hg1 : w.heap.size < w2.heap.size := HK.out.row.lt
  generalize hBB : w.heap.size = B at *
  have HBB := hid hBB
  clear hBB
  go_wp2_with fail
  go_loopw [17] (fun s wr => ∃ (k : Nat) (F : Nat → Value) (P : List (List Bool)), k ≤ n ∧ s = .int .i64 (k : Int) ∧ Hid (CodK B wr B sg ws k F P) ∧ Hid (FrT TC B w2 wr)) (fun s _ => n - (intOf s).toNat)
  case atStart => exact ⟨0, _, _, by omega, rfl, HK, hid (FrT.refl _ _ _)⟩
  case round =>
    obtain ⟨k, F, P, hk, rfl, HC, HF⟩ := hrel
    clear HK
    by_cases hp : k < n
    · have hp' : (k : Int) < (n : Int) := by omega
      obtain ⟨gu, cw, hru⟩ := HCl.out wr (HF.out.mono (fun t ht => ht) (Nat.zero_le _)) k hp
      have HLk := hid fun W hW => HLay.out wr k gu F P W (by rw [Hlw.out]; exact hp) HC.out hru hW
      have cs := HSg.out wr (HFw.out _ HF.out) k hp
      have HSk := hid fun W hW => HSg.out W (HFw.out _ hW) k hp
      have hs7 := HSl.out k hp
      have hrow := HC.out.row
      have cg := hrow.cell (i := 2 + sg.getD k 0) (by omega)
      have fg := hrow.frozen (2 + sg.getD k 0)
      have HGe := hid HC.out.ge
      have HTy : Hid (TyAt wr B TC) := hid (TyAt.of_row hrow (.inl rfl))
      generalize (wAt ws k).length = lk at *
      generalize sg.getD k 0 = s at *
      generalize F (2 + s) = vold at *
      have HF1 : Hid (FrT TC B w2 (wr.setCell ⟨B, 2 + s, none⟩ (.slice (some ⟨gu, 0, none⟩) lk lk)).drew) := hid ((HF.out.trans ((FrT.refl _ _ wr).setCell (p := ⟨B, 2 + s, none⟩) HGe.out HTy.out _)).drew)
      have cs1 := HSk.out _ HF1.out
      have hs7' : (s : Int) < 257 := by omega
      clear HC hrow hru
      go_wp2_with fail
      go_region_held3 (fun w' => w'.cell? ⟨b, off + k, none⟩ = some (.int .i64 (s : Int))) (first | assumption) (fail)
      have HLk2 : Hid (∀ W, StO (wr.setCell ⟨B, 2 + s, none⟩ (.slice (some ⟨gu, 0, none⟩) lk lk)).drew W → Calls Try.prog 86 #[.pointer (some ⟨B, 0, none⟩), .int .i64 (s : Int), .slice (some ⟨gu, 0, none⟩) lk lk] W fun e w' => ∃ F' P', e = .returned (.tuple #[]) ∧ Hid (CodK B w' B sg ws (k + 1) F' P' ∧ FrT TC B w2 w')) := hid fun W hW => (HLk.out W (hid ((Only.refl _ _).drew.trans hW.out))).mono fun e w' ⟨F', P', h1, h2⟩ => ⟨F', P', h1, hid ⟨h2.out.1, HF.out.trans h2.out.2⟩⟩
      have cs2 := HSk.out _ HF1.out.drew
      clear cs cg fg HLk HGe HTy cw
      generalize (wr.setCell ⟨B, 2 + s, none⟩ (.slice (some ⟨gu, 0, none⟩) lk lk)).drew = w5 at *
      go_wp2_with fail
      go_region_held3 (fun w' => w'.cell? ⟨b, off + k, none⟩ = some (.int .i64 (s : Int))) (first | assumption | exact HSk.out _ HC6.out.2)
        (first
          | (go_at_call 86; refine (HLk2.out _ (hid (Only.refl _ _).drew)).mono ?_; rintro e w6 ⟨F6, P6, rfl, HC6⟩))
      have HC7 := hid HC6.out.1
      have HF7 := hid HC6.out.2
      clear HC6 HLk2 cs1 cs2 HF1
      go_wp2_with fail
      go_roundw
      case rel => exact ⟨k + 1, F6, P6, by omega, by go_num, HC7, HF7⟩
      case measure => simp [intOf]; omega
    · obtain rfl : k = n := by omega
      go_wp2_with fail
      go_ret
      rw [HBB.out]
      exact ⟨B, rfl, hid ⟨Nat.le_refl _, ⟨F, P, by rw [Hlw.out]; exact HC.out⟩, HFo.out _ HF.out⟩⟩
end Go.Proofs.Ytmbcinbkijnblaa
