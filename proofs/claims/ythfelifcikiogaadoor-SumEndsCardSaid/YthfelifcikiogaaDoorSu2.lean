/- sum: rows of bytes that read; the register behind them; the sum of rows. -/
import Derived.Test.YthfelifcikiogaaDoorSu1
namespace Go.Proofs.YthfelifcikiogaaDoor
open Go.RowKit
open Cr

/-- Rows of bytes: the slice of them reads, and each of them. -/
structure RdR (w : World) (A : Option Addr) (L : List (List Nat)) (aF : Nat → Option Addr) (cF : Nat → Nat) : Prop where
  out : RdV w A L.length (fun j => .slice (aF j) (L.getD j []).length (cF j))
  row : ∀ j, j < L.length → RdY w (aF j) (L.getD j [])
  nil : ∀ j, j < L.length → aF j = none → (L.getD j []).length = 0 ∧ cF j = 0
section
variable {w w' : World} {A : Option Addr} {L : List (List Nat)} {aF : Nat → Option Addr} {cF : Nat → Nat}
theorem RdR.below (h : RdR w A L aF cF) (hb : Below w.heap.size w w') : RdR w' A L aF cF := ⟨h.out.below hb, fun j hj => (h.row j hj).below hb, h.nil⟩
theorem RdR.only (h : RdR w A L aF cF) (ho : Only (fun _ => False) w w') : RdR w' A L aF cF := ⟨h.out.only ho fun _ _ _ => no_, fun j hj => (h.row j hj).only ho fun _ _ _ => no_, h.nil⟩
theorem RdR.drewN (h : RdR w A L aF cF) (k : Nat) : RdR (w.drewN k) A L aF cF := ⟨h.out, h.row, h.nil⟩
end
def jn (L : List (List Nat)) (k : Nat) : List Nat := (L.take k).flatten
theorem jn_zero (L : List (List Nat)) : jn L 0 = [] := by simp [jn]
theorem jn_succ {L : List (List Nat)} {k : Nat} (h : k < L.length) : jn L (k + 1) = jn L k ++ L.getD k [] := by
  unfold jn
  rw [List.take_succ_eq_append_getElem h, List.flatten_append]; simp [List.getD, h]
theorem jn_all (L : List (List Nat)) : jn L L.length = L.flatten := by simp [jn]
def BtsR (L : List (List Nat)) : Prop := ∀ l ∈ L, ∀ b ∈ l, b < 256
theorem BtsR.flat {L : List (List Nat)} (h : BtsR L) : ∀ b ∈ L.flatten, b < 256 := fun b hb => by
  obtain ⟨l, hl, hb⟩ := List.mem_flatten.1 hb
  exact h l hl b hb
theorem BtsR.jn {L : List (List Nat)} (h : BtsR L) (k : Nat) : ∀ b ∈ jn L k, b < 256 := fun b hb => by
  obtain ⟨l, hl, hb⟩ := List.mem_flatten.1 hb
  exact h l (List.mem_of_mem_take hl) b hb
theorem BtsR.row {L : List (List Nat)} (h : BtsR L) (k : Nat) : ∀ b ∈ L.getD k [], b < 256 := fun b hb => by
  by_cases hk : k < L.length
  · have : L.getD k [] ∈ L := by simp [List.getD, hk]
    exact h _ this b hb
  · simp [List.getD, List.getElem?_eq_none (by omega : L.length ≤ k)] at hb
theorem byts_of {bs : List Nat} (h : ∀ b ∈ bs, b < 256) : Byts bs := fun j => by
  by_cases hj : j < bs.length
  · have : bs.getD j 0 ∈ bs := by simp [List.getD, hj]
    exact h _ this
  · rw [getDn_far bs j (by omega)]; omega
theorem of_byts {bs : List Nat} (h : Byts bs) : ∀ b ∈ bs, b < 256 := fun b hb => by
  obtain ⟨i, hi, rfl⟩ := List.getElem_of_mem hb
  have := h i
  simpa [List.getD, hi] using this
theorem getDn_mem {bs : List Nat} {k : Nat} (h : k < bs.length) : bs.getD k 0 ∈ bs := by simp [List.getD, h]
theorem take_snoc {bs : List Nat} {k : Nat} (h : k < bs.length) : bs.take (k + 1) = bs.take k ++ [bs.getD k 0] := by
  rw [List.take_succ_eq_append_getElem h]; simp [List.getD, h]

/-- The register's box while rows go through it. -/
structure BeS (w wr : World) (c : Nat) : Prop where
  box : wr.rowIs w.heap.size 45 1 (fun _ => .int .u32 (c : Int))
  two : ∃ v, wr.rowIs (w.heap.size + 1) 45 1 (fun _ => v)
  only : Only (fun _ => False) w wr
theorem BeS.begin (w : World) (c : Nat) (z : Value) : BeS w ((w.alloc (.cells #[.int .u32 (c : Int)] 45)).alloc (.cells #[z] 45)) c := by
  refine ⟨(World.rowIs_alloc w #[.int .u32 (c : Int)] 45 _ (fun i hi => ?_)).alloc _, ⟨z, ?_⟩, ((Only.refl _ w).alloc _).alloc _⟩
  · match i, hi with
    | 0, _ => rfl
  · have h := World.rowIs_alloc (w.alloc (.cells #[.int .u32 (c : Int)] 45)) #[z] 45 (fun _ => z) (fun i hi => by
      match i, hi with
      | 0, _ => rfl)
    simpa using h
theorem BeS.set {w wr : World} {c : Nat} (h : BeS w wr c) (n : Nat) (a : Int) (ha : a = (n : Int)) : BeS w (wr.setCell ⟨w.heap.size, 0, none⟩ (.int .u32 a)) n := by
  subst ha
  obtain ⟨v, hv⟩ := h.two
  refine ⟨(h.box.set 0 _).congr fun k hk => ?_, ⟨v, World.rowIs.setOther hv (by show w.heap.size + 1 ≠ w.heap.size; omega) _⟩, h.only.setCell (.inr (Nat.le_refl _)) _⟩
  rw [if_pos (by omega)]

set_option maxHeartbeats 1000000 in
theorem behind_any {c cap : Nat} {A : Option Addr} {L : List (List Nat)} {aF : Nat → Option Addr} {cF : Nat → Nat} {w : World} (hc : c < 4294967296) (hr : RdR w A L aF cF) (hB : BtsR L) (hL : L.length ≤ 9223372036854775807) (hl : ∀ j, (L.getD j []).length ≤ 9223372036854775807) (hT : TabS w) :
    Calls Tryd.prog 27 #[.agg #[.int .u32 (c : Int)], .slice A L.length cap] w fun e w' => e = .returned (.agg #[.int .u32 ((reg c L.flatten : Nat) : Int)]) ∧ Hid (Below w.heap.size w w') := by
  have HS := hid (fun z => BeS.begin w c z)
  have HR := hid hr
  have HT := hid hT
  have HLL := hid hl
  have HC : Hid (∀ k, reg c (jn L k) < 4294967296) := hid fun k => reg_lt hc (hB.jn k)
  have HBr := hid fun k => hB.row k
  have HJB := hid fun k => hB.jn k
  have HJ := hid fun k (hk : k < L.length) => congrArg (reg c) (jn_succ hk)
  have HE : Hid (reg c (jn L L.length) = reg c L.flatten) := hid (by rw [jn_all])
  have HZ : Hid (reg c (jn L 0) = c) := hid (by rw [jn_zero]; rfl)
  clear hr hT hl hB
  generalize reg c L.flatten = res at HE
  go_enter Tryd.func27, Tryd.ntmps27
  go_wp2
  go_loopw [11] (fun s wr => ∃ k : Nat, k ≤ L.length ∧ s = .int .i64 k ∧ Hid (BeS w wr (reg c (jn L k)))) (fun s _ => L.length - (intOf s).toNat)
  case atStart => exact ⟨0, by omega, rfl, hid (by rw [HZ.out]; exact HS.out _)⟩
  case round =>
    obtain ⟨k, hk, rfl, HW⟩ := hrel
    clear HS
    by_cases hp : k < L.length
    · have HRw : Hid (RdR wr A L aF cF) := hid (HR.out.only HW.out.only)
      obtain ⟨b, off, h1, d1, _⟩ := HRw.out.out.at hp
      have hlk := HLL.out k
      have HRk : Hid (RdY w (aF k) (L.getD k [])) := hid (HR.out.row k hp)
      have HBk := hid (HBr.out k)
      have HJk := hid (HJ.out k hp)
      have hck := HC.out k
      subst h1
      clear HRw
      have HCk : Hid (∀ i, reg c (jn L k ++ (L.getD k []).take i) < 4294967296) := hid fun i => reg_lt hc fun x hx => (List.mem_append.1 hx).elim (HJB.out k x) fun h => HBr.out k x (List.mem_of_mem_take h)
      generalize jn L k = jk at HW HJk hck HCk
      generalize L.getD k [] = bs at HRk HBk HJk d1 hlk HCk
      generalize aF k = ak at HRk d1
      generalize cF k = ck at d1
      go_wp2
      go_loopw [17] (fun s wr2 => ∃ i : Nat, i ≤ bs.length ∧ s = .int .i64 i ∧ Hid (BeS w wr2 (reg c (jk ++ bs.take i)))) (fun s _ => bs.length - (intOf s).toNat)
      case atStart => exact ⟨0, by omega, rfl, hid (by rw [List.take_zero, List.append_nil]; exact HW.out)⟩
      case round =>
        obtain ⟨i, hi, rfl, HV⟩ := hrel
        by_cases hq : i < bs.length
        · obtain ⟨b2, off2, h2, d2, _⟩ := RdV.at (HRk.out.only HV.out.only fun _ _ _ => no_) hq
          have hx : bs.getD i 0 < 256 := HBk.out _ (getDn_mem hq)
          unfold vY at d2
          subst h2
          have dc := HV.out.box.cell (i := 0) (by omega)
          have fz := HV.out.box.frozen 0
          have HA := hid fun v => after_any (reg c (jk ++ bs.take i)) (bs.getD i 0) v (HCk.out i) hx
          have HT2 : Hid (TabS wr) := hid (HT.out.only HV.out.only)
          have HN : Hid (BeS w (wr.setCell ⟨w.heap.size, 0, none⟩ (.int .u32 ((step8 (reg c (jk ++ bs.take i)) (bs.getD i 0) : Nat) : Int))) (reg c (jk ++ bs.take (i + 1)))) := hid (HV.out.set _ _ (by rw [take_snoc hq, ← List.append_assoc, reg_snoc]))
          generalize reg c (jk ++ bs.take i) = r at dc HA HN
          generalize step8 r (bs.getD i 0) = r2 at HA HN
          generalize bs.getD i 0 = x at d2 hx HA
          go_wp2_with fail
          refine (HA.out _ HT2.out).mono ?_
          rintro e w2 ⟨rfl, rfl⟩
          go_wp2_with fail
          go_roundw
          case rel => exact ⟨i + 1, by omega, by go_num, HN⟩
          case measure => simp [intOf]; omega
        · obtain rfl : i = bs.length := by omega
          go_wp2
          go_roundw
          case rel => exact ⟨k + 1, by omega, by go_num, hid (by rw [HJk.out]; rw [List.take_length] at HV; exact HV.out)⟩
          case measure => simp [intOf]; omega
    · obtain rfl : k = L.length := by omega
      have hE := HE.out
      have hb := hid HW.out.box
      have hb2 := hid HW.out.two
      have ho := hid HW.out.only
      rw [hE] at hb
      obtain ⟨v2, hv2⟩ := hb2.out
      have dc := hb.out.cell (i := 0) (by omega)
      have dv := hv2.cell (i := 0) (by omega)
      have fz := hv2.frozen 0
      go_wp2
      refine bodyPost_ret (v := .agg #[.int .u32 (res : Int)]) ?_ rfl ⟨rfl, hid (Only.to_below (S := fun _ => False) (ho.out.setCell (.inr (show w.heap.size ≤ w.heap.size + 1 by omega)) _) (fun _ h => h.elim) (Nat.le_refl _))⟩
      have cc : (wr.setCell ⟨w.heap.size + 1, 0, none⟩ (.int .u32 (res : Int))).cell? ⟨w.heap.size + 1, 0, none⟩ = some (.int .u32 (res : Int)) := by simpa using (hv2.set 0 (.int .u32 (res : Int))).cell (i := 0) (by omega)
      simp [results, Tryd.results27, go_sem, cc]

theorem begin_lt : (4294967295 : Nat) < 4294967296 := by omega
set_option maxHeartbeats 1000000 in
/-- The sum of rows. -/
theorem sumOf_any {cap : Nat} {A : Option Addr} {L : List (List Nat)} {aF : Nat → Option Addr} {cF : Nat → Nat} {w : World} (hr : RdR w A L aF cF) (hB : BtsR L) (hL : L.length ≤ 9223372036854775807) (hl : ∀ j, (L.getD j []).length ≤ 9223372036854775807) (hT : TabS w) :
    Calls Tryd.prog 14 #[.slice A L.length cap] w fun e w' => e = .returned (.int .u32 ((crc L.flatten : Nat) : Int)) ∧ Hid (Below w.heap.size w w') := by
  have HA := hid fun (v : World) (h : Hid (Below w.heap.size w v)) => behind_any (cap := cap) begin_lt (hr.below h.out) hB hL hl (hT.below h.out)
  have HR : Hid (reg 4294967295 L.flatten < 4294967296) := hid (reg_lt begin_lt hB.flat)
  have HE := hid (congrArg (fun n : Nat => Ending.returned (.int .u32 (n : Int))) (show crc L.flatten = reg 4294967295 L.flatten ^^^ F from rfl))
  have HTu := hid fun v => turned_any (reg 4294967295 L.flatten) v HR.out
  clear hr hT hl hB
  generalize Ending.returned (.int .u32 ((crc L.flatten : Nat) : Int)) = g at HE
  generalize reg 4294967295 L.flatten = r at HA HR HE HTu
  generalize r ^^^ F = q at HE HTu
  go_enter Tryd.func14, Tryd.ntmps14
  go_wp2_with fail
  refine (begun_any _).mono ?_
  rintro e w1 ⟨rfl, HB⟩
  go_wp2_with fail
  refine (HA.out _ HB).mono ?_
  rintro e w2 ⟨rfl, HB2⟩
  have HB3 : Hid (Below w.heap.size w (w2.alloc (.cells #[.int .u32 (r : Int)] 45))) := hid ((HB.out.trans (HB2.out.mono HB.out.size)).alloc (Nat.le_trans HB.out.size HB2.out.size) _)
  go_wp2_with fail
  refine (HTu.out _).mono ?_
  rintro e w3 ⟨rfl, rfl⟩
  go_wp2_with fail
  go_ret
  exact ⟨HE.out.symm, HB3⟩
end Go.Proofs.YthfelifcikiogaaDoor
