/- Deeds that came in: how many; one is read again. -/
import Derived.Test.YtgdfiopdkidhfaaFp
import Derived.Test.YtgdfiopdkidhfaaFm
namespace Go.Proofs.Ytgdfiopdkidhfaa
open Go.RowKit

/-- A slice that reads as deeds. -/
structure DsIn (w : World) (A : Option Addr) (N : Nat) (d : Nat → Dd) : Prop where
  cells : ∀ j, j < N → ∃ b off, A = some ⟨b, off, none⟩ ∧ w.cell? ⟨b, off + j * 4, none⟩ = some (.int .i64 (d j).what) ∧ w.cell? ⟨b, off + j * 4 + 1, none⟩ = some (.int .i64 (d j).width) ∧
    w.cell? ⟨b, off + j * 4 + 2, none⟩ = some (.slice (d j).oa (d j).ys.length (d j).oc) ∧ w.cell? ⟨b, off + j * 4 + 3, none⟩ = some (.slice (d j).na (d j).zs.length (d j).nc)
  what : ∀ j, j < N → I64 (d j).what
  width : ∀ j, j < N → I64 (d j).width
  ones : ∀ j, j < N → RdB w (d j).oa (d j).ys
  nums : ∀ j, j < N → RdI w (d j).na (d j).zs
  i64 : ∀ j, j < N → I64s (d j).zs
  ol : ∀ j, j < N → (d j).ys.length ≤ 140737488355328
  nl : ∀ j, j < N → (d j).zs.length ≤ 140737488355328
  on : ∀ j, j < N → (d j).oa = none → (d j).ys.length = 0 ∧ (d j).oc = 0
  nn : ∀ j, j < N → (d j).na = none → (d j).zs.length = 0 ∧ (d j).nc = 0
theorem DsIn.below {w w' : World} {A : Option Addr} {N : Nat} {d : Nat → Dd} (h : DsIn w A N d) (o : Below w.heap.size w w') : DsIn w' A N d :=
  ⟨fun j hj => by
    obtain ⟨b, off, e, h0, h1, h2, h3⟩ := h.cells j hj
    exact ⟨b, off, e, by rw [o.cell (cell_lt h0), h0], by rw [o.cell (cell_lt h1), h1], by rw [o.cell (cell_lt h2), h2], by rw [o.cell (cell_lt h3), h3]⟩,
   h.what, h.width, fun j hj => (h.ones j hj).below o, fun j hj => (h.nums j hj).below o, h.i64, h.ol, h.nl, h.on, h.nn⟩
/-- Deeds that are no more than may be gone through. -/
def Few (N : Nat) (d : Nat → Dd) : Prop := N ≤ 600 ∧ ∀ j, j < N → (d j).ys.length ≤ 600 ∧ (d j).zs.length ≤ 600
theorem DsIn.one {w : World} {A : Option Addr} {N : Nat} {d : Nat → Dd} (h : DsIn w A N d) (hf : Few N d) {j : Nat} (hj : j < N) : DIn w (d j) :=
  ⟨h.what j hj, h.width j hj, h.ones j hj, h.nums j hj, h.i64 j hj, by have := (hf.2 j hj).1; omega, by have := (hf.2 j hj).2; omega⟩
/-- What came in lies below. -/
theorem DsIn.okO {w w' : World} {A : Option Addr} {N : Nat} {d : Nat → Dd} (h : DsIn w A N d) {j : Nat} (hj : j < N) : 0 < (d j).ys.length → ArgOk w' (d j).oa w.heap.size := fun h0 => ArgOk.lt fun b off e => by
  obtain ⟨b', off', e', hc, hl⟩ := (h.ones j hj).at h0
  rw [e'] at e
  injection e with e
  injection e with e
  omega
theorem DsIn.okN {w w' : World} {A : Option Addr} {N : Nat} {d : Nat → Dd} (h : DsIn w A N d) {j : Nat} (hj : j < N) : 0 < (d j).zs.length → ArgOk w' (d j).na w.heap.size := fun h0 => ArgOk.lt fun b off e => by
  obtain ⟨b', off', e', hc, hl⟩ := (h.nums j hj).at h0
  rw [e'] at e
  injection e with e
  injection e with e
  omega
def SizeE (N : Nat) (d : Nat → Dd) (w : World) (e : Ending) (w' : World) : Prop := ∃ s : Nat, e = .returned (.int .i64 (s : Int)) ∧ (∃ k, w' = w.drewN k) ∧ s ≤ 600000000000000 ∧ (s ≤ 600 → Few N d)
set_option maxHeartbeats 1000000 in
theorem size_any {A : Option Addr} {N cap : Nat} {d : Nat → Dd} {w : World} (h : DsIn w A N d) (hN : N ≤ 140737488355328) :
    Calls Try.prog 4 #[.slice A N cap] w (SizeE N d w) := by
  have HD := hid h
  clear h
  go_enter Try.func4, Try.ntmps4
  go_wp2
  go_loopw [3, 4] (fun s i wr => ∃ k x : Nat, k ≤ N ∧ i = .int .i64 (k : Int) ∧ s = .int .i64 (x : Int) ∧ N ≤ x ∧ x ≤ 600000000000000 ∧ Hid (∀ j, j < k → (d j).ys.length ≤ x ∧ (d j).zs.length ≤ x) ∧ Hid (∃ q, wr = w.drewN q)) (fun _ i _ => N - (intOf i).toNat)
  case atStart => exact ⟨0, N, by omega, rfl, rfl, by omega, by omega, hid fun j hj => absurd hj (by omega), hid ⟨0, rfl⟩⟩
  case round =>
    obtain ⟨k, x, hk, rfl, rfl, hx, hx2, HL, HW⟩ := hrel
    obtain ⟨q, rfl⟩ := HW.out
    clear HW
    by_cases hp : k < N
    · by_cases h3 : x ≤ 600
      · obtain ⟨b, off, hA, h0, h1, h2, h4⟩ := HD.out.cells k hp
        have hl := HD.out.ol k hp
        have hl2 := HD.out.nl k hp
        have HL2 : Hid (∀ j, j < k + 1 → (d j).ys.length ≤ x + (d k).ys.length + (d k).zs.length ∧ (d j).zs.length ≤ x + (d k).ys.length + (d k).zs.length) := hid fun j hj => by
          by_cases e : j = k
          · subst e; omega
          · have := HL.out j (by omega); omega
        subst hA
        generalize (d k).ys.length = m at h2 hl HL2
        generalize (d k).zs.length = m2 at h4 hl2 HL2
        have hkN : (k : Int) < (N : Int) := by omega
        have h3' : (x : Int) ≤ 600 := by omega
        clear HL h0 h1
        go_wp2
        go_quiet (fail)
        go_wp2
        go_roundw
        case rel => exact ⟨k + 1, x + m + m2, by omega, by go_num, by go_num, by omega, by omega, HL2, hid ⟨_, rfl⟩⟩
        case measure => simp [intOf]; omega
      · have h3' : decide ((x : Int) ≤ 600) = false := by rw [decide_eq_false_iff_not]; omega
        have h3'' : ¬ (x : Int) ≤ 600 := by omega
        have HX : Hid (x ≤ 600 → Few N d) := hid fun h => absurd h h3
        clear HL
        go_wp2
        go_ret
        exact ⟨x, rfl, ⟨q, rfl⟩, hx2, HX.out⟩
    · obtain rfl : k = N := by omega
      have HX : Hid (x ≤ 600 → Few k d) := hid fun h => ⟨by omega, fun j hj => by have := HL.out j hj; omega⟩
      clear HL
      go_wp2
      go_ret
      exact ⟨x, rfl, ⟨q, rfl⟩, hx2, HX.out⟩

/-! A deed's bits. -/
def bitsD (d : Dd) : List Bool := if d.what % 3 = 0 then d.ys else if d.what % 3 = 1 then numB d.width.toNat d.zs else gamB d.zs
def okDd (d : Dd) : Bool := if d.what % 3 = 0 then true else if d.what % 3 = 1 then okN d.width d.zs else okG d.zs
theorem putD_all (s : WSt) (d : Dd) : putD s d = putAll s (okDd d) (bitsD d) := by
  unfold putD okDd bitsD
  by_cases h : d.what % 3 = 0
  · rw [if_pos h, if_pos h, if_pos h]; rfl
  · by_cases h2 : d.what % 3 = 1
    · rw [if_neg h, if_neg h, if_neg h, if_pos h2, if_pos h2, if_pos h2]; rfl
    · rw [if_neg h, if_neg h, if_neg h, if_neg h2, if_neg h2, if_neg h2]; rfl
end Go.Proofs.Ytgdfiopdkidhfaa
