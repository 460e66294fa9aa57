/- Spans of signs: has, within; Is, isLatin, isLatinOrDigit, isHyphen, isPoint, opensLabel, isLetter. -/
import Derived.Test.YtbbclcllkpabkaaDoorRows
import Derived.Test.YtbbclcllkpabkaaDoorRd
import Derived.Test.YtbbclcllkpabkaaDoorUt1
import Derived.Deep.RegionHeld3
namespace Go.Proofs.YtbbclcllkpabkaaDoor
open Go.RowKit U

/-- Nothing that was there is otherwise. -/
abbrev StU (w w' : World) : Prop := Hid (Only (fun _ => False) w w')
set_option maxHeartbeats 400000 in
theorem has_any (a b z : Int) (w : World) : Calls Tryd.prog 46 #[.agg #[.int .i64 a, .int .i64 b], .int .i64 z] w fun e w' => e = .returned (.bool (decide (a ≤ z) && decide (z ≤ b))) ∧ StU w w' := by
  by_cases h1 : a ≤ z
  · go_enter Tryd.func46, Tryd.ntmps46
    go_wp2
    go_ret
    exact ⟨ret_bool (by simp [h1]), hid ((Only.refl _ w).alloc _)⟩
  · go_enter Tryd.func46, Tryd.ntmps46
    go_wp2
    go_ret
    exact ⟨ret_bool (by simp; omega), hid ((Only.refl _ w).alloc _)⟩
/-- A slice that reads as ranges. -/
def RdSp (w : World) (A : Option Addr) (rs : List (Int × Int)) : Prop := ∀ j, j < rs.length → ∃ b off, A = some ⟨b, off, none⟩ ∧ b < w.heap.size ∧ w.cell? ⟨b, off + j * 2, none⟩ = some (.int .i64 (rs.getD j (0, 0)).1) ∧ w.cell? ⟨b, off + j * 2 + 1, none⟩ = some (.int .i64 (rs.getD j (0, 0)).2)
theorem inZ_drop {rs : List (Int × Int)} {k : Nat} (z : Int) (h : k < rs.length) : inZ (rs.drop k) z = ((decide ((rs.getD k (0, 0)).1 ≤ z) && decide (z ≤ (rs.getD k (0, 0)).2)) || inZ (rs.drop (k + 1)) z) := by
  rw [List.drop_eq_getElem_cons h, inZ_cons]
  simp [List.getD, h]
set_option maxHeartbeats 1000000 in
theorem within_any {A : Option Addr} {n c : Nat} {rs : List (Int × Int)} {z : Int} {w : World} (hr : RdSp w A rs) (hn : n = rs.length) (hl : n ≤ 1000) :
    Calls Tryd.prog 29 #[.int .i64 z, .slice A n c] w fun e w' => e = .returned (.bool (inZ rs z)) ∧ StU w w' := by
  have HR : Hid (∀ W, StU w W → ∀ k, k < n → ∃ b off, A = some ⟨b, off, none⟩ ∧ W.cell? ⟨b, off + k * 2, none⟩ = some (.int .i64 (rs.getD k (0, 0)).1) ∧ W.cell? ⟨b, off + k * 2 + 1, none⟩ = some (.int .i64 (rs.getD k (0, 0)).2)) := hid fun W hW k hk => by
    obtain ⟨b, off, e, hb, h1, h2⟩ := hr k (by omega)
    exact ⟨b, off, e, (hW.out.cell (p := ⟨b, _, none⟩) hb no_).trans h1, (hW.out.cell (p := ⟨b, _, none⟩) hb no_).trans h2⟩
  have HS : Hid (∀ k, k < n → inZ (rs.drop k) z = ((decide ((rs.getD k (0, 0)).1 ≤ z) && decide (z ≤ (rs.getD k (0, 0)).2)) || inZ (rs.drop (k + 1)) z)) := hid fun k hk => inZ_drop z (by omega)
  have HE : Hid (inZ (rs.drop n) z = false) := hid (by rw [hn, List.drop_length]; rfl)
  clear hr hn
  go_enter Tryd.func29, Tryd.ntmps29
  go_wp2_with fail
  go_loopw [9] (fun s wr => ∃ k : Nat, k ≤ n ∧ s = .int .i64 (k : Int) ∧ StU w wr ∧ Hid (inZ rs z = inZ (rs.drop k) z)) (fun s _ => n - (intOf s).toNat)
  case atStart => exact ⟨0, by omega, rfl, hid (Only.refl _ _), hid rfl⟩
  case round =>
    obtain ⟨k, hk, rfl, HO, HC⟩ := hrel
    by_cases hp : k < n
    · have hp' : (k : Int) < (n : Int) := by omega
      obtain ⟨b, off, rfl, d1, d2⟩ := HR.out wr HO k hp
      have hst := HS.out k hp
      generalize (rs.getD k (0, 0)).1 = x at *
      generalize (rs.getD k (0, 0)).2 = y at *
      cases hq : (decide (x ≤ z) && decide (z ≤ y)) with
      | true =>
        rw [hq] at hst
        have HC2 := hid (HC.out.trans hst)
        have HH : Hid (∀ W, Calls Tryd.prog 46 #[.agg #[.int .i64 x, .int .i64 y], .int .i64 z] W fun e w' => e = .returned (.bool true) ∧ StU W w') := hid fun W => by
          have := has_any x y z W
          rwa [hq] at this
        clear hst hq HC
        go_wp2_with (go_at_call 46; refine (HH.out _).mono ?_; rintro e w' ⟨rfl, HO2⟩)
        go_ret
        exact ⟨by rw [HC2.out]; rfl, hid ((HO.out.alloc _).trans HO2.out)⟩
      | false =>
        rw [hq, Bool.false_or] at hst
        have HC2 := hid (HC.out.trans hst)
        have HH : Hid (∀ W, Calls Tryd.prog 46 #[.agg #[.int .i64 x, .int .i64 y], .int .i64 z] W fun e w' => e = .returned (.bool false) ∧ StU W w') := hid fun W => by
          have := has_any x y z W
          rwa [hq] at this
        clear hst hq HC
        go_wp2_with (go_at_call 46; refine (HH.out _).mono ?_; rintro e w' ⟨rfl, HO2⟩)
        go_roundw
        case rel => exact ⟨k + 1, by omega, by go_num, hid ((HO.out.alloc _).trans HO2.out), HC2⟩
        case measure => simp [intOf]; omega
    · obtain rfl : k = n := by omega
      have HC2 := hid (HC.out.trans HE.out)
      go_wp2_with fail
      go_ret
      exact ⟨by rw [HC2.out]; rfl, HO⟩
theorem flat_get : ∀ (rs : List (Int × Int)) (j : Nat), j < rs.length → (rs.flatMap fun r => [Value.int .i64 r.1, Value.int .i64 r.2])[j * 2]? = some (.int .i64 (rs.getD j (0, 0)).1) ∧ (rs.flatMap fun r => [Value.int .i64 r.1, Value.int .i64 r.2])[j * 2 + 1]? = some (.int .i64 (rs.getD j (0, 0)).2)
  | [], _, h => absurd h (Nat.not_lt_zero _)
  | r :: rs, 0, _ => by simp
  | r :: rs, j + 1, h => by
    have := flat_get rs j (by simpa using h)
    simpa [List.flatMap_cons, show (j + 1) * 2 = j * 2 + 1 + 1 by omega] using this
theorem rdSp_new (w : World) (rs : List (Int × Int)) (cs : Array Value) (t : TypeId) (h : cs.toList = rs.flatMap fun r => [Value.int .i64 r.1, Value.int .i64 r.2]) : RdSp (w.alloc (.cells cs t)) (some ⟨w.heap.size, 0, none⟩) rs := fun j hj => by
  obtain ⟨h1, h2⟩ := flat_get rs j hj
  rw [← h] at h1 h2
  refine ⟨w.heap.size, 0, rfl, by simp, ?_, ?_⟩
  · simpa using h1
  · simpa using h2
theorem is_any (z : Int) (w : World) : Calls Tryd.prog 19 #[.int .i64 z] w fun e w' => e = .returned (.bool (isZ z)) ∧ StU w w' := by
  go_enter Tryd.func19, Tryd.ntmps19
  go_wp2_with (go_at_call 29; refine (within_any (rs := [(0, 55295), (57344, 1114111)]) ?hr rfl (by decide)).mono ?_; (case hr => exact rdSp_new _ _ _ _ rfl); rintro e w9 ⟨rfl, HO⟩)
  go_ret
  exact ⟨rfl, hid (((Only.refl _ w).alloc _).trans HO.out)⟩
theorem isLatin_any (z : Int) (w : World) : Calls Tryd.prog 67 #[.int .i64 z] w fun e w' => e = .returned (.bool (latZ z)) ∧ StU w w' := by
  go_enter Tryd.func67, Tryd.ntmps67
  go_wp2_with (go_at_call 29; refine (within_any (rs := [(65, 90), (97, 122)]) ?hr rfl (by decide)).mono ?_; (case hr => exact rdSp_new _ _ _ _ rfl); rintro e w9 ⟨rfl, HO⟩)
  go_ret
  exact ⟨rfl, hid (((Only.refl _ w).alloc _).trans HO.out)⟩
theorem isHyphen_any (z : Int) (w : World) : Calls Tryd.prog 68 #[.int .i64 z] w fun e w' => e = .returned (.bool (hyZ z)) ∧ StU w w' := by
  by_cases h : z = 45
  · subst h
    go_enter Tryd.func68, Tryd.ntmps68
    go_wp2
    go_ret
    exact ⟨rfl, hid (Only.refl _ w)⟩
  · go_enter Tryd.func68, Tryd.ntmps68
    go_wp2
    go_ret
    exact ⟨ret_bool (by simp [hyZ, h]), hid (Only.refl _ w)⟩
theorem isPoint_any (z : Int) (w : World) : Calls Tryd.prog 66 #[.int .i64 z] w fun e w' => e = .returned (.bool (ptZ z)) ∧ StU w w' := by
  by_cases h : z = 46
  · subst h
    go_enter Tryd.func66, Tryd.ntmps66
    go_wp2
    go_ret
    exact ⟨rfl, hid (Only.refl _ w)⟩
  · go_enter Tryd.func66, Tryd.ntmps66
    go_wp2
    go_ret
    exact ⟨ret_bool (by simp [ptZ, h]), hid (Only.refl _ w)⟩
set_option maxHeartbeats 1000000 in
theorem isLatinOrDigit_any (z : Int) (w : World) : Calls Tryd.prog 69 #[.int .i64 z] w fun e w' => e = .returned (.bool (ldZ z)) ∧ StU w w' := by
  have HL := hid (isLatin_any z)
  have hat : ldZ z = (latZ z || inZ [(48, 57)] z) := rfl
  cases hq : latZ z with
  | true =>
    rw [hq] at HL hat
    have Hat := hid hat
    clear hat hq
    go_enter Tryd.func69, Tryd.ntmps69
    go_wp2_with (go_at_call 67; refine (HL.out _).mono ?_; rintro e w1 ⟨rfl, HO1⟩)
    go_ret
    exact ⟨by rw [Hat.out]; rfl, HO1⟩
  | false =>
    rw [hq, Bool.false_or] at hat
    rw [hq] at HL
    have Hat := hid hat
    clear hat hq
    go_enter Tryd.func69, Tryd.ntmps69
    go_wp2_with (first
      | (go_at_call 67; refine (HL.out _).mono ?_; rintro e w1 ⟨rfl, HO1⟩)
      | (go_at_call 29; refine (within_any (rs := [(48, 57)]) ?hr rfl (by decide)).mono ?_; (case hr => exact rdSp_new _ _ _ _ rfl); rintro e w9 ⟨rfl, HO⟩))
    go_ret
    exact ⟨by rw [Hat.out]; rfl, hid ((HO1.out.alloc _).trans HO.out)⟩
set_option maxHeartbeats 1000000 in
theorem opensLabel_any (z : Int) (w : World) : Calls Tryd.prog 63 #[.int .i64 z] w fun e w' => e = .returned (.bool (opnZ z)) ∧ StU w w' := by
  have HL := hid (isLatinOrDigit_any z)
  have hat : opnZ z = (ldZ z || (decide (z = 95) || (decide (z = 58) || inZ opnR z))) := rfl
  cases hq : ldZ z with
  | true =>
    rw [hq] at HL hat
    have Hat := hid hat
    clear hat hq
    go_enter Tryd.func63, Tryd.ntmps63
    go_wp2_with (go_at_call 69; refine (HL.out _).mono ?_; rintro e w1 ⟨rfl, HO1⟩)
    go_ret
    exact ⟨by rw [Hat.out]; rfl, HO1⟩
  | false =>
    rw [hq, Bool.false_or] at hat
    rw [hq] at HL
    by_cases h95 : z = 95
    · subst h95
      clear hat hq
      go_enter Tryd.func63, Tryd.ntmps63
      go_wp2_with (go_at_call 69; refine (HL.out _).mono ?_; rintro e w1 ⟨rfl, HO1⟩)
      go_ret
      exact ⟨rfl, HO1⟩
    · by_cases h58 : z = 58
      · subst h58
        clear hat hq
        go_enter Tryd.func63, Tryd.ntmps63
        go_wp2_with (go_at_call 69; refine (HL.out _).mono ?_; rintro e w1 ⟨rfl, HO1⟩)
        go_ret
        exact ⟨rfl, HO1⟩
      · rw [decide_eq_false h95, decide_eq_false h58, Bool.false_or, Bool.false_or] at hat
        have Hat := hid hat
        clear hat hq
        go_enter Tryd.func63, Tryd.ntmps63
        go_wp2_with (first
          | (go_at_call 69; refine (HL.out _).mono ?_; rintro e w1 ⟨rfl, HO1⟩)
          | (go_at_call 29; refine (within_any (rs := opnR) ?hr rfl (by decide)).mono ?_; (case hr => exact rdSp_new _ _ _ _ rfl); rintro e w9 ⟨rfl, HO⟩))
        go_ret
        exact ⟨(by show Ending.returned (Value.bool (z == 95 || z == 58 || inZ opnR z)) = _; rw [Hat.out]; simp [h95, h58]), hid ((HO1.out.alloc _).trans HO.out)⟩
set_option maxHeartbeats 1000000 in
theorem isLetter_any (z : Int) (w : World) : Calls Tryd.prog 65 #[.int .i64 z] w fun e w' => e = .returned (.bool (letZ z)) ∧ StU w w' := by
  have HL := hid (opensLabel_any z)
  have HY := hid (isHyphen_any z)
  have hat : letZ z = (opnZ z || (hyZ z || inZ [(183, 183), (768, 879), (8255, 8256)] z)) := rfl
  cases hq : opnZ z with
  | true =>
    rw [hq] at HL hat
    have Hat := hid hat
    clear hat hq
    go_enter Tryd.func65, Tryd.ntmps65
    go_wp2_with (go_at_call 63; refine (HL.out _).mono ?_; rintro e w1 ⟨rfl, HO1⟩)
    go_ret
    exact ⟨by rw [Hat.out]; rfl, HO1⟩
  | false =>
    rw [hq, Bool.false_or] at hat
    rw [hq] at HL
    cases hh : hyZ z with
    | true =>
      rw [hh] at HY hat
      have Hat := hid hat
      clear hat hq hh
      go_enter Tryd.func65, Tryd.ntmps65
      go_wp2_with (first
        | (go_at_call 63; refine (HL.out _).mono ?_; rintro e w1 ⟨rfl, HO1⟩)
        | (go_at_call 68; refine (HY.out _).mono ?_; rintro e w2 ⟨rfl, HO2⟩))
      go_ret
      exact ⟨by rw [Hat.out]; rfl, hid (HO1.out.trans HO2.out)⟩
    | false =>
      rw [hh, Bool.false_or] at hat
      rw [hh] at HY
      have Hat := hid hat
      clear hat hq hh
      go_enter Tryd.func65, Tryd.ntmps65
      go_wp2_with (first
        | (go_at_call 63; refine (HL.out _).mono ?_; rintro e w1 ⟨rfl, HO1⟩)
        | (go_at_call 68; refine (HY.out _).mono ?_; rintro e w2 ⟨rfl, HO2⟩)
        | (go_at_call 29; refine (within_any (rs := [(183, 183), (768, 879), (8255, 8256)]) ?hr rfl (by decide)).mono ?_; (case hr => exact rdSp_new _ _ _ _ rfl); rintro e w9 ⟨rfl, HO⟩))
      go_ret
      exact ⟨by rw [Hat.out]; rfl, hid (((HO1.out.trans HO2.out).alloc _).trans HO.out)⟩
end Go.Proofs.YtbbclcllkpabkaaDoor
