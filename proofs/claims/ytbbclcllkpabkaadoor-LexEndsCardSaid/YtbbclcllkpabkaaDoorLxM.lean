/- LexTells. -/
import Derived.Test.YtbbclcllkpabkaaDoorLxL
namespace Go.Proofs.YtbbclcllkpabkaaDoor.X
open Go.RowKit U G

theorem lineE_none {s : ByteArray} {w : World} {e : Ending} {w' : World} (h : LineE w s e w') (hn : (sgsL (bl s)).2 < s.size ∨ 2 ≤ (lin (bl s) 0).2) :
    e = .returned (.tuple #[.slice none 0 0, .int .i64 (((if (sgsL (bl s)).2 < s.size then (sgsL (bl s)).2 else (lin (bl s) 0).2 - 2) : Nat) : Int), .int .i64 (if (sgsL (bl s)).2 < s.size then 11 else 10)]) ∧ StU w w' := by
  refine ⟨?_, h.1⟩
  rcases h.2 with ⟨h1, h2⟩ | ⟨h1, p, h2, h3⟩ | ⟨h1, h2, _⟩
  · rw [if_pos h1, if_pos h1]; exact h2
  · rw [if_neg (by omega), if_neg (by omega), h2]; exact h3
  · omega
theorem lineE_is {s : ByteArray} {w : World} {e : Ending} {w' : World} (h : LineE w s e w') (hn : ¬ ((sgsL (bl s)).2 < s.size ∨ 2 ≤ (lin (bl s) 0).2)) :
    ∃ A cap, e = .returned (.tuple #[.slice A (lin (bl s) 0).1.length cap, .int .i64 0, .int .i64 0]) ∧ Hid (StU w w' ∧ RdK w' A (lin (bl s) 0).1) := by
  rcases h.2 with ⟨h1, h2⟩ | ⟨h1, p, h2, h3⟩ | ⟨h1, h2, A, n, cap, h3, h4⟩
  · exact absurd (.inl h1) hn
  · exact absurd (.inr (by omega)) hn
  · obtain ⟨rfl, h5, _⟩ := h4.out
    exact ⟨A, cap, h3, hid ⟨h.1, h5⟩⟩
set_option maxRecDepth 100000 in
set_option maxHeartbeats 2000000 in
theorem tells_none {s : ByteArray} {w : World} (hT : Tb w) (hE : XerrAt w) (hs : s.size ≤ 100000) (hn : (sgsL (bl s)).2 < s.size ∨ 2 ≤ (lin (bl s) 0).2) :
    Calls Tryd.prog 8 #[.string s] w fun e w' => e = .returned (.bool true) ∧ StU w w' := by
  have HL := hid ((line_any hT hE hs).mono fun e w' h => lineE_none h hn)
  have HR := hid (fun W => (refLine_any (w := W) hs).mono fun e w' h => lineE_none h hn)
  generalize ((if (sgsL (bl s)).2 < s.size then (sgsL (bl s)).2 else (lin (bl s) 0).2 - 2) : Nat) = p at *
  generalize (if (sgsL (bl s)).2 < s.size then (11 : Int) else 10) = er at *
  clear hT hE hs hn
  go_enter Tryd.func8, Tryd.ntmps8
  go_wp2_with (first
    | (go_at_call 9; refine HL.out.mono ?_; rintro e w1 ⟨rfl, HO⟩)
    | (go_at_call 14; refine (HR.out _).mono ?_; rintro e w2 ⟨rfl, HO2⟩))
  have HO3 : StU w w2 := hid (HO.out.trans HO2.out)
  go_loopw [9] (fun iv wr => iv = .int .i64 0 ∧ wr = w2) (fun _ _ => 0)
  case atStart => exact ⟨rfl, rfl⟩
  case round =>
    obtain ⟨rfl, rfl⟩ := hrel
    go_wp2_with fail
    go_ret
    exact ⟨ret_bool (by simp), HO3⟩
set_option maxRecDepth 100000 in
set_option maxHeartbeats 4000000 in
theorem tells_ok {s : ByteArray} {w : World} (hT : Tb w) (hE : XerrAt w) (hs : s.size ≤ 100000) (hn : ¬ ((sgsL (bl s)).2 < s.size ∨ 2 ≤ (lin (bl s) 0).2)) :
    Calls Tryd.prog 8 #[.string s] w fun e w' => e = .returned (.bool true) ∧ StU w w' := by
  have HL := hid ((line_any hT hE hs).mono fun e w' h => lineE_is h hn)
  have HR := hid (fun W => (refLine_any (w := W) hs).mono fun e w' h => lineE_is h hn)
  have hln := (lin_in _ (bl s) 0 (Nat.le_refl _) (bl_bys s)).1
  rw [bl_len] at hln
  generalize (lin (bl s) 0).1 = ts at *
  obtain ⟨n, hnn⟩ : ∃ n, ts.length = n := ⟨_, rfl⟩
  rw [hnn] at HL HR hln
  have Hn := hid hnn
  have hnb : n ≤ 100000 := by omega
  clear hT hE hs hn hnn hln
  go_enter Tryd.func8, Tryd.ntmps8
  go_wp2_with (first
    | (go_at_call 9; refine HL.out.mono ?_; rintro e w1 ⟨A, c1, rfl, HX⟩)
    | (go_at_call 14; refine (HR.out _).mono ?_; rintro e w2 ⟨B, c2, rfl, HY⟩))
  have HO3 : StU w w2 := hid (HX.out.1.out.trans HY.out.1.out)
  have HA := hid (HX.out.2.only HY.out.1)
  have HB := hid HY.out.2
  clear HL HR HX HY
  by_cases hn0 : n = 0
  · subst hn0
    go_loopw [9] (fun iv wr => iv = .int .i64 0 ∧ wr = w2) (fun _ _ => 0)
    case atStart => exact ⟨rfl, rfl⟩
    case round =>
      obtain ⟨rfl, rfl⟩ := hrel
      go_wp2_with fail
      go_ret
      exact ⟨rfl, HO3⟩
  · obtain ⟨b, o, e1, _⟩ := HA.out 0 (by rw [Hn.out]; omega)
    obtain ⟨b', o', e2, _⟩ := HB.out 0 (by rw [Hn.out]; omega)
    subst e1; subst e2
    have HC : Hid (∀ W, StU w2 W → ∀ i, i < n → b < W.heap.size ∧ b' < W.heap.size ∧ W.cell? ⟨b, o + i * 3, none⟩ = some (.int .i64 ((ts.getD i (0, [], 0)).1 : Int)) ∧ W.cell? ⟨b, o + i * 3 + 1, none⟩ = some (.string (strB (ts.getD i (0, [], 0)).2.1)) ∧ W.cell? ⟨b, o + i * 3 + 2, none⟩ = some (.int .i64 ((ts.getD i (0, [], 0)).2.2 : Int)) ∧
        W.cell? ⟨b', o' + i * 3, none⟩ = some (.int .i64 ((ts.getD i (0, [], 0)).1 : Int)) ∧ W.cell? ⟨b', o' + i * 3 + 1, none⟩ = some (.string (strB (ts.getD i (0, [], 0)).2.1)) ∧ W.cell? ⟨b', o' + i * 3 + 2, none⟩ = some (.int .i64 ((ts.getD i (0, [], 0)).2.2 : Int))) := hid fun W hW i hi => by
      obtain ⟨b1, o1, e1, hb, x0, x1, x2⟩ := (HA.out.only hW) i (by rw [Hn.out]; exact hi)
      injection e1 with e1; injection e1 with e1 e2; subst e1; subst e2
      obtain ⟨b1, o1, e1, hb2, y0, y1, y2⟩ := (HB.out.only hW) i (by rw [Hn.out]; exact hi)
      injection e1 with e1; injection e1 with e1 e2; subst e1; subst e2
      exact ⟨hb, hb2, x0, x1, x2, y0, y1, y2⟩
    clear HA HB Hn
    go_loopw [9] (fun iv wr => ∃ i : Nat, i ≤ n ∧ iv = .int .i64 (i : Int) ∧ StU w2 wr) (fun iv _ => n - (intOf iv).toNat)
    case atStart => exact ⟨0, by omega, rfl, hid (Only.refl _ _)⟩
    case round =>
      obtain ⟨i, hi, rfl, HS⟩ := hrel
      by_cases hp : i < n
      · have hp' : (i : Int) < (n : Int) := by omega
        have h0 : (0 : Int) ≤ (i : Int) := by omega
        have hw1 : IntKind.i64.wrap ((i : Int) + 1) = ((i + 1 : Nat) : Int) := by rw [IntKind.wrap_i64]; omega
        obtain ⟨hb1, hb2, x0, x1, x2, y0, y1, y2⟩ := HC.out wr HS i hp
        generalize ts.getD i (0, [], 0) = q at *
        obtain ⟨k, x, p⟩ := q
        simp only at *
        generalize strB x = xs at *
        clear HC hn0
        go_wp2_with fail
        go_quiet (fail)
        go_wp2_with fail
        go_roundw
        case rel => exact ⟨i + 1, by omega, rfl, hid (HS.out.drewN _)⟩
        case measure => simp [intOf]; omega
      · have hp' : ¬ (i : Int) < (n : Int) := by omega
        have HSo : StU w wr := hid (HO3.out.trans HS.out)
        clear HC
        go_wp2_with fail
        go_ret
        exact ⟨rfl, HSo⟩
theorem tells_any {s : ByteArray} {w : World} (hT : Tb w) (hE : XerrAt w) (hs : s.size ≤ 100000) :
    Calls Tryd.prog 8 #[.string s] w fun e w' => e = .returned (.bool true) ∧ StU w w' := by
  by_cases hn : (sgsL (bl s)).2 < s.size ∨ 2 ≤ (lin (bl s) 0).2
  · exact tells_none hT hE hs hn
  · exact tells_ok hT hE hs hn
set_option maxRecDepth 100000 in
set_option maxHeartbeats 2000000 in
theorem lexTells_any {s : ByteArray} {w : World} (hT : Tb w) (hE : XerrAt w) :
    Calls Tryd.prog 3 #[.string s] w fun e w' => e = .returned (.bool true) ∧ StU w w' := by
  by_cases hs : 3000 < s.size
  · have HA := hid (awake9_any hT hE)
    have hs' : (3000 : Int) < (s.size : Int) := by omega
    clear hT hE hs
    go_enter Tryd.func3, Tryd.ntmps3
    go_wp2_with (go_at_call 7; refine HA.out.mono ?_; rintro e w1 ⟨rfl, HO⟩)
    go_ret
    exact ⟨rfl, HO⟩
  · have hs' : ¬ (3000 : Int) < (s.size : Int) := by omega
    have HA := hid (fun W (hW : StU w W) => awake9_any (hT.stu hW) (hE.stu hW))
    have HTe := hid (tells_any hT hE (s := s) (by omega))
    clear hT hE hs
    go_enter Tryd.func3, Tryd.ntmps3
    go_wp2_with (first
      | (go_at_call 8; refine HTe.out.mono ?_; rintro e w1 ⟨rfl, HO⟩)
      | (go_at_call 7; refine (HA.out _ HO).mono ?_; rintro e w2 ⟨rfl, HO2⟩))
    go_ret
    exact ⟨rfl, hid (HO.out.trans HO2.out)⟩
end Go.Proofs.YtbbclcllkpabkaaDoor.X
