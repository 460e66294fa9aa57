/- LexBlanks. -/
import Derived.Test.YtbbclcllkpabkaaDoorLxE
import Derived.Test.YtbbclcllkpabkaaDoorKt
namespace Go.Proofs.YtbbclcllkpabkaaDoor.X
open Go.RowKit U G

/-- A line, whatever it is. -/
theorem line_some {s : ByteArray} {w : World} (hT : Tb w) (hE : XerrAt w) (hs : s.size ≤ 100000) : Calls Tryd.prog 9 #[.string s] w fun e w' => (∃ A n cap at_ er, e = .returned (.tuple #[.slice A n cap, .int .i64 at_, .int .i64 er])) ∧ StU w w' := by
  refine (line_any hT hE hs).mono fun e w' hh => ⟨?_, hh.1⟩
  rcases hh.2 with ⟨_, h1⟩ | ⟨_, p, _, h1⟩ | ⟨_, _, A, n, cap, h1, _⟩
  · exact ⟨_, _, _, _, _, h1⟩
  · exact ⟨_, _, _, _, _, h1⟩
  · exact ⟨_, _, _, _, _, h1⟩
/-- Tokens that are others', so much further on. -/
def SaK (ts us : List Tk) (off : Nat) : Prop := ts.length = us.length ∧ ∀ i, i < us.length → (ts.getD i (0, [], 0)).1 = (us.getD i (0, [], 0)).1 ∧ (ts.getD i (0, [], 0)).2.1 = (us.getD i (0, [], 0)).2.1 ∧ (ts.getD i (0, [], 0)).2.2 = (us.getD i (0, [], 0)).2.2 + off ∧ (us.getD i (0, [], 0)).2.2 ≤ 100000
set_option maxRecDepth 100000 in
set_option maxHeartbeats 2000000 in
theorem same_any {A B : Option Addr} {n c1 c2 off : Nat} {ts us : List Tk} {w : World} (hA : RdK w A ts) (hB : RdK w B us) (hn : us.length = n) (hle : n ≤ 100000) (ho : off ≤ 100000) (h : SaK ts us off) :
    Calls Tryd.prog 13 #[.slice A n c1, .slice B n c2, .int .i64 (off : Int)] w fun e w' => e = .returned (.bool true) ∧ StU w w' := by
  obtain ⟨h1, h2⟩ := h
  rw [hn] at h1 h2
  by_cases hn0 : n = 0
  · subst hn0
    clear hA hB hn hle h1 h2
    go_enter Tryd.func13, Tryd.ntmps13
    go_wp2_with fail
    go_loopw [7] (fun iv wr => iv = .int .i64 0 ∧ wr = w) (fun _ _ => 0)
    case atStart => exact ⟨rfl, rfl⟩
    case round =>
      obtain ⟨rfl, rfl⟩ := hrel
      go_wp2_with fail
      go_ret
      exact ⟨rfl, hid (Only.refl _ _)⟩
  · obtain ⟨b, o, e1, _⟩ := hA 0 (by omega)
    obtain ⟨b', o', e2, _⟩ := hB 0 (by omega)
    subst e1; subst e2
    have HC : Hid (∀ W, StU w W → ∀ i, i < n → b < W.heap.size ∧ b' < W.heap.size ∧ W.cell? ⟨b, o + i * 3, none⟩ = some (.int .i64 ((us.getD i (0, [], 0)).1 : Int)) ∧ W.cell? ⟨b, o + i * 3 + 1, none⟩ = some (.string (strB (us.getD i (0, [], 0)).2.1)) ∧ W.cell? ⟨b, o + i * 3 + 2, none⟩ = some (.int .i64 (((us.getD i (0, [], 0)).2.2 + off : Nat) : Int)) ∧
        W.cell? ⟨b', o' + i * 3, none⟩ = some (.int .i64 ((us.getD i (0, [], 0)).1 : Int)) ∧ W.cell? ⟨b', o' + i * 3 + 1, none⟩ = some (.string (strB (us.getD i (0, [], 0)).2.1)) ∧ W.cell? ⟨b', o' + i * 3 + 2, none⟩ = some (.int .i64 ((us.getD i (0, [], 0)).2.2 : Int)) ∧ (us.getD i (0, [], 0)).2.2 ≤ 100000) := hid fun W hW i hi => by
      obtain ⟨b1, o1, e1, hb, x0, x1, x2⟩ := (hA.only hW) i (by omega)
      injection e1 with e1; injection e1 with e1 e2; subst e1; subst e2
      obtain ⟨b1, o1, e1, hb2, y0, y1, y2⟩ := (hB.only hW) i (by omega)
      injection e1 with e1; injection e1 with e1 e2; subst e1; subst e2
      obtain ⟨k1, k2, k3, k4⟩ := h2 i hi
      rw [k1] at x0
      rw [k2] at x1
      rw [k3] at x2
      exact ⟨hb, hb2, x0, x1, x2, y0, y1, y2, k4⟩
    clear hA hB hn h1 h2
    go_enter Tryd.func13, Tryd.ntmps13
    go_wp2_with fail
    go_loopw [7] (fun iv wr => ∃ i : Nat, i ≤ n ∧ iv = .int .i64 (i : Int) ∧ StU w wr) (fun iv _ => n - (intOf iv).toNat)
    case atStart => exact ⟨0, by omega, rfl, hid (Only.refl _ _)⟩
    case round =>
      obtain ⟨i, hi, rfl, HS⟩ := hrel
      by_cases hp : i < n
      · have hp' : (i : Int) < (n : Int) := by omega
        have h0 : (0 : Int) ≤ (i : Int) := by omega
        have hw1 : IntKind.i64.wrap ((i : Int) + 1) = ((i + 1 : Nat) : Int) := by rw [IntKind.wrap_i64]; omega
        obtain ⟨hb1, hb2, x0, x1, x2, y0, y1, y2, hle2⟩ := HC.out wr HS i hp
        generalize us.getD i (0, [], 0) = q at *
        obtain ⟨k, x, p⟩ := q
        simp only at *
        generalize strB x = xs at *
        have hw2 : IntKind.i64.wrap ((p : Int) + (off : Int)) = ((p + off : Nat) : Int) := by rw [IntKind.wrap_i64]; omega
        clear HC hn0 hle2
        go_wp2_with fail
        go_quiet (fail)
        go_wp2_with fail
        go_roundw
        case rel => exact ⟨i + 1, by omega, rfl, hid (HS.out.drewN _)⟩
        case measure => simp [intOf]; omega
      · have hp' : ¬ (i : Int) < (n : Int) := by omega
        have hie : i = n := by omega
        subst hie
        clear HC
        go_wp2_with fail
        go_ret
        exact ⟨rfl, HS⟩
abbrev rem9 : ByteArray := { data := #[35, 32, 46, 32, 60] }
abbrev dot9 : ByteArray := { data := #[46] }
theorem bl_rem9 : bl rem9 = [35, 32, 46, 32, 60] := by decide
theorem bl_dot9 : bl dot9 = [46] := by decide
/-- Blanks. -/
def Bks (g : List Nat) : Prop := g ≠ [] ∧ ∀ x ∈ g, x = 32 ∨ x = 9
theorem Bks.good {g : List Nat} (h : Bks g) (y : List Nat) : Good (g ++ y) := by
  obtain ⟨h1, h2⟩ := h
  cases g with
  | nil => exact absurd rfl h1
  | cons c t => exact .inr ⟨c, t ++ y, rfl, by have := h2 c (by simp); omega⟩
theorem Bks.val {g : List Nat} (h : Bks g) : Val g := Val.asc fun x hx => blank_lt (h.2 x hx)
theorem lin_bks : ∀ (g : List Nat) (y : List Nat) (a : Nat), (∀ x ∈ g, x = 32 ∨ x = 9) → lin (g ++ y) a = lin y (a + g.length)
  | [], y, a, _ => rfl
  | c :: t, y, a, h => by
    rw [List.cons_append, lin_blank (h c (by simp)), lin_bks t y (a + 1) fun x hx => h x (by simp [hx]), List.length_cons, show a + 1 + t.length = a + (t.length + 1) by omega]
theorem sa_refl {ts : List Tk} {m : Nat} (h : ∀ q ∈ ts, q.2.2 < m) (hm : m ≤ 100000) : SaK ts ts 0 := ⟨rfl, fun i hi => ⟨rfl, rfl, rfl, by
  have := h (ts.getD i (0, [], 0)) (by rw [List.getD_eq_getElem?_getD, List.getElem?_eq_getElem hi]; exact List.getElem_mem hi)
  omega⟩⟩
theorem sa_shift {us : List Tk} {m off : Nat} (h : ∀ q ∈ us, q.2.2 < m) (hm : m ≤ 100000) : SaK (us.map fun q => (q.1, q.2.1, q.2.2 + off)) us off := by
  refine ⟨by simp, fun i hi => ?_⟩
  have h1 := h (us.getD i (0, [], 0)) (by rw [List.getD_eq_getElem?_getD, List.getElem?_eq_getElem hi]; exact List.getElem_mem hi)
  have e : (us.map fun q => (q.1, q.2.1, q.2.2 + off)).getD i ((0, [], 0) : Tk) = ((us.getD i (0, [], 0)).1, (us.getD i (0, [], 0)).2.1, (us.getD i (0, [], 0)).2.2 + off) := by
    rw [List.getD_eq_getElem?_getD, List.getElem?_map, List.getElem?_eq_getElem hi, List.getD_eq_getElem?_getD, List.getElem?_eq_getElem hi]
    rfl
  rw [e]
  exact ⟨rfl, rfl, rfl, by omega⟩
theorem rdk_take {w : World} {A : Option Addr} {ts us : List Tk} (h : RdK w A (ts ++ us)) : RdK w A ts := fun j hj => by
  obtain ⟨b, off, e, hb, h1, h2, h3⟩ := h j (by rw [List.length_append]; omega)
  have ee : (ts ++ us).getD j (0, [], 0) = ts.getD j (0, [], 0) := by rw [List.getD_eq_getElem?_getD, List.getElem?_append_left hj, ← List.getD_eq_getElem?_getD]
  rw [ee] at h1 h2 h3
  exact ⟨b, off, e, hb, h1, h2, h3⟩
theorem rdk_drop {w : World} {b off : Nat} {ts us : List Tk} (h : RdK w (some ⟨b, off, none⟩) (ts ++ us)) : RdK w (some ⟨b, off + ts.length * 3, none⟩) us := fun j hj => by
  obtain ⟨b1, o1, e, hb, h1, h2, h3⟩ := h (ts.length + j) (by rw [List.length_append]; omega)
  injection e with e; injection e with e e2; subst e; subst e2
  have ee : (ts ++ us).getD (ts.length + j) (0, [], 0) = us.getD j (0, [], 0) := by rw [List.getD_eq_getElem?_getD, List.getElem?_append_right (by omega), Nat.add_sub_cancel_left, ← List.getD_eq_getElem?_getD]
  rw [ee] at h1 h2 h3
  have e3 : off + ts.length * 3 + j * 3 = off + (ts.length + j) * 3 := by rw [Nat.add_mul]; omega
  exact ⟨b, _, rfl, hb, by rw [e3]; exact h1, by rw [e3]; exact h2, by rw [e3]; exact h3⟩
theorem gap3 (r : Nat) (h : r < 3) : r = 0 ∨ r = 1 ∨ r = 2 := by omega
set_option maxRecDepth 100000 in
set_option maxHeartbeats 2000000 in
theorem blanks_far {s t : ByteArray} {z : Int} {w : World} (hT : Tb w) (hE : XerrAt w) (hs : 1400 < s.size ∨ 1400 < t.size) :
    Calls Tryd.prog 6 #[.string s, .string t, .int .i64 z] w fun e w' => e = .returned (.bool true) ∧ StU w w' := by
  have HA := hid (awake9_any hT hE)
  by_cases h1 : 1400 < s.size
  · have h1' : (1400 : Int) < (s.size : Int) := by omega
    clear hT hE hs h1
    go_enter Tryd.func6, Tryd.ntmps6
    go_wp2_with (go_at_call 7; refine HA.out.mono ?_; rintro e w1 ⟨rfl, HO⟩)
    go_ret
    exact ⟨rfl, HO⟩
  · have h1' : ¬ (1400 : Int) < (s.size : Int) := by omega
    have h2' : (1400 : Int) < (t.size : Int) := by omega
    clear hT hE hs h1
    go_enter Tryd.func6, Tryd.ntmps6
    go_wp2_with (go_at_call 7; refine HA.out.mono ?_; rintro e w1 ⟨rfl, HO⟩)
    go_ret
    exact ⟨rfl, HO⟩
theorem bks_one {g : ByteArray} (h : g = { data := #[32] } ∨ g = { data := #[9] } ∨ g = { data := #[32, 9, 32] }) : Bks (bl g) ∧ g.size ≤ 3 := by
  rcases h with rfl | rfl | rfl
  · exact ⟨⟨by decide, by decide⟩, by decide⟩
  · exact ⟨⟨by decide, by decide⟩, by decide⟩
  · exact ⟨⟨by decide, by decide⟩, by decide⟩

/-- The calls ahead of all: awake, two lines, a pick. -/
theorem app_size (a b : ByteArray) : (a ++ b).size = a.size + b.size := by rw [← bl_len, bl_append, List.length_append, bl_len, bl_len]
set_option maxRecDepth 100000 in
set_option maxHeartbeats 4000000 in
theorem blanks_not {s t : ByteArray} {z er at_ : Int} {w : World} (hT : Tb w) (hE : XerrAt w) (hz : -9223372036854775808 ≤ z ∧ z ≤ 9223372036854775807) (hs : s.size ≤ 1400) (ht : t.size ≤ 1400) (he : (er == 0) = false)
    (h : ∀ W, StU w W → Calls Tryd.prog 9 #[.string s] W fun e w' => e = .returned (.tuple #[.slice none 0 0, .int .i64 at_, .int .i64 er]) ∧ StU W w') :
    Calls Tryd.prog 6 #[.string s, .string t, .int .i64 z] w fun e w' => e = .returned (.bool true) ∧ StU w w' := by
  have h1' : ¬ (1400 : Int) < (s.size : Int) := by omega
  have h2' : ¬ (1400 : Int) < (t.size : Int) := by omega
  have HA := hid (awake9_any hT hE)
  have HPk := hid (fun W => pick_any z 3 W (by omega) (by omega) hz.1 hz.2)
  have HS := hid h
  have HT := hid (fun W (hW : StU w W) => line_some (s := t) (hT.stu hW) (hE.stu hW) (by omega))
  have HN : Hid (∀ (g : ByteArray) W, g.size ≤ 3 → StU w W → Calls Tryd.prog 9 #[.string (s ++ g ++ rem9)] W fun e w' => (∃ A n cap at_ er, e = .returned (.tuple #[.slice A n cap, .int .i64 at_, .int .i64 er])) ∧ StU W w') := hid fun g W hg hW => line_some (hT.stu hW) (hE.stu hW) (by rw [app_size, app_size]; exact Nat.le_trans (show s.size + g.size + 5 ≤ 1408 by omega) (by decide))
  clear h hT hE hs ht hz
  go_enter Tryd.func6, Tryd.ntmps6
  go_upto_region 6 with (first
    | (go_at_call 7; refine HA.out.mono ?_; rintro e w1 ⟨rfl, HO1⟩; clear HA)
    | (go_at_call 9; refine (HS.out _ HO1).mono ?_; rintro e w2 ⟨rfl, HO⟩; have HO2 : StU w w2 := hid (HO1.out.trans HO.out); clear HO HO1 HS))
  go_upto_region 7 with (go_at_call 9; refine (HT.out _ HO2).mono ?_; rintro e w3 ⟨⟨A3, n3, c3, a3, e3, rfl⟩, HO⟩; have HO3 : StU w w3 := hid (HO2.out.trans HO.out); clear HO HO2 HT)
  go_upto_region 8 with (go_at_call 12; refine (HPk.out _).mono ?_; rintro e w4 ⟨r, rfl, hr, hw4⟩; subst hw4; have hr3 : r = 0 ∨ r = 1 ∨ r = 2 := (by omega); rcases hr3 with rfl | rfl | rfl)
  · have HO4 := hid (HO3.out.alloc (.cells #[.string { data := #[32] }, .string { data := #[9] }, .string { data := #[32, 9, 32] }] 9))
    have HN2 := hid (fun W (hW : StU w W) => HN.out { data := #[32] } W (by decide) hW)
    clear HN HPk
    go_wp2_with (go_at_call 9; refine (HN2.out _ HO4).mono ?_; rintro e w5 ⟨⟨A5, n5, c5, a5, e5, rfl⟩, HO5⟩)
    go_ret
    exact ⟨rfl, hid (HO4.out.trans HO5.out)⟩
  · have HO4 := hid (HO3.out.alloc (.cells #[.string { data := #[32] }, .string { data := #[9] }, .string { data := #[32, 9, 32] }] 9))
    have HN2 := hid (fun W (hW : StU w W) => HN.out { data := #[9] } W (by decide) hW)
    clear HN HPk
    go_wp2_with (go_at_call 9; refine (HN2.out _ HO4).mono ?_; rintro e w5 ⟨⟨A5, n5, c5, a5, e5, rfl⟩, HO5⟩)
    go_ret
    exact ⟨rfl, hid (HO4.out.trans HO5.out)⟩
  · have HO4 := hid (HO3.out.alloc (.cells #[.string { data := #[32] }, .string { data := #[9] }, .string { data := #[32, 9, 32] }] 9))
    have HN2 := hid (fun W (hW : StU w W) => HN.out { data := #[32, 9, 32] } W (by decide) hW)
    clear HN HPk
    go_wp2_with (go_at_call 9; refine (HN2.out _ HO4).mono ?_; rintro e w5 ⟨⟨A5, n5, c5, a5, e5, rfl⟩, HO5⟩)
    go_ret
    exact ⟨rfl, hid (HO4.out.trans HO5.out)⟩
theorem gap_bks : ∀ g : ByteArray, (g = { data := #[32] } ∨ g = { data := #[9] } ∨ g = { data := #[32, 9, 32] }) → Bks (bl g) ∧ g.size ≤ 3 := fun _ h => bks_one h
theorem bl_three (a b c : ByteArray) : bl (a ++ b ++ c) = bl a ++ (bl b ++ bl c) := by rw [bl_append, bl_append, List.append_assoc]
/-- A remark behind a line; a dot behind it. -/
theorem line_rem {s g : ByteArray} (hv : Val (bl s)) (hf : (lin (bl s) 0).2 < 2) (hg : Bks (bl g)) : Val (bl (s ++ g ++ rem9)) ∧ ∃ f, f < 2 ∧ lin (bl (s ++ g ++ rem9)) 0 = ((lin (bl s) 0).1, f) := by
  rw [bl_three, bl_rem9]
  refine ⟨hv.app (hg.val.app (Val.asc (by decide))), 1, by decide, ?_⟩
  have hgd := hg.good [35, 32, 46, 32, 60]
  rcases (by omega : (lin (bl s) 0).2 = 0 ∨ (lin (bl s) 0).2 = 1) with h | h
  · rw [lin_app hgd _ (bl s) 0 (Nat.le_refl _) hv h, lin_bks _ _ _ hg.2, lin_rem, List.append_nil]
  · rw [lin_app1 hgd _ (bl s) 0 (Nat.le_refl _) hv h, ← h]
theorem lin_dot (a : Nat) : lin [46] a = ([(6, [], a)], 0) := by
  rw [lin_tok (k := 6) (m := 1) (x := []) (by decide)]
  rfl
theorem line_dot {s g : ByteArray} (hv : Val (bl s)) (hg : Bks (bl g)) : Val (bl (s ++ g ++ dot9)) ∧ ((lin (bl s) 0).2 = 0 → ∃ q, lin (bl (s ++ g ++ dot9)) 0 = ((lin (bl s) 0).1 ++ [q], 0)) ∧ ((lin (bl s) 0).2 = 1 → lin (bl (s ++ g ++ dot9)) 0 = ((lin (bl s) 0).1, 1)) := by
  rw [bl_three, bl_dot9]
  have hgd := hg.good [46]
  refine ⟨hv.app (hg.val.app (Val.asc (by decide))), fun h => ⟨(6, [], 0 + (bl s).length + (bl g).length), ?_⟩, fun h => ?_⟩
  · rw [lin_app hgd _ (bl s) 0 (Nat.le_refl _) hv h, lin_bks _ _ _ hg.2, lin_dot]
  · rw [lin_app1 hgd _ (bl s) 0 (Nat.le_refl _) hv h, ← h]
theorem line_two {s g t : ByteArray} (hv : Val (bl s)) (hf : (lin (bl s) 0).2 = 0) (hg : Bks (bl g)) :
    (sgsL (bl (s ++ g ++ t))).2 = s.size + g.size + (sgsL (bl t)).2 ∧ (Val (bl t) → Val (bl (s ++ g ++ t))) ∧
    lin (bl (s ++ g ++ t)) 0 = ((lin (bl s) 0).1 ++ (lin (bl t) 0).1.map (fun q => (q.1, q.2.1, q.2.2 + (s.size + g.size))), if (lin (bl t) 0).2 < 2 then (lin (bl t) 0).2 else (lin (bl t) 0).2 + (s.size + g.size)) := by
  rw [bl_three]
  refine ⟨?_, fun h => hv.app (hg.val.app h), ?_⟩
  · rw [sgs_app hv, sgs_app hg.val, bl_len, bl_len]; omega
  · rw [lin_app (hg.good _) _ (bl s) 0 (Nat.le_refl _) hv hf, lin_bks _ _ _ hg.2, bl_len, bl_len]
    have := lin_shift _ (bl t) 0 (s.size + g.size) (Nat.le_refl _)
    rw [show 0 + s.size + g.size = 0 + (s.size + g.size) by omega, this]
set_option maxRecDepth 100000 in
set_option maxHeartbeats 4000000 in
theorem blanks_rem {s t : ByteArray} {z : Int} {w : World} (hT : Tb w) (hE : XerrAt w) (hz : -9223372036854775808 ≤ z ∧ z ≤ 9223372036854775807) (hs : s.size ≤ 1400) (ht : t.size ≤ 1400) (hv : Val (bl s)) (hf1 : (lin (bl s) 0).2 = 1) :
    Calls Tryd.prog 6 #[.string s, .string t, .int .i64 z] w fun e w' => e = .returned (.bool true) ∧ StU w w' := by
  have hf : (lin (bl s) 0).2 < 2 := by omega
  have h1' : ¬ (1400 : Int) < (s.size : Int) := by omega
  have h2' : ¬ (1400 : Int) < (t.size : Int) := by omega
  have HA := hid (awake9_any hT hE)
  have HPk := hid (fun W => pick_any z 3 W (by omega) (by omega) hz.1 hz.2)
  have HS := hid (fun W (hW : StU w W) => line_is (f := (lin (bl s) 0).2) (ts := (lin (bl s) 0).1) (hT.stu hW) (hE.stu hW) (by omega) hv rfl hf)
  have HN : Hid (∀ (g : ByteArray) W, (g = { data := #[32] } ∨ g = { data := #[9] } ∨ g = { data := #[32, 9, 32] }) → StU w W → Calls Tryd.prog 9 #[.string (s ++ g ++ rem9)] W fun e w' => ∃ A cap, e = .returned (.tuple #[.slice A (lin (bl s) 0).1.length cap, .int .i64 0, .int .i64 0]) ∧ Hid (StU W w' ∧ RdK w' A (lin (bl s) 0).1 ∧ (lin (bl s) 0).1.length ≤ cap ∧ (A = none → (lin (bl s) 0).1.length = 0 ∧ cap = 0))) := hid fun g W hg hW => by
    obtain ⟨b1, b2⟩ := gap_bks g hg
    obtain ⟨m1, f, m2, m3⟩ := line_rem hv hf b1
    exact line_is (hT.stu hW) (hE.stu hW) (by rw [app_size, app_size]; exact Nat.le_trans (show s.size + g.size + 5 ≤ 1408 by omega) (by decide)) m1 m3 m2
  have hln := lin_in _ (bl s) 0 (Nat.le_refl _) hv.bys
  rw [bl_len] at hln
  have hsa : SaK (lin (bl s) 0).1 (lin (bl s) 0).1 0 := sa_refl (m := 0 + s.size) (fun q hq => (hln.2.1 q hq).2.1) (by omega)
  have HSm : Hid (∀ W A B c1 c2, RdK W A (lin (bl s) 0).1 → RdK W B (lin (bl s) 0).1 → Calls Tryd.prog 13 #[.slice A (lin (bl s) 0).1.length c1, .slice B (lin (bl s) 0).1.length c2, .int .i64 0] W fun e w' => e = .returned (.bool true) ∧ StU W w') := hid fun W A B c1 c2 h1 h2 => same_any (off := 0) h1 h2 rfl (by omega) (by omega) hsa
  have HT := hid (fun W (hW : StU w W) => line_some (s := t) (hT.stu hW) (hE.stu hW) (by omega))
  have HD : Hid (∀ (g : ByteArray) W, (g = { data := #[32] } ∨ g = { data := #[9] } ∨ g = { data := #[32, 9, 32] }) → StU w W → Calls Tryd.prog 9 #[.string (s ++ g ++ dot9)] W fun e w' => ∃ A cap, e = .returned (.tuple #[.slice A (lin (bl s) 0).1.length cap, .int .i64 0, .int .i64 0]) ∧ Hid (StU W w' ∧ RdK w' A (lin (bl s) 0).1 ∧ (lin (bl s) 0).1.length ≤ cap ∧ (A = none → (lin (bl s) 0).1.length = 0 ∧ cap = 0))) := hid fun g W hg hW => by
    obtain ⟨b1, b2⟩ := gap_bks g hg
    obtain ⟨m1, _, m3⟩ := line_dot hv b1
    exact line_is (hT.stu hW) (hE.stu hW) (by rw [app_size, app_size]; exact Nat.le_trans (show s.size + g.size + 1 ≤ 1408 by omega) (by decide)) m1 (m3 hf1) (by decide)
  clear hT hE hs ht hz hln hsa hv hf hf1
  generalize (lin (bl s) 0).1 = ts at *
  generalize ts.length = n at *
  go_enter Tryd.func6, Tryd.ntmps6
  go_upto_region 6 with (first
    | (go_at_call 7; refine HA.out.mono ?_; rintro e w1 ⟨rfl, HO1⟩; clear HA)
    | (go_at_call 9; refine (HS.out _ HO1).mono ?_; rintro e w2 ⟨A2, c2, rfl, HX⟩; have HO2 : StU w w2 := hid (HO1.out.trans HX.out.1.out); have HR2 := hid HX.out.2.1; clear HX HO1 HS))
  go_upto_region 7 with (go_at_call 9; refine (HT.out _ HO2).mono ?_; rintro e w3 ⟨⟨A3, n3, c3, a3, e3, rfl⟩, HO⟩; have HO3 : StU w w3 := hid (HO2.out.trans HO.out); have HR3 := hid (HR2.out.only HO); clear HO HO2 HT HR2)
  go_upto_region 8 with (go_at_call 12; refine (HPk.out _).mono ?_; rintro e w4 ⟨r, rfl, hr, hw4⟩; subst hw4; have hr3 : r = 0 ∨ r = 1 ∨ r = 2 := (by omega); rcases hr3 with rfl | rfl | rfl)
  · have HO4 := hid (HO3.out.alloc (.cells #[.string { data := #[32] }, .string { data := #[9] }, .string { data := #[32, 9, 32] }] 9))
    have HR4 := hid (HR3.out.only (hid ((Only.refl _ w3).alloc (.cells #[.string { data := #[32] }, .string { data := #[9] }, .string { data := #[32, 9, 32] }] 9))))
    have HN2 := hid (fun W (hW : StU w W) => HN.out { data := #[32] } W (.inl rfl) hW)
    have HD2 := hid (fun W (hW : StU w W) => HD.out { data := #[32] } W (.inl rfl) hW)
    clear HN HPk HD HO3 HR3
    go_upto_region 9 with (go_at_call 9; refine (HN2.out _ HO4).mono ?_; rintro e w5 ⟨A5, c5, rfl, HX⟩; have HO5 : StU w w5 := hid (HO4.out.trans HX.out.1.out); have HR5 := hid (HR4.out.only HX.out.1); have HQ5 := hid HX.out.2.1; clear HX HR4)
    go_upto_region 13 with (go_at_call 13; refine (HSm.out _ _ _ _ _ HQ5.out HR5.out).mono ?_; rintro e w6 ⟨rfl, HO⟩; have HO6 : StU w w6 := hid (HO5.out.trans HO.out); clear HO HR5 HQ5)
    go_wp2_with (go_at_call 9; refine (HD2.out _ HO6).mono ?_; rintro e w7 ⟨A7, c7, rfl, HX⟩; have HO7 : StU w w7 := hid (HO6.out.trans HX.out.1.out))
    go_ret
    exact ⟨rfl, HO7⟩
  · have HO4 := hid (HO3.out.alloc (.cells #[.string { data := #[32] }, .string { data := #[9] }, .string { data := #[32, 9, 32] }] 9))
    have HR4 := hid (HR3.out.only (hid ((Only.refl _ w3).alloc (.cells #[.string { data := #[32] }, .string { data := #[9] }, .string { data := #[32, 9, 32] }] 9))))
    have HN2 := hid (fun W (hW : StU w W) => HN.out { data := #[9] } W (.inr (.inl rfl)) hW)
    have HD2 := hid (fun W (hW : StU w W) => HD.out { data := #[9] } W (.inr (.inl rfl)) hW)
    clear HN HPk HD HO3 HR3
    go_upto_region 9 with (go_at_call 9; refine (HN2.out _ HO4).mono ?_; rintro e w5 ⟨A5, c5, rfl, HX⟩; have HO5 : StU w w5 := hid (HO4.out.trans HX.out.1.out); have HR5 := hid (HR4.out.only HX.out.1); have HQ5 := hid HX.out.2.1; clear HX HR4)
    go_upto_region 13 with (go_at_call 13; refine (HSm.out _ _ _ _ _ HQ5.out HR5.out).mono ?_; rintro e w6 ⟨rfl, HO⟩; have HO6 : StU w w6 := hid (HO5.out.trans HO.out); clear HO HR5 HQ5)
    go_wp2_with (go_at_call 9; refine (HD2.out _ HO6).mono ?_; rintro e w7 ⟨A7, c7, rfl, HX⟩; have HO7 : StU w w7 := hid (HO6.out.trans HX.out.1.out))
    go_ret
    exact ⟨rfl, HO7⟩
  · have HO4 := hid (HO3.out.alloc (.cells #[.string { data := #[32] }, .string { data := #[9] }, .string { data := #[32, 9, 32] }] 9))
    have HR4 := hid (HR3.out.only (hid ((Only.refl _ w3).alloc (.cells #[.string { data := #[32] }, .string { data := #[9] }, .string { data := #[32, 9, 32] }] 9))))
    have HN2 := hid (fun W (hW : StU w W) => HN.out { data := #[32, 9, 32] } W (.inr (.inr rfl)) hW)
    have HD2 := hid (fun W (hW : StU w W) => HD.out { data := #[32, 9, 32] } W (.inr (.inr rfl)) hW)
    clear HN HPk HD HO3 HR3
    go_upto_region 9 with (go_at_call 9; refine (HN2.out _ HO4).mono ?_; rintro e w5 ⟨A5, c5, rfl, HX⟩; have HO5 : StU w w5 := hid (HO4.out.trans HX.out.1.out); have HR5 := hid (HR4.out.only HX.out.1); have HQ5 := hid HX.out.2.1; clear HX HR4)
    go_upto_region 13 with (go_at_call 13; refine (HSm.out _ _ _ _ _ HQ5.out HR5.out).mono ?_; rintro e w6 ⟨rfl, HO⟩; have HO6 : StU w w6 := hid (HO5.out.trans HO.out); clear HO HR5 HQ5)
    go_wp2_with (go_at_call 9; refine (HD2.out _ HO6).mono ?_; rintro e w7 ⟨A7, c7, rfl, HX⟩; have HO7 : StU w w7 := hid (HO6.out.trans HX.out.1.out))
    go_ret
    exact ⟨rfl, HO7⟩
set_option maxRecDepth 100000 in
set_option maxHeartbeats 4000000 in
theorem blanks_err {s t : ByteArray} {z er : Int} {w : World} {at_ : Nat} (hT : Tb w) (hE : XerrAt w) (hz : -9223372036854775808 ≤ z ∧ z ≤ 9223372036854775807) (hs : s.size ≤ 1400) (ht : t.size ≤ 1400) (hv : Val (bl s)) (hf0 : (lin (bl s) 0).2 = 0) (hat : at_ ≤ 1400) (he : (er != 0) = true)
    (h1 : ∀ W, StU w W → Calls Tryd.prog 9 #[.string t] W fun e w' => e = .returned (.tuple #[.slice none 0 0, .int .i64 (at_ : Int), .int .i64 er]) ∧ StU W w')
    (h2 : ∀ (g : ByteArray) (k : Nat), (g = { data := #[32] } ∨ g = { data := #[9] } ∨ g = { data := #[32, 9, 32] }) → g.size = k → ∀ W, StU w W → Calls Tryd.prog 9 #[.string (s ++ g ++ t)] W fun e w' => e = .returned (.tuple #[.slice none 0 0, .int .i64 ((s.size + k + at_ : Nat) : Int), .int .i64 er]) ∧ StU W w') :
    Calls Tryd.prog 6 #[.string s, .string t, .int .i64 z] w fun e w' => e = .returned (.bool true) ∧ StU w w' := by
  have hf : (lin (bl s) 0).2 < 2 := by omega
  have h1' : ¬ (1400 : Int) < (s.size : Int) := by omega
  have h2' : ¬ (1400 : Int) < (t.size : Int) := by omega
  have HA := hid (awake9_any hT hE)
  have HPk := hid (fun W => pick_any z 3 W (by omega) (by omega) hz.1 hz.2)
  have HS := hid (fun W (hW : StU w W) => line_is (f := (lin (bl s) 0).2) (ts := (lin (bl s) 0).1) (hT.stu hW) (hE.stu hW) (by omega) hv rfl hf)
  have HN : Hid (∀ (g : ByteArray) W, (g = { data := #[32] } ∨ g = { data := #[9] } ∨ g = { data := #[32, 9, 32] }) → StU w W → Calls Tryd.prog 9 #[.string (s ++ g ++ rem9)] W fun e w' => ∃ A cap, e = .returned (.tuple #[.slice A (lin (bl s) 0).1.length cap, .int .i64 0, .int .i64 0]) ∧ Hid (StU W w' ∧ RdK w' A (lin (bl s) 0).1 ∧ (lin (bl s) 0).1.length ≤ cap ∧ (A = none → (lin (bl s) 0).1.length = 0 ∧ cap = 0))) := hid fun g W hg hW => by
    obtain ⟨b1, b2⟩ := gap_bks g hg
    obtain ⟨m1, f, m2, m3⟩ := line_rem hv hf b1
    exact line_is (hT.stu hW) (hE.stu hW) (by rw [app_size, app_size]; exact Nat.le_trans (show s.size + g.size + 5 ≤ 1408 by omega) (by decide)) m1 m3 m2
  have hln := lin_in _ (bl s) 0 (Nat.le_refl _) hv.bys
  rw [bl_len] at hln
  have hsa : SaK (lin (bl s) 0).1 (lin (bl s) 0).1 0 := sa_refl (m := 0 + s.size) (fun q hq => (hln.2.1 q hq).2.1) (by omega)
  have HSm : Hid (∀ W A B c1 c2, RdK W A (lin (bl s) 0).1 → RdK W B (lin (bl s) 0).1 → Calls Tryd.prog 13 #[.slice A (lin (bl s) 0).1.length c1, .slice B (lin (bl s) 0).1.length c2, .int .i64 0] W fun e w' => e = .returned (.bool true) ∧ StU W w') := hid fun W A B c1 c2 h1 h2 => same_any (off := 0) h1 h2 rfl (by omega) (by omega) hsa
  have HD : Hid (∀ (g : ByteArray) W, (g = { data := #[32] } ∨ g = { data := #[9] } ∨ g = { data := #[32, 9, 32] }) → StU w W → Calls Tryd.prog 9 #[.string (s ++ g ++ dot9)] W fun e w' => ∃ A cap, e = .returned (.tuple #[.slice A ((lin (bl s) 0).1.length + 1) cap, .int .i64 0, .int .i64 0]) ∧ StU W w') := hid fun g W hg hW => by
    obtain ⟨b1, b2⟩ := gap_bks g hg
    obtain ⟨m1, m2, _⟩ := line_dot hv b1
    obtain ⟨q, hq⟩ := m2 hf0
    refine (line_is (hT.stu hW) (hE.stu hW) (by rw [app_size, app_size]; exact Nat.le_trans (show s.size + g.size + 1 ≤ 1408 by omega) (by decide)) m1 hq (by decide)).mono fun e w' ⟨A, cap, h1, h2⟩ => ⟨A, cap, ?_, h2.out.1⟩
    rw [h1, List.length_append, List.length_singleton]
  have HT := hid h1
  have HZ := hid h2
  have hw1 : IntKind.i64.wrap ((s.size : Int) + 1) = ((s.size + 1 : Nat) : Int) := by rw [IntKind.wrap_i64]; omega
  have hw3 : IntKind.i64.wrap ((s.size : Int) + 3) = ((s.size + 3 : Nat) : Int) := by rw [IntKind.wrap_i64]; omega
  have hw5 : IntKind.i64.wrap ((s.size : Int) + 1 + (at_ : Int)) = ((s.size + 1 + at_ : Nat) : Int) := by rw [IntKind.wrap_i64]; omega
  have hw7 : IntKind.i64.wrap ((s.size : Int) + 3 + (at_ : Int)) = ((s.size + 3 + at_ : Nat) : Int) := by rw [IntKind.wrap_i64]; omega
  clear hT hE hs ht hz hln hsa hv hf hf0 h1 h2 hat
  generalize (lin (bl s) 0).1 = ts at *
  generalize ts.length = n at *
  have hn1 : (((n + 1 : Nat) : Int) == (n : Int)) = false := by rw [beq_eq_false_iff_ne]; omega
  go_enter Tryd.func6, Tryd.ntmps6
  go_upto_region 6 with (first
    | (go_at_call 7; refine HA.out.mono ?_; rintro e w1 ⟨rfl, HO1⟩; clear HA)
    | (go_at_call 9; refine (HS.out _ HO1).mono ?_; rintro e w2 ⟨A2, c2, rfl, HX⟩; have HO2 : StU w w2 := hid (HO1.out.trans HX.out.1.out); have HR2 := hid HX.out.2.1; clear HX HO1 HS))
  go_upto_region 7 with (go_at_call 9; refine (HT.out _ HO2).mono ?_; rintro e w3 ⟨rfl, HO⟩; have HO3 : StU w w3 := hid (HO2.out.trans HO.out); have HR3 := hid (HR2.out.only HO); clear HO HO2 HT HR2)
  go_upto_region 8 with (go_at_call 12; refine (HPk.out _).mono ?_; rintro e w4 ⟨r, rfl, hr, hw4⟩; subst hw4; have hr3 : r = 0 ∨ r = 1 ∨ r = 2 := (by omega); rcases hr3 with rfl | rfl | rfl)
  · have HO4 := hid (HO3.out.alloc (.cells #[.string { data := #[32] }, .string { data := #[9] }, .string { data := #[32, 9, 32] }] 9))
    have HR4 := hid (HR3.out.only (hid ((Only.refl _ w3).alloc (.cells #[.string { data := #[32] }, .string { data := #[9] }, .string { data := #[32, 9, 32] }] 9))))
    have HN2 := hid (fun W (hW : StU w W) => HN.out { data := #[32] } W (.inl rfl) hW)
    have HD2 := hid (fun W (hW : StU w W) => HD.out { data := #[32] } W (.inl rfl) hW)
    have HZ2 := hid (fun W (hW : StU w W) => HZ.out { data := #[32] } 1 (.inl rfl) rfl W hW)
    clear HN HPk HD HO3 HR3 HZ
    go_upto_region 9 with (go_at_call 9; refine (HN2.out _ HO4).mono ?_; rintro e w5 ⟨A5, c5, rfl, HX⟩; have HO5 : StU w w5 := hid (HO4.out.trans HX.out.1.out); have HR5 := hid (HR4.out.only HX.out.1); have HQ5 := hid HX.out.2.1; clear HX HR4)
    go_upto_region 13 with (go_at_call 13; refine (HSm.out _ _ _ _ _ HQ5.out HR5.out).mono ?_; rintro e w6 ⟨rfl, HO⟩; have HO6 : StU w w6 := hid (HO5.out.trans HO.out); clear HO HR5 HQ5)
    go_upto_region 18 with (go_at_call 9; refine (HD2.out _ HO6).mono ?_; rintro e w7 ⟨A7, c7, rfl, HX⟩; have HO7 : StU w w7 := hid (HO6.out.trans HX.out))
    go_wp2_with (go_at_call 9; refine (HZ2.out _ HO7).mono ?_; rintro e w8 ⟨rfl, HO⟩; have HO8 : StU w w8 := hid (HO7.out.trans HO.out))
    go_ret
    exact ⟨ret_bool (by simp), HO8⟩
  · have HO4 := hid (HO3.out.alloc (.cells #[.string { data := #[32] }, .string { data := #[9] }, .string { data := #[32, 9, 32] }] 9))
    have HR4 := hid (HR3.out.only (hid ((Only.refl _ w3).alloc (.cells #[.string { data := #[32] }, .string { data := #[9] }, .string { data := #[32, 9, 32] }] 9))))
    have HN2 := hid (fun W (hW : StU w W) => HN.out { data := #[9] } W (.inr (.inl rfl)) hW)
    have HD2 := hid (fun W (hW : StU w W) => HD.out { data := #[9] } W (.inr (.inl rfl)) hW)
    have HZ2 := hid (fun W (hW : StU w W) => HZ.out { data := #[9] } 1 (.inr (.inl rfl)) rfl W hW)
    clear HN HPk HD HO3 HR3 HZ
    go_upto_region 9 with (go_at_call 9; refine (HN2.out _ HO4).mono ?_; rintro e w5 ⟨A5, c5, rfl, HX⟩; have HO5 : StU w w5 := hid (HO4.out.trans HX.out.1.out); have HR5 := hid (HR4.out.only HX.out.1); have HQ5 := hid HX.out.2.1; clear HX HR4)
    go_upto_region 13 with (go_at_call 13; refine (HSm.out _ _ _ _ _ HQ5.out HR5.out).mono ?_; rintro e w6 ⟨rfl, HO⟩; have HO6 : StU w w6 := hid (HO5.out.trans HO.out); clear HO HR5 HQ5)
    go_upto_region 18 with (go_at_call 9; refine (HD2.out _ HO6).mono ?_; rintro e w7 ⟨A7, c7, rfl, HX⟩; have HO7 : StU w w7 := hid (HO6.out.trans HX.out))
    go_wp2_with (go_at_call 9; refine (HZ2.out _ HO7).mono ?_; rintro e w8 ⟨rfl, HO⟩; have HO8 : StU w w8 := hid (HO7.out.trans HO.out))
    go_ret
    exact ⟨ret_bool (by simp), HO8⟩
  · have HO4 := hid (HO3.out.alloc (.cells #[.string { data := #[32] }, .string { data := #[9] }, .string { data := #[32, 9, 32] }] 9))
    have HR4 := hid (HR3.out.only (hid ((Only.refl _ w3).alloc (.cells #[.string { data := #[32] }, .string { data := #[9] }, .string { data := #[32, 9, 32] }] 9))))
    have HN2 := hid (fun W (hW : StU w W) => HN.out { data := #[32, 9, 32] } W (.inr (.inr rfl)) hW)
    have HD2 := hid (fun W (hW : StU w W) => HD.out { data := #[32, 9, 32] } W (.inr (.inr rfl)) hW)
    have HZ2 := hid (fun W (hW : StU w W) => HZ.out { data := #[32, 9, 32] } 3 (.inr (.inr rfl)) rfl W hW)
    clear HN HPk HD HO3 HR3 HZ
    go_upto_region 9 with (go_at_call 9; refine (HN2.out _ HO4).mono ?_; rintro e w5 ⟨A5, c5, rfl, HX⟩; have HO5 : StU w w5 := hid (HO4.out.trans HX.out.1.out); have HR5 := hid (HR4.out.only HX.out.1); have HQ5 := hid HX.out.2.1; clear HX HR4)
    go_upto_region 13 with (go_at_call 13; refine (HSm.out _ _ _ _ _ HQ5.out HR5.out).mono ?_; rintro e w6 ⟨rfl, HO⟩; have HO6 : StU w w6 := hid (HO5.out.trans HO.out); clear HO HR5 HQ5)
    go_upto_region 18 with (go_at_call 9; refine (HD2.out _ HO6).mono ?_; rintro e w7 ⟨A7, c7, rfl, HX⟩; have HO7 : StU w w7 := hid (HO6.out.trans HX.out))
    go_wp2_with (go_at_call 9; refine (HZ2.out _ HO7).mono ?_; rintro e w8 ⟨rfl, HO⟩; have HO8 : StU w w8 := hid (HO7.out.trans HO.out))
    go_ret
    exact ⟨ret_bool (by simp), HO8⟩
end Go.Proofs.YtbbclcllkpabkaaDoor.X
