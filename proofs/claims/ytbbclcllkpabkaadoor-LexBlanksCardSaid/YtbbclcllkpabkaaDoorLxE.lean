/- LexParts. -/
import Derived.Test.YtbbclcllkpabkaaDoorLxD
import Derived.Deep.CutBlock
namespace Go.Proofs.YtbbclcllkpabkaaDoor.X
open Go.RowKit U G

set_option maxHeartbeats 1000000 in
theorem blank_any {s : ByteArray} {w : World} (h : ∀ x ∈ bl s, x = 32 ∨ x = 9) (hs : s.size ≤ 900000) :
    Calls Tryd.prog 11 #[.string s] w fun e w' => e = .returned (.bool true) ∧ w = w' := by
  have HB : Hid (∀ k (hk : k < s.size), (((s[k]'hk).toNat : Int) == 32) = true ∨ ((((s[k]'hk).toNat : Int) == 32) = false ∧ (((s[k]'hk).toNat : Int) == 9) = true)) := hid fun k hk => by
    have hm : (s[k]'hk).toNat ∈ bl s := by
      rw [← bl_at hk]
      have h' : k < (bl s).length := by rw [bl_len]; exact hk
      rw [List.getD_eq_getElem?_getD, List.getElem?_eq_getElem h']
      exact List.getElem_mem h'
    rcases h _ hm with e | e
    · left; rw [e]; rfl
    · right; rw [e]; exact ⟨rfl, rfl⟩
  clear h
  go_enter Tryd.func11, Tryd.ntmps11
  go_wp2_with fail
  go_loopw [3] (fun i wr => wr = w ∧ ∃ k : Nat, k ≤ s.size ∧ i = .int .i64 (k : Int)) (fun i _ => s.size - (intOf i).toNat)
  case atStart => exact ⟨rfl, 0, by omega, rfl⟩
  case round =>
    obtain ⟨rfl, k, hk, rfl⟩ := hrel
    by_cases hp : k < s.size
    · have hp' : (k : Int) < (s.size : Int) := by omega
      have h0 : (0 : Int) ≤ (k : Int) := by omega
      have hb := HB.out k hp
      have hw : IntKind.i64.wrap ((k : Int) + 1) = ((k + 1 : Nat) : Int) := by rw [IntKind.wrap_i64]; omega
      rcases hb with hb | ⟨hb, hb2⟩
      · have e : (s[k]'hp).toNat = 32 := by have := eq_of_beq hb; omega
        clear hb
        go_wp2_with fail
        go_roundw
        case rel => exact ⟨trivial, k + 1, by omega, by go_num⟩
        case measure => simp [intOf]; omega
      · have e : (s[k]'hp).toNat = 9 := by have := eq_of_beq hb2; omega
        clear hb hb2
        go_wp2_with fail
        go_roundw
        case rel => exact ⟨trivial, k + 1, by omega, by go_num⟩
        case measure => simp [intOf]; omega
    · have hp' : ¬ (k : Int) < (s.size : Int) := by omega
      go_wp2_with fail
      go_ret
      exact ⟨rfl, rfl⟩
set_option maxRecDepth 100000 in
set_option maxHeartbeats 2000000 in
theorem parts_far {s : ByteArray} {w : World} (hT : Tb w) (hE : XerrAt w) (hs : 3000 < s.size) :
    Calls Tryd.prog 5 #[.string s] w fun e w' => e = .returned (.bool true) ∧ StU w w' := by
  have HA := hid (awake9_any hT hE)
  have hs' : (3000 : Int) < (s.size : Int) := by omega
  clear hT hE hs
  go_enter Tryd.func5, Tryd.ntmps5
  go_wp2_with (go_at_call 7; refine HA.out.mono ?_; rintro e w1 ⟨rfl, HO⟩)
  go_ret
  exact ⟨rfl, HO⟩
set_option maxRecDepth 100000 in
set_option maxHeartbeats 2000000 in
theorem parts_char {s : ByteArray} {w : World} (hT : Tb w) (hE : XerrAt w) (hs : s.size ≤ 3000) (h : (sgsL (bl s)).2 < s.size) :
    Calls Tryd.prog 5 #[.string s] w fun e w' => e = .returned (.bool true) ∧ StU w w' := by
  have HA := hid (awake9_any hT hE)
  have hs' : ¬ (3000 : Int) < (s.size : Int) := by omega
  have HL := hid (fun W (hW : StU w W) => line_bad (hT.stu hW) (hE.stu hW) (by omega) h)
  have HS : Hid (∀ W, StU w W → Calls Tryd.prog 10 #[.string s] W fun e w' => e = .returned (.tuple #[.slice none 0 0, .int .i64 (((sgsL (bl s)).2 : Nat) : Int), .int .i64 11]) ∧ StU W w') := hid fun W hW => (signs_any (hT.stu hW) (by omega)).mono fun e w' hh => ⟨by
    rcases hh.2 with ⟨h1, _⟩ | ⟨_, h1⟩
    · omega
    · exact h1, hh.1⟩
  generalize (sgsL (bl s)).2 = n at *
  clear hT hE hs h
  go_enter Tryd.func5, Tryd.ntmps5
  go_wp2_with (first
    | (go_at_call 7; refine HA.out.mono ?_; rintro e w1 ⟨rfl, HO⟩)
    | (go_at_call 9; refine (HL.out _ HO).mono ?_; rintro e w2 ⟨rfl, HO2⟩; have HO3 : StU w w2 := hid (HO.out.trans HO2.out))
    | (go_at_call 10; refine (HS.out _ HO3).mono ?_; rintro e w3 ⟨rfl, HO4⟩))
  go_ret
  exact ⟨rfl, hid (HO3.out.trans HO4.out)⟩
theorem signs_is {x : ByteArray} {w : World} (hT : Tb w) (hs : x.size ≤ 900000) (hv : Val (bl x)) : Calls Tryd.prog 10 #[.string x] w fun e w' => (∃ A n cap, e = .returned (.tuple #[.slice A n cap, .int .i64 0, .int .i64 0])) ∧ StU w w' := by
  refine (signs_any hT hs).mono fun e w' hh => ⟨?_, hh.1⟩
  have hall : (sgsL (bl x)).2 = x.size := by rw [hv.sgs, bl_len]
  rcases hh.2 with ⟨_, A, cap, h1, _⟩ | ⟨h1, _⟩
  · exact ⟨A, _, cap, h1⟩
  · omega
theorem ext_sz {s : ByteArray} {a b : Nat} : (s.extract a b).size ≤ s.size := by rw [← bl_len, bl_extract, List.length_drop, List.length_take, bl_len]; omega
set_option maxRecDepth 100000 in
set_option maxHeartbeats 2000000 in
theorem parts_bad {s : ByteArray} {w : World} {p : Nat} (hT : Tb w) (hE : XerrAt w) (hs : s.size ≤ 3000) (hv : Val (bl s)) (h : (lin (bl s) 0).2 = p + 2) :
    Calls Tryd.prog 5 #[.string s] w fun e w' => e = .returned (.bool true) ∧ StU w w' := by
  have HA := hid (awake9_any hT hE)
  have hs' : ¬ (3000 : Int) < (s.size : Int) := by omega
  obtain ⟨b1, b2, b3, b4, b5, b6, b7⟩ := lin_bad _ (bl s) 0 p (Nat.le_refl _) hv h
  rw [Nat.sub_zero] at b3 b4 b5 b6 b7
  rw [bl_len] at b2
  have HL := hid (fun W (hW : StU w W) => line_not (hT.stu hW) (hE.stu hW) (by omega) hv (show lin (bl s) 0 = ((lin (bl s) 0).1, p + 2) by rw [← h]))
  have HS := hid (fun W (hW : StU w W) => signs_is (hT.stu hW) (by omega) hv)
  have HM := hid (fun W (hW : StU w W) => line_is (s := s.extract 0 p) (f := 0) (hT.stu hW) (hE.stu hW) (Nat.le_trans ext_sz (by omega)) (by rw [bl_head]; exact b3) (by rw [bl_head]; exact b5) (by decide))
  have HN := hid (fun W (hW : StU w W) => line_not (s := s.extract p s.size) (p := 0) (hT.stu hW) (hE.stu hW) (Nat.le_trans ext_sz (by omega)) (by rw [bl_tail]; exact b4) (by rw [bl_tail]; exact b6 0))
  have hp0 : (0 : Int) ≤ (p : Int) := by omega
  have hp1 : (p : Int) ≤ (s.size : Int) := by omega
  have hlen : ((lin (bl s) 0).1.length : Int) ≤ (p : Int) := by omega
  generalize (lin (bl s) 0).1.length = m at *
  clear hT hE hs h b1 b2 b3 b4 b5 b6 b7 hv
  go_enter Tryd.func5, Tryd.ntmps5
  go_wp2_with (first
    | (go_at_call 7; refine HA.out.mono ?_; rintro e w1 ⟨rfl, HO⟩)
    | (go_at_call 9; with_reducible (show Calls _ _ #[Value.string s] _ _); with_reducible (refine (HL.out _ HO).mono ?_); rintro e w2 ⟨rfl, HO2⟩; have HO3 : StU w w2 := hid (HO.out.trans HO2.out))
    | (go_at_call 10; refine (HS.out _ HO3).mono ?_; rintro e w3 ⟨⟨A, n, cap, rfl⟩, HO4⟩; have HO5 : StU w w3 := hid (HO3.out.trans HO4.out))
    | (go_at_call 9; with_reducible (show Calls _ _ #[Value.string (s.extract 0 p)] _ _); with_reducible (refine (HM.out _ HO5).mono ?_); rintro e w4 ⟨A2, cap2, rfl, HX⟩; have HO6 : StU w w4 := hid (HO5.out.trans HX.out.1.out))
    | (go_at_call 9; with_reducible (show Calls _ _ #[Value.string (s.extract p s.size)] _ _); with_reducible (refine (HN.out _ HO6).mono ?_); rintro e w5 ⟨rfl, HO7⟩))
  go_ret
  exact ⟨rfl, hid (HO6.out.trans HO7.out)⟩
/-- What the law asks of a token. -/
structure PtK (s : ByteArray) (k p e : Nat) (xs : ByteArray) : Prop where
  lt : p < e
  le : e ≤ s.size
  val : Val (bl (s.extract p e))
  one : ∃ x f, strB x = xs ∧ f < 2 ∧ lin (bl (s.extract p e)) 0 = ([(k, x, 0)], f)
  text : Val (bl xs)
  size : xs.size ≤ 20000
  big : p < s.size
theorem part_of {s : ByteArray} {ts : List Tk} (hts : (lin (bl s) 0).1 = ts) (hs : s.size ≤ 3000) (hv : Val (bl s)) (h : (lin (bl s) 0).2 < 2) {i : Nat} (hi : i < ts.length) :
    PtK s (ts.getD i (0, [], 0)).1 (ts.getD i (0, [], 0)).2.2 (endE ts i s.size) (strB (ts.getD i (0, [], 0)).2.1) := by
  have hp := lin_part _ (bl s) 0 (Nat.le_refl _) hv h i (by rw [hts]; exact hi)
  obtain ⟨_, l2, _⟩ := lin_in _ (bl s) 0 (Nat.le_refl _) hv.bys
  rw [hts] at hp l2
  rw [Nat.zero_add, Nat.sub_zero, Nat.sub_zero, bl_len, ← bl_extract] at hp
  obtain ⟨_, p2, p3, p4, p5, p6⟩ := hp
  have hm : ts.getD i (0, [], 0) ∈ ts := by
    rw [List.getD_eq_getElem?_getD, List.getElem?_eq_getElem hi]
    exact List.getElem_mem hi
  obtain ⟨_, m2, m3, m4, _⟩ := l2 _ hm
  rw [bl_len] at m2 m4
  refine ⟨p2, p3, p4, ⟨_, _, rfl, p6, Prod.ext p5 rfl⟩, by rw [bl_strB m3.bys]; exact m3, ?_, by omega⟩
  rw [← bl_len, bl_strB m3.bys]
  omega
theorem gap_of {s : ByteArray} {ts : List Tk} (hts : (lin (bl s) 0).1 = ts) (hv : Val (bl s)) (h : (lin (bl s) 0).2 < 2) (hn : ts.length ≠ 0) :
    (ts.getD 0 (0, [], 0)).2.2 ≤ s.size ∧ ∀ x ∈ bl (s.extract 0 (ts.getD 0 (0, [], 0)).2.2), x = 32 ∨ x = 9 := by
  obtain ⟨g1, _, _, _, g5⟩ := lin_gap _ (bl s) 0 (Nat.le_refl _) hv h
  rw [bl_head]
  rw [hts, bl_len] at g1 g5
  cases ts with
  | nil => exact absurd rfl hn
  | cons q qs =>
    simp only [firE, Nat.sub_zero] at g1 g5
    exact ⟨by simpa using g1, by simpa using g5 (by simp)⟩
set_option maxRecDepth 100000 in
set_option maxHeartbeats 4000000 in
theorem parts_ok {s : ByteArray} {w : World} (hT : Tb w) (hE : XerrAt w) (hs : s.size ≤ 3000) (hv : Val (bl s)) (h : (lin (bl s) 0).2 < 2) :
    Calls Tryd.prog 5 #[.string s] w fun e w' => e = .returned (.bool true) ∧ StU w w' := by
  have HA := hid (awake9_any hT hE)
  have hs' : ¬ (3000 : Int) < (s.size : Int) := by omega
  have HP := hid (fun i hi => part_of rfl hs hv h (i := i) hi)
  have HG := hid (fun hn => gap_of rfl hv h hn)
  have hlen := (lin_in _ (bl s) 0 (Nat.le_refl _) hv.bys).1
  rw [bl_len] at hlen
  have HL := hid (fun W (hW : StU w W) => line_is (f := (lin (bl s) 0).2) (ts := (lin (bl s) 0).1) (hT.stu hW) (hE.stu hW) (by omega) hv rfl h)
  have HS := hid (fun W (hW : StU w W) => signs_is (hT.stu hW) (by omega) hv)
  have HTE : Hid (∀ W, StU w W → Tb W ∧ XerrAt W) := hid fun W hW => ⟨hT.stu hW, hE.stu hW⟩
  generalize (lin (bl s) 0).1 = ts at *
  obtain ⟨n, hn⟩ : ∃ n, ts.length = n := ⟨_, rfl⟩
  rw [hn] at HL hlen
  have Hn := hid hn
  have hs2 : s.size ≤ 900000 := by omega
  have HEn : Hid (∀ i, endE ts i s.size = if i + 1 < n then (ts.getD (i + 1) (0, [], 0)).2.2 else s.size) := hid fun i => by unfold endE; rw [hn]
  clear hT hE h hv hn
  go_enter Tryd.func5, Tryd.ntmps5
  go_wp2_with (first
    | (go_at_call 7; refine HA.out.mono ?_; rintro e w1 ⟨rfl, HO⟩)
    | (go_at_call 9; refine (HL.out _ HO).mono ?_; rintro e w2 ⟨A, cap, rfl, HX⟩; have HO3 : StU w w2 := hid (HO.out.trans HX.out.1.out))
    | (go_at_call 10; refine (HS.out _ HO3).mono ?_; rintro e w3 ⟨⟨A0, n0, cap0, rfl⟩, HO4⟩))
  have HX2 : Hid (RdK w3 A ts ∧ StU w w3 ∧ n ≤ cap ∧ (A = none → n = 0)) := hid ⟨HX.out.2.1.only HO4, hid (HO3.out.trans HO4.out), HX.out.2.2.1, fun e => (HX.out.2.2.2 e).1⟩
  clear HL HS HA HX HO HO3 HO4
  by_cases hn0 : n = 0
  · subst hn0
    go_loopw [15] (fun iv wr => iv = .int .i64 0 ∧ wr = w3) (fun _ _ => 0)
    case atStart => exact ⟨rfl, rfl⟩
    case round =>
      obtain ⟨rfl, rfl⟩ := hrel
      go_wp2_with fail
      go_ret
      exact ⟨rfl, HX2.out.2.1⟩
  · obtain ⟨b, off, hA, _⟩ := HX2.out.1 0 (by rw [Hn.out]; omega)
    subst hA
    have HC : Hid (∀ W, StU w3 W → ∀ i, i < n → b < W.heap.size ∧ W.cell? ⟨b, off + i * 3, none⟩ = some (.int .i64 ((ts.getD i (0, [], 0)).1 : Int)) ∧ W.cell? ⟨b, off + i * 3 + 1, none⟩ = some (.string (strB (ts.getD i (0, [], 0)).2.1)) ∧ W.cell? ⟨b, off + i * 3 + 2, none⟩ = some (.int .i64 ((ts.getD i (0, [], 0)).2.2 : Int))) := hid fun W hW i hi => by
      obtain ⟨b1, o1, e1, hb, r⟩ := (HX2.out.1.only hW) i (by rw [Hn.out]; exact hi)
      injection e1 with e1; injection e1 with e1 e2; subst e1; subst e2
      exact ⟨hb, r⟩
    have HL3 : Hid (∀ W, StU w3 W → Tb W ∧ XerrAt W) := hid fun W hW => HTE.out W (hid (HX2.out.2.1.out.trans hW.out))
    have HPi : Hid (∀ i, i < n → PtK s (ts.getD i (0, [], 0)).1 (ts.getD i (0, [], 0)).2.2 (endE ts i s.size) (strB (ts.getD i (0, [], 0)).2.1)) := hid fun i hi => HP.out i (by rw [Hn.out]; exact hi)
    have HGi := hid (HG.out (by rw [Hn.out]; exact hn0))
    have HW : Hid (StU w w3) := hid HX2.out.2.1
    have hncap : (n : Int) ≤ (cap : Int) := by have := HX2.out.2.2.1; omega
    clear HX2 HP HG HTE Hn
    go_loopw [15] (fun iv wr => ∃ i : Nat, i ≤ n ∧ iv = .int .i64 (i : Int) ∧ StU w3 wr) (fun iv _ => n - (intOf iv).toNat)
    case atStart => exact ⟨0, by omega, rfl, hid (Only.refl _ _)⟩
    case round =>
      obtain ⟨i, hi, rfl, HS⟩ := hrel
      by_cases hp : i < n
      · have hp' : (i : Int) < (n : Int) := by omega
        have h0 : (0 : Int) ≤ (i : Int) := by omega
        have hw1 : IntKind.i64.wrap ((i : Int) + 1) = ((i + 1 : Nat) : Int) := by rw [IntKind.wrap_i64]; omega
        have hPt := HPi.out i hp
        have hE := HEn.out i
        obtain ⟨hbl, x0, x1, x2⟩ := HC.out wr HS i hp
        have HCi : Hid (∀ W, StU w3 W → b < W.heap.size ∧ W.cell? ⟨b, off + i * 3, none⟩ = some (.int .i64 ((ts.getD i (0, [], 0)).1 : Int)) ∧ W.cell? ⟨b, off + i * 3 + 1, none⟩ = some (.string (strB (ts.getD i (0, [], 0)).2.1)) ∧ W.cell? ⟨b, off + i * 3 + 2, none⟩ = some (.int .i64 ((ts.getD i (0, [], 0)).2.2 : Int))) := hid fun W hW => HC.out W hW i hp
        generalize endE ts i s.size = e0 at *
        have hEy : i + 1 < n → wr.cell? ⟨b, off + (i + 1) * 3 + 2, none⟩ = some (.int .i64 (e0 : Int)) := fun hq => by
          rw [if_pos hq] at hE
          rw [hE]
          exact (HC.out wr HS (i + 1) hq).2.2.2
        have hEn : ¬ i + 1 < n → e0 = s.size := fun hq => by rw [if_neg hq] at hE; exact hE
        generalize ts.getD i (0, [], 0) = q at *
        obtain ⟨k, x, p⟩ := q
        simp only at *
        generalize strB x = xs at *
        have hp0 : (0 : Int) ≤ (p : Int) := by omega
        have hlt := hPt.lt
        have hle := hPt.le
        have hpe : (p : Int) ≤ (e0 : Int) := by omega
        have hpe2 : ¬ (e0 : Int) ≤ (p : Int) := by omega
        have hes : (e0 : Int) ≤ (s.size : Int) := by omega
        have hnp : ¬ (p : Int) < 0 := by omega
        have HSg := hid (fun W (hW : StU w3 W) => signs_is (x := xs) (HL3.out W hW).1 (by have := hPt.size; omega) hPt.text)
        have HLn : Hid (∀ W, StU w3 W → Calls Tryd.prog 9 #[.string (s.extract p e0)] W fun e w' => ∃ cap b1 o1, e = .returned (.tuple #[.slice (some ⟨b1, o1, none⟩) 1 cap, .int .i64 0, .int .i64 0]) ∧ Hid (StU W w' ∧ 1 ≤ cap ∧ ∀ W', StU w' W' → b1 < W'.heap.size ∧ W'.cell? ⟨b1, o1, none⟩ = some (.int .i64 (k : Int)) ∧ W'.cell? ⟨b1, o1 + 1, none⟩ = some (.string xs) ∧ W'.cell? ⟨b1, o1 + 2, none⟩ = some (.int .i64 0))) := hid fun W hW => by
          obtain ⟨x', f, e1, e2, e3⟩ := hPt.one
          refine (line_is (HL3.out W hW).1 (HL3.out W hW).2 (Nat.le_trans ext_sz (by omega)) hPt.val e3 e2).mono fun e w' ⟨A, cap, h1, h2⟩ => ?_
          obtain ⟨b1, o1, rfl, _⟩ := h2.out.2.1 0 (by simp)
          refine ⟨cap, b1, o1, h1, hid ⟨h2.out.1, h2.out.2.2.1, fun W' hW' => ?_⟩⟩
          obtain ⟨b2, o2, e4, hb2, y0, y1, y2⟩ := (h2.out.2.1.only hW') 0 (by simp)
          injection e4 with e4; injection e4 with e4 e5; subst e4; subst e5
          rw [← e1]
          exact ⟨hb2, y0, y1, y2⟩
        clear hPt hE HC HL3 HPi HGi HEn hlen hn0 hlt hle hs hs2
        by_cases hq : i + 1 < n
        · have hq' : ((i + 1 : Nat) : Int) < (n : Int) := by omega
          have hi1 : (0 : Int) ≤ ((i + 1 : Nat) : Int) := by omega
          have y2 := hEy hq
          clear hEy hEn hq
          go_upto_region 25 with (first
            | (go_at_call 9; refine (HLn.out _ HS).mono ?_; rintro e w5 ⟨cap1, b1, o1, rfl, HY⟩; have HS5 : StU w3 w5 := hid (HS.out.trans HY.out.1.out); obtain ⟨_, _, z1, _⟩ := HCi.out _ HS5)
            | (go_at_call 10; refine (HSg.out _ HS5).mono ?_; rintro e w6 ⟨⟨A6, n6, c6, rfl⟩, HO6⟩))
          have HS6 : StU w3 w6 := hid (HS5.out.trans HO6.out)
          obtain ⟨hb6, q0, q1, q2⟩ := HCi.out _ HS6
          obtain ⟨hb7, r0, r1, r2⟩ := HY.out.2.2 _ HO6
          have hc1 : (1 : Int) ≤ (cap1 : Int) := by have := HY.out.2.1; omega
          clear x0 x1 x2 z1 HLn HSg HCi HY HO6 HS5 hbl
          clear y2
          go_quiet (fail)
          go_wp2_with fail
          go_roundw
          case rel => exact ⟨i + 1, by omega, rfl, hid (HS6.out.drewN _)⟩
          case measure => simp [intOf]; omega
        · have hq' : ¬ ((i + 1 : Nat) : Int) < (n : Int) := by omega
          obtain rfl := hEn hq
          clear hEy hEn hq
          go_upto_region 25 with (first
            | (go_at_call 9; refine (HLn.out _ HS).mono ?_; rintro e w5 ⟨cap1, b1, o1, rfl, HY⟩; have HS5 : StU w3 w5 := hid (HS.out.trans HY.out.1.out); obtain ⟨_, _, z1, _⟩ := HCi.out _ HS5)
            | (go_at_call 10; refine (HSg.out _ HS5).mono ?_; rintro e w6 ⟨⟨A6, n6, c6, rfl⟩, HO6⟩))
          have HS6 : StU w3 w6 := hid (HS5.out.trans HO6.out)
          obtain ⟨hb6, q0, q1, q2⟩ := HCi.out _ HS6
          obtain ⟨hb7, r0, r1, r2⟩ := HY.out.2.2 _ HO6
          have hc1 : (1 : Int) ≤ (cap1 : Int) := by have := HY.out.2.1; omega
          clear x0 x1 x2 z1 HLn HSg HCi HY HO6 HS5 hbl
          go_quiet (fail)
          go_wp2_with fail
          go_roundw
          case rel => exact ⟨i + 1, by omega, rfl, hid (HS6.out.drewN _)⟩
          case measure => simp [intOf]; omega
      · have hp' : ¬ (i : Int) < (n : Int) := by omega
        obtain ⟨g1, g2⟩ := HGi.out
        obtain ⟨hbl, _, _, x2⟩ := HC.out wr HS 0 (by omega)
        have HB := hid (fun W => blank_any (w := W) g2 (Nat.le_trans ext_sz hs2))
        rw [Nat.zero_mul, Nat.add_zero] at x2
        generalize (ts.getD 0 (0, [], 0)).2.2 = p at *
        have hp0 : (0 : Int) ≤ (p : Int) := by omega
        have hp1 : (p : Int) ≤ (s.size : Int) := by omega
        have hn1 : (0 : Int) < (n : Int) := by omega
        have hn2 : ((n : Int) == 0) = false := by rw [beq_eq_false_iff_ne]; omega
        have HSo : StU w wr := hid (HW.out.out.trans HS.out)
        clear HPi HEn HC HGi g1 g2 hn0
        go_wp2_with (go_at_call 11; refine (HB.out _).mono ?_; rintro e w4 ⟨rfl, rfl⟩)
        go_ret
        exact ⟨rfl, HSo⟩
theorem lexParts_any {s : ByteArray} {w : World} (hT : Tb w) (hE : XerrAt w) :
    Calls Tryd.prog 5 #[.string s] w fun e w' => e = .returned (.bool true) ∧ StU w w' := by
  by_cases hs : s.size ≤ 3000
  · have h := sgsL_le (bl_bys s)
    rw [bl_len] at h
    rcases Nat.lt_or_ge (sgsL (bl s)).2 s.size with h1 | h1
    · exact parts_char hT hE hs h1
    · have hv : Val (bl s) := val_of (bl_bys s) (by rw [bl_len]; omega)
      by_cases hf : (lin (bl s) 0).2 < 2
      · exact parts_ok hT hE hs hv hf
      · exact parts_bad (p := (lin (bl s) 0).2 - 2) hT hE hs hv (by omega)
  · exact parts_far hT hE (by omega)
end Go.Proofs.YtbbclcllkpabkaaDoor.X
