/- A reader of a line: kinds of tokens, and their signs. -/
import Derived.Test.YtbbclcllkpabkaaDoorLx8
namespace Go.Proofs.YtbbclcllkpabkaaDoor.X
open Go.RowKit U G

/-- The kind that a text begins with, and how many bytes tell it. -/
def kdN (l : List Nat) : Nat × Nat :=
  if l.getD 0 0 = 60 then (1, 1) else if l.getD 0 0 = 95 ∧ l.getD 1 0 = 58 then (2, 2) else if l.getD 0 0 = 34 then (3, 1) else if l.getD 0 0 = 64 then (4, 1) else if l.getD 0 0 = 94 ∧ l.getD 1 0 = 94 then (5, 2) else if l.getD 0 0 = 46 then (6, 1) else (0, 0)
def sgo (k : Nat) (l : List Nat) : Option (List Nat × Nat) :=
  if k = 1 then unt false l else if k = 2 then (if lab l = 0 then none else some ((sgsL (l.take (lab l))).1, lab l)) else if k = 3 then unt true l
  else if k = 4 then (if tag l = 0 then none else some ((sgsL (l.take (tag l))).1, tag l)) else if k = 5 ∨ k = 6 then some ([], 0) else none
theorem sgo2 (l : List Nat) : sgo 2 l = if lab l = 0 then none else some ((sgsL (l.take (lab l))).1, lab l) := rfl
theorem sgo4 (l : List Nat) : sgo 4 l = if tag l = 0 then none else some ((sgsL (l.take (tag l))).1, tag l) := rfl
theorem sgs_val {l : List Nat} (h : Val l) : (∀ n ∈ (sgsL l).1, sgn n) ∧ encL (sgsL l).1 = l := by
  obtain ⟨h1, h2, h3, _⟩ := sgsL_of _ l (Nat.le_refl _) h.bys
  refine ⟨h1, ?_⟩
  rw [h.sgs, List.drop_length, List.append_nil] at h3
  exact h3.symm
theorem tok_sgo {l : List Nat} (hb : Bys l) : tok l = match sgo (kdN l).1 (l.drop (kdN l).2) with
    | none => none
    | some q => if allG q.1 = true then some ((kdN l).1, encL q.1, (kdN l).2 + q.2) else none := by
  unfold tok kdN
  split
  · show inn false 1 (l.drop 1) = _
    unfold inn sgo
    rfl
  · split
    · show _ = match sgo 2 (l.drop 2) with | none => none | some q => _
      rw [sgo2]
      by_cases h : lab (l.drop 2) = 0
      · rw [if_pos h, if_pos h]
      · rw [if_neg h, if_neg h]
        obtain ⟨v1, v2⟩ := sgs_val (lab_val (bys_drop hb 2))
        simp only
        rw [if_pos (allG_iff.2 v1), v2]
    · split
      · show inn true 3 (l.drop 1) = _
        unfold inn sgo
        rfl
      · split
        · show _ = match sgo 4 (l.drop 1) with | none => none | some q => _
          rw [sgo4]
          by_cases h : tag (l.drop 1) = 0
          · rw [if_pos h, if_pos h]
          · rw [if_neg h, if_neg h]
            obtain ⟨v1, v2⟩ := sgs_val (Val.asc (tag_asc (l.drop 1)))
            simp only
            rw [if_pos (allG_iff.2 v1), v2]
        · split
          · rfl
          · split
            · rfl
            · rfl
theorem sgo_size {k : Nat} {l : List Nat} (hb : Bys l) {ns : List Nat} {m : Nat} (h : sgo k l = some (ns, m)) : m ≤ l.length ∧ ns.length ≤ l.length := by
  unfold sgo at h
  have hs : ∀ n, (sgsL (l.take n)).1.length ≤ l.length := fun n => by
    have h1 := sgsL_of _ (l.take n) (Nat.le_refl _) (bys_take hb n)
    have h2 := sgsL_le (bys_take hb n)
    have h3 : (sgsL (l.take n)).1.length ≤ (encL (sgsL (l.take n)).1).length := by
      generalize (sgsL (l.take n)).1 = q
      induction q with
      | nil => simp [encL]
      | cons x q ih =>
        have e : encL (x :: q) = encN x ++ encL q := by simp [encL]
        have := encN_len x
        rw [e, List.length_append, List.length_cons]
        omega
    rw [List.length_take] at h2
    omega
  repeat' split at h
  · obtain ⟨_, h2, _, _, h5, _⟩ := unt_cut _ l ns m (Nat.le_refl _) hb h; omega
  · cases h
  · simp only [Option.some.injEq, Prod.mk.injEq] at h
    have := lab_le hb
    have := hs (lab l)
    rw [← h.1, ← h.2]
    omega
  · obtain ⟨_, h2, _, _, h5, _⟩ := unt_cut _ l ns m (Nat.le_refl _) hb h; omega
  · cases h
  · simp only [Option.some.injEq, Prod.mk.injEq] at h
    have := tag_le l
    have := hs (tag l)
    rw [← h.1, ← h.2]
    omega
  · simp only [Option.some.injEq, Prod.mk.injEq] at h
    rw [← h.1, ← h.2]
    simp
  · cases h
theorem over_no {w0 w : World} {c : Nat} {s p : ByteArray} {a : Nat} {ns : List Nat} (h : RdS w0 w c s a ns) (ha : a ≤ s.size) (hs : s.size ≤ 900000) (hb : begB s a p = false) :
    Calls Tryd.prog 22 #[.pointer (some ⟨c, 0, none⟩), .string p] w fun e w' => e = .returned (.bool false) ∧ PutE w0 w c s a ns w' := by
  obtain ⟨v, hr, _⟩ := h.at_
  refine (over_any (p := p) hr ha (by omega)).mono fun e w' hh => ⟨by rw [hh.1, hb], ?_⟩
  have e : ovA s a p = a := by unfold ovA; rw [hb]; rfl
  have := hh.2
  rw [e] at this
  exact hid (h.mv hr this.out.1 this.out.2)
theorem over_yes {w0 w : World} {c : Nat} {s p : ByteArray} {a n : Nat} {ns : List Nat} (h : RdS w0 w c s a ns) (ha : a ≤ s.size) (hs : s.size ≤ 900000) (hb : begB s a p = true) (hn : p.size = n) :
    Calls Tryd.prog 22 #[.pointer (some ⟨c, 0, none⟩), .string p] w fun e w' => e = .returned (.bool true) ∧ PutE w0 w c s (a + n) ns w' := by
  obtain ⟨v, hr, _⟩ := h.at_
  refine (over_any (p := p) hr ha (by omega)).mono fun e w' hh => ⟨by rw [hh.1, hb], ?_⟩
  have e : ovA s a p = a + n := by unfold ovA; rw [hb, ← hn]; rfl
  have := hh.2
  rw [e] at this
  exact hid (h.mv hr this.out.1 this.out.2)
theorem beg_one {s p : ByteArray} {a x : Nat} (hp : bl p = [x]) (hx : x ≠ 0) : begB s a p = decide (((bl s).drop a).getD 0 0 = x) := by
  unfold begB
  rw [hp]
  cases (bl s).drop a with
  | nil => simp; omega
  | cons y t =>
    simp [List.isPrefixOf]
    rw [Bool.eq_iff_iff, beq_iff_eq, decide_eq_true_iff]
    exact eq_comm
theorem beg_two {s p : ByteArray} {a x y : Nat} (hp : bl p = [x, y]) (hy : y ≠ 0) : begB s a p = decide (((bl s).drop a).getD 0 0 = x ∧ ((bl s).drop a).getD 1 0 = y) := by
  unfold begB
  rw [hp]
  cases (bl s).drop a with
  | nil => simp; omega
  | cons z t =>
    cases t with
    | nil => simp [List.isPrefixOf]; omega
    | cons u t =>
      simp [List.isPrefixOf]
      rw [Bool.eq_iff_iff, Bool.and_eq_true, Bool.and_eq_true, beq_iff_eq, beq_iff_eq, decide_eq_true_iff, decide_eq_true_iff, @eq_comm _ x, @eq_comm _ y]
def KdE (w0 w : World) (c : Nat) (s : ByteArray) (a : Nat) (ns : List Nat) (e : Ending) (w' : World) : Prop := e = .returned (.int .i64 ((kdN ((bl s).drop a)).1 : Int)) ∧ PutE w0 w c s (a + (kdN ((bl s).drop a)).2) ns w'
set_option maxHeartbeats 4000000 in
theorem kind_any {w0 w : World} {c : Nat} {s : ByteArray} {a : Nat} {ns : List Nat} (h : RdS w0 w c s a ns) (ha : a ≤ s.size) (hs : s.size ≤ 900000) :
    Calls Tryd.prog 25 #[.pointer (some ⟨c, 0, none⟩)] w (KdE w0 w c s a ns) := by
  have HS0 : Hid (RdS w0 w c s a ns ∧ FrT Tr w0.heap.size w w) := hid ⟨h, FrT.refl _ _ _⟩
  have HNo : Hid (∀ p W, RdS w0 W c s a ns → begB s a p = false → Calls Tryd.prog 22 #[.pointer (some ⟨c, 0, none⟩), .string p] W fun e w' => e = .returned (.bool false) ∧ PutE w0 W c s a ns w') := hid fun p W h1 h2 => over_no h1 ha hs h2
  have HYs : Hid (∀ p n W, RdS w0 W c s a ns → begB s a p = true → p.size = n → Calls Tryd.prog 22 #[.pointer (some ⟨c, 0, none⟩), .string p] W fun e w' => e = .returned (.bool true) ∧ PutE w0 W c s (a + n) ns w') := hid fun p n W h1 h2 h3 => over_yes h1 ha hs h2 h3
  have HD : Hid (KdE w0 w c s a ns = fun e w' => e = .returned (.int .i64 ((kdN ((bl s).drop a)).1 : Int)) ∧ PutE w0 w c s (a + (kdN ((bl s).drop a)).2) ns w') := hid rfl
  have e1 := beg_one (s := s) (a := a) (p := { data := #[60] }) (x := 60) (by decide) (by decide)
  have e2 := beg_two (s := s) (a := a) (p := { data := #[95, 58] }) (x := 95) (y := 58) (by decide) (by decide)
  have e3 := beg_one (s := s) (a := a) (p := { data := #[34] }) (x := 34) (by decide) (by decide)
  have e4 := beg_one (s := s) (a := a) (p := { data := #[64] }) (x := 64) (by decide) (by decide)
  have e5 := beg_two (s := s) (a := a) (p := { data := #[94, 94] }) (x := 94) (y := 94) (by decide) (by decide)
  have e6 := beg_one (s := s) (a := a) (p := { data := #[46] }) (x := 46) (by decide) (by decide)
  have hkd : kdN ((bl s).drop a) = if ((bl s).drop a).getD 0 0 = 60 then (1, 1) else if ((bl s).drop a).getD 0 0 = 95 ∧ ((bl s).drop a).getD 1 0 = 58 then (2, 2) else if ((bl s).drop a).getD 0 0 = 34 then (3, 1) else if ((bl s).drop a).getD 0 0 = 64 then (4, 1) else if ((bl s).drop a).getD 0 0 = 94 ∧ ((bl s).drop a).getD 1 0 = 94 then (5, 2) else if ((bl s).drop a).getD 0 0 = 46 then (6, 1) else (0, 0) := rfl
  rw [HD.out]
  clear HD h ha hs
  generalize kdN ((bl s).drop a) = kk at *
  by_cases c1 : ((bl s).drop a).getD 0 0 = 60
  · skip
    rw [decide_eq_true c1] at e1
    rw [if_pos c1] at hkd
    subst hkd
    have HY := hid (fun W h1 => HYs.out { data := #[60] } 1 W h1 e1 rfl)
    have E1 := hid e1
    clear e1 e2 e3 e4 e5 e6 c1
    go_enter Tryd.func25, Tryd.ntmps25
    go_wp2_with (first
      | (go_at_call 22; refine (HY.out _ HS0.out.1).mono ?_; rintro e w1 ⟨rfl, HO⟩; have HF : PutE w0 w c s (a + 1) ns w1 := hid ⟨HO.out.1, HS0.out.2.trans HO.out.2⟩; clear HO))
    go_ret
    exact ⟨rfl, HF⟩
  · skip
    by_cases c2 : (((bl s).drop a).getD 0 0 = 95 ∧ ((bl s).drop a).getD 1 0 = 58)
    · skip
      rw [decide_eq_false c1] at e1
      rw [decide_eq_true c2] at e2
      rw [if_neg c1, if_pos c2] at hkd
      subst hkd
      have HY := hid (fun W h1 => HYs.out { data := #[95, 58] } 2 W h1 e2 rfl)
      have E1 := hid e1
      have E2 := hid e2
      clear e1 e2 e3 e4 e5 e6 c1 c2
      go_enter Tryd.func25, Tryd.ntmps25
      go_wp2_with (first
        | (go_at_call 22; refine (HNo.out _ _ HS0.out.1 E1.out).mono ?_; rintro e w1 ⟨rfl, HO⟩; have HS1 : Hid (RdS w0 w1 c s a ns ∧ FrT Tr w0.heap.size w w1) := hid ⟨HO.out.1, HS0.out.2.trans HO.out.2⟩; clear HO HS0)
        | (go_at_call 22; refine (HY.out _ HS1.out.1).mono ?_; rintro e w2 ⟨rfl, HO⟩; have HF : PutE w0 w c s (a + 2) ns w2 := hid ⟨HO.out.1, HS1.out.2.trans HO.out.2⟩; clear HO))
      go_ret
      exact ⟨rfl, HF⟩
    · skip
      by_cases c3 : ((bl s).drop a).getD 0 0 = 34
      · skip
        rw [decide_eq_false c1] at e1
        rw [decide_eq_false c2] at e2
        rw [decide_eq_true c3] at e3
        rw [if_neg c1, if_neg c2, if_pos c3] at hkd
        subst hkd
        have HY := hid (fun W h1 => HYs.out { data := #[34] } 1 W h1 e3 rfl)
        have E1 := hid e1
        have E2 := hid e2
        have E3 := hid e3
        clear e1 e2 e3 e4 e5 e6 c1 c2 c3
        go_enter Tryd.func25, Tryd.ntmps25
        go_wp2_with (first
          | (go_at_call 22; refine (HNo.out _ _ HS0.out.1 E1.out).mono ?_; rintro e w1 ⟨rfl, HO⟩; have HS1 : Hid (RdS w0 w1 c s a ns ∧ FrT Tr w0.heap.size w w1) := hid ⟨HO.out.1, HS0.out.2.trans HO.out.2⟩; clear HO HS0)
          | (go_at_call 22; refine (HNo.out _ _ HS1.out.1 E2.out).mono ?_; rintro e w2 ⟨rfl, HO⟩; have HS2 : Hid (RdS w0 w2 c s a ns ∧ FrT Tr w0.heap.size w w2) := hid ⟨HO.out.1, HS1.out.2.trans HO.out.2⟩; clear HO HS1)
          | (go_at_call 22; refine (HY.out _ HS2.out.1).mono ?_; rintro e w3 ⟨rfl, HO⟩; have HF : PutE w0 w c s (a + 1) ns w3 := hid ⟨HO.out.1, HS2.out.2.trans HO.out.2⟩; clear HO))
        go_ret
        exact ⟨rfl, HF⟩
      · skip
        by_cases c4 : ((bl s).drop a).getD 0 0 = 64
        · skip
          rw [decide_eq_false c1] at e1
          rw [decide_eq_false c2] at e2
          rw [decide_eq_false c3] at e3
          rw [decide_eq_true c4] at e4
          rw [if_neg c1, if_neg c2, if_neg c3, if_pos c4] at hkd
          subst hkd
          have HY := hid (fun W h1 => HYs.out { data := #[64] } 1 W h1 e4 rfl)
          have E1 := hid e1
          have E2 := hid e2
          have E3 := hid e3
          have E4 := hid e4
          clear e1 e2 e3 e4 e5 e6 c1 c2 c3 c4
          go_enter Tryd.func25, Tryd.ntmps25
          go_wp2_with (first
            | (go_at_call 22; refine (HNo.out _ _ HS0.out.1 E1.out).mono ?_; rintro e w1 ⟨rfl, HO⟩; have HS1 : Hid (RdS w0 w1 c s a ns ∧ FrT Tr w0.heap.size w w1) := hid ⟨HO.out.1, HS0.out.2.trans HO.out.2⟩; clear HO HS0)
            | (go_at_call 22; refine (HNo.out _ _ HS1.out.1 E2.out).mono ?_; rintro e w2 ⟨rfl, HO⟩; have HS2 : Hid (RdS w0 w2 c s a ns ∧ FrT Tr w0.heap.size w w2) := hid ⟨HO.out.1, HS1.out.2.trans HO.out.2⟩; clear HO HS1)
            | (go_at_call 22; refine (HNo.out _ _ HS2.out.1 E3.out).mono ?_; rintro e w3 ⟨rfl, HO⟩; have HS3 : Hid (RdS w0 w3 c s a ns ∧ FrT Tr w0.heap.size w w3) := hid ⟨HO.out.1, HS2.out.2.trans HO.out.2⟩; clear HO HS2)
            | (go_at_call 22; refine (HY.out _ HS3.out.1).mono ?_; rintro e w4 ⟨rfl, HO⟩; have HF : PutE w0 w c s (a + 1) ns w4 := hid ⟨HO.out.1, HS3.out.2.trans HO.out.2⟩; clear HO))
          go_ret
          exact ⟨rfl, HF⟩
        · skip
          by_cases c5 : (((bl s).drop a).getD 0 0 = 94 ∧ ((bl s).drop a).getD 1 0 = 94)
          · skip
            rw [decide_eq_false c1] at e1
            rw [decide_eq_false c2] at e2
            rw [decide_eq_false c3] at e3
            rw [decide_eq_false c4] at e4
            rw [decide_eq_true c5] at e5
            rw [if_neg c1, if_neg c2, if_neg c3, if_neg c4, if_pos c5] at hkd
            subst hkd
            have HY := hid (fun W h1 => HYs.out { data := #[94, 94] } 2 W h1 e5 rfl)
            have E1 := hid e1
            have E2 := hid e2
            have E3 := hid e3
            have E4 := hid e4
            have E5 := hid e5
            clear e1 e2 e3 e4 e5 e6 c1 c2 c3 c4 c5
            go_enter Tryd.func25, Tryd.ntmps25
            go_wp2_with (first
              | (go_at_call 22; refine (HNo.out _ _ HS0.out.1 E1.out).mono ?_; rintro e w1 ⟨rfl, HO⟩; have HS1 : Hid (RdS w0 w1 c s a ns ∧ FrT Tr w0.heap.size w w1) := hid ⟨HO.out.1, HS0.out.2.trans HO.out.2⟩; clear HO HS0)
              | (go_at_call 22; refine (HNo.out _ _ HS1.out.1 E2.out).mono ?_; rintro e w2 ⟨rfl, HO⟩; have HS2 : Hid (RdS w0 w2 c s a ns ∧ FrT Tr w0.heap.size w w2) := hid ⟨HO.out.1, HS1.out.2.trans HO.out.2⟩; clear HO HS1)
              | (go_at_call 22; refine (HNo.out _ _ HS2.out.1 E3.out).mono ?_; rintro e w3 ⟨rfl, HO⟩; have HS3 : Hid (RdS w0 w3 c s a ns ∧ FrT Tr w0.heap.size w w3) := hid ⟨HO.out.1, HS2.out.2.trans HO.out.2⟩; clear HO HS2)
              | (go_at_call 22; refine (HNo.out _ _ HS3.out.1 E4.out).mono ?_; rintro e w4 ⟨rfl, HO⟩; have HS4 : Hid (RdS w0 w4 c s a ns ∧ FrT Tr w0.heap.size w w4) := hid ⟨HO.out.1, HS3.out.2.trans HO.out.2⟩; clear HO HS3)
              | (go_at_call 22; refine (HY.out _ HS4.out.1).mono ?_; rintro e w5 ⟨rfl, HO⟩; have HF : PutE w0 w c s (a + 2) ns w5 := hid ⟨HO.out.1, HS4.out.2.trans HO.out.2⟩; clear HO))
            go_ret
            exact ⟨rfl, HF⟩
          · skip
            by_cases c6 : ((bl s).drop a).getD 0 0 = 46
            · skip
              rw [decide_eq_false c1] at e1
              rw [decide_eq_false c2] at e2
              rw [decide_eq_false c3] at e3
              rw [decide_eq_false c4] at e4
              rw [decide_eq_false c5] at e5
              rw [decide_eq_true c6] at e6
              rw [if_neg c1, if_neg c2, if_neg c3, if_neg c4, if_neg c5, if_pos c6] at hkd
              subst hkd
              have HY := hid (fun W h1 => HYs.out { data := #[46] } 1 W h1 e6 rfl)
              have E1 := hid e1
              have E2 := hid e2
              have E3 := hid e3
              have E4 := hid e4
              have E5 := hid e5
              have E6 := hid e6
              clear e1 e2 e3 e4 e5 e6 c1 c2 c3 c4 c5 c6
              go_enter Tryd.func25, Tryd.ntmps25
              go_wp2_with (first
                | (go_at_call 22; refine (HNo.out _ _ HS0.out.1 E1.out).mono ?_; rintro e w1 ⟨rfl, HO⟩; have HS1 : Hid (RdS w0 w1 c s a ns ∧ FrT Tr w0.heap.size w w1) := hid ⟨HO.out.1, HS0.out.2.trans HO.out.2⟩; clear HO HS0)
                | (go_at_call 22; refine (HNo.out _ _ HS1.out.1 E2.out).mono ?_; rintro e w2 ⟨rfl, HO⟩; have HS2 : Hid (RdS w0 w2 c s a ns ∧ FrT Tr w0.heap.size w w2) := hid ⟨HO.out.1, HS1.out.2.trans HO.out.2⟩; clear HO HS1)
                | (go_at_call 22; refine (HNo.out _ _ HS2.out.1 E3.out).mono ?_; rintro e w3 ⟨rfl, HO⟩; have HS3 : Hid (RdS w0 w3 c s a ns ∧ FrT Tr w0.heap.size w w3) := hid ⟨HO.out.1, HS2.out.2.trans HO.out.2⟩; clear HO HS2)
                | (go_at_call 22; refine (HNo.out _ _ HS3.out.1 E4.out).mono ?_; rintro e w4 ⟨rfl, HO⟩; have HS4 : Hid (RdS w0 w4 c s a ns ∧ FrT Tr w0.heap.size w w4) := hid ⟨HO.out.1, HS3.out.2.trans HO.out.2⟩; clear HO HS3)
                | (go_at_call 22; refine (HNo.out _ _ HS4.out.1 E5.out).mono ?_; rintro e w5 ⟨rfl, HO⟩; have HS5 : Hid (RdS w0 w5 c s a ns ∧ FrT Tr w0.heap.size w w5) := hid ⟨HO.out.1, HS4.out.2.trans HO.out.2⟩; clear HO HS4)
                | (go_at_call 22; refine (HY.out _ HS5.out.1).mono ?_; rintro e w6 ⟨rfl, HO⟩; have HF : PutE w0 w c s (a + 1) ns w6 := hid ⟨HO.out.1, HS5.out.2.trans HO.out.2⟩; clear HO))
              go_ret
              exact ⟨rfl, HF⟩
            · skip
              rw [decide_eq_false c1] at e1
              rw [decide_eq_false c2] at e2
              rw [decide_eq_false c3] at e3
              rw [decide_eq_false c4] at e4
              rw [decide_eq_false c5] at e5
              rw [decide_eq_false c6] at e6
              rw [if_neg c1, if_neg c2, if_neg c3, if_neg c4, if_neg c5, if_neg c6] at hkd
              subst hkd
              have E1 := hid e1
              have E2 := hid e2
              have E3 := hid e3
              have E4 := hid e4
              have E5 := hid e5
              have E6 := hid e6
              clear e1 e2 e3 e4 e5 e6 c1 c2 c3 c4 c5 c6
              go_enter Tryd.func25, Tryd.ntmps25
              go_wp2_with (first
                | (go_at_call 22; refine (HNo.out _ _ HS0.out.1 E1.out).mono ?_; rintro e w1 ⟨rfl, HO⟩; have HS1 : Hid (RdS w0 w1 c s a ns ∧ FrT Tr w0.heap.size w w1) := hid ⟨HO.out.1, HS0.out.2.trans HO.out.2⟩; clear HO HS0)
                | (go_at_call 22; refine (HNo.out _ _ HS1.out.1 E2.out).mono ?_; rintro e w2 ⟨rfl, HO⟩; have HS2 : Hid (RdS w0 w2 c s a ns ∧ FrT Tr w0.heap.size w w2) := hid ⟨HO.out.1, HS1.out.2.trans HO.out.2⟩; clear HO HS1)
                | (go_at_call 22; refine (HNo.out _ _ HS2.out.1 E3.out).mono ?_; rintro e w3 ⟨rfl, HO⟩; have HS3 : Hid (RdS w0 w3 c s a ns ∧ FrT Tr w0.heap.size w w3) := hid ⟨HO.out.1, HS2.out.2.trans HO.out.2⟩; clear HO HS2)
                | (go_at_call 22; refine (HNo.out _ _ HS3.out.1 E4.out).mono ?_; rintro e w4 ⟨rfl, HO⟩; have HS4 : Hid (RdS w0 w4 c s a ns ∧ FrT Tr w0.heap.size w w4) := hid ⟨HO.out.1, HS3.out.2.trans HO.out.2⟩; clear HO HS3)
                | (go_at_call 22; refine (HNo.out _ _ HS4.out.1 E5.out).mono ?_; rintro e w5 ⟨rfl, HO⟩; have HS5 : Hid (RdS w0 w5 c s a ns ∧ FrT Tr w0.heap.size w w5) := hid ⟨HO.out.1, HS4.out.2.trans HO.out.2⟩; clear HO HS4)
                | (go_at_call 22; refine (HNo.out _ _ HS5.out.1 E6.out).mono ?_; rintro e w6 ⟨rfl, HO⟩; have HS6 : Hid (RdS w0 w6 c s a ns ∧ FrT Tr w0.heap.size w w6) := hid ⟨HO.out.1, HS5.out.2.trans HO.out.2⟩; clear HO HS5))
              go_ret
              exact ⟨rfl, hid HS6.out⟩
theorem sgo1 (l : List Nat) : sgo 1 l = unt false l := rfl
theorem sgo3 (l : List Nat) : sgo 3 l = unt true l := rfl
theorem LngE.unt {w0 w : World} {c : Nat} {s : ByteArray} {a n : Nat} {ns : List Nat} {e : Ending} {w' : World} (h : LngE w0 w c s a n ns e w') : UntE w0 w c s a ns (if n = 0 then none else some ((sgsL (((bl s).drop a).take n)).1, n)) e w' := by
  unfold LngE at h
  by_cases h0 : n = 0
  · rw [if_pos h0]
    subst h0
    exact ⟨h.1, h.2.no⟩
  · rw [if_neg h0]
    rw [decide_eq_true (by omega : 0 < n)] at h
    exact h
def SoE (w0 w : World) (c : Nat) (s : ByteArray) (a k : Nat) (ns : List Nat) (e : Ending) (w' : World) : Prop := ∃ b, e = .returned (.bool b) ∧ Hid (UntE w0 w c s a ns (sgo k ((bl s).drop a)) (.returned (.bool b)) w')
theorem UntE.so {w0 w : World} {c : Nat} {s : ByteArray} {a : Nat} {ns : List Nat} {o : Option (List Nat × Nat)} {e : Ending} {w' : World} (h : UntE w0 w c s a ns o e w') : ∃ b, e = .returned (.bool b) ∧ UntE w0 w c s a ns o (.returned (.bool b)) w' := by
  cases o with
  | none => exact ⟨false, h.1, rfl, h.2⟩
  | some q => exact ⟨true, h.1, rfl, h.2⟩
set_option maxHeartbeats 4000000 in
theorem signsOf_any {w0 w : World} {c : Nat} {s : ByteArray} {a k : Nat} {ns : List Nat} (hT : Tb w0) (hE : XerrAt w0) (h : RdS w0 w c s a ns) (ha : a ≤ s.size) (hs : s.size ≤ 100000) (hv : Val ((bl s).drop a)) (hl : ns.length ≤ 100000) (hk : k ≤ 6) :
    Calls Tryd.prog 26 #[.pointer (some ⟨c, 0, none⟩), .int .i64 (k : Int)] w (SoE w0 w c s a k ns) := by
  have H1 : Hid (Calls Tryd.prog 35 #[.pointer (some ⟨c, 0, none⟩), .int .i64 62, .func (.func 36) #[] #[], .func (.func 37) #[] #[]] w (SoE w0 w c s a 1 ns)) := hid ((until_any such_raw xesc_iri hT hE h ha hs hv hl).mono fun e w' hh => hh.so)
  have H2 : Hid (Calls Tryd.prog 38 #[.pointer (some ⟨c, 0, none⟩), .func (.func 39) #[] #[]] w (SoE w0 w c s a 2 ns)) := hid ((longest_any lng_lab hT h ha hs hl).mono fun e w' hh => hh.unt.so)
  have H3 : Hid (Calls Tryd.prog 35 #[.pointer (some ⟨c, 0, none⟩), .int .i64 34, .func (.func 40) #[] #[], .func (.func 41) #[] #[]] w (SoE w0 w c s a 3 ns)) := hid ((until_any such_line xesc_lit hT hE h ha hs hv hl).mono fun e w' hh => hh.so)
  have H4 : Hid (Calls Tryd.prog 38 #[.pointer (some ⟨c, 0, none⟩), .func (.func 42) #[] #[]] w (SoE w0 w c s a 4 ns)) := hid ((longest_any lng_tag hT h ha hs hl).mono fun e w' hh => hh.unt.so)
  have H5 : Hid (∀ k, k = 5 ∨ k = 6 → SoE w0 w c s a k ns (.returned (.bool true)) w) := hid fun k hk => ⟨true, rfl, hid (by
    have e : sgo k ((bl s).drop a) = some ([], 0) := by rcases hk with rfl | rfl <;> rfl
    rw [e]
    exact ⟨rfl, hid ⟨by rw [List.append_nil]; exact h, FrT.refl _ _ _⟩⟩)⟩
  have H0 : Hid (SoE w0 w c s a 0 ns (.returned (.bool false)) w) := hid ⟨false, rfl, hid ⟨rfl, hid ⟨FrT.refl _ _ _, h.only⟩⟩⟩
  clear hT hE h ha hs hv hl
  have hk7 : k = 0 ∨ k = 1 ∨ k = 2 ∨ k = 3 ∨ k = 4 ∨ k = 5 ∨ k = 6 := by omega
  clear hk
  rcases hk7 with rfl | rfl | rfl | rfl | rfl | rfl | rfl
  · go_enter Tryd.func26, Tryd.ntmps26
    go_wp2_with fail
    go_ret
    exact H0.out
  · go_enter Tryd.func26, Tryd.ntmps26
    go_wp2_with (go_at_call 35; refine H1.out.mono ?_; rintro e w1 ⟨b, rfl, HF⟩)
    go_ret
    exact ⟨b, rfl, HF⟩
  · go_enter Tryd.func26, Tryd.ntmps26
    go_wp2_with (go_at_call 38; refine H2.out.mono ?_; rintro e w1 ⟨b, rfl, HF⟩)
    go_ret
    exact ⟨b, rfl, HF⟩
  · go_enter Tryd.func26, Tryd.ntmps26
    go_wp2_with (go_at_call 35; refine H3.out.mono ?_; rintro e w1 ⟨b, rfl, HF⟩)
    go_ret
    exact ⟨b, rfl, HF⟩
  · go_enter Tryd.func26, Tryd.ntmps26
    go_wp2_with (go_at_call 38; refine H4.out.mono ?_; rintro e w1 ⟨b, rfl, HF⟩)
    go_ret
    exact ⟨b, rfl, HF⟩
  · go_enter Tryd.func26, Tryd.ntmps26
    go_wp2_with fail
    go_ret
    exact H5.out _ (by omega)
  · go_enter Tryd.func26, Tryd.ntmps26
    go_wp2_with fail
    go_ret
    exact H5.out _ (by omega)
end Go.Proofs.YtbbclcllkpabkaaDoor.X
