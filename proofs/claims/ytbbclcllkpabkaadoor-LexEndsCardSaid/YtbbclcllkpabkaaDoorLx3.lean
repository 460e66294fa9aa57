/- A reader of a line: its memory, and its small calls. -/
import Derived.Test.YtbbclcllkpabkaaDoorLx2
import Derived.Test.YtbbclcllkpabkaaDoorUtG
namespace Go.Proofs.YtbbclcllkpabkaaDoor.X
open Go.RowKit Go.Lib U G

/-- What a reader's calls may change. -/
abbrev Tr : TypeId → Prop := fun t => t = 47 ∨ t = 3
def rdF (s : ByteArray) (a : Nat) (v : Value) (i : Nat) : Value := if i = 0 then .string s else if i = 1 then .int .i64 (a : Int) else v
abbrev RwS (w : World) (c : Nat) (s : ByteArray) (a : Nat) (v : Value) : Prop := w.rowIs c 47 3 (rdF s a v)
theorem RwS.cells {w : World} {c : Nat} {s : ByteArray} {a : Nat} {v : Value} (h : RwS w c s a v) : w.cell? ⟨c, 0, none⟩ = some (.string s) ∧ w.cell? ⟨c, 1, none⟩ = some (.int .i64 (a : Int)) ∧ w.cell? ⟨c, 2, none⟩ = some v :=
  ⟨World.rowIs.cell h (i := 0) (by omega), World.rowIs.cell h (i := 1) (by omega), World.rowIs.cell h (i := 2) (by omega)⟩
theorem RwS.at_ {w : World} {c : Nat} {s : ByteArray} {a : Nat} {v : Value} (h : RwS w c s a v) (b : Nat) : RwS (w.setCell ⟨c, 1, none⟩ (.int .i64 (b : Int))) c s b v := by
  refine (World.rowIs.set h 1 (.int .i64 (b : Int))).congr fun j hj => ?_
  by_cases e : j = 1
  · subst e; simp [rdF]
  · by_cases e0 : j = 0
    · subst e0; simp [rdF]
    · have : j = 2 := by omega
      subst this; simp [rdF]
theorem RwS.put {w : World} {c : Nat} {s : ByteArray} {a : Nat} {v : Value} (h : RwS w c s a v) (u : Value) : RwS (w.setCell ⟨c, 2, none⟩ u) c s a u := by
  refine (World.rowIs.set h 2 u).congr fun j hj => ?_
  by_cases e : j = 2
  · subst e; simp [rdF]
  · by_cases e0 : j = 0
    · subst e0; simp [rdF]
    · have : j = 1 := by omega
      subst this; simp [rdF]
theorem rest_any {w : World} {c : Nat} {s : ByteArray} {a : Nat} {v : Value} (h : RwS w c s a v) (ha : a ≤ s.size) :
    Calls Tryd.prog 23 #[.pointer (some ⟨c, 0, none⟩)] w fun e w' => e = .returned (.string (s.extract a s.size)) ∧ StU w w' := by
  obtain ⟨d0, d1, _⟩ := h.cells
  have h0 : (0 : Int) ≤ (a : Int) := by omega
  have h1 : (a : Int) ≤ (s.size : Int) := by omega
  clear h ha
  go_enter Tryd.func23, Tryd.ntmps23
  go_wp2_with fail
  go_quiet (fail)
  go_wp2_with fail
  go_ret
  exact ⟨rfl, hid ((Only.refl _ w).drewN _)⟩
/-- Whether a text begins with a piece. -/
theorem hasPrefix_bl (s p : ByteArray) : Lib.hasPrefix s.data.toList p.data.toList = (bl p).isPrefixOf (bl s) := by
  rw [Bool.eq_iff_iff]
  unfold Lib.hasPrefix
  rw [List.isPrefixOf_iff_prefix, List.isPrefixOf_iff_prefix]
  unfold bl
  constructor
  · rintro ⟨t, ht⟩
    exact ⟨t.map UInt8.toNat, by rw [← ht, List.map_append]⟩
  · rintro ⟨t, ht⟩
    obtain ⟨m1, m2, e1, e2, _⟩ := List.map_eq_append_iff.1 ht.symm
    have : m1 = p.data.toList := List.map_inj_right (fun _ _ e => UInt8.toNat_inj.1 e) |>.1 e2
    exact ⟨m2, by rw [e1, this]⟩
def begB (s : ByteArray) (a : Nat) (p : ByteArray) : Bool := (bl p).isPrefixOf ((bl s).drop a)
theorem begins_any {w : World} {c : Nat} {s p : ByteArray} {a : Nat} {v : Value} (h : RwS w c s a v) (ha : a ≤ s.size) :
    Calls Tryd.prog 24 #[.pointer (some ⟨c, 0, none⟩), .string p] w fun e w' => e = .returned (.bool (begB s a p)) ∧ StU w w' := by
  have HR := hid (rest_any h ha)
  have HP : Hid (∀ W, Calls Tryd.prog 34 #[.string (s.extract a s.size), .string p] W fun e w' => e = .returned (.bool (begB s a p)) ∧ w' = W) := hid fun W => by
    have := Tryd.strings_HasPrefix (s.extract a s.size) p W
    rw [hasPrefix_bl, bl_tail] at this
    exact this
  clear h ha
  go_enter Tryd.func24, Tryd.ntmps24
  go_wp2_with (first
    | (go_at_call 23; refine HR.out.mono ?_; rintro e w1 ⟨rfl, HO⟩)
    | (go_at_call 34; refine (HP.out _).mono ?_; rintro e w2 ⟨rfl, rfl⟩))
  go_ret
  exact ⟨rfl, HO⟩
/-- A reader's place moved. -/
abbrev MvS (w : World) (c : Nat) (s : ByteArray) (a : Nat) (v : Value) (w' : World) : Prop := Hid (RwS w' c s a v ∧ Only (fun k => k = c) w w')
def ovA (s : ByteArray) (a : Nat) (p : ByteArray) : Nat := if begB s a p = true then a + p.size else a
theorem beg_le {s p : ByteArray} {a : Nat} (ha : a ≤ s.size) (h : begB s a p = true) : a + p.size ≤ s.size := by
  obtain ⟨t, ht⟩ := List.isPrefixOf_iff_prefix.1 h
  have := congrArg List.length ht
  rw [List.length_append, List.length_drop, bl_len, bl_len] at this
  omega
theorem ovA_le {s p : ByteArray} {a : Nat} (ha : a ≤ s.size) : a ≤ ovA s a p ∧ ovA s a p ≤ s.size := by
  unfold ovA
  split
  · have := beg_le ha ‹_›; omega
  · omega
theorem over_any {w : World} {c : Nat} {s p : ByteArray} {a : Nat} {v : Value} (h : RwS w c s a v) (ha : a ≤ s.size) (hs : s.size ≤ 140737488355328) :
    Calls Tryd.prog 22 #[.pointer (some ⟨c, 0, none⟩), .string p] w fun e w' => e = .returned (.bool (begB s a p)) ∧ MvS w c s (ovA s a p) v w' := by
  have HB := hid (begins_any (p := p) h ha)
  cases hb : begB s a p with
  | false =>
    have e : ovA s a p = a := by unfold ovA; rw [hb]; rfl
    rw [hb] at HB
    rw [e]
    have HM : Hid (∀ W, StU w W → MvS w c s a v W) := hid fun W hW => hid ⟨hW.out.row h no_, hW.out.mono fun _ _ h => h.elim⟩
    clear h ha hb e
    go_enter Tryd.func22, Tryd.ntmps22
    go_wp2_with (go_at_call 24; refine HB.out.mono ?_; rintro e w1 ⟨rfl, HO⟩)
    go_ret
    exact ⟨rfl, HM.out _ HO⟩
  | true =>
    have e : ovA s a p = a + p.size := by unfold ovA; rw [hb]; rfl
    have hle := beg_le ha hb
    rw [hb] at HB
    rw [e]
    have hw : IntKind.i64.wrap ((a : Int) + (p.size : Int)) = ((a + p.size : Nat) : Int) := by rw [IntKind.wrap_i64]; omega
    have HM : Hid (∀ W, StU w W → W.cell? ⟨c, 1, none⟩ = some (.int .i64 (a : Int)) ∧ c < W.heap.size ∧ W.frozen? ⟨c, 1, none⟩ = false ∧ MvS w c s (a + p.size) v (W.setCell ⟨c, 1, none⟩ (.int .i64 ((a + p.size : Nat) : Int)))) := hid fun W hW => by
      have hr : RwS W c s a v := hW.out.row h no_
      exact ⟨hr.cells.2.1, hr.lt, hr.frozen 1, hid ⟨hr.at_ _, (hW.out.mono (S' := fun k => k = c) fun _ _ h => h.elim).setCell (.inl rfl) _⟩⟩
    clear h ha hb e hle hs
    go_enter Tryd.func22, Tryd.ntmps22
    go_wp2_with (go_at_call 24; refine HB.out.mono ?_; rintro e w1 ⟨rfl, HO⟩; obtain ⟨e1, l1, f1, HF⟩ := HM.out _ HO)
    go_ret
    exact ⟨rfl, HF⟩
theorem next_end {w : World} {c : Nat} {s : ByteArray} {v : Value} (hT : Tb w) (h : RwS w c s s.size v) (hs : s.size ≤ 140737488355328) :
    Calls Tryd.prog 57 #[.pointer (some ⟨c, 0, none⟩)] w fun e w' => e = .returned (.tuple #[.int .i64 65533, .bool false]) ∧ MvS w c s s.size v w' := by
  have HR := hid (rest_any h (Nat.le_refl _))
  have hx : s.extract s.size s.size = ByteArray.empty := bl_inj (by rw [bl_tail, List.drop_eq_nil_of_le (by rw [bl_len]; exact Nat.le_refl _)]; rfl)
  rw [hx] at HR
  have HD : Hid (∀ W, StU w W → Calls Tryd.prog 44 #[.string ByteArray.empty] W fun e w' => e = .returned (.tuple #[.int .i32 65533, .int .i64 0]) ∧ StU w w') := hid fun W hW => (Tryd.utf8_DecodeRuneInString ByteArray.empty W (hT.stu hW)).mono fun _ _ h => ⟨h.1, hid (hW.out.trans (Only.of_below h.2 _))⟩
  have hw : IntKind.i64.wrap (s.size : Int) = ((s.size : Nat) : Int) := by rw [IntKind.wrap_i64]; omega
  have HM : Hid (∀ W, StU w W → W.cell? ⟨c, 1, none⟩ = some (.int .i64 (s.size : Int)) ∧ c < W.heap.size ∧ W.frozen? ⟨c, 1, none⟩ = false ∧ MvS w c s s.size v (W.setCell ⟨c, 1, none⟩ (.int .i64 ((s.size : Nat) : Int)))) := hid fun W hW => by
    have hr : RwS W c s s.size v := hW.out.row h no_
    exact ⟨hr.cells.2.1, hr.lt, hr.frozen 1, hid ⟨hr.at_ _, (hW.out.mono (S' := fun k => k = c) fun _ _ h => h.elim).setCell (.inl rfl) _⟩⟩
  clear h hs hT hx
  generalize s.size = n at *
  go_enter Tryd.func57, Tryd.ntmps57
  go_wp2_with (first
    | (go_at_call 23; refine HR.out.mono ?_; rintro e w1 ⟨rfl, HO⟩)
    | (go_at_call 44; refine (HD.out _ HO).mono ?_; rintro e w2 ⟨rfl, HO2⟩; obtain ⟨e1, l1, f1, HF⟩ := HM.out _ HO2))
  go_ret2
  exact ⟨rfl, HF⟩
theorem next_more {w : World} {c : Nat} {s : ByteArray} {a : Nat} {v : Value} (hT : Tb w) (h : RwS w c s a v) (ha : a ≤ s.size) (hs : s.size ≤ 140737488355328) (hk : (nxt ((bl s).drop a)).2 ≠ 0) :
    Calls Tryd.prog 57 #[.pointer (some ⟨c, 0, none⟩)] w fun e w' => e = .returned (.tuple #[.int .i64 ((nxt ((bl s).drop a)).1 : Int), .bool true]) ∧ MvS w c s (a + (nxt ((bl s).drop a)).2) v w' := by
  have HR := hid (rest_any h ha)
  have hd := decodeGo_nxt (s.extract a s.size)
  rw [bl_tail, if_neg hk] at hd
  have HD : Hid (∀ W, StU w W → Calls Tryd.prog 44 #[.string (s.extract a s.size)] W fun e w' => e = .returned (.tuple #[.int .i32 ((nxt ((bl s).drop a)).1 : Int), .int .i64 ((nxt ((bl s).drop a)).2 : Int)]) ∧ StU w w') := hid fun W hW => (Tryd.utf8_DecodeRuneInString (s.extract a s.size) W (hT.stu hW)).mono fun _ _ h => ⟨by rw [h.1, hd], hid (hW.out.trans (Only.of_below h.2 _))⟩
  have hle := nxt_le (bys_drop (bl_bys s) a)
  rw [List.length_drop, bl_len] at hle
  have hof := nxt_of (bys_drop (bl_bys s) a) hk
  generalize nxt ((bl s).drop a) = q at *
  obtain ⟨n, k⟩ := q
  simp only at *
  have hn : n ≤ 1114111 := by have := hof.1; unfold sgn at this; omega
  have hw32 : IntKind.i64.wrap (n : Int) = (n : Int) := by rw [IntKind.wrap_i64]; omega
  have hw : IntKind.i64.wrap ((a : Int) + (k : Int)) = ((a + k : Nat) : Int) := by rw [IntKind.wrap_i64]; omega
  have hk' : decide (0 < k) = true := decide_eq_true (by omega)
  have HM : Hid (∀ W, StU w W → W.cell? ⟨c, 1, none⟩ = some (.int .i64 (a : Int)) ∧ c < W.heap.size ∧ W.frozen? ⟨c, 1, none⟩ = false ∧ MvS w c s (a + k) v (W.setCell ⟨c, 1, none⟩ (.int .i64 ((a + k : Nat) : Int)))) := hid fun W hW => by
    have hr : RwS W c s a v := hW.out.row h no_
    exact ⟨hr.cells.2.1, hr.lt, hr.frozen 1, hid ⟨hr.at_ _, (hW.out.mono (S' := fun k => k = c) fun _ _ h => h.elim).setCell (.inl rfl) _⟩⟩
  clear h hs hT hd hof hle hk hn ha
  go_enter Tryd.func57, Tryd.ntmps57
  go_wp2_with (first
    | (go_at_call 23; refine HR.out.mono ?_; rintro e w1 ⟨rfl, HO⟩)
    | (go_at_call 44; refine (HD.out _ HO).mono ?_; rintro e w2 ⟨rfl, HO2⟩; obtain ⟨e1, l1, f1, HF⟩ := HM.out _ HO2))
  go_ret2
  exact ⟨rfl, HF⟩
theorem take_any {w : World} {c : Nat} {s : ByteArray} {a n : Nat} {v : Value} (h : RwS w c s a v) (ha : a ≤ s.size) (hs : s.size ≤ 140737488355328) :
    Calls Tryd.prog 61 #[.pointer (some ⟨c, 0, none⟩), .int .i64 (n : Int)] w fun e w' => ∃ x : ByteArray, e = .returned (.string x) ∧ Hid (bl x = ((bl s).drop a).take n ∧ RwS w' c s (a + x.size) v ∧ Only (fun k => k = c) w w') := by
  have HR := hid (rest_any h ha)
  have hl : (s.extract a s.size).size = s.size - a := by rw [← bl_len, bl_tail, List.length_drop, bl_len]
  have HM : Hid (∀ W, StU w W → ∀ (x : ByteArray), W.cell? ⟨c, 1, none⟩ = some (.int .i64 (a : Int)) ∧ c < W.heap.size ∧ W.frozen? ⟨c, 1, none⟩ = false ∧ RwS (W.setCell ⟨c, 1, none⟩ (.int .i64 ((a + x.size : Nat) : Int))) c s (a + x.size) v ∧ Only (fun k => k = c) w (W.setCell ⟨c, 1, none⟩ (.int .i64 ((a + x.size : Nat) : Int)))) := hid fun W hW x => by
    have hr : RwS W c s a v := hW.out.row h no_
    exact ⟨hr.cells.2.1, hr.lt, hr.frozen 1, hr.at_ _, (hW.out.mono (S' := fun k => k = c) fun _ _ h => h.elim).setCell (.inl rfl) _⟩
  have hb := bl_tail s a
  generalize s.extract a s.size = t at *
  by_cases hn : n < t.size
  · have hn' : (n : Int) < (t.size : Int) := by omega
    have hn0 : (0 : Int) ≤ (n : Int) := by omega
    have hn1 : (n : Int) ≤ (t.size : Int) := by omega
    have hbx : bl (t.extract 0 n) = ((bl s).drop a).take n := by rw [bl_head, hb]
    have hxs : (t.extract 0 n).size = n := by rw [← bl_len, bl_head, List.length_take, bl_len]; omega
    have hw : IntKind.i64.wrap ((a : Int) + ((min n t.size : Nat) : Int)) = ((a + n : Nat) : Int) := by rw [IntKind.wrap_i64]; omega
    have HB := hid hbx
    have HX := hid hxs
    clear hbx hxs h hs hl hb ha
    go_enter Tryd.func61, Tryd.ntmps61
    go_wp2_with (go_at_call 23; refine HR.out.mono ?_; rintro e w1 ⟨rfl, HO⟩; obtain ⟨e1, l1, f1, HF1, HF2⟩ := HM.out _ HO (t.extract 0 n); have HF := hid (And.intro HF1 HF2); clear HF1 HF2)
    go_ret
    refine ⟨_, rfl, hid ⟨HB.out, ?_⟩⟩
    have := HF.out
    rw [HX.out] at this ⊢
    exact this
  · have hn' : ¬ (n : Int) < (t.size : Int) := by omega
    have hbx : bl t = ((bl s).drop a).take n := by rw [hb, List.take_of_length_le (by rw [List.length_drop, bl_len]; omega)]
    have hw : IntKind.i64.wrap ((a : Int) + (t.size : Int)) = ((a + t.size : Nat) : Int) := by rw [IntKind.wrap_i64]; omega
    have HB := hid hbx
    clear hbx h hs hl hb ha
    go_enter Tryd.func61, Tryd.ntmps61
    go_wp2_with (go_at_call 23; refine HR.out.mono ?_; rintro e w1 ⟨rfl, HO⟩; obtain ⟨e1, l1, f1, HF1, HF2⟩ := HM.out _ HO t; have HF := hid (And.intro HF1 HF2); clear HF1 HF2)
    go_ret
    exact ⟨_, rfl, hid ⟨HB.out, HF.out⟩⟩
/-- A reader, in a block of the call's own, with the signs of a token so far. -/
structure RdS (w0 w : World) (c : Nat) (s : ByteArray) (a : Nat) (ns : List Nat) : Prop where
  ge : w0.heap.size ≤ c
  at_ : ∃ v, RwS w c s a v ∧ OwG 3 w0 w v (ivs ns)
  only : Only (fun _ => False) w0 w
theorem frx_only {T : TypeId → Prop} {w0 w w' : World} (h : Only (fun _ => False) w0 w) (o : FrT T w0.heap.size w w') : Only (fun _ => False) w0 w' :=
  ⟨o.os.trans h.os, o.tape.trans h.tape, o.output.trans h.output, Nat.le_trans h.size o.size, fun i hi _ => (o.block i (Nat.lt_of_lt_of_le hi h.size) (fun hk => by have := hk.1; omega)).trans (h.block i hi no_)⟩
/-- Where only the reader's own block changed. -/
theorem RdS.mv {w0 w w' : World} {c : Nat} {s : ByteArray} {a b : Nat} {ns : List Nat} {v : Value} (h : RdS w0 w c s a ns) (hv : RwS w c s a v) (o : RwS w' c s b v) (k : Only (fun j => j = c) w w') : RdS w0 w' c s b ns ∧ FrT Tr w0.heap.size w w' := by
  obtain ⟨u, h1, h2⟩ := h.at_
  have hf : FrT Tr w0.heap.size w w' := k.mono fun j _ hj => by
    subst hj
    exact ⟨h.ge, TyAt.of_row hv (.inl rfl)⟩
  have e : u = v := by
    have e1 := h1.cells.2.2
    rw [hv.cells.2.2] at e1
    injection e1 with e1
    exact e1.symm
  subst e
  exact ⟨⟨h.ge, ⟨u, o, h2.fr k fun j hj _ => ty_ne h1 (by decide) j hj⟩, frx_only h.only hf⟩, hf⟩
theorem RdS.same {w0 w w' : World} {c : Nat} {s : ByteArray} {a : Nat} {ns : List Nat} (h : RdS w0 w c s a ns) (o : StU w w') : RdS w0 w' c s a ns := by
  obtain ⟨u, h1, h2⟩ := h.at_
  exact ⟨h.ge, ⟨u, o.out.row h1 no_, h2.same o.out⟩, h.only.trans o.out⟩
end Go.Proofs.YtbbclcllkpabkaaDoor.X
