/- A text's bytes; the sign at a place; a cursor: next, one, some, over whatever such is asked of signs. -/
import Derived.Test.YtbbclcllkpabkaaDoorUt2
import Derived.Test.YtbbclcllkpabkaaDoorShelf
import Derived.Shelf.Unicode.DecodeAny
namespace Go.Proofs.YtbbclcllkpabkaaDoor
open Go.RowKit Go.Lib U

/-- The bytes of a text. -/
def bl (s : ByteArray) : List Nat := s.data.toList.map UInt8.toNat
theorem bl_len (s : ByteArray) : (bl s).length = s.size := by simp [bl]
theorem bl_bys (s : ByteArray) : Bys (bl s) := fun x hx => by
  obtain ⟨y, _, rfl⟩ := List.mem_map.1 hx
  exact y.toNat_lt
theorem bl_get (s : ByteArray) (i : Nat) : (bl s).getD i 0 = (s.get! i).toNat := by
  unfold bl
  by_cases h : i < s.size
  · have h2 : i < s.data.size := h
    rw [Utf8W.get!_of_lt s i h]
    simp only [List.getD, List.getElem?_map, Array.getElem?_toList, Array.getElem?_eq_getElem h2, Option.map_some, Option.getD_some]
    rfl
  · have h2 : ¬ i < s.data.size := h
    have : s.get! i = 0 := by
      show s.data[i]! = 0
      rw [getElem!_neg s.data i h2]
      rfl
    rw [this]
    simp [List.getD, List.getElem?_eq_none (by simpa using h2 : (s.data.toList.map UInt8.toNat).length ≤ i)]
theorem bl_extract (s : ByteArray) (a b : Nat) : bl (s.extract a b) = ((bl s).take b).drop a := by
  unfold bl
  rw [Lib.extract_data, List.map_take, List.map_drop]
  rw [List.drop_take]
theorem bl_tail (s : ByteArray) (a : Nat) : bl (s.extract a s.size) = (bl s).drop a := by
  rw [bl_extract, List.take_of_length_le (by rw [bl_len]; exact Nat.le_refl _)]
theorem bl_head (s : ByteArray) (b : Nat) : bl (s.extract 0 b) = (bl s).take b := by
  rw [bl_extract, List.drop_zero]
theorem bl_append (s t : ByteArray) : bl (s ++ t) = bl s ++ bl t := by
  unfold bl
  rw [ByteArray.data_append, Array.toList_append, List.map_append]
theorem bl_inj {s t : ByteArray} (h : bl s = bl t) : s = t := by
  have : s.data.toList = t.data.toList := by
    unfold bl at h
    exact List.map_inj_right (fun a b h => UInt8.toNat_inj.1 h) |>.1 h
  cases s; cases t
  simp at this
  simp [this]
theorem decN_nxt (n b0 b1 b2 b3 : Nat) (hn : 0 < n) : decodeN n b0 b1 b2 b3 = if (nxtB n b0 b1 b2 b3).2 = 0 then (65533, 1) else nxtB n b0 b1 b2 b3 := by
  unfold decodeN nxtB sgn
  by_cases h0 : b0 < 128
  · simp only [h0, hn, if_true]; rfl
  · simp only [h0, if_false]
    by_cases h1 : b0 / 32 = 6 ∧ (1 < n ∧ b1 / 64 = 2)
    · rw [if_pos h1, if_pos h1]
      by_cases h2 : 128 ≤ b0 % 32 * 64 + b1 % 64
      · rw [if_pos h2, if_pos h2]; rfl
      · rw [if_neg h2, if_neg h2]; rfl
    · rw [if_neg h1, if_neg h1]
      by_cases h2 : b0 / 16 = 14 ∧ (1 < n ∧ b1 / 64 = 2) ∧ (2 < n ∧ b2 / 64 = 2)
      · rw [if_pos h2, if_pos h2]
        generalize b0 % 16 * 4096 + b1 % 64 * 64 + b2 % 64 = v
        by_cases h3 : 2048 ≤ v ∧ (v < 55296 ∨ (57343 < v ∧ v ≤ 1114111))
        · rw [if_pos h3, if_pos (by omega)]; rfl
        · rw [if_neg h3, if_neg (by omega)]; rfl
      · rw [if_neg h2, if_neg h2]
        by_cases h3 : b0 / 8 = 30 ∧ (1 < n ∧ b1 / 64 = 2) ∧ (2 < n ∧ b2 / 64 = 2) ∧ (3 < n ∧ b3 / 64 = 2)
        · rw [if_pos h3, if_pos h3]
          generalize b0 % 8 * 262144 + b1 % 64 * 4096 + b2 % 64 * 64 + b3 % 64 = v
          by_cases h4 : 65536 ≤ v ∧ (v < 55296 ∨ (57343 < v ∧ v ≤ 1114111))
          · rw [if_pos h4, if_pos (by omega)]; rfl
          · rw [if_neg h4, if_neg (by omega)]; rfl
        · rw [if_neg h3, if_neg h3]; rfl
theorem decodeGo_nxt (t : ByteArray) : Lib.decodeGo t = if (nxt (bl t)).2 = 0 then (65533, if t.size = 0 then 0 else 1) else nxt (bl t) := by
  unfold Lib.decodeGo
  by_cases h : t.size = 0
  · have e : bl t = [] := List.length_eq_zero_iff.1 (by rw [bl_len]; exact h)
    rw [if_pos h, e, nxt_nil]; simp [h]
  · rw [if_neg h, Lib.decode_at, decN_nxt _ _ _ _ _ (by omega), if_neg h]
    unfold nxt
    rw [bl_len, bl_get, bl_get, bl_get, bl_get, Nat.sub_zero]
/-- The library's two tables are as its text lays them. -/
abbrev Tb (w : World) : Prop := Lib.Utf8Tabs 0 1 w
theorem Tb.only {S : Nat → Prop} {w w' : World} (h : Tb w) (ho : Only S w w') (h1 : ¬ S 0) (h2 : ¬ S 1) : Tb w' := by
  refine ⟨fun c hc => ?_, fun i hi => ⟨?_, ?_⟩⟩
  · have := h.1 c hc
    rw [ho.cell (cell_lt this) h1, this]
  · have := (h.2 i hi).1
    rw [ho.cell (cell_lt this) h2, this]
  · have := (h.2 i hi).2
    rw [ho.cell (cell_lt this) h2, this]
theorem Tb.stu {w w' : World} (h : Tb w) (ho : StU w w') : Tb w' := h.only ho.out no_ no_
theorem nxt_num {l : List Nat} (hb : Bys l) (h : (nxt l).2 ≠ 0) : (nxt l).1 ≤ 1114111 ∧ (nxt l).2 ≤ 4 ∧ ((nxt l).1 = 65533 → (nxt l).2 = 3) := by
  obtain ⟨h1, h2, _⟩ := nxt_of hb h
  have h3 := encN_len (nxt l).1
  unfold sgn at h1
  exact ⟨by omega, by omega, fun e => by rw [h2, e]; rfl⟩
set_option maxHeartbeats 1000000 in
theorem signAt_any {s : ByteArray} {a : Nat} {w : World} (hT : Tb w) (ha : a ≤ s.size) :
    Calls Tryd.prog 28 #[.string s, .int .i64 (a : Int)] w fun e w' => e = .returned (.tuple #[.int .i64 (((nxt ((bl s).drop a)).1 : Nat) : Int), .int .i64 (((nxt ((bl s).drop a)).2 : Nat) : Int)]) ∧ StU w w' := by
  have HD : Hid (Calls Tryd.prog 44 #[.string (s.extract a s.size)] w fun e w' => e = .returned (.tuple #[.int .i32 (((Lib.decodeGo (s.extract a s.size)).1 : Nat) : Int), .int .i64 (((Lib.decodeGo (s.extract a s.size)).2 : Nat) : Int)]) ∧ StU w w') := hid ((Tryd.utf8_DecodeRuneInString _ w hT).mono fun _ _ h => ⟨h.1, hid (Only.of_below h.2 _)⟩)
  have HL : Hid (∀ W, Calls Tryd.prog 45 #[.int .i32 65533] W fun e w' => e = .returned (.int .i64 3) ∧ W = w') := hid fun W => (Tryd.utf8_RuneLen 65533 W).mono fun _ _ h => ⟨by rw [h.1]; rfl, h.2.symm⟩
  have hd := decodeGo_nxt (s.extract a s.size)
  rw [bl_tail] at hd
  have hn := nxt_num (bys_drop (bl_bys s) a)
  have hz := nxt_zero (l := (bl s).drop a)
  generalize nxt ((bl s).drop a) = p at *
  obtain ⟨n, k⟩ := p
  simp only at *
  by_cases hk : k = 0
  · subst hk
    have h0 : n = 0 := by have := hz rfl; simpa using this
    subst h0
    rw [if_pos rfl] at hd
    rw [hd] at HD
    have hj : ((if (s.extract a s.size).size = 0 then 0 else 1 : Nat) : Int) < 3 := by split <;> decide
    simp only at HD
    generalize (if (s.extract a s.size).size = 0 then 0 else 1 : Nat) = j at *
    clear hd hz hn
    go_enter Tryd.func28, Tryd.ntmps28
    go_wp2_with (first
      | (go_at_call 44; refine HD.out.mono ?_; rintro e w1 ⟨rfl, HO⟩)
      | (go_at_call 45; refine (HL.out _).mono ?_; rintro e w2 ⟨rfl, rfl⟩))
    go_ret2
    exact ⟨rfl, HO⟩
  · rw [if_neg hk] at hd
    rw [hd] at HD
    obtain ⟨h1, h2, h3⟩ := hn hk
    simp only at HD
    have hw : IntKind.i64.wrap (n : Int) = (n : Int) := by rw [IntKind.wrap_i64]; omega
    clear hd hz hn
    by_cases hf : n = 65533
    · subst hf
      obtain rfl := h3 rfl
      go_enter Tryd.func28, Tryd.ntmps28
      go_wp2_with (first
        | (go_at_call 44; refine HD.out.mono ?_; rintro e w1 ⟨rfl, HO⟩)
        | (go_at_call 45; refine (HL.out _).mono ?_; rintro e w2 ⟨rfl, rfl⟩))
      go_ret2
      exact ⟨rfl, HO⟩
    · have hf' : ((n : Int) == 65533) = false := by rw [beq_eq_false_iff_ne]; omega
      clear h3
      go_enter Tryd.func28, Tryd.ntmps28
      go_wp2_with (first
        | (go_at_call 44; refine HD.out.mono ?_; rintro e w1 ⟨rfl, HO⟩))
      go_ret2
      exact ⟨rfl, HO⟩
/-- A cursor: its text, its place. -/
def cuF (s : ByteArray) (a : Nat) (i : Nat) : Value := if i = 0 then .string s else .int .i64 (a : Int)
abbrev CuS (w : World) (c : Nat) (s : ByteArray) (a : Nat) : Prop := w.rowIs c 52 2 (cuF s a)
theorem CuS.ne {w : World} {c : Nat} {s : ByteArray} {a : Nat} (h : CuS w c s a) (hT : Tb w) : ¬ 0 = c ∧ ¬ 1 = c := by
  have h0 := World.rowIs.cell h (i := 0) (by omega)
  have h1 := hT.1 0 (by omega)
  have h2 := (hT.2 0 (by omega)).1
  constructor
  · rintro rfl
    rw [h0] at h1
    cases h1
  · rintro rfl
    rw [h0] at h2
    cases h2
/-- What is asked of signs: it answers so, and changes nothing. -/
structure Such (g : FuncId) (p : Int → Bool) : Prop where
  enters : ∀ args w, (callFunc g args).run Tryd.prog w = .ok (.enter g args) w
  says : ∀ z W, Calls Tryd.prog g #[.int .i64 z] W fun e w' => e = .returned (.bool (p z)) ∧ StU W w'
def NoE (w : World) (e : Ending) (w' : World) : Prop := e = .returned (.tuple #[.int .i64 0, .bool false]) ∧ StU w w'
def YesE (w : World) (c : Nat) (s : ByteArray) (a : Nat) (n : Nat) (e : Ending) (w' : World) : Prop := e = .returned (.tuple #[.int .i64 (n : Int), .bool true]) ∧ Hid (CuS w' c s a ∧ Only (fun k => k = c) w w')
set_option maxHeartbeats 1000000 in
theorem next_no {g : FuncId} {p : Int → Bool} {c : Nat} {s : ByteArray} {a : Nat} {w : World} (hg : Such g p) (hc : CuS w c s a) (hT : Tb w) (ha : a ≤ s.size)
    (h : (nxt ((bl s).drop a)).2 = 0 ∨ p ((nxt ((bl s).drop a)).1 : Int) = false) :
    Calls Tryd.prog 18 #[.pointer (some ⟨c, 0, none⟩), .func (.func g) #[] #[]] w (NoE w) := by
  have HA : Hid (∀ W, StU w W → Calls Tryd.prog 28 #[.string s, .int .i64 (a : Int)] W fun e w' => e = .returned (.tuple #[.int .i64 (((nxt ((bl s).drop a)).1 : Nat) : Int), .int .i64 (((nxt ((bl s).drop a)).2 : Nat) : Int)]) ∧ StU w w') := hid fun W hW => (signAt_any (hT.stu hW) ha).mono fun _ _ h => ⟨h.1, hid (hW.out.trans h.2.out)⟩
  have d0 := World.rowIs.cell hc (i := 0) (by omega)
  have d1 := World.rowIs.cell hc (i := 1) (by omega)
  simp only [cuF, if_true, if_neg (show ¬ (1 : Nat) = 0 by omega)] at d0 d1
  have hlt := hc.lt
  have HC : Hid (∀ W, StU w W → W.cell? ⟨c, 0, none⟩ = some (.string s) ∧ W.cell? ⟨c, 1, none⟩ = some (.int .i64 (a : Int))) := hid fun W hW => ⟨(hW.out.cell (p := ⟨c, 0, none⟩) hlt no_).trans d0, (hW.out.cell (p := ⟨c, 1, none⟩) hlt no_).trans d1⟩
  have eg := hg.enters
  have HS := hid hg.says
  have hz := nxt_zero (l := (bl s).drop a)
  generalize nxt ((bl s).drop a) = q at *
  obtain ⟨n, k⟩ := q
  simp only at *
  clear hc hT hg ha
  by_cases hk : k = 0
  · subst hk
    have h0 : n = 0 := by have := hz rfl; simpa using this
    subst h0
    clear h hz HS
    go_enter Tryd.func18, Tryd.ntmps18
    go_wp2_with fail
    go_region_held3 (fun u => u.cell? ⟨c, 0, none⟩ = some (.string s) ∧ u.cell? ⟨c, 1, none⟩ = some (.int .i64 (a : Int)) ∧ StU w u)
      (first | with_reducible assumption | exact ⟨d0, d1, hid (Only.refl _ _)⟩ | exact ⟨d0, d1, hid (Only.refl _ _).drew⟩ | exact ⟨(HC.out _ HO).1, (HC.out _ HO).2, HO⟩)
      (first
        | (go_at_call 28; (refine (HA.out _ ?_).mono ?_); (first | exact hid (Only.refl _ _).drew | exact hid (Only.refl _ _)); rintro e w1 ⟨rfl, HO⟩))
    go_wp2_with fail
    go_ret2
    exact ⟨rfl, HO⟩
  · have hp : p (n : Int) = false := h.resolve_left hk
    have HSn : Hid (∀ W, Calls Tryd.prog g #[.int .i64 (n : Int)] W fun e w' => e = .returned (.bool false) ∧ StU W w') := hid fun W => by
      have := HS.out (n : Int) W
      rwa [hp] at this
    have hk' : ((k : Int) == 0) = false := by rw [beq_eq_false_iff_ne]; omega
    clear h hz HS hp
    go_enter Tryd.func18, Tryd.ntmps18
    go_wp2_with fail
    go_region_held3 (fun u => u.cell? ⟨c, 0, none⟩ = some (.string s) ∧ u.cell? ⟨c, 1, none⟩ = some (.int .i64 (a : Int)) ∧ StU w u)
      (first | with_reducible assumption | exact ⟨d0, d1, hid (Only.refl _ _)⟩ | exact ⟨d0, d1, hid (Only.refl _ _).drew⟩ | exact ⟨(HC.out _ HO).1, (HC.out _ HO).2, HO⟩)
      (first
        | (go_at_call 28; (refine (HA.out _ ?_).mono ?_); (first | exact hid (Only.refl _ _).drew | exact hid (Only.refl _ _)); rintro e w1 ⟨rfl, HO⟩))
    go_wp2_with (go_at_fn g; refine (HSn.out _).mono ?_; rintro e w2 ⟨rfl, HO2⟩)
    go_ret2
    exact ⟨rfl, hid (HO.out.trans HO2.out)⟩
set_option maxHeartbeats 1000000 in
theorem next_yes {g : FuncId} {p : Int → Bool} {c : Nat} {s : ByteArray} {a : Nat} {w : World} (hg : Such g p) (hc : CuS w c s a) (hT : Tb w) (ha : a ≤ s.size) (hs : s.size ≤ 140737488355328)
    (hk : (nxt ((bl s).drop a)).2 ≠ 0) (hp : p ((nxt ((bl s).drop a)).1 : Int) = true) :
    Calls Tryd.prog 18 #[.pointer (some ⟨c, 0, none⟩), .func (.func g) #[] #[]] w (YesE w c s (a + (nxt ((bl s).drop a)).2) (nxt ((bl s).drop a)).1) := by
  have HA : Hid (∀ W, StU w W → Calls Tryd.prog 28 #[.string s, .int .i64 (a : Int)] W fun e w' => e = .returned (.tuple #[.int .i64 (((nxt ((bl s).drop a)).1 : Nat) : Int), .int .i64 (((nxt ((bl s).drop a)).2 : Nat) : Int)]) ∧ StU w w') := hid fun W hW => (signAt_any (hT.stu hW) ha).mono fun _ _ h => ⟨h.1, hid (hW.out.trans h.2.out)⟩
  have d0 := World.rowIs.cell hc (i := 0) (by omega)
  have d1 := World.rowIs.cell hc (i := 1) (by omega)
  simp only [cuF, if_true, if_neg (show ¬ (1 : Nat) = 0 by omega)] at d0 d1
  have hlt := hc.lt
  have HC : Hid (∀ W, StU w W → W.cell? ⟨c, 0, none⟩ = some (.string s) ∧ W.cell? ⟨c, 1, none⟩ = some (.int .i64 (a : Int))) := hid fun W hW => ⟨(hW.out.cell (p := ⟨c, 0, none⟩) hlt no_).trans d0, (hW.out.cell (p := ⟨c, 1, none⟩) hlt no_).trans d1⟩
  have HCu : Hid (∀ W, StU w W → CuS W c s a) := hid fun W hW => hW.out.row hc no_
  have hle := nxt_le (bys_drop (bl_bys s) a)
  rw [List.length_drop, bl_len] at hle
  have eg := hg.enters
  have HSn : Hid (∀ W, Calls Tryd.prog g #[.int .i64 ((nxt ((bl s).drop a)).1 : Int)] W fun e w' => e = .returned (.bool true) ∧ StU W w') := hid fun W => by
    have := hg.says ((nxt ((bl s).drop a)).1 : Int) W
    rwa [hp] at this
  generalize nxt ((bl s).drop a) = q at *
  obtain ⟨n, k⟩ := q
  simp only at *
  have hk' : ((k : Int) == 0) = false := by rw [beq_eq_false_iff_ne]; omega
  have hak : IntKind.i64.wrap ((a : Int) + (k : Int)) = ((a + k : Nat) : Int) := by rw [IntKind.wrap_i64]; omega
  have HN : Hid (∀ W, StU w W → CuS (W.setCell ⟨c, 1, none⟩ (.int .i64 ((a + k : Nat) : Int))) c s (a + k) ∧ Only (fun j => j = c) w (W.setCell ⟨c, 1, none⟩ (.int .i64 ((a + k : Nat) : Int)))) := hid fun W hW => by
    refine ⟨?_, (hW.out.mono (S' := fun j => j = c) fun _ _ h => h.elim).setCell (p := ⟨c, 1, none⟩) (.inl rfl) _⟩
    have h1 := (HCu.out W hW).set 1 (.int .i64 ((a + k : Nat) : Int))
    refine h1.congr fun j hj => ?_
    by_cases e : j = 1
    · subst e; simp [cuF]
    · have : j = 0 := by omega
      subst this; simp [cuF]
  clear hc hT hg ha hp hk hle hs
  go_enter Tryd.func18, Tryd.ntmps18
  go_wp2_with fail
  go_region_held3 (fun u => u.cell? ⟨c, 0, none⟩ = some (.string s) ∧ u.cell? ⟨c, 1, none⟩ = some (.int .i64 (a : Int)) ∧ StU w u)
    (first | with_reducible assumption | exact ⟨d0, d1, hid (Only.refl _ _)⟩ | exact ⟨d0, d1, hid (Only.refl _ _).drew⟩ | exact ⟨(HC.out _ HO).1, (HC.out _ HO).2, HO⟩)
    (first
      | (go_at_call 28; (refine (HA.out _ ?_).mono ?_); (first | exact hid (Only.refl _ _).drew | exact hid (Only.refl _ _)); rintro e w1 ⟨rfl, HO⟩))
  go_wp2_with (go_at_fn g; refine (HSn.out _).mono ?_; rintro e w2 ⟨rfl, HO2⟩; have HO3 := hid (HO.out.trans HO2.out); have e1 := (HC.out _ HO3).2; have f1 := (HCu.out _ HO3).frozen 1; have l2 := (HCu.out _ HO3).lt; have HF := hid (HN.out _ HO3); clear HO HO2 HO3)
  go_ret2
  exact ⟨rfl, HF⟩
theorem one_no {g : FuncId} {p : Int → Bool} {c : Nat} {s : ByteArray} {a : Nat} {w : World} (hg : Such g p) (hc : CuS w c s a) (hT : Tb w) (ha : a ≤ s.size)
    (h : (nxt ((bl s).drop a)).2 = 0 ∨ p ((nxt ((bl s).drop a)).1 : Int) = false) :
    Calls Tryd.prog 62 #[.pointer (some ⟨c, 0, none⟩), .func (.func g) #[] #[]] w fun e w' => e = .returned (.bool false) ∧ StU w w' := by
  have HN := hid (next_no hg hc hT ha h)
  clear hg hc hT ha h
  go_enter Tryd.func62, Tryd.ntmps62
  go_wp2_with (go_at_call 18; refine HN.out.mono ?_; rintro e w1 ⟨rfl, HO⟩)
  go_ret
  exact ⟨rfl, HO⟩
def YesO (w : World) (c : Nat) (s : ByteArray) (a : Nat) (e : Ending) (w' : World) : Prop := e = .returned (.bool true) ∧ Hid (CuS w' c s a ∧ Only (fun k => k = c) w w')
theorem one_yes {g : FuncId} {p : Int → Bool} {c : Nat} {s : ByteArray} {a : Nat} {w : World} (hg : Such g p) (hc : CuS w c s a) (hT : Tb w) (ha : a ≤ s.size) (hs : s.size ≤ 140737488355328)
    (hk : (nxt ((bl s).drop a)).2 ≠ 0) (hp : p ((nxt ((bl s).drop a)).1 : Int) = true) :
    Calls Tryd.prog 62 #[.pointer (some ⟨c, 0, none⟩), .func (.func g) #[] #[]] w (YesO w c s (a + (nxt ((bl s).drop a)).2)) := by
  have HN := hid (next_yes hg hc hT ha hs hk hp)
  generalize nxt ((bl s).drop a) = q at *
  clear hg hc hT ha hk hp
  go_enter Tryd.func62, Tryd.ntmps62
  go_wp2_with (go_at_call 18; refine HN.out.mono ?_; rintro e w1 ⟨rfl, HO⟩)
  go_ret
  exact ⟨rfl, HO⟩
def cellA (w : World) (c : Nat) : Nat := match w.cell? ⟨c, 1, none⟩ with | some (.int _ z) => z.toNat | _ => 0
theorem CuS.cellA {w : World} {c : Nat} {s : ByteArray} {a : Nat} (h : CuS w c s a) : cellA w c = a := by
  have := World.rowIs.cell h (i := 1) (by omega)
  unfold YtbbclcllkpabkaaDoor.cellA
  rw [this]
  simp [cuF]
def SomeE (w : World) (c : Nat) (s : ByteArray) (a n : Nat) (e : Ending) (w' : World) : Prop := e = .returned (.bool (decide (0 < n))) ∧ Hid (CuS w' c s (a + n) ∧ Only (fun k => k = c) w w')
set_option maxHeartbeats 1000000 in
theorem some_any {g : FuncId} {p : Int → Bool} {c : Nat} {s : ByteArray} {a : Nat} {w : World} (hg : Such g p) (hc : CuS w c s a) (hT : Tb w) (ha : a ≤ s.size) (hs : s.size ≤ 140737488355328) :
    Calls Tryd.prog 64 #[.pointer (some ⟨c, 0, none⟩), .func (.func g) #[] #[]] w (SomeE w c s a (runS p ((bl s).drop a))) := by
  have hne := hc.ne hT
  have HG := hid hg
  have HT : Hid (∀ W, Only (fun k => k = c) w W → Tb W) := hid fun W hW => hT.only hW hne.1 hne.2
  have HI : Hid (CuS w c s a ∧ Only (fun k => k = c) w w) := hid ⟨hc, Only.refl _ _⟩
  have d1 := World.rowIs.cell hc (i := 1) (by omega)
  simp only [cuF, if_neg (show ¬ (1 : Nat) = 0 by omega)] at d1
  clear hc hT hg hne
  go_enter Tryd.func64, Tryd.ntmps64
  go_wp2_with fail
  go_loopw [12] (fun _ wr => ∃ b : Nat, a ≤ b ∧ b ≤ s.size ∧ Hid (CuS wr c s b ∧ Only (fun k => k = c) w wr) ∧ Hid (runS p ((bl s).drop a) = (b - a) + runS p ((bl s).drop b))) (fun _ wr => s.size - cellA wr c)
  case atStart => exact ⟨a, by omega, ha, HI, hid (by omega)⟩
  case round =>
    obtain ⟨b, hab, hb, HB, HR⟩ := hrel
    by_cases h : (nxt ((bl s).drop b)).2 ≠ 0 ∧ p ((nxt ((bl s).drop b)).1 : Int) = true
    · have HO := hid (one_yes HG.out HB.out.1 (HT.out _ HB.out.2) hb hs h.1 h.2)
      have hle := nxt_le (bys_drop (bl_bys s) b)
      rw [List.length_drop, bl_len] at hle
      have hst := runS_step h.1 h.2
      rw [List.drop_drop] at hst
      have hk := h.1
      generalize nxt ((bl s).drop b) = q at *
      obtain ⟨n, k⟩ := q
      simp only at *
      have HR2 : Hid (runS p ((bl s).drop a) = (b + k - a) + runS p ((bl s).drop (b + k))) := hid (by have := HR.out; omega)
      clear h hst HR HI d1
      have Hcell : Hid (cellA wr c = b) := hid HB.out.1.cellA
      go_wp2_with (go_at_call 62; refine HO.out.mono ?_; rintro e w1 ⟨rfl, HB1⟩)
      have HB2 : Hid (CuS w1 c s (b + k) ∧ Only (fun k => k = c) w w1) := hid ⟨HB1.out.1, HB.out.2.trans HB1.out.2⟩
      have Hcell2 : Hid (cellA w1 c = b + k) := hid HB1.out.1.cellA
      go_roundw
      case rel => exact ⟨b + k, by omega, by omega, HB2, HR2⟩
      case measure => rw [Hcell.out, Hcell2.out]; omega
    · have h' : (nxt ((bl s).drop b)).2 = 0 ∨ p ((nxt ((bl s).drop b)).1 : Int) = false := by
        by_cases h1 : (nxt ((bl s).drop b)).2 = 0
        · exact .inl h1
        · right
          cases hc : p ((nxt ((bl s).drop b)).1 : Int) with
          | false => rfl
          | true => exact absurd ⟨h1, hc⟩ h
      have HO := hid (one_no HG.out HB.out.1 (HT.out _ HB.out.2) hb h')
      have HR2 : Hid (b = a + runS p ((bl s).drop a)) := hid (by have h1 := HR.out; have h2 := runS_stop h'; omega)
      clear h h' HI d1
      go_wp2_with (go_at_call 62; refine HO.out.mono ?_; rintro e w1 ⟨rfl, HS1⟩; have d1 := World.rowIs.cell (HS1.out.row HB.out.1 no_) (i := 1) (by omega); simp only [cuF, if_neg (show ¬ (1 : Nat) = 0 by omega)] at d1)
      by_cases hlt : a < b
      · have hlt' : (a : Int) < (b : Int) := by omega
        go_wp2_with fail
        go_ret
        refine ⟨?_, ?_⟩
        · have e : decide (0 < runS p ((bl s).drop a)) = true := decide_eq_true (by have := HR2.out; omega)
          rw [e]; show Ending.returned (Value.bool (decide (a < b))) = _; rw [decide_eq_true hlt]
        · have h2 := HS1.out.row HB.out.1 no_
          rw [HR2.out] at h2
          exact hid ⟨h2, HB.out.2.trans (HS1.out.mono fun _ _ h => h.elim)⟩
      · have hlt' : ¬ (a : Int) < (b : Int) := by omega
        go_wp2_with fail
        go_ret
        refine ⟨?_, ?_⟩
        · have e : decide (0 < runS p ((bl s).drop a)) = false := decide_eq_false (by have := HR2.out; omega)
          rw [e]; rfl
        · have h2 := HS1.out.row HB.out.1 no_
          rw [HR2.out] at h2
          exact hid ⟨h2, HB.out.2.trans (HS1.out.mono fun _ _ h => h.elim)⟩
end Go.Proofs.YtbbclcllkpabkaaDoor
