/- The document's Parse; TermReads. -/
import Derived.Test.YtefcnaccemefnaaGreatDoorQR
namespace Go.Proofs.YtefcnaccemefnaaGreatDoor
open Go.RowKit U G

/-! What the document means a text to be. -/
def endK (s : ByteArray) : Int := endL ((bl s).drop 1) 1
def rlitT (x r : ByteArray) : Tm :=
  if 1 < r.size ∧ (bl r).getD 0 0 = 64 then ⟨3, x, r.extract 1 r.size, ByteArray.empty⟩
  else if (4 ≤ r.size ∧ r.extract 0 3 = { data := #[94, 94, 60] }) ∧ (bl r).getD (r.size - 1) 0 = 62 then ⟨4, x, ByteArray.empty, strB (bkL (bl (r.extract 3 (r.size - 1))))⟩
  else ⟨3, x, ByteArray.empty, ByteArray.empty⟩
def rmeantT (s : ByteArray) : Tm :=
  if (2 ≤ s.size ∧ (bl s).getD 0 0 = 60) ∧ (bl s).getD (s.size - 1) 0 = 62 then ⟨1, strB (bkL (bl (s.extract 1 (s.size - 1)))), ByteArray.empty, ByteArray.empty⟩
  else if (2 ≤ s.size ∧ (bl s).getD 0 0 = 95) ∧ (bl s).getD 1 0 = 58 then ⟨2, s.extract 2 s.size, ByteArray.empty, ByteArray.empty⟩
  else if (2 ≤ s.size ∧ (bl s).getD 0 0 = 34) ∧ 0 < endK s then rlitT (strB (bkL (bl (s.extract 1 (endK s).toNat)))) (s.extract ((endK s).toNat + 1) s.size)
  else zeroT
theorem hexR_le (c : Nat) : hexR c ≤ 15 := by unfold hexR; (repeat' split) <;> omega
theorem getD_bys {l : List Nat} (h : Bys l) (i : Nat) : l.getD i 0 < 256 := by
  rw [List.getD_eq_getElem?_getD]
  cases e : l[i]? with
  | none => decide
  | some x => exact h x (List.mem_of_getElem? e)
theorem bkL_bys : ∀ (n : Nat) (l : List Nat), l.length ≤ n → Bys l → Bys (bkL l)
  | _, [], _, _ => by rw [bkL_nil]; intro x hx; cases hx
  | 0, c :: r, h, _ => by simp at h
  | n + 1, c :: r, h, hb => by
    have hp : 0 < (bkS (c :: r)).2 := bkF_pos _ _ _ _ _
    rw [bkL_step (by simp)]
    intro x hx
    rcases List.mem_cons.1 hx with rfl | hx
    · have h0 := getD_bys hb 0
      have h1 := getD_bys hb 1
      have h4 := hexR_le ((c :: r).getD 4 0)
      have h5 := hexR_le ((c :: r).getD 5 0)
      unfold bkS bkF
      repeat' split
      all_goals (simp only; omega)
    · exact bkL_bys n _ (by rw [List.length_drop]; rw [List.length_cons] at h ⊢; omega) (fun y hy => hb y (List.mem_of_mem_drop hy)) x hx
theorem bk_iri {z y : ByteArray} (h : bl z = iriB (bl y)) : strB (bkL (bl z)) = y := by rw [h, bkL_iri, strB_bl]
theorem getD_lastN {l : List Nat} {c : Nat} : (l ++ [c]).getD ((l ++ [c]).length - 1) 0 = c := by
  rw [List.length_append, List.length_singleton, Nat.add_sub_cancel]
  have := getD_app l [c] 0
  rw [Nat.add_zero] at this
  rw [this]
  rfl
theorem rlit_of {t : Tm} (hr : rightT t = true) {r : ByteArray} (h : (t.k = 3 ∧ bl r = if t.g = ByteArray.empty then [] else 64 :: bl t.g) ∨ (t.k = 4 ∧ bl r = 94 :: 94 :: 60 :: (iriB (bl t.y) ++ [62]))) : rlitT t.x r = t := by
  have hsz : r.size = (bl r).length := (bl_len r).symm
  rcases h with ⟨k, e⟩ | ⟨k, e⟩
  · have hz := (right_lit k hr).1
    have hy : t.y = ByteArray.empty := congrArg Tm.y hz
    by_cases hg : t.g = ByteArray.empty
    · rw [if_pos hg] at e
      rw [e] at hsz
      unfold rlitT
      rw [if_neg (by rw [hsz]; simp), if_neg (by rw [hsz]; simp)]
      exact Tm.eq_iff.2 ⟨k.symm, rfl, hg.symm, hy.symm⟩
    · rw [if_neg hg] at e
      have hgl : 0 < (bl t.g).length := by
        rw [bl_len]
        have : t.g.size ≠ 0 := fun h => hg ((emp_size _).2 h)
        omega
      rw [e, List.length_cons] at hsz
      unfold rlitT
      rw [if_pos ⟨by omega, by rw [e]; rfl⟩]
      refine Tm.eq_iff.2 ⟨k.symm, rfl, bl_inj ?_, hy.symm⟩
      rw [bl_tail, e]
      rfl
  · obtain ⟨r1, _, _⟩ := right_typ k hr
    have hg : t.g = ByteArray.empty := congrArg Tm.g r1
    rw [e] at hsz
    simp only [List.length_cons, List.length_append, List.length_nil] at hsz
    unfold rlitT
    have h3 : bl (r.extract 0 3) = [94, 94, 60] := by rw [bl_head, e]; rfl
    rw [if_neg (by rintro ⟨_, h⟩; rw [e] at h; simp at h), if_pos ⟨⟨by omega, bl_inj h3⟩, by
      have e2 : bl r = (94 :: 94 :: 60 :: iriB (bl t.y)) ++ [62] := by rw [e]; simp
      rw [← bl_len, e2]
      exact getD_lastN⟩]
    refine Tm.eq_iff.2 ⟨k.symm, rfl, hg.symm, bk_iri ?_⟩
    rw [bl_extract, e, hsz]
    show List.drop 3 (List.take ((iriB (bl t.y)).length + (0 + 1) + 1 + 1 + 1 - 1) (94 :: 94 :: 60 :: (iriB (bl t.y) ++ [62]))) = _
    rw [show (iriB (bl t.y)).length + (0 + 1) + 1 + 1 + 1 - 1 = (iriB (bl t.y)).length + 3 by omega]
    show List.take (iriB (bl t.y)).length (iriB (bl t.y) ++ [62]) = _
    rw [List.take_left]
theorem rmeant_of {s : ByteArray} {t : Tm} (hr : rightT t = true) (h : textL t = bl s) : rmeantT s = t := by
  have hsz : s.size = (bl s).length := (bl_len s).symm
  have lit : ∀ beh, bl s = 34 :: (litB (bl t.x) ++ 34 :: beh) → ((t.k = 3 ∧ beh = if t.g = ByteArray.empty then [] else 64 :: bl t.g) ∨ (t.k = 4 ∧ beh = 94 :: 94 :: 60 :: (iriB (bl t.y) ++ [62]))) → rmeantT s = t := by
    intro beh e hb
    have hl : s.size = (litB (bl t.x)).length + 2 + beh.length := by rw [hsz, e]; simp only [List.length_cons, List.length_append]; omega
    have hk : endK s = 1 + ((litB (bl t.x)).length : Int) := by
      unfold endK
      rw [e]
      exact endL_lit beh (bl t.x) 1
    have hkn : (endK s).toNat = (litB (bl t.x)).length + 1 := by rw [hk]; omega
    unfold rmeantT
    rw [if_neg (by rintro ⟨⟨_, h⟩, _⟩; rw [e] at h; simp at h), if_neg (by rintro ⟨⟨_, h⟩, _⟩; rw [e] at h; simp at h), if_pos ⟨⟨by omega, by rw [e]; rfl⟩, by omega⟩, hkn]
    have hx : strB (bkL (bl (s.extract 1 ((litB (bl t.x)).length + 1)))) = t.x := by
      rw [bl_extract, e]
      show strB (bkL (List.take (litB (bl t.x)).length (litB (bl t.x) ++ 34 :: beh))) = _
      rw [List.take_left, bkL_lit, strB_bl]
    rw [hx]
    refine rlit_of hr ?_
    have hbe : bl (s.extract ((litB (bl t.x)).length + 1 + 1) s.size) = beh := by
      rw [bl_tail, e]
      show List.drop ((litB (bl t.x)).length + 1) (litB (bl t.x) ++ 34 :: beh) = _
      rw [show litB (bl t.x) ++ 34 :: beh = (litB (bl t.x) ++ [34]) ++ beh by simp, show (litB (bl t.x)).length + 1 = (litB (bl t.x) ++ [34]).length by simp, List.drop_left]
    rw [hbe]
    exact hb
  rcases right_kind hr with k | k | k | k
  · have e : bl s = 60 :: (iriB (bl t.x) ++ [62]) := by rw [← h, text_k1 k]
    have hl : s.size = (iriB (bl t.x)).length + 2 := by rw [hsz, e]; simp
    unfold rmeantT
    rw [if_pos ⟨⟨by omega, by rw [e]; rfl⟩, by
      have e2 : bl s = (60 :: iriB (bl t.x)) ++ [62] := by rw [e]; simp
      rw [← bl_len, e2]
      exact getD_lastN⟩, (right_iri k hr).1]
    show (⟨1, _, ByteArray.empty, ByteArray.empty⟩ : Tm) = iriT t.x
    have : strB (bkL (bl (s.extract 1 (s.size - 1)))) = t.x := bk_iri (by
      rw [bl_extract, e, hl]
      show List.drop 1 (List.take ((iriB (bl t.x)).length + 1) (60 :: (iriB (bl t.x) ++ [62]))) = _
      show List.take (iriB (bl t.x)).length (iriB (bl t.x) ++ [62]) = _
      rw [List.take_left])
    rw [this]
    rfl
  · have e : bl s = 95 :: 58 :: bl t.x := by rw [← h, text_k2 k]
    unfold rmeantT
    rw [if_neg (by rintro ⟨⟨_, h⟩, _⟩; rw [e] at h; simp at h), if_pos ⟨⟨by rw [hsz, e]; simp, by rw [e]; rfl⟩, by rw [e]; rfl⟩, (right_blank k hr).1]
    show (⟨2, _, ByteArray.empty, ByteArray.empty⟩ : Tm) = blankT t.x
    have : s.extract 2 s.size = t.x := bl_inj (by rw [bl_tail, e]; rfl)
    rw [this]
    rfl
  · exact lit _ (by rw [← h, text_k3 k]) (.inl ⟨k, rfl⟩)
  · exact lit _ (by rw [← h, text_k4 k]) (.inr ⟨k, rfl⟩)

/-! The walk. -/
structure PaS (w W : World) (g g2 : Nat) (m : Tm) : Prop where
  r1 : Res w W g
  r2 : W.rowIs g2 27 4 (tmF m)
  ge2 : w.heap.size ≤ g2
  ne : g ≠ g2
theorem PaS.more {w W W' : World} {g g2 : Nat} {m : Tm} (h : PaS w W g g2 m) (o : StU W W') : PaS w W' g g2 m := ⟨h.r1.more o.out, o.out.row h.r2 no_, h.ge2, h.ne⟩
theorem PaS.one {w W : World} {g g2 : Nat} {m m' : Tm} (h : PaS w W g g2 m) (i : Nat) (v : Value) (e : ∀ j, j < 4 → (if j = i then v else tmF m j) = tmF m' j) : PaS w (W.setCell ⟨g2, i, none⟩ v) g g2 m' :=
  ⟨⟨h.r1.row.setOther h.ne v, h.r1.ge, h.r1.only.setCell (p := ⟨g2, i, none⟩) (.inr h.ge2) v⟩, (h.r2.set i v).congr e, h.ge2, h.ne⟩
theorem j4 {P : Nat → Prop} (h0 : P 0) (h1 : P 1) (h2 : P 2) (h3 : P 3) : ∀ j, j < 4 → P j := fun j hj => by
  match j, hj with
  | 0, _ => exact h0
  | 1, _ => exact h1
  | 2, _ => exact h2
  | 3, _ => exact h3
  | j + 4, hj => exact absurd hj (by omega)
theorem PaS.kind {w W : World} {g g2 : Nat} {m : Tm} (h : PaS w W g g2 m) (k : Int) : PaS w (W.setCell ⟨g2, 0, none⟩ (.int .i64 k)) g g2 { m with k := k } := h.one 0 _ (j4 rfl rfl rfl rfl)
theorem PaS.text {w W : World} {g g2 : Nat} {m : Tm} (h : PaS w W g g2 m) (v : ByteArray) : PaS w (W.setCell ⟨g2, 1, none⟩ (.string v)) g g2 { m with x := v } := h.one 1 _ (j4 rfl rfl rfl rfl)
theorem PaS.lang {w W : World} {g g2 : Nat} {m : Tm} (h : PaS w W g g2 m) (v : ByteArray) : PaS w (W.setCell ⟨g2, 2, none⟩ (.string v)) g g2 { m with g := v } := h.one 2 _ (j4 rfl rfl rfl rfl)
theorem PaS.type {w W : World} {g g2 : Nat} {m : Tm} (h : PaS w W g g2 m) (v : ByteArray) : PaS w (W.setCell ⟨g2, 3, none⟩ (.string v)) g g2 { m with y := v } := h.one 3 _ (j4 rfl rfl rfl rfl)
theorem PaS.put {w W : World} {g g2 : Nat} {m : Tm} (h : PaS w W g g2 m) (m' : Tm) : PaS w ((((W.setCell ⟨g2, 0, none⟩ (.int .i64 m'.k)).setCell ⟨g2, 1, none⟩ (.string m'.x)).setCell ⟨g2, 2, none⟩ (.string m'.g)).setCell ⟨g2, 3, none⟩ (.string m'.y)) g g2 m' :=
  (((h.kind m'.k).text m'.x).lang m'.g).type m'.y
theorem pa_start (w : World) : ∃ w1 g g2, w1 = (w.alloc zeroObj).alloc zeroObj ∧ g = w.heap.size ∧ g2 = g + 1 ∧ Hid (PaS w w1 g g2 zeroT) := by
  have h1 := Res.new w
  have h2 : Res w ((w.alloc zeroObj).alloc zeroObj) w.heap.size := h1.more ((Only.refl _ _).alloc _)
  have h3 := tm_new (w.alloc zeroObj) zeroT
  have e : (w.alloc zeroObj).heap.size = w.heap.size + 1 := by show (w.heap.push _).size = _; rw [Array.size_push]
  rw [e] at h3
  exact ⟨_, _, _, rfl, rfl, rfl, hid ⟨h2, h3, by omega, by omega⟩⟩
def endP (s : ByteArray) (m : Tm) : Tm × Int := if rightT m = true ∧ textL m = bl s then (m, 0) else (zeroT, 10)
theorem endP_no {s : ByteArray} {m : Tm} (h : ¬ (rightT m = true ∧ textL m = bl s)) : endP s m = (zeroT, 10) := by unfold endP; rw [if_neg h]
theorem endP_yes {s : ByteArray} {m : Tm} (hr : rightT m = true) (h : strB (textL m) = s) : endP s m = (m, 0) := by
  unfold endP
  rw [if_pos ⟨hr, by rw [← h, bl_strB (textL_bys m)]⟩]
theorem pa_after {w WN W2 : World} {g g2 : Nat} {m : Tm} (h : PaS w WN g g2 m) (o : StU WN W2) : TmS WN g2 m W2 ∧ Hid (Res w W2 g) := ⟨tmS_of h.r2 o, hid (h.r1.more o.out)⟩
abbrev RP (s : ByteArray) (w : World) (m : Tm) : Prop := Calls Tryz.prog 20 #[.string s] w fun e w' => e = .returned (.tuple #[tmV (endP s m).1, .int .i64 (endP s m).2]) ∧ StU w w'
set_option maxRecDepth 100000 in
set_option maxHeartbeats 4000000 in
theorem pa_iri {s : ByteArray} {w : World} (hs : s.size ≤ 4096) (hn : 2 ≤ s.size) (h0 : (bl s).getD 0 0 = 60) (hl : (bl s).getD (s.size - 1) 0 = 62) : RP s w ⟨1, strB (bkL (bl (s.extract 1 (s.size - 1)))), ByteArray.empty, ByteArray.empty⟩ := by
  obtain ⟨w1, g, g2, hw1, hg, hg2, HP0⟩ := pa_start w
  have hl' : ¬ (4096 : Int) < (s.size : Int) := by omega
  have k0 : (2 : Int) ≤ (s.size : Int) := by omega
  have y0 : (0 : Int) < (s.size : Int) := by omega
  have y1 : (1 : Int) < (s.size : Int) := by omega
  have hs0 : 0 < s.size := by omega
  have hs1 : 1 < s.size := by omega
  have hsl : s.size - 1 < s.size := by omega
  have kw : IntKind.i64.wrap ((s.size : Int) - 1) = (s.size : Int) - 1 := by rw [IntKind.wrap_i64]; omega
  have kt : ((s.size : Int) - 1).toNat = s.size - 1 := by omega
  have kn : (0 : Int) ≤ (s.size : Int) - 1 := by omega
  have km : (s.size : Int) - 1 < (s.size : Int) := by omega
  have ke : (s.size : Int) - 1 ≤ (s.size : Int) := by omega
  have kf : (1 : Int) ≤ (s.size : Int) - 1 := by omega
  have x0e := bl_at hs0
  have x1e := bl_at hs1
  have xle := bl_at hsl
  obtain ⟨x0, hx0⟩ : ∃ x, s[0]'hs0 = x := ⟨_, rfl⟩
  obtain ⟨x1, hx1⟩ : ∃ x, s[1]'hs1 = x := ⟨_, rfl⟩
  obtain ⟨xl, hxl⟩ : ∃ x, s[s.size - 1]'hsl = x := ⟨_, rfl⟩
  rw [hx0] at x0e
  rw [hx1] at x1e
  rw [hxl] at xle
  rw [x0e] at h0
  rw [xle] at hl
  have q0 : (x0.toNat : Int) = 60 := by omega
  have ql : (xl.toNat : Int) = 62 := by omega
  have HEn : Hid (∀ W, Calls Tryz.prog 40 #[.string s] W fun e w' => e = .returned (.int .i64 (endK s)) ∧ StU W w') := hid fun W => refEnd_any (by omega) W
  have HBk : Hid (∀ W, Calls Tryz.prog 41 #[.string (s.extract 1 (s.size - 1))] W fun e w' => e = .returned (.string (strB (bkL (bl (s.extract 1 (s.size - 1)))))) ∧ StU W w') := hid fun W => refBack_any (by have := ext_size s 1 (s.size - 1); omega)
  have bz : (strB (bkL (bl (s.extract 1 (s.size - 1))))).size ≤ 4096 := by
    have h1 := bkL_len _ (bl (s.extract 1 (s.size - 1))) (Nat.le_refl _)
    have h2 := ext_size s 1 (s.size - 1)
    rw [bl_len] at h1
    rw [strB_size (bkL_bys _ _ (Nat.le_refl _) (bl_bys _))]
    omega
  obtain ⟨z, hz⟩ : ∃ z, strB (bkL (bl (s.extract 1 (s.size - 1)))) = z := ⟨_, rfl⟩
  rw [hz] at HBk bz ⊢
  obtain ⟨m, hm⟩ : ∃ m : Tm, ⟨1, z, ByteArray.empty, ByteArray.empty⟩ = m := ⟨_, rfl⟩
  have hms : sizeT m ≤ 900000 := by rw [← hm]; show z.size + 0 + 0 ≤ _; omega
  rw [hm]
  have HRi : Hid (∀ W, Calls Tryz.prog 23 #[.agg #[.int .i64 m.k, .string m.x, .string m.g, .string m.y]] W fun e w' => e = .returned (.bool (rightT m)) ∧ StU W w') := hid fun W => refRight_any hms
  have HTx : Hid (rightT m = true → ∀ W, Calls Tryz.prog 42 #[.agg #[.int .i64 m.k, .string m.x, .string m.g, .string m.y]] W fun e w' => e = .returned (.string (strB (textL m))) ∧ StU W w') := hid fun hr W => refText_any' hr hms
  have HPut : Hid (∀ W, Hid (PaS w W g g2 zeroT) → Hid (PaS w ((((W.setCell ⟨g2, 0, none⟩ (.int .i64 1)).setCell ⟨g2, 1, none⟩ (.string z)).setCell ⟨g2, 2, none⟩ (.string { data := #[] })).setCell ⟨g2, 3, none⟩ (.string { data := #[] })) g g2 m)) := hid fun W h => hid (hm ▸ h.out.put ⟨1, z, ByteArray.empty, ByteArray.empty⟩)
  generalize endK s = K at *
  clear hm hms hz bz x0e x1e xle h0 hl hn
  go_enter Tryz.func20, Tryz.ntmps20
  go_upto_region 4 with fail
  rw [← hw1, ← hg, ← hg2]
  clear hw1 hg hg2
  go_upto_region 17 with (first
    | (go_at_call 40; refine (HEn.out _).mono ?_; rintro e w2 ⟨rfl, HO2⟩; have HP2 := hid (HP0.out.more HO2); clear HP0 HO2)
    | (go_at_call 41; refine (HBk.out _).mono ?_; rintro e w3 ⟨rfl, HO3⟩; have HP := hid (HP2.out.more HO3); have cx0 := HP.out.r2.cell (i := 0) (by omega); have cx1 := HP.out.r2.cell (i := 1) (by omega); have cx2 := HP.out.r2.cell (i := 2) (by omega); have cx3 := HP.out.r2.cell (i := 3) (by omega); have fx0 := HP.out.r2.frozen 0; have fx1 := HP.out.r2.frozen 1; have fx2 := HP.out.r2.frozen 2; have fx3 := HP.out.r2.frozen 3; have hlt2 := HP.out.r2.lt))
  have HPn := HPut.out _ HP
  clear HP HP2 HPut HO3 cx0 cx1 cx2 cx3 fx0 fx1 fx2 fx3 hlt2
  generalize ((((w3.setCell ⟨g2, 0, none⟩ (.int .i64 1)).setCell ⟨g2, 1, none⟩ (.string z)).setCell ⟨g2, 2, none⟩ (.string { data := #[] })).setCell ⟨g2, 3, none⟩ (.string { data := #[] })) = w5 at *
  have HP := HPn
  clear HPn
  obtain ⟨d0, d1, d2, d3⟩ := TmAt.cells HP.out.r2
  have HT2 := hid (fun W2 o => pa_after HP.out (W2 := W2) o)
  clear HP
  cases hr : rightT m with
  | false =>
    rw [hr] at HRi
    have HPe : Hid (endP s m = (zeroT, 10)) := hid (endP_no (by rw [hr]; simp))
    clear hr HTx
    go_upto_region 18 with (go_at_call 23; refine (HRi.out _).mono ?_; rintro e w7 ⟨rfl, HO7⟩; obtain ⟨⟨c0, c1, c2, c3, _⟩, HR⟩ := HT2.out _ HO7)
    have cx0 := HR.out.row.cell (i := 0) (by omega)
    have cx1 := HR.out.row.cell (i := 1) (by omega)
    have cx2 := HR.out.row.cell (i := 2) (by omega)
    have cx3 := HR.out.row.cell (i := 3) (by omega)
    have fx0 := HR.out.row.frozen 0
    have fx1 := HR.out.row.frozen 1
    have fx2 := HR.out.row.frozen 2
    have fx3 := HR.out.row.frozen 3
    have hlt2 := HR.out.row.lt
    have HQ := hid fun a b c d => tm_set HR.out.row a b c d
    clear d0 d1 d2 d3 HT2
    go_wp2_with fail
    obtain ⟨q0, q1, q2, q3⟩ := HQ.out (.int .i64 0) (.string { data := #[] }) (.string { data := #[] }) (.string { data := #[] })
    exact bodyPost_ret (v := .tuple #[tmV zeroT, .int .i64 10]) (by simp [results, Tryz.results20, go_sem, q0, q1, q2, q3, tmV, zeroT]; rfl) rfl ⟨by rw [HPe.out], HR.out.set _ _ _ _⟩
  | true =>
    rw [hr] at HRi
    have HTy := hid (HTx.out hr)
    clear HTx
    by_cases hz : strB (textL m) = s
    · have hzs : ((strB (textL m)).toList == s.toList) = true := by rw [toList_beq, decide_eq_true hz]
      have HPe : Hid (endP s m = (m, 0)) := hid (endP_yes hr hz)
      have HT3 := HT2
      generalize strB (textL m) = z at *
      clear hr hz
      go_upto_region 19 with (first
        | (go_at_call 23; refine (HRi.out _).mono ?_; rintro e w7 ⟨rfl, HO7⟩; obtain ⟨⟨c0, c1, c2, c3, _⟩, HR⟩ := HT3.out _ HO7)
        | (go_at_call 42; refine (HTy.out _).mono ?_; rintro e w8 ⟨rfl, HO8⟩; obtain ⟨_, HR8⟩ := HT2.out _ (hid (HO7.out.trans HO8.out))))
      obtain ⟨⟨b0, b1, b2, b3, _⟩, HR⟩ := HT3.out _ (hid (HO7.out.trans HO8.out))
      have cx0 := HR.out.row.cell (i := 0) (by omega)
      have cx1 := HR.out.row.cell (i := 1) (by omega)
      have cx2 := HR.out.row.cell (i := 2) (by omega)
      have cx3 := HR.out.row.cell (i := 3) (by omega)
      have fx0 := HR.out.row.frozen 0
      have fx1 := HR.out.row.frozen 1
      have fx2 := HR.out.row.frozen 2
      have fx3 := HR.out.row.frozen 3
      have hlt2 := HR.out.row.lt
      have HQ := hid fun a b c d => tm_set HR.out.row a b c d
      clear d0 d1 d2 d3 c0 c1 c2 c3 HT2 HT3 HR8
      go_wp2_with fail
      obtain ⟨q0, q1, q2, q3⟩ := HQ.out (.int .i64 m.k) (.string m.x) (.string m.g) (.string m.y)
      exact bodyPost_ret (v := .tuple #[tmV m, .int .i64 0]) (by simp [results, Tryz.results20, go_sem, q0, q1, q2, q3, tmV]) rfl ⟨by rw [HPe.out], HR.out.set _ _ _ _⟩
    · have hzs : ((strB (textL m)).toList == s.toList) = false := by rw [toList_beq, decide_eq_false hz]
      have HPe : Hid (endP s m = (zeroT, 10)) := hid (endP_no (fun h => hz (by rw [h.2, strB_bl])))
      have HT3 := HT2
      generalize strB (textL m) = z at *
      clear hr hz
      go_upto_region 18 with (first
        | (go_at_call 23; refine (HRi.out _).mono ?_; rintro e w7 ⟨rfl, HO7⟩; obtain ⟨⟨c0, c1, c2, c3, _⟩, HR⟩ := HT3.out _ HO7)
        | (go_at_call 42; refine (HTy.out _).mono ?_; rintro e w8 ⟨rfl, HO8⟩; obtain ⟨_, HR8⟩ := HT2.out _ (hid (HO7.out.trans HO8.out))))
      obtain ⟨⟨b0, b1, b2, b3, _⟩, HR⟩ := HT3.out _ (hid (HO7.out.trans HO8.out))
      have cx0 := HR.out.row.cell (i := 0) (by omega)
      have cx1 := HR.out.row.cell (i := 1) (by omega)
      have cx2 := HR.out.row.cell (i := 2) (by omega)
      have cx3 := HR.out.row.cell (i := 3) (by omega)
      have fx0 := HR.out.row.frozen 0
      have fx1 := HR.out.row.frozen 1
      have fx2 := HR.out.row.frozen 2
      have fx3 := HR.out.row.frozen 3
      have hlt2 := HR.out.row.lt
      have HQ := hid fun a b c d => tm_set HR.out.row a b c d
      clear d0 d1 d2 d3 c0 c1 c2 c3 HT2 HT3 HR8
      go_wp2_with fail
      obtain ⟨q0, q1, q2, q3⟩ := HQ.out (.int .i64 0) (.string { data := #[] }) (.string { data := #[] }) (.string { data := #[] })
      exact bodyPost_ret (v := .tuple #[tmV zeroT, .int .i64 10]) (by simp [results, Tryz.results20, go_sem, q0, q1, q2, q3, tmV, zeroT]; rfl) rfl ⟨by rw [HPe.out], HR.out.set _ _ _ _⟩
set_option maxRecDepth 100000 in
set_option maxHeartbeats 4000000 in
theorem pa_blank {s : ByteArray} {w : World} (hs : s.size ≤ 4096) (hn : 2 ≤ s.size) (h0 : (bl s).getD 0 0 = 95) (h1 : (bl s).getD 1 0 = 58) : RP s w ⟨2, s.extract 2 s.size, ByteArray.empty, ByteArray.empty⟩ := by
  obtain ⟨w1, g, g2, hw1, hg, hg2, HP0⟩ := pa_start w
  have hl' : ¬ (4096 : Int) < (s.size : Int) := by omega
  have k0 : (2 : Int) ≤ (s.size : Int) := by omega
  have y0 : (0 : Int) < (s.size : Int) := by omega
  have y1 : (1 : Int) < (s.size : Int) := by omega
  have hs0 : 0 < s.size := by omega
  have hs1 : 1 < s.size := by omega
  have hsl : s.size - 1 < s.size := by omega
  have kw : IntKind.i64.wrap ((s.size : Int) - 1) = (s.size : Int) - 1 := by rw [IntKind.wrap_i64]; omega
  have kt : ((s.size : Int) - 1).toNat = s.size - 1 := by omega
  have kn : (0 : Int) ≤ (s.size : Int) - 1 := by omega
  have km : (s.size : Int) - 1 < (s.size : Int) := by omega
  have ke : (s.size : Int) - 1 ≤ (s.size : Int) := by omega
  have kf : (1 : Int) ≤ (s.size : Int) - 1 := by omega
  have x0e := bl_at hs0
  have x1e := bl_at hs1
  have xle := bl_at hsl
  obtain ⟨x0, hx0⟩ : ∃ x, s[0]'hs0 = x := ⟨_, rfl⟩
  obtain ⟨x1, hx1⟩ : ∃ x, s[1]'hs1 = x := ⟨_, rfl⟩
  obtain ⟨xl, hxl⟩ : ∃ x, s[s.size - 1]'hsl = x := ⟨_, rfl⟩
  rw [hx0] at x0e
  rw [hx1] at x1e
  rw [hxl] at xle
  rw [x0e] at h0
  rw [x1e] at h1
  have q0 : (x0.toNat : Int) = 95 := by omega
  have q1 : (x1.toNat : Int) = 58 := by omega
  have HEn : Hid (∀ W, Calls Tryz.prog 40 #[.string s] W fun e w' => e = .returned (.int .i64 (endK s)) ∧ StU W w') := hid fun W => refEnd_any (by omega) W
  have bz := ext_size s 2 s.size
  obtain ⟨z, hz⟩ : ∃ z, s.extract 2 s.size = z := ⟨_, rfl⟩
  rw [hz] at bz ⊢
  obtain ⟨m, hm⟩ : ∃ m : Tm, ⟨2, z, ByteArray.empty, ByteArray.empty⟩ = m := ⟨_, rfl⟩
  have hms : sizeT m ≤ 900000 := by rw [← hm]; show z.size + 0 + 0 ≤ _; omega
  rw [hm]
  have HRi : Hid (∀ W, Calls Tryz.prog 23 #[.agg #[.int .i64 m.k, .string m.x, .string m.g, .string m.y]] W fun e w' => e = .returned (.bool (rightT m)) ∧ StU W w') := hid fun W => refRight_any hms
  have HTx : Hid (rightT m = true → ∀ W, Calls Tryz.prog 42 #[.agg #[.int .i64 m.k, .string m.x, .string m.g, .string m.y]] W fun e w' => e = .returned (.string (strB (textL m))) ∧ StU W w') := hid fun hr W => refText_any' hr hms
  have HPut : Hid (∀ W, Hid (PaS w W g g2 zeroT) → Hid (PaS w ((((W.setCell ⟨g2, 0, none⟩ (.int .i64 2)).setCell ⟨g2, 1, none⟩ (.string z)).setCell ⟨g2, 2, none⟩ (.string { data := #[] })).setCell ⟨g2, 3, none⟩ (.string { data := #[] })) g g2 m)) := hid fun W h => hid (hm ▸ h.out.put ⟨2, z, ByteArray.empty, ByteArray.empty⟩)
  generalize endK s = K at *
  clear hm hms bz x0e x1e xle h0 h1 hn
  go_enter Tryz.func20, Tryz.ntmps20
  go_upto_region 4 with fail
  rw [← hw1, ← hg, ← hg2]
  clear hw1 hg hg2
  go_upto_region 17 with (go_at_call 40; refine (HEn.out _).mono ?_; rintro e w2 ⟨rfl, HO2⟩; have HP := hid (HP0.out.more HO2); clear HP0 HO2; have cx0 := HP.out.r2.cell (i := 0) (by omega); have cx1 := HP.out.r2.cell (i := 1) (by omega); have cx2 := HP.out.r2.cell (i := 2) (by omega); have cx3 := HP.out.r2.cell (i := 3) (by omega); have fx0 := HP.out.r2.frozen 0; have fx1 := HP.out.r2.frozen 1; have fx2 := HP.out.r2.frozen 2; have fx3 := HP.out.r2.frozen 3; have hlt2 := HP.out.r2.lt)
  have HPn := HPut.out _ HP
  clear HP HPut cx0 cx1 cx2 cx3 fx0 fx1 fx2 fx3 hlt2
  generalize ((((w2.setCell ⟨g2, 0, none⟩ (.int .i64 2)).setCell ⟨g2, 1, none⟩ (.string z)).setCell ⟨g2, 2, none⟩ (.string { data := #[] })).setCell ⟨g2, 3, none⟩ (.string { data := #[] })) = w5 at *
  have HP := HPn
  clear HPn hz
  obtain ⟨d0, d1, d2, d3⟩ := TmAt.cells HP.out.r2
  have HT2 := hid (fun W2 o => pa_after HP.out (W2 := W2) o)
  clear HP
  cases hr : rightT m with
  | false =>
    rw [hr] at HRi
    have HPe : Hid (endP s m = (zeroT, 10)) := hid (endP_no (by rw [hr]; simp))
    clear hr HTx
    go_upto_region 18 with (go_at_call 23; refine (HRi.out _).mono ?_; rintro e w7 ⟨rfl, HO7⟩; obtain ⟨⟨c0, c1, c2, c3, _⟩, HR⟩ := HT2.out _ HO7)
    have cx0 := HR.out.row.cell (i := 0) (by omega)
    have cx1 := HR.out.row.cell (i := 1) (by omega)
    have cx2 := HR.out.row.cell (i := 2) (by omega)
    have cx3 := HR.out.row.cell (i := 3) (by omega)
    have fx0 := HR.out.row.frozen 0
    have fx1 := HR.out.row.frozen 1
    have fx2 := HR.out.row.frozen 2
    have fx3 := HR.out.row.frozen 3
    have hlt2 := HR.out.row.lt
    have HQ := hid fun a b c d => tm_set HR.out.row a b c d
    clear d0 d1 d2 d3 HT2
    go_wp2_with fail
    obtain ⟨q0, q1, q2, q3⟩ := HQ.out (.int .i64 0) (.string { data := #[] }) (.string { data := #[] }) (.string { data := #[] })
    exact bodyPost_ret (v := .tuple #[tmV zeroT, .int .i64 10]) (by simp [results, Tryz.results20, go_sem, q0, q1, q2, q3, tmV, zeroT]; rfl) rfl ⟨by rw [HPe.out], HR.out.set _ _ _ _⟩
  | true =>
    rw [hr] at HRi
    have HTy := hid (HTx.out hr)
    clear HTx
    by_cases hz : strB (textL m) = s
    · have hzs : ((strB (textL m)).toList == s.toList) = true := by rw [toList_beq, decide_eq_true hz]
      have HPe : Hid (endP s m = (m, 0)) := hid (endP_yes hr hz)
      have HT3 := HT2
      generalize strB (textL m) = z at *
      clear hr hz
      go_upto_region 19 with (first
        | (go_at_call 23; refine (HRi.out _).mono ?_; rintro e w7 ⟨rfl, HO7⟩; obtain ⟨⟨c0, c1, c2, c3, _⟩, HR⟩ := HT3.out _ HO7)
        | (go_at_call 42; refine (HTy.out _).mono ?_; rintro e w8 ⟨rfl, HO8⟩; obtain ⟨_, HR8⟩ := HT2.out _ (hid (HO7.out.trans HO8.out))))
      obtain ⟨⟨b0, b1, b2, b3, _⟩, HR⟩ := HT3.out _ (hid (HO7.out.trans HO8.out))
      have cx0 := HR.out.row.cell (i := 0) (by omega)
      have cx1 := HR.out.row.cell (i := 1) (by omega)
      have cx2 := HR.out.row.cell (i := 2) (by omega)
      have cx3 := HR.out.row.cell (i := 3) (by omega)
      have fx0 := HR.out.row.frozen 0
      have fx1 := HR.out.row.frozen 1
      have fx2 := HR.out.row.frozen 2
      have fx3 := HR.out.row.frozen 3
      have hlt2 := HR.out.row.lt
      have HQ := hid fun a b c d => tm_set HR.out.row a b c d
      clear d0 d1 d2 d3 c0 c1 c2 c3 HT2 HT3 HR8
      go_wp2_with fail
      obtain ⟨q0, q1, q2, q3⟩ := HQ.out (.int .i64 m.k) (.string m.x) (.string m.g) (.string m.y)
      exact bodyPost_ret (v := .tuple #[tmV m, .int .i64 0]) (by simp [results, Tryz.results20, go_sem, q0, q1, q2, q3, tmV]) rfl ⟨by rw [HPe.out], HR.out.set _ _ _ _⟩
    · have hzs : ((strB (textL m)).toList == s.toList) = false := by rw [toList_beq, decide_eq_false hz]
      have HPe : Hid (endP s m = (zeroT, 10)) := hid (endP_no (fun h => hz (by rw [h.2, strB_bl])))
      have HT3 := HT2
      generalize strB (textL m) = z at *
      clear hr hz
      go_upto_region 18 with (first
        | (go_at_call 23; refine (HRi.out _).mono ?_; rintro e w7 ⟨rfl, HO7⟩; obtain ⟨⟨c0, c1, c2, c3, _⟩, HR⟩ := HT3.out _ HO7)
        | (go_at_call 42; refine (HTy.out _).mono ?_; rintro e w8 ⟨rfl, HO8⟩; obtain ⟨_, HR8⟩ := HT2.out _ (hid (HO7.out.trans HO8.out))))
      obtain ⟨⟨b0, b1, b2, b3, _⟩, HR⟩ := HT3.out _ (hid (HO7.out.trans HO8.out))
      have cx0 := HR.out.row.cell (i := 0) (by omega)
      have cx1 := HR.out.row.cell (i := 1) (by omega)
      have cx2 := HR.out.row.cell (i := 2) (by omega)
      have cx3 := HR.out.row.cell (i := 3) (by omega)
      have fx0 := HR.out.row.frozen 0
      have fx1 := HR.out.row.frozen 1
      have fx2 := HR.out.row.frozen 2
      have fx3 := HR.out.row.frozen 3
      have hlt2 := HR.out.row.lt
      have HQ := hid fun a b c d => tm_set HR.out.row a b c d
      clear d0 d1 d2 d3 c0 c1 c2 c3 HT2 HT3 HR8
      go_wp2_with fail
      obtain ⟨q0, q1, q2, q3⟩ := HQ.out (.int .i64 0) (.string { data := #[] }) (.string { data := #[] }) (.string { data := #[] })
      exact bodyPost_ret (v := .tuple #[tmV zeroT, .int .i64 10]) (by simp [results, Tryz.results20, go_sem, q0, q1, q2, q3, tmV, zeroT]; rfl) rfl ⟨by rw [HPe.out], HR.out.set _ _ _ _⟩
set_option maxRecDepth 100000 in
set_option maxHeartbeats 4000000 in
theorem pa_z1 {s : ByteArray} {w : World} (hs : s.size ≤ 4096) (hn : ¬ 2 ≤ s.size) : RP s w zeroT := by
  obtain ⟨w1, g, g2, hw1, hg, hg2, HP0⟩ := pa_start w
  have hl' : ¬ (4096 : Int) < (s.size : Int) := by omega
  have k0 : ¬ (2 : Int) ≤ (s.size : Int) := by omega
  have HEn : Hid (∀ W, Calls Tryz.prog 40 #[.string s] W fun e w' => e = .returned (.int .i64 (endK s)) ∧ StU W w') := hid fun W => refEnd_any (by omega) W
  obtain ⟨m, hm⟩ : ∃ m : Tm, zeroT = m := ⟨_, rfl⟩
  have hms : sizeT m ≤ 900000 := by rw [← hm, sizeT_zero]; omega
  rw [hm] at HP0 ⊢
  have HRi : Hid (∀ W, Calls Tryz.prog 23 #[.agg #[.int .i64 m.k, .string m.x, .string m.g, .string m.y]] W fun e w' => e = .returned (.bool (rightT m)) ∧ StU W w') := hid fun W => refRight_any hms
  have HTx : Hid (rightT m = true → ∀ W, Calls Tryz.prog 42 #[.agg #[.int .i64 m.k, .string m.x, .string m.g, .string m.y]] W fun e w' => e = .returned (.string (strB (textL m))) ∧ StU W w') := hid fun hr W => refText_any' hr hms
  generalize endK s = K at *
  clear hm hms hn
  go_enter Tryz.func20, Tryz.ntmps20
  go_upto_region 4 with fail
  rw [← hw1, ← hg, ← hg2]
  clear hw1 hg hg2
  go_upto_region 17 with (go_at_call 40; refine (HEn.out _).mono ?_; rintro e w2 ⟨rfl, HO2⟩; have HP := hid (HP0.out.more HO2); clear HP0 HO2)
  obtain ⟨d0, d1, d2, d3⟩ := TmAt.cells HP.out.r2
  have HT2 := hid (fun W2 o => pa_after HP.out (W2 := W2) o)
  clear HP
  cases hr : rightT m with
  | false =>
    rw [hr] at HRi
    have HPe : Hid (endP s m = (zeroT, 10)) := hid (endP_no (by rw [hr]; simp))
    clear hr HTx
    go_upto_region 18 with (go_at_call 23; refine (HRi.out _).mono ?_; rintro e w7 ⟨rfl, HO7⟩; obtain ⟨⟨c0, c1, c2, c3, _⟩, HR⟩ := HT2.out _ HO7)
    have cx0 := HR.out.row.cell (i := 0) (by omega)
    have cx1 := HR.out.row.cell (i := 1) (by omega)
    have cx2 := HR.out.row.cell (i := 2) (by omega)
    have cx3 := HR.out.row.cell (i := 3) (by omega)
    have fx0 := HR.out.row.frozen 0
    have fx1 := HR.out.row.frozen 1
    have fx2 := HR.out.row.frozen 2
    have fx3 := HR.out.row.frozen 3
    have hlt2 := HR.out.row.lt
    have HQ := hid fun a b c d => tm_set HR.out.row a b c d
    clear d0 d1 d2 d3 HT2
    go_wp2_with fail
    obtain ⟨q0, q1, q2, q3⟩ := HQ.out (.int .i64 0) (.string { data := #[] }) (.string { data := #[] }) (.string { data := #[] })
    exact bodyPost_ret (v := .tuple #[tmV zeroT, .int .i64 10]) (by simp [results, Tryz.results20, go_sem, q0, q1, q2, q3, tmV, zeroT]; rfl) rfl ⟨by rw [HPe.out], HR.out.set _ _ _ _⟩
  | true =>
    rw [hr] at HRi
    have HTy := hid (HTx.out hr)
    clear HTx
    by_cases hz : strB (textL m) = s
    · have hzs : ((strB (textL m)).toList == s.toList) = true := by rw [toList_beq, decide_eq_true hz]
      have HPe : Hid (endP s m = (m, 0)) := hid (endP_yes hr hz)
      have HT3 := HT2
      generalize strB (textL m) = z at *
      clear hr hz
      go_upto_region 19 with (first
        | (go_at_call 23; refine (HRi.out _).mono ?_; rintro e w7 ⟨rfl, HO7⟩; obtain ⟨⟨c0, c1, c2, c3, _⟩, HR⟩ := HT3.out _ HO7)
        | (go_at_call 42; refine (HTy.out _).mono ?_; rintro e w8 ⟨rfl, HO8⟩; obtain ⟨_, HR8⟩ := HT2.out _ (hid (HO7.out.trans HO8.out))))
      obtain ⟨⟨b0, b1, b2, b3, _⟩, HR⟩ := HT3.out _ (hid (HO7.out.trans HO8.out))
      have cx0 := HR.out.row.cell (i := 0) (by omega)
      have cx1 := HR.out.row.cell (i := 1) (by omega)
      have cx2 := HR.out.row.cell (i := 2) (by omega)
      have cx3 := HR.out.row.cell (i := 3) (by omega)
      have fx0 := HR.out.row.frozen 0
      have fx1 := HR.out.row.frozen 1
      have fx2 := HR.out.row.frozen 2
      have fx3 := HR.out.row.frozen 3
      have hlt2 := HR.out.row.lt
      have HQ := hid fun a b c d => tm_set HR.out.row a b c d
      clear d0 d1 d2 d3 c0 c1 c2 c3 HT2 HT3 HR8
      go_wp2_with fail
      obtain ⟨q0, q1, q2, q3⟩ := HQ.out (.int .i64 m.k) (.string m.x) (.string m.g) (.string m.y)
      exact bodyPost_ret (v := .tuple #[tmV m, .int .i64 0]) (by simp [results, Tryz.results20, go_sem, q0, q1, q2, q3, tmV]) rfl ⟨by rw [HPe.out], HR.out.set _ _ _ _⟩
    · have hzs : ((strB (textL m)).toList == s.toList) = false := by rw [toList_beq, decide_eq_false hz]
      have HPe : Hid (endP s m = (zeroT, 10)) := hid (endP_no (fun h => hz (by rw [h.2, strB_bl])))
      have HT3 := HT2
      generalize strB (textL m) = z at *
      clear hr hz
      go_upto_region 18 with (first
        | (go_at_call 23; refine (HRi.out _).mono ?_; rintro e w7 ⟨rfl, HO7⟩; obtain ⟨⟨c0, c1, c2, c3, _⟩, HR⟩ := HT3.out _ HO7)
        | (go_at_call 42; refine (HTy.out _).mono ?_; rintro e w8 ⟨rfl, HO8⟩; obtain ⟨_, HR8⟩ := HT2.out _ (hid (HO7.out.trans HO8.out))))
      obtain ⟨⟨b0, b1, b2, b3, _⟩, HR⟩ := HT3.out _ (hid (HO7.out.trans HO8.out))
      have cx0 := HR.out.row.cell (i := 0) (by omega)
      have cx1 := HR.out.row.cell (i := 1) (by omega)
      have cx2 := HR.out.row.cell (i := 2) (by omega)
      have cx3 := HR.out.row.cell (i := 3) (by omega)
      have fx0 := HR.out.row.frozen 0
      have fx1 := HR.out.row.frozen 1
      have fx2 := HR.out.row.frozen 2
      have fx3 := HR.out.row.frozen 3
      have hlt2 := HR.out.row.lt
      have HQ := hid fun a b c d => tm_set HR.out.row a b c d
      clear d0 d1 d2 d3 c0 c1 c2 c3 HT2 HT3 HR8
      go_wp2_with fail
      obtain ⟨q0, q1, q2, q3⟩ := HQ.out (.int .i64 0) (.string { data := #[] }) (.string { data := #[] }) (.string { data := #[] })
      exact bodyPost_ret (v := .tuple #[tmV zeroT, .int .i64 10]) (by simp [results, Tryz.results20, go_sem, q0, q1, q2, q3, tmV, zeroT]; rfl) rfl ⟨by rw [HPe.out], HR.out.set _ _ _ _⟩
set_option maxRecDepth 100000 in
set_option maxHeartbeats 4000000 in
theorem pa_z2 {s : ByteArray} {w : World} (hs : s.size ≤ 4096) (hn : 2 ≤ s.size) (h0 : (bl s).getD 0 0 = 60) (hl : (bl s).getD (s.size - 1) 0 ≠ 62) : RP s w zeroT := by
  obtain ⟨w1, g, g2, hw1, hg, hg2, HP0⟩ := pa_start w
  have hl' : ¬ (4096 : Int) < (s.size : Int) := by omega
  have k0 : (2 : Int) ≤ (s.size : Int) := by omega
  have y0 : (0 : Int) < (s.size : Int) := by omega
  have y1 : (1 : Int) < (s.size : Int) := by omega
  have hs0 : 0 < s.size := by omega
  have hs1 : 1 < s.size := by omega
  have hsl : s.size - 1 < s.size := by omega
  have kw : IntKind.i64.wrap ((s.size : Int) - 1) = (s.size : Int) - 1 := by rw [IntKind.wrap_i64]; omega
  have kt : ((s.size : Int) - 1).toNat = s.size - 1 := by omega
  have kn : (0 : Int) ≤ (s.size : Int) - 1 := by omega
  have km : (s.size : Int) - 1 < (s.size : Int) := by omega
  have ke : (s.size : Int) - 1 ≤ (s.size : Int) := by omega
  have kf : (1 : Int) ≤ (s.size : Int) - 1 := by omega
  have x0e := bl_at hs0
  have x1e := bl_at hs1
  have xle := bl_at hsl
  obtain ⟨x0, hx0⟩ : ∃ x, s[0]'hs0 = x := ⟨_, rfl⟩
  obtain ⟨x1, hx1⟩ : ∃ x, s[1]'hs1 = x := ⟨_, rfl⟩
  obtain ⟨xl, hxl⟩ : ∃ x, s[s.size - 1]'hsl = x := ⟨_, rfl⟩
  rw [hx0] at x0e
  rw [hx1] at x1e
  rw [hxl] at xle
  rw [x0e] at h0
  rw [xle] at hl
  have q0 : (x0.toNat : Int) = 60 := by omega
  have ql : ((xl.toNat : Int) == 62) = false := by rw [beq_eq_false_iff_ne]; omega
  have HEn : Hid (∀ W, Calls Tryz.prog 40 #[.string s] W fun e w' => e = .returned (.int .i64 (endK s)) ∧ StU W w') := hid fun W => refEnd_any (by omega) W
  obtain ⟨m, hm⟩ : ∃ m : Tm, zeroT = m := ⟨_, rfl⟩
  have hms : sizeT m ≤ 900000 := by rw [← hm, sizeT_zero]; omega
  rw [hm] at HP0 ⊢
  have HRi : Hid (∀ W, Calls Tryz.prog 23 #[.agg #[.int .i64 m.k, .string m.x, .string m.g, .string m.y]] W fun e w' => e = .returned (.bool (rightT m)) ∧ StU W w') := hid fun W => refRight_any hms
  have HTx : Hid (rightT m = true → ∀ W, Calls Tryz.prog 42 #[.agg #[.int .i64 m.k, .string m.x, .string m.g, .string m.y]] W fun e w' => e = .returned (.string (strB (textL m))) ∧ StU W w') := hid fun hr W => refText_any' hr hms
  generalize endK s = K at *
  clear hm hms x0e x1e xle h0 hl hn
  go_enter Tryz.func20, Tryz.ntmps20
  go_upto_region 4 with fail
  rw [← hw1, ← hg, ← hg2]
  clear hw1 hg hg2
  go_upto_region 17 with (go_at_call 40; refine (HEn.out _).mono ?_; rintro e w2 ⟨rfl, HO2⟩; have HP := hid (HP0.out.more HO2); clear HP0 HO2)
  obtain ⟨d0, d1, d2, d3⟩ := TmAt.cells HP.out.r2
  have HT2 := hid (fun W2 o => pa_after HP.out (W2 := W2) o)
  clear HP
  cases hr : rightT m with
  | false =>
    rw [hr] at HRi
    have HPe : Hid (endP s m = (zeroT, 10)) := hid (endP_no (by rw [hr]; simp))
    clear hr HTx
    go_upto_region 18 with (go_at_call 23; refine (HRi.out _).mono ?_; rintro e w7 ⟨rfl, HO7⟩; obtain ⟨⟨c0, c1, c2, c3, _⟩, HR⟩ := HT2.out _ HO7)
    have cx0 := HR.out.row.cell (i := 0) (by omega)
    have cx1 := HR.out.row.cell (i := 1) (by omega)
    have cx2 := HR.out.row.cell (i := 2) (by omega)
    have cx3 := HR.out.row.cell (i := 3) (by omega)
    have fx0 := HR.out.row.frozen 0
    have fx1 := HR.out.row.frozen 1
    have fx2 := HR.out.row.frozen 2
    have fx3 := HR.out.row.frozen 3
    have hlt2 := HR.out.row.lt
    have HQ := hid fun a b c d => tm_set HR.out.row a b c d
    clear d0 d1 d2 d3 HT2
    go_wp2_with fail
    obtain ⟨q0, q1, q2, q3⟩ := HQ.out (.int .i64 0) (.string { data := #[] }) (.string { data := #[] }) (.string { data := #[] })
    exact bodyPost_ret (v := .tuple #[tmV zeroT, .int .i64 10]) (by simp [results, Tryz.results20, go_sem, q0, q1, q2, q3, tmV, zeroT]; rfl) rfl ⟨by rw [HPe.out], HR.out.set _ _ _ _⟩
  | true =>
    rw [hr] at HRi
    have HTy := hid (HTx.out hr)
    clear HTx
    by_cases hz : strB (textL m) = s
    · have hzs : ((strB (textL m)).toList == s.toList) = true := by rw [toList_beq, decide_eq_true hz]
      have HPe : Hid (endP s m = (m, 0)) := hid (endP_yes hr hz)
      have HT3 := HT2
      generalize strB (textL m) = z at *
      clear hr hz
      go_upto_region 19 with (first
        | (go_at_call 23; refine (HRi.out _).mono ?_; rintro e w7 ⟨rfl, HO7⟩; obtain ⟨⟨c0, c1, c2, c3, _⟩, HR⟩ := HT3.out _ HO7)
        | (go_at_call 42; refine (HTy.out _).mono ?_; rintro e w8 ⟨rfl, HO8⟩; obtain ⟨_, HR8⟩ := HT2.out _ (hid (HO7.out.trans HO8.out))))
      obtain ⟨⟨b0, b1, b2, b3, _⟩, HR⟩ := HT3.out _ (hid (HO7.out.trans HO8.out))
      have cx0 := HR.out.row.cell (i := 0) (by omega)
      have cx1 := HR.out.row.cell (i := 1) (by omega)
      have cx2 := HR.out.row.cell (i := 2) (by omega)
      have cx3 := HR.out.row.cell (i := 3) (by omega)
      have fx0 := HR.out.row.frozen 0
      have fx1 := HR.out.row.frozen 1
      have fx2 := HR.out.row.frozen 2
      have fx3 := HR.out.row.frozen 3
      have hlt2 := HR.out.row.lt
      have HQ := hid fun a b c d => tm_set HR.out.row a b c d
      clear d0 d1 d2 d3 c0 c1 c2 c3 HT2 HT3 HR8
      go_wp2_with fail
      obtain ⟨q0, q1, q2, q3⟩ := HQ.out (.int .i64 m.k) (.string m.x) (.string m.g) (.string m.y)
      exact bodyPost_ret (v := .tuple #[tmV m, .int .i64 0]) (by simp [results, Tryz.results20, go_sem, q0, q1, q2, q3, tmV]) rfl ⟨by rw [HPe.out], HR.out.set _ _ _ _⟩
    · have hzs : ((strB (textL m)).toList == s.toList) = false := by rw [toList_beq, decide_eq_false hz]
      have HPe : Hid (endP s m = (zeroT, 10)) := hid (endP_no (fun h => hz (by rw [h.2, strB_bl])))
      have HT3 := HT2
      generalize strB (textL m) = z at *
      clear hr hz
      go_upto_region 18 with (first
        | (go_at_call 23; refine (HRi.out _).mono ?_; rintro e w7 ⟨rfl, HO7⟩; obtain ⟨⟨c0, c1, c2, c3, _⟩, HR⟩ := HT3.out _ HO7)
        | (go_at_call 42; refine (HTy.out _).mono ?_; rintro e w8 ⟨rfl, HO8⟩; obtain ⟨_, HR8⟩ := HT2.out _ (hid (HO7.out.trans HO8.out))))
      obtain ⟨⟨b0, b1, b2, b3, _⟩, HR⟩ := HT3.out _ (hid (HO7.out.trans HO8.out))
      have cx0 := HR.out.row.cell (i := 0) (by omega)
      have cx1 := HR.out.row.cell (i := 1) (by omega)
      have cx2 := HR.out.row.cell (i := 2) (by omega)
      have cx3 := HR.out.row.cell (i := 3) (by omega)
      have fx0 := HR.out.row.frozen 0
      have fx1 := HR.out.row.frozen 1
      have fx2 := HR.out.row.frozen 2
      have fx3 := HR.out.row.frozen 3
      have hlt2 := HR.out.row.lt
      have HQ := hid fun a b c d => tm_set HR.out.row a b c d
      clear d0 d1 d2 d3 c0 c1 c2 c3 HT2 HT3 HR8
      go_wp2_with fail
      obtain ⟨q0, q1, q2, q3⟩ := HQ.out (.int .i64 0) (.string { data := #[] }) (.string { data := #[] }) (.string { data := #[] })
      exact bodyPost_ret (v := .tuple #[tmV zeroT, .int .i64 10]) (by simp [results, Tryz.results20, go_sem, q0, q1, q2, q3, tmV, zeroT]; rfl) rfl ⟨by rw [HPe.out], HR.out.set _ _ _ _⟩
set_option maxRecDepth 100000 in
set_option maxHeartbeats 4000000 in
theorem pa_z3 {s : ByteArray} {w : World} (hs : s.size ≤ 4096) (hn : 2 ≤ s.size) (h0 : (bl s).getD 0 0 = 95) (h1 : (bl s).getD 1 0 ≠ 58) : RP s w zeroT := by
  obtain ⟨w1, g, g2, hw1, hg, hg2, HP0⟩ := pa_start w
  have hl' : ¬ (4096 : Int) < (s.size : Int) := by omega
  have k0 : (2 : Int) ≤ (s.size : Int) := by omega
  have y0 : (0 : Int) < (s.size : Int) := by omega
  have y1 : (1 : Int) < (s.size : Int) := by omega
  have hs0 : 0 < s.size := by omega
  have hs1 : 1 < s.size := by omega
  have hsl : s.size - 1 < s.size := by omega
  have kw : IntKind.i64.wrap ((s.size : Int) - 1) = (s.size : Int) - 1 := by rw [IntKind.wrap_i64]; omega
  have kt : ((s.size : Int) - 1).toNat = s.size - 1 := by omega
  have kn : (0 : Int) ≤ (s.size : Int) - 1 := by omega
  have km : (s.size : Int) - 1 < (s.size : Int) := by omega
  have ke : (s.size : Int) - 1 ≤ (s.size : Int) := by omega
  have kf : (1 : Int) ≤ (s.size : Int) - 1 := by omega
  have x0e := bl_at hs0
  have x1e := bl_at hs1
  have xle := bl_at hsl
  obtain ⟨x0, hx0⟩ : ∃ x, s[0]'hs0 = x := ⟨_, rfl⟩
  obtain ⟨x1, hx1⟩ : ∃ x, s[1]'hs1 = x := ⟨_, rfl⟩
  obtain ⟨xl, hxl⟩ : ∃ x, s[s.size - 1]'hsl = x := ⟨_, rfl⟩
  rw [hx0] at x0e
  rw [hx1] at x1e
  rw [hxl] at xle
  rw [x0e] at h0
  rw [x1e] at h1
  have q0 : (x0.toNat : Int) = 95 := by omega
  have q1 : ((x1.toNat : Int) == 58) = false := by rw [beq_eq_false_iff_ne]; omega
  have HEn : Hid (∀ W, Calls Tryz.prog 40 #[.string s] W fun e w' => e = .returned (.int .i64 (endK s)) ∧ StU W w') := hid fun W => refEnd_any (by omega) W
  obtain ⟨m, hm⟩ : ∃ m : Tm, zeroT = m := ⟨_, rfl⟩
  have hms : sizeT m ≤ 900000 := by rw [← hm, sizeT_zero]; omega
  rw [hm] at HP0 ⊢
  have HRi : Hid (∀ W, Calls Tryz.prog 23 #[.agg #[.int .i64 m.k, .string m.x, .string m.g, .string m.y]] W fun e w' => e = .returned (.bool (rightT m)) ∧ StU W w') := hid fun W => refRight_any hms
  have HTx : Hid (rightT m = true → ∀ W, Calls Tryz.prog 42 #[.agg #[.int .i64 m.k, .string m.x, .string m.g, .string m.y]] W fun e w' => e = .returned (.string (strB (textL m))) ∧ StU W w') := hid fun hr W => refText_any' hr hms
  generalize endK s = K at *
  clear hm hms x0e x1e xle h0 h1 hn
  go_enter Tryz.func20, Tryz.ntmps20
  go_upto_region 4 with fail
  rw [← hw1, ← hg, ← hg2]
  clear hw1 hg hg2
  go_upto_region 17 with (go_at_call 40; refine (HEn.out _).mono ?_; rintro e w2 ⟨rfl, HO2⟩; have HP := hid (HP0.out.more HO2); clear HP0 HO2)
  obtain ⟨d0, d1, d2, d3⟩ := TmAt.cells HP.out.r2
  have HT2 := hid (fun W2 o => pa_after HP.out (W2 := W2) o)
  clear HP
  cases hr : rightT m with
  | false =>
    rw [hr] at HRi
    have HPe : Hid (endP s m = (zeroT, 10)) := hid (endP_no (by rw [hr]; simp))
    clear hr HTx
    go_upto_region 18 with (go_at_call 23; refine (HRi.out _).mono ?_; rintro e w7 ⟨rfl, HO7⟩; obtain ⟨⟨c0, c1, c2, c3, _⟩, HR⟩ := HT2.out _ HO7)
    have cx0 := HR.out.row.cell (i := 0) (by omega)
    have cx1 := HR.out.row.cell (i := 1) (by omega)
    have cx2 := HR.out.row.cell (i := 2) (by omega)
    have cx3 := HR.out.row.cell (i := 3) (by omega)
    have fx0 := HR.out.row.frozen 0
    have fx1 := HR.out.row.frozen 1
    have fx2 := HR.out.row.frozen 2
    have fx3 := HR.out.row.frozen 3
    have hlt2 := HR.out.row.lt
    have HQ := hid fun a b c d => tm_set HR.out.row a b c d
    clear d0 d1 d2 d3 HT2
    go_wp2_with fail
    obtain ⟨q0, q1, q2, q3⟩ := HQ.out (.int .i64 0) (.string { data := #[] }) (.string { data := #[] }) (.string { data := #[] })
    exact bodyPost_ret (v := .tuple #[tmV zeroT, .int .i64 10]) (by simp [results, Tryz.results20, go_sem, q0, q1, q2, q3, tmV, zeroT]; rfl) rfl ⟨by rw [HPe.out], HR.out.set _ _ _ _⟩
  | true =>
    rw [hr] at HRi
    have HTy := hid (HTx.out hr)
    clear HTx
    by_cases hz : strB (textL m) = s
    · have hzs : ((strB (textL m)).toList == s.toList) = true := by rw [toList_beq, decide_eq_true hz]
      have HPe : Hid (endP s m = (m, 0)) := hid (endP_yes hr hz)
      have HT3 := HT2
      generalize strB (textL m) = z at *
      clear hr hz
      go_upto_region 19 with (first
        | (go_at_call 23; refine (HRi.out _).mono ?_; rintro e w7 ⟨rfl, HO7⟩; obtain ⟨⟨c0, c1, c2, c3, _⟩, HR⟩ := HT3.out _ HO7)
        | (go_at_call 42; refine (HTy.out _).mono ?_; rintro e w8 ⟨rfl, HO8⟩; obtain ⟨_, HR8⟩ := HT2.out _ (hid (HO7.out.trans HO8.out))))
      obtain ⟨⟨b0, b1, b2, b3, _⟩, HR⟩ := HT3.out _ (hid (HO7.out.trans HO8.out))
      have cx0 := HR.out.row.cell (i := 0) (by omega)
      have cx1 := HR.out.row.cell (i := 1) (by omega)
      have cx2 := HR.out.row.cell (i := 2) (by omega)
      have cx3 := HR.out.row.cell (i := 3) (by omega)
      have fx0 := HR.out.row.frozen 0
      have fx1 := HR.out.row.frozen 1
      have fx2 := HR.out.row.frozen 2
      have fx3 := HR.out.row.frozen 3
      have hlt2 := HR.out.row.lt
      have HQ := hid fun a b c d => tm_set HR.out.row a b c d
      clear d0 d1 d2 d3 c0 c1 c2 c3 HT2 HT3 HR8
      go_wp2_with fail
      obtain ⟨q0, q1, q2, q3⟩ := HQ.out (.int .i64 m.k) (.string m.x) (.string m.g) (.string m.y)
      exact bodyPost_ret (v := .tuple #[tmV m, .int .i64 0]) (by simp [results, Tryz.results20, go_sem, q0, q1, q2, q3, tmV]) rfl ⟨by rw [HPe.out], HR.out.set _ _ _ _⟩
    · have hzs : ((strB (textL m)).toList == s.toList) = false := by rw [toList_beq, decide_eq_false hz]
      have HPe : Hid (endP s m = (zeroT, 10)) := hid (endP_no (fun h => hz (by rw [h.2, strB_bl])))
      have HT3 := HT2
      generalize strB (textL m) = z at *
      clear hr hz
      go_upto_region 18 with (first
        | (go_at_call 23; refine (HRi.out _).mono ?_; rintro e w7 ⟨rfl, HO7⟩; obtain ⟨⟨c0, c1, c2, c3, _⟩, HR⟩ := HT3.out _ HO7)
        | (go_at_call 42; refine (HTy.out _).mono ?_; rintro e w8 ⟨rfl, HO8⟩; obtain ⟨_, HR8⟩ := HT2.out _ (hid (HO7.out.trans HO8.out))))
      obtain ⟨⟨b0, b1, b2, b3, _⟩, HR⟩ := HT3.out _ (hid (HO7.out.trans HO8.out))
      have cx0 := HR.out.row.cell (i := 0) (by omega)
      have cx1 := HR.out.row.cell (i := 1) (by omega)
      have cx2 := HR.out.row.cell (i := 2) (by omega)
      have cx3 := HR.out.row.cell (i := 3) (by omega)
      have fx0 := HR.out.row.frozen 0
      have fx1 := HR.out.row.frozen 1
      have fx2 := HR.out.row.frozen 2
      have fx3 := HR.out.row.frozen 3
      have hlt2 := HR.out.row.lt
      have HQ := hid fun a b c d => tm_set HR.out.row a b c d
      clear d0 d1 d2 d3 c0 c1 c2 c3 HT2 HT3 HR8
      go_wp2_with fail
      obtain ⟨q0, q1, q2, q3⟩ := HQ.out (.int .i64 0) (.string { data := #[] }) (.string { data := #[] }) (.string { data := #[] })
      exact bodyPost_ret (v := .tuple #[tmV zeroT, .int .i64 10]) (by simp [results, Tryz.results20, go_sem, q0, q1, q2, q3, tmV, zeroT]; rfl) rfl ⟨by rw [HPe.out], HR.out.set _ _ _ _⟩
set_option maxRecDepth 100000 in
set_option maxHeartbeats 4000000 in
theorem pa_z4 {s : ByteArray} {w : World} (hs : s.size ≤ 4096) (hn : 2 ≤ s.size) (h0 : (bl s).getD 0 0 = 34) (hk : ¬ 0 < endK s) : RP s w zeroT := by
  obtain ⟨w1, g, g2, hw1, hg, hg2, HP0⟩ := pa_start w
  have hl' : ¬ (4096 : Int) < (s.size : Int) := by omega
  have k0 : (2 : Int) ≤ (s.size : Int) := by omega
  have y0 : (0 : Int) < (s.size : Int) := by omega
  have y1 : (1 : Int) < (s.size : Int) := by omega
  have hs0 : 0 < s.size := by omega
  have hs1 : 1 < s.size := by omega
  have hsl : s.size - 1 < s.size := by omega
  have kw : IntKind.i64.wrap ((s.size : Int) - 1) = (s.size : Int) - 1 := by rw [IntKind.wrap_i64]; omega
  have kt : ((s.size : Int) - 1).toNat = s.size - 1 := by omega
  have kn : (0 : Int) ≤ (s.size : Int) - 1 := by omega
  have km : (s.size : Int) - 1 < (s.size : Int) := by omega
  have ke : (s.size : Int) - 1 ≤ (s.size : Int) := by omega
  have kf : (1 : Int) ≤ (s.size : Int) - 1 := by omega
  have x0e := bl_at hs0
  have x1e := bl_at hs1
  have xle := bl_at hsl
  obtain ⟨x0, hx0⟩ : ∃ x, s[0]'hs0 = x := ⟨_, rfl⟩
  obtain ⟨x1, hx1⟩ : ∃ x, s[1]'hs1 = x := ⟨_, rfl⟩
  obtain ⟨xl, hxl⟩ : ∃ x, s[s.size - 1]'hsl = x := ⟨_, rfl⟩
  rw [hx0] at x0e
  rw [hx1] at x1e
  rw [hxl] at xle
  rw [x0e] at h0
  have q0 : (x0.toNat : Int) = 34 := by omega
  have HEn : Hid (∀ W, Calls Tryz.prog 40 #[.string s] W fun e w' => e = .returned (.int .i64 (endK s)) ∧ StU W w') := hid fun W => refEnd_any (by omega) W
  obtain ⟨m, hm⟩ : ∃ m : Tm, zeroT = m := ⟨_, rfl⟩
  have hms : sizeT m ≤ 900000 := by rw [← hm, sizeT_zero]; omega
  rw [hm] at HP0 ⊢
  have HRi : Hid (∀ W, Calls Tryz.prog 23 #[.agg #[.int .i64 m.k, .string m.x, .string m.g, .string m.y]] W fun e w' => e = .returned (.bool (rightT m)) ∧ StU W w') := hid fun W => refRight_any hms
  have HTx : Hid (rightT m = true → ∀ W, Calls Tryz.prog 42 #[.agg #[.int .i64 m.k, .string m.x, .string m.g, .string m.y]] W fun e w' => e = .returned (.string (strB (textL m))) ∧ StU W w') := hid fun hr W => refText_any' hr hms
  generalize endK s = K at *
  clear hm hms x0e x1e xle h0 hn
  go_enter Tryz.func20, Tryz.ntmps20
  go_upto_region 4 with fail
  rw [← hw1, ← hg, ← hg2]
  clear hw1 hg hg2
  go_upto_region 17 with (go_at_call 40; refine (HEn.out _).mono ?_; rintro e w2 ⟨rfl, HO2⟩; have HP := hid (HP0.out.more HO2); clear HP0 HO2)
  obtain ⟨d0, d1, d2, d3⟩ := TmAt.cells HP.out.r2
  have HT2 := hid (fun W2 o => pa_after HP.out (W2 := W2) o)
  clear HP
  cases hr : rightT m with
  | false =>
    rw [hr] at HRi
    have HPe : Hid (endP s m = (zeroT, 10)) := hid (endP_no (by rw [hr]; simp))
    clear hr HTx
    go_upto_region 18 with (go_at_call 23; refine (HRi.out _).mono ?_; rintro e w7 ⟨rfl, HO7⟩; obtain ⟨⟨c0, c1, c2, c3, _⟩, HR⟩ := HT2.out _ HO7)
    have cx0 := HR.out.row.cell (i := 0) (by omega)
    have cx1 := HR.out.row.cell (i := 1) (by omega)
    have cx2 := HR.out.row.cell (i := 2) (by omega)
    have cx3 := HR.out.row.cell (i := 3) (by omega)
    have fx0 := HR.out.row.frozen 0
    have fx1 := HR.out.row.frozen 1
    have fx2 := HR.out.row.frozen 2
    have fx3 := HR.out.row.frozen 3
    have hlt2 := HR.out.row.lt
    have HQ := hid fun a b c d => tm_set HR.out.row a b c d
    clear d0 d1 d2 d3 HT2
    go_wp2_with fail
    obtain ⟨q0, q1, q2, q3⟩ := HQ.out (.int .i64 0) (.string { data := #[] }) (.string { data := #[] }) (.string { data := #[] })
    exact bodyPost_ret (v := .tuple #[tmV zeroT, .int .i64 10]) (by simp [results, Tryz.results20, go_sem, q0, q1, q2, q3, tmV, zeroT]; rfl) rfl ⟨by rw [HPe.out], HR.out.set _ _ _ _⟩
  | true =>
    rw [hr] at HRi
    have HTy := hid (HTx.out hr)
    clear HTx
    by_cases hz : strB (textL m) = s
    · have hzs : ((strB (textL m)).toList == s.toList) = true := by rw [toList_beq, decide_eq_true hz]
      have HPe : Hid (endP s m = (m, 0)) := hid (endP_yes hr hz)
      have HT3 := HT2
      generalize strB (textL m) = z at *
      clear hr hz
      go_upto_region 19 with (first
        | (go_at_call 23; refine (HRi.out _).mono ?_; rintro e w7 ⟨rfl, HO7⟩; obtain ⟨⟨c0, c1, c2, c3, _⟩, HR⟩ := HT3.out _ HO7)
        | (go_at_call 42; refine (HTy.out _).mono ?_; rintro e w8 ⟨rfl, HO8⟩; obtain ⟨_, HR8⟩ := HT2.out _ (hid (HO7.out.trans HO8.out))))
      obtain ⟨⟨b0, b1, b2, b3, _⟩, HR⟩ := HT3.out _ (hid (HO7.out.trans HO8.out))
      have cx0 := HR.out.row.cell (i := 0) (by omega)
      have cx1 := HR.out.row.cell (i := 1) (by omega)
      have cx2 := HR.out.row.cell (i := 2) (by omega)
      have cx3 := HR.out.row.cell (i := 3) (by omega)
      have fx0 := HR.out.row.frozen 0
      have fx1 := HR.out.row.frozen 1
      have fx2 := HR.out.row.frozen 2
      have fx3 := HR.out.row.frozen 3
      have hlt2 := HR.out.row.lt
      have HQ := hid fun a b c d => tm_set HR.out.row a b c d
      clear d0 d1 d2 d3 c0 c1 c2 c3 HT2 HT3 HR8
      go_wp2_with fail
      obtain ⟨q0, q1, q2, q3⟩ := HQ.out (.int .i64 m.k) (.string m.x) (.string m.g) (.string m.y)
      exact bodyPost_ret (v := .tuple #[tmV m, .int .i64 0]) (by simp [results, Tryz.results20, go_sem, q0, q1, q2, q3, tmV]) rfl ⟨by rw [HPe.out], HR.out.set _ _ _ _⟩
    · have hzs : ((strB (textL m)).toList == s.toList) = false := by rw [toList_beq, decide_eq_false hz]
      have HPe : Hid (endP s m = (zeroT, 10)) := hid (endP_no (fun h => hz (by rw [h.2, strB_bl])))
      have HT3 := HT2
      generalize strB (textL m) = z at *
      clear hr hz
      go_upto_region 18 with (first
        | (go_at_call 23; refine (HRi.out _).mono ?_; rintro e w7 ⟨rfl, HO7⟩; obtain ⟨⟨c0, c1, c2, c3, _⟩, HR⟩ := HT3.out _ HO7)
        | (go_at_call 42; refine (HTy.out _).mono ?_; rintro e w8 ⟨rfl, HO8⟩; obtain ⟨_, HR8⟩ := HT2.out _ (hid (HO7.out.trans HO8.out))))
      obtain ⟨⟨b0, b1, b2, b3, _⟩, HR⟩ := HT3.out _ (hid (HO7.out.trans HO8.out))
      have cx0 := HR.out.row.cell (i := 0) (by omega)
      have cx1 := HR.out.row.cell (i := 1) (by omega)
      have cx2 := HR.out.row.cell (i := 2) (by omega)
      have cx3 := HR.out.row.cell (i := 3) (by omega)
      have fx0 := HR.out.row.frozen 0
      have fx1 := HR.out.row.frozen 1
      have fx2 := HR.out.row.frozen 2
      have fx3 := HR.out.row.frozen 3
      have hlt2 := HR.out.row.lt
      have HQ := hid fun a b c d => tm_set HR.out.row a b c d
      clear d0 d1 d2 d3 c0 c1 c2 c3 HT2 HT3 HR8
      go_wp2_with fail
      obtain ⟨q0, q1, q2, q3⟩ := HQ.out (.int .i64 0) (.string { data := #[] }) (.string { data := #[] }) (.string { data := #[] })
      exact bodyPost_ret (v := .tuple #[tmV zeroT, .int .i64 10]) (by simp [results, Tryz.results20, go_sem, q0, q1, q2, q3, tmV, zeroT]; rfl) rfl ⟨by rw [HPe.out], HR.out.set _ _ _ _⟩
set_option maxRecDepth 100000 in
set_option maxHeartbeats 4000000 in
theorem pa_z5 {s : ByteArray} {w : World} (hs : s.size ≤ 4096) (hn : 2 ≤ s.size) (h0 : (bl s).getD 0 0 ≠ 60) (h1 : (bl s).getD 0 0 ≠ 95) (h2 : (bl s).getD 0 0 ≠ 34) : RP s w zeroT := by
  obtain ⟨w1, g, g2, hw1, hg, hg2, HP0⟩ := pa_start w
  have hl' : ¬ (4096 : Int) < (s.size : Int) := by omega
  have k0 : (2 : Int) ≤ (s.size : Int) := by omega
  have y0 : (0 : Int) < (s.size : Int) := by omega
  have y1 : (1 : Int) < (s.size : Int) := by omega
  have hs0 : 0 < s.size := by omega
  have hs1 : 1 < s.size := by omega
  have hsl : s.size - 1 < s.size := by omega
  have kw : IntKind.i64.wrap ((s.size : Int) - 1) = (s.size : Int) - 1 := by rw [IntKind.wrap_i64]; omega
  have kt : ((s.size : Int) - 1).toNat = s.size - 1 := by omega
  have kn : (0 : Int) ≤ (s.size : Int) - 1 := by omega
  have km : (s.size : Int) - 1 < (s.size : Int) := by omega
  have ke : (s.size : Int) - 1 ≤ (s.size : Int) := by omega
  have kf : (1 : Int) ≤ (s.size : Int) - 1 := by omega
  have x0e := bl_at hs0
  have x1e := bl_at hs1
  have xle := bl_at hsl
  obtain ⟨x0, hx0⟩ : ∃ x, s[0]'hs0 = x := ⟨_, rfl⟩
  obtain ⟨x1, hx1⟩ : ∃ x, s[1]'hs1 = x := ⟨_, rfl⟩
  obtain ⟨xl, hxl⟩ : ∃ x, s[s.size - 1]'hsl = x := ⟨_, rfl⟩
  rw [hx0] at x0e
  rw [hx1] at x1e
  rw [hxl] at xle
  rw [x0e] at h0 h1 h2
  have q0 : ((x0.toNat : Int) == 60) = false := by rw [beq_eq_false_iff_ne]; omega
  have q1 : ((x0.toNat : Int) == 95) = false := by rw [beq_eq_false_iff_ne]; omega
  have q2 : ((x0.toNat : Int) == 34) = false := by rw [beq_eq_false_iff_ne]; omega
  have HEn : Hid (∀ W, Calls Tryz.prog 40 #[.string s] W fun e w' => e = .returned (.int .i64 (endK s)) ∧ StU W w') := hid fun W => refEnd_any (by omega) W
  obtain ⟨m, hm⟩ : ∃ m : Tm, zeroT = m := ⟨_, rfl⟩
  have hms : sizeT m ≤ 900000 := by rw [← hm, sizeT_zero]; omega
  rw [hm] at HP0 ⊢
  have HRi : Hid (∀ W, Calls Tryz.prog 23 #[.agg #[.int .i64 m.k, .string m.x, .string m.g, .string m.y]] W fun e w' => e = .returned (.bool (rightT m)) ∧ StU W w') := hid fun W => refRight_any hms
  have HTx : Hid (rightT m = true → ∀ W, Calls Tryz.prog 42 #[.agg #[.int .i64 m.k, .string m.x, .string m.g, .string m.y]] W fun e w' => e = .returned (.string (strB (textL m))) ∧ StU W w') := hid fun hr W => refText_any' hr hms
  generalize endK s = K at *
  clear hm hms x0e x1e xle h0 h1 h2 hn
  go_enter Tryz.func20, Tryz.ntmps20
  go_upto_region 4 with fail
  rw [← hw1, ← hg, ← hg2]
  clear hw1 hg hg2
  go_upto_region 17 with (go_at_call 40; refine (HEn.out _).mono ?_; rintro e w2 ⟨rfl, HO2⟩; have HP := hid (HP0.out.more HO2); clear HP0 HO2)
  obtain ⟨d0, d1, d2, d3⟩ := TmAt.cells HP.out.r2
  have HT2 := hid (fun W2 o => pa_after HP.out (W2 := W2) o)
  clear HP
  cases hr : rightT m with
  | false =>
    rw [hr] at HRi
    have HPe : Hid (endP s m = (zeroT, 10)) := hid (endP_no (by rw [hr]; simp))
    clear hr HTx
    go_upto_region 18 with (go_at_call 23; refine (HRi.out _).mono ?_; rintro e w7 ⟨rfl, HO7⟩; obtain ⟨⟨c0, c1, c2, c3, _⟩, HR⟩ := HT2.out _ HO7)
    have cx0 := HR.out.row.cell (i := 0) (by omega)
    have cx1 := HR.out.row.cell (i := 1) (by omega)
    have cx2 := HR.out.row.cell (i := 2) (by omega)
    have cx3 := HR.out.row.cell (i := 3) (by omega)
    have fx0 := HR.out.row.frozen 0
    have fx1 := HR.out.row.frozen 1
    have fx2 := HR.out.row.frozen 2
    have fx3 := HR.out.row.frozen 3
    have hlt2 := HR.out.row.lt
    have HQ := hid fun a b c d => tm_set HR.out.row a b c d
    clear d0 d1 d2 d3 HT2
    go_wp2_with fail
    obtain ⟨q0, q1, q2, q3⟩ := HQ.out (.int .i64 0) (.string { data := #[] }) (.string { data := #[] }) (.string { data := #[] })
    exact bodyPost_ret (v := .tuple #[tmV zeroT, .int .i64 10]) (by simp [results, Tryz.results20, go_sem, q0, q1, q2, q3, tmV, zeroT]; rfl) rfl ⟨by rw [HPe.out], HR.out.set _ _ _ _⟩
  | true =>
    rw [hr] at HRi
    have HTy := hid (HTx.out hr)
    clear HTx
    by_cases hz : strB (textL m) = s
    · have hzs : ((strB (textL m)).toList == s.toList) = true := by rw [toList_beq, decide_eq_true hz]
      have HPe : Hid (endP s m = (m, 0)) := hid (endP_yes hr hz)
      have HT3 := HT2
      generalize strB (textL m) = z at *
      clear hr hz
      go_upto_region 19 with (first
        | (go_at_call 23; refine (HRi.out _).mono ?_; rintro e w7 ⟨rfl, HO7⟩; obtain ⟨⟨c0, c1, c2, c3, _⟩, HR⟩ := HT3.out _ HO7)
        | (go_at_call 42; refine (HTy.out _).mono ?_; rintro e w8 ⟨rfl, HO8⟩; obtain ⟨_, HR8⟩ := HT2.out _ (hid (HO7.out.trans HO8.out))))
      obtain ⟨⟨b0, b1, b2, b3, _⟩, HR⟩ := HT3.out _ (hid (HO7.out.trans HO8.out))
      have cx0 := HR.out.row.cell (i := 0) (by omega)
      have cx1 := HR.out.row.cell (i := 1) (by omega)
      have cx2 := HR.out.row.cell (i := 2) (by omega)
      have cx3 := HR.out.row.cell (i := 3) (by omega)
      have fx0 := HR.out.row.frozen 0
      have fx1 := HR.out.row.frozen 1
      have fx2 := HR.out.row.frozen 2
      have fx3 := HR.out.row.frozen 3
      have hlt2 := HR.out.row.lt
      have HQ := hid fun a b c d => tm_set HR.out.row a b c d
      clear d0 d1 d2 d3 c0 c1 c2 c3 HT2 HT3 HR8
      go_wp2_with fail
      obtain ⟨q0, q1, q2, q3⟩ := HQ.out (.int .i64 m.k) (.string m.x) (.string m.g) (.string m.y)
      exact bodyPost_ret (v := .tuple #[tmV m, .int .i64 0]) (by simp [results, Tryz.results20, go_sem, q0, q1, q2, q3, tmV]) rfl ⟨by rw [HPe.out], HR.out.set _ _ _ _⟩
    · have hzs : ((strB (textL m)).toList == s.toList) = false := by rw [toList_beq, decide_eq_false hz]
      have HPe : Hid (endP s m = (zeroT, 10)) := hid (endP_no (fun h => hz (by rw [h.2, strB_bl])))
      have HT3 := HT2
      generalize strB (textL m) = z at *
      clear hr hz
      go_upto_region 18 with (first
        | (go_at_call 23; refine (HRi.out _).mono ?_; rintro e w7 ⟨rfl, HO7⟩; obtain ⟨⟨c0, c1, c2, c3, _⟩, HR⟩ := HT3.out _ HO7)
        | (go_at_call 42; refine (HTy.out _).mono ?_; rintro e w8 ⟨rfl, HO8⟩; obtain ⟨_, HR8⟩ := HT2.out _ (hid (HO7.out.trans HO8.out))))
      obtain ⟨⟨b0, b1, b2, b3, _⟩, HR⟩ := HT3.out _ (hid (HO7.out.trans HO8.out))
      have cx0 := HR.out.row.cell (i := 0) (by omega)
      have cx1 := HR.out.row.cell (i := 1) (by omega)
      have cx2 := HR.out.row.cell (i := 2) (by omega)
      have cx3 := HR.out.row.cell (i := 3) (by omega)
      have fx0 := HR.out.row.frozen 0
      have fx1 := HR.out.row.frozen 1
      have fx2 := HR.out.row.frozen 2
      have fx3 := HR.out.row.frozen 3
      have hlt2 := HR.out.row.lt
      have HQ := hid fun a b c d => tm_set HR.out.row a b c d
      clear d0 d1 d2 d3 c0 c1 c2 c3 HT2 HT3 HR8
      go_wp2_with fail
      obtain ⟨q0, q1, q2, q3⟩ := HQ.out (.int .i64 0) (.string { data := #[] }) (.string { data := #[] }) (.string { data := #[] })
      exact bodyPost_ret (v := .tuple #[tmV zeroT, .int .i64 10]) (by simp [results, Tryz.results20, go_sem, q0, q1, q2, q3, tmV, zeroT]; rfl) rfl ⟨by rw [HPe.out], HR.out.set _ _ _ _⟩
set_option maxRecDepth 100000 in
set_option maxHeartbeats 4000000 in
theorem pa_p1 {s : ByteArray} {w : World} (hs : s.size ≤ 4096) (hn : 2 ≤ s.size) (h0 : (bl s).getD 0 0 = 34) {k : Nat} (hk : endK s = (k : Int)) (hk0 : 0 < k) (hks : k < s.size) (g1 : ¬ 1 < (s.extract (k + 1) s.size).size) : RP s w ⟨3, strB (bkL (bl (s.extract 1 k))), ByteArray.empty, ByteArray.empty⟩ := by
  obtain ⟨w1, g, g2, hw1, hg, hg2, HP0⟩ := pa_start w
  have hl' : ¬ (4096 : Int) < (s.size : Int) := by omega
  have k0 : (2 : Int) ≤ (s.size : Int) := by omega
  have y0 : (0 : Int) < (s.size : Int) := by omega
  have y1 : (1 : Int) < (s.size : Int) := by omega
  have hs0 : 0 < s.size := by omega
  have hs1 : 1 < s.size := by omega
  have hsl : s.size - 1 < s.size := by omega
  have kw : IntKind.i64.wrap ((s.size : Int) - 1) = (s.size : Int) - 1 := by rw [IntKind.wrap_i64]; omega
  have kt : ((s.size : Int) - 1).toNat = s.size - 1 := by omega
  have kn : (0 : Int) ≤ (s.size : Int) - 1 := by omega
  have km : (s.size : Int) - 1 < (s.size : Int) := by omega
  have ke : (s.size : Int) - 1 ≤ (s.size : Int) := by omega
  have kf : (1 : Int) ≤ (s.size : Int) - 1 := by omega
  have x0e := bl_at hs0
  have x1e := bl_at hs1
  have xle := bl_at hsl
  obtain ⟨x0, hx0⟩ : ∃ x, s[0]'hs0 = x := ⟨_, rfl⟩
  obtain ⟨x1, hx1⟩ : ∃ x, s[1]'hs1 = x := ⟨_, rfl⟩
  obtain ⟨xl, hxl⟩ : ∃ x, s[s.size - 1]'hsl = x := ⟨_, rfl⟩
  rw [hx0] at x0e
  rw [hx1] at x1e
  rw [hxl] at xle
  rw [x0e] at h0
  have q0 : (x0.toNat : Int) = 34 := by omega
  have HEn : Hid (∀ W, Calls Tryz.prog 40 #[.string s] W fun e w' => e = .returned (.int .i64 (endK s)) ∧ StU W w') := hid fun W => refEnd_any (by omega) W
  rw [hk] at HEn
  have j0 : (0 : Int) < (k : Int) := by omega
  have j1 : (1 : Int) ≤ (k : Int) := by omega
  have j2 : (k : Int) ≤ (s.size : Int) := by omega
  have j3 : (k : Int) + 1 ≤ (s.size : Int) := by omega
  have j4 : (0 : Int) ≤ (k : Int) + 1 := by omega
  have jw : IntKind.i64.wrap ((k : Int) + 1) = (k : Int) + 1 := by rw [IntKind.wrap_i64]; omega
  have jt : ((k : Int) + 1).toNat = k + 1 := by omega
  have HBk : Hid (∀ W, Calls Tryz.prog 41 #[.string (s.extract 1 k)] W fun e w' => e = .returned (.string (strB (bkL (bl (s.extract 1 k))))) ∧ StU W w') := hid fun W => refBack_any (by have := ext_size s 1 k; omega)
  have bz : (strB (bkL (bl (s.extract 1 k)))).size ≤ 4096 := by
    have h1 := bkL_len _ (bl (s.extract 1 k)) (Nat.le_refl _)
    have h2 := ext_size s 1 k
    rw [bl_len] at h1
    rw [strB_size (bkL_bys _ _ (Nat.le_refl _) (bl_bys _))]
    omega
  have rz := ext_size s (k + 1) s.size
  obtain ⟨z, hz⟩ : ∃ z, strB (bkL (bl (s.extract 1 k))) = z := ⟨_, rfl⟩
  rw [hz] at HBk bz ⊢
  obtain ⟨r, hr⟩ : ∃ r, s.extract (k + 1) s.size = r := ⟨_, rfl⟩
  rw [hr] at rz g1
  have i0 : ¬ (1 : Int) < (r.size : Int) := by omega
  have i4 : ¬ (4 : Int) ≤ (r.size : Int) := by omega
  obtain ⟨m, hm⟩ : ∃ m : Tm, ⟨3, z, ByteArray.empty, ByteArray.empty⟩ = m := ⟨_, rfl⟩
  have hms : sizeT m ≤ 900000 := by rw [← hm]; show z.size + 0 + 0 ≤ _; omega
  rw [hm]
  have HRi : Hid (∀ W, Calls Tryz.prog 23 #[.agg #[.int .i64 m.k, .string m.x, .string m.g, .string m.y]] W fun e w' => e = .returned (.bool (rightT m)) ∧ StU W w') := hid fun W => refRight_any hms
  have HTx : Hid (rightT m = true → ∀ W, Calls Tryz.prog 42 #[.agg #[.int .i64 m.k, .string m.x, .string m.g, .string m.y]] W fun e w' => e = .returned (.string (strB (textL m))) ∧ StU W w') := hid fun hr W => refText_any' hr hms
  have HPut : Hid (∀ W, Hid (PaS w W g g2 zeroT) → Hid (PaS w ((((W.setCell ⟨g2, 0, none⟩ (.int .i64 3)).setCell ⟨g2, 1, none⟩ (.string z)).setCell ⟨g2, 2, none⟩ (.string { data := #[] })).setCell ⟨g2, 3, none⟩ (.string { data := #[] })) g g2 ⟨3, z, ByteArray.empty, ByteArray.empty⟩)) := hid fun W h => hid (h.out.put ⟨3, z, ByteArray.empty, ByteArray.empty⟩)
  have HM := hid hm
  clear hm hz bz x0e x1e xle h0 hn hk hk0 hks rz g1 hms
  go_enter Tryz.func20, Tryz.ntmps20
  go_upto_region 4 with fail
  rw [← hw1, ← hg, ← hg2]
  clear hw1 hg hg2
  go_upto_region 11 with (first
    | (go_at_call 40; refine (HEn.out _).mono ?_; rintro e w2 ⟨rfl, HO2⟩; have HP := hid (HP0.out.more HO2); clear HP0 HO2)
    | (go_at_call 41; refine (HBk.out _).mono ?_; rintro e w3 ⟨rfl, HO3⟩; have HP1 := hid (HP.out.more HO3); clear HP; have HP := HP1; clear HP1 HO3; have cx0 := HP.out.r2.cell (i := 0) (by omega); have cx1 := HP.out.r2.cell (i := 1) (by omega); have cx2 := HP.out.r2.cell (i := 2) (by omega); have cx3 := HP.out.r2.cell (i := 3) (by omega); have fx0 := HP.out.r2.frozen 0; have fx1 := HP.out.r2.frozen 1; have fx2 := HP.out.r2.frozen 2; have fx3 := HP.out.r2.frozen 3; have hlt2 := HP.out.r2.lt))
  have HPn := HPut.out _ HP
  clear HP HPut cx0 cx1 cx2 cx3 fx0 fx1 fx2 fx3 hlt2
  generalize ((((w3.setCell ⟨g2, 0, none⟩ (.int .i64 3)).setCell ⟨g2, 1, none⟩ (.string z)).setCell ⟨g2, 2, none⟩ (.string { data := #[] })).setCell ⟨g2, 3, none⟩ (.string { data := #[] })) = w5 at *
  have HP := HPn
  clear HPn
  go_upto_region 17 with fail
  rw [HM.out] at HP
  clear HM
  obtain ⟨d0, d1, d2, d3⟩ := TmAt.cells HP.out.r2
  have HT2 := hid (fun W2 o => pa_after HP.out (W2 := W2) o)
  clear HP
  cases hr : rightT m with
  | false =>
    rw [hr] at HRi
    have HPe : Hid (endP s m = (zeroT, 10)) := hid (endP_no (by rw [hr]; simp))
    clear hr HTx
    go_upto_region 18 with (go_at_call 23; refine (HRi.out _).mono ?_; rintro e w7 ⟨rfl, HO7⟩; obtain ⟨⟨c0, c1, c2, c3, _⟩, HR⟩ := HT2.out _ HO7)
    have cx0 := HR.out.row.cell (i := 0) (by omega)
    have cx1 := HR.out.row.cell (i := 1) (by omega)
    have cx2 := HR.out.row.cell (i := 2) (by omega)
    have cx3 := HR.out.row.cell (i := 3) (by omega)
    have fx0 := HR.out.row.frozen 0
    have fx1 := HR.out.row.frozen 1
    have fx2 := HR.out.row.frozen 2
    have fx3 := HR.out.row.frozen 3
    have hlt2 := HR.out.row.lt
    have HQ := hid fun a b c d => tm_set HR.out.row a b c d
    clear d0 d1 d2 d3 HT2
    go_wp2_with fail
    obtain ⟨q0, q1, q2, q3⟩ := HQ.out (.int .i64 0) (.string { data := #[] }) (.string { data := #[] }) (.string { data := #[] })
    exact bodyPost_ret (v := .tuple #[tmV zeroT, .int .i64 10]) (by simp [results, Tryz.results20, go_sem, q0, q1, q2, q3, tmV, zeroT]; rfl) rfl ⟨by rw [HPe.out], HR.out.set _ _ _ _⟩
  | true =>
    rw [hr] at HRi
    have HTy := hid (HTx.out hr)
    clear HTx
    by_cases hz : strB (textL m) = s
    · have hzs : ((strB (textL m)).toList == s.toList) = true := by rw [toList_beq, decide_eq_true hz]
      have HPe : Hid (endP s m = (m, 0)) := hid (endP_yes hr hz)
      have HT3 := HT2
      generalize strB (textL m) = z at *
      clear hr hz
      go_upto_region 19 with (first
        | (go_at_call 23; refine (HRi.out _).mono ?_; rintro e w7 ⟨rfl, HO7⟩; obtain ⟨⟨c0, c1, c2, c3, _⟩, HR⟩ := HT3.out _ HO7)
        | (go_at_call 42; refine (HTy.out _).mono ?_; rintro e w8 ⟨rfl, HO8⟩; obtain ⟨_, HR8⟩ := HT2.out _ (hid (HO7.out.trans HO8.out))))
      obtain ⟨⟨b0, b1, b2, b3, _⟩, HR⟩ := HT3.out _ (hid (HO7.out.trans HO8.out))
      have cx0 := HR.out.row.cell (i := 0) (by omega)
      have cx1 := HR.out.row.cell (i := 1) (by omega)
      have cx2 := HR.out.row.cell (i := 2) (by omega)
      have cx3 := HR.out.row.cell (i := 3) (by omega)
      have fx0 := HR.out.row.frozen 0
      have fx1 := HR.out.row.frozen 1
      have fx2 := HR.out.row.frozen 2
      have fx3 := HR.out.row.frozen 3
      have hlt2 := HR.out.row.lt
      have HQ := hid fun a b c d => tm_set HR.out.row a b c d
      clear d0 d1 d2 d3 c0 c1 c2 c3 HT2 HT3 HR8
      go_wp2_with fail
      obtain ⟨q0, q1, q2, q3⟩ := HQ.out (.int .i64 m.k) (.string m.x) (.string m.g) (.string m.y)
      exact bodyPost_ret (v := .tuple #[tmV m, .int .i64 0]) (by simp [results, Tryz.results20, go_sem, q0, q1, q2, q3, tmV]) rfl ⟨by rw [HPe.out], HR.out.set _ _ _ _⟩
    · have hzs : ((strB (textL m)).toList == s.toList) = false := by rw [toList_beq, decide_eq_false hz]
      have HPe : Hid (endP s m = (zeroT, 10)) := hid (endP_no (fun h => hz (by rw [h.2, strB_bl])))
      have HT3 := HT2
      generalize strB (textL m) = z at *
      clear hr hz
      go_upto_region 18 with (first
        | (go_at_call 23; refine (HRi.out _).mono ?_; rintro e w7 ⟨rfl, HO7⟩; obtain ⟨⟨c0, c1, c2, c3, _⟩, HR⟩ := HT3.out _ HO7)
        | (go_at_call 42; refine (HTy.out _).mono ?_; rintro e w8 ⟨rfl, HO8⟩; obtain ⟨_, HR8⟩ := HT2.out _ (hid (HO7.out.trans HO8.out))))
      obtain ⟨⟨b0, b1, b2, b3, _⟩, HR⟩ := HT3.out _ (hid (HO7.out.trans HO8.out))
      have cx0 := HR.out.row.cell (i := 0) (by omega)
      have cx1 := HR.out.row.cell (i := 1) (by omega)
      have cx2 := HR.out.row.cell (i := 2) (by omega)
      have cx3 := HR.out.row.cell (i := 3) (by omega)
      have fx0 := HR.out.row.frozen 0
      have fx1 := HR.out.row.frozen 1
      have fx2 := HR.out.row.frozen 2
      have fx3 := HR.out.row.frozen 3
      have hlt2 := HR.out.row.lt
      have HQ := hid fun a b c d => tm_set HR.out.row a b c d
      clear d0 d1 d2 d3 c0 c1 c2 c3 HT2 HT3 HR8
      go_wp2_with fail
      obtain ⟨q0, q1, q2, q3⟩ := HQ.out (.int .i64 0) (.string { data := #[] }) (.string { data := #[] }) (.string { data := #[] })
      exact bodyPost_ret (v := .tuple #[tmV zeroT, .int .i64 10]) (by simp [results, Tryz.results20, go_sem, q0, q1, q2, q3, tmV, zeroT]; rfl) rfl ⟨by rw [HPe.out], HR.out.set _ _ _ _⟩
set_option maxRecDepth 100000 in
set_option maxHeartbeats 4000000 in
theorem pa_p2 {s : ByteArray} {w : World} (hs : s.size ≤ 4096) (hn : 2 ≤ s.size) (h0 : (bl s).getD 0 0 = 34) {k : Nat} (hk : endK s = (k : Int)) (hk0 : 0 < k) (hks : k < s.size) (g1 : 1 < (s.extract (k + 1) s.size).size) (g4 : ¬ 4 ≤ (s.extract (k + 1) s.size).size) (g0 : (bl (s.extract (k + 1) s.size)).getD 0 0 ≠ 64) : RP s w ⟨3, strB (bkL (bl (s.extract 1 k))), ByteArray.empty, ByteArray.empty⟩ := by
  obtain ⟨w1, g, g2, hw1, hg, hg2, HP0⟩ := pa_start w
  have hl' : ¬ (4096 : Int) < (s.size : Int) := by omega
  have k0 : (2 : Int) ≤ (s.size : Int) := by omega
  have y0 : (0 : Int) < (s.size : Int) := by omega
  have y1 : (1 : Int) < (s.size : Int) := by omega
  have hs0 : 0 < s.size := by omega
  have hs1 : 1 < s.size := by omega
  have hsl : s.size - 1 < s.size := by omega
  have kw : IntKind.i64.wrap ((s.size : Int) - 1) = (s.size : Int) - 1 := by rw [IntKind.wrap_i64]; omega
  have kt : ((s.size : Int) - 1).toNat = s.size - 1 := by omega
  have kn : (0 : Int) ≤ (s.size : Int) - 1 := by omega
  have km : (s.size : Int) - 1 < (s.size : Int) := by omega
  have ke : (s.size : Int) - 1 ≤ (s.size : Int) := by omega
  have kf : (1 : Int) ≤ (s.size : Int) - 1 := by omega
  have x0e := bl_at hs0
  have x1e := bl_at hs1
  have xle := bl_at hsl
  obtain ⟨x0, hx0⟩ : ∃ x, s[0]'hs0 = x := ⟨_, rfl⟩
  obtain ⟨x1, hx1⟩ : ∃ x, s[1]'hs1 = x := ⟨_, rfl⟩
  obtain ⟨xl, hxl⟩ : ∃ x, s[s.size - 1]'hsl = x := ⟨_, rfl⟩
  rw [hx0] at x0e
  rw [hx1] at x1e
  rw [hxl] at xle
  rw [x0e] at h0
  have q0 : (x0.toNat : Int) = 34 := by omega
  have HEn : Hid (∀ W, Calls Tryz.prog 40 #[.string s] W fun e w' => e = .returned (.int .i64 (endK s)) ∧ StU W w') := hid fun W => refEnd_any (by omega) W
  rw [hk] at HEn
  have j0 : (0 : Int) < (k : Int) := by omega
  have j1 : (1 : Int) ≤ (k : Int) := by omega
  have j2 : (k : Int) ≤ (s.size : Int) := by omega
  have j3 : (k : Int) + 1 ≤ (s.size : Int) := by omega
  have j4 : (0 : Int) ≤ (k : Int) + 1 := by omega
  have jw : IntKind.i64.wrap ((k : Int) + 1) = (k : Int) + 1 := by rw [IntKind.wrap_i64]; omega
  have jt : ((k : Int) + 1).toNat = k + 1 := by omega
  have HBk : Hid (∀ W, Calls Tryz.prog 41 #[.string (s.extract 1 k)] W fun e w' => e = .returned (.string (strB (bkL (bl (s.extract 1 k))))) ∧ StU W w') := hid fun W => refBack_any (by have := ext_size s 1 k; omega)
  have bz : (strB (bkL (bl (s.extract 1 k)))).size ≤ 4096 := by
    have h1 := bkL_len _ (bl (s.extract 1 k)) (Nat.le_refl _)
    have h2 := ext_size s 1 k
    rw [bl_len] at h1
    rw [strB_size (bkL_bys _ _ (Nat.le_refl _) (bl_bys _))]
    omega
  have rz := ext_size s (k + 1) s.size
  obtain ⟨z, hz⟩ : ∃ z, strB (bkL (bl (s.extract 1 k))) = z := ⟨_, rfl⟩
  rw [hz] at HBk bz ⊢
  obtain ⟨r, hr⟩ : ∃ r, s.extract (k + 1) s.size = r := ⟨_, rfl⟩
  rw [hr] at rz g1 g4 g0
  have i0 : (1 : Int) < (r.size : Int) := by omega
  have i1 : (0 : Int) < (r.size : Int) := by omega
  have hr0 : 0 < r.size := by omega
  have r0e := bl_at hr0
  obtain ⟨y0, hy0⟩ : ∃ x, r[0]'hr0 = x := ⟨_, rfl⟩
  rw [hy0] at r0e
  rw [r0e] at g0
  have p0 : ((y0.toNat : Int) == 64) = false := by rw [beq_eq_false_iff_ne]; omega
  have i4 : ¬ (4 : Int) ≤ (r.size : Int) := by omega
  obtain ⟨m, hm⟩ : ∃ m : Tm, ⟨3, z, ByteArray.empty, ByteArray.empty⟩ = m := ⟨_, rfl⟩
  have hms : sizeT m ≤ 900000 := by rw [← hm]; show z.size + 0 + 0 ≤ _; omega
  rw [hm]
  have HRi : Hid (∀ W, Calls Tryz.prog 23 #[.agg #[.int .i64 m.k, .string m.x, .string m.g, .string m.y]] W fun e w' => e = .returned (.bool (rightT m)) ∧ StU W w') := hid fun W => refRight_any hms
  have HTx : Hid (rightT m = true → ∀ W, Calls Tryz.prog 42 #[.agg #[.int .i64 m.k, .string m.x, .string m.g, .string m.y]] W fun e w' => e = .returned (.string (strB (textL m))) ∧ StU W w') := hid fun hr W => refText_any' hr hms
  have HPut : Hid (∀ W, Hid (PaS w W g g2 zeroT) → Hid (PaS w ((((W.setCell ⟨g2, 0, none⟩ (.int .i64 3)).setCell ⟨g2, 1, none⟩ (.string z)).setCell ⟨g2, 2, none⟩ (.string { data := #[] })).setCell ⟨g2, 3, none⟩ (.string { data := #[] })) g g2 ⟨3, z, ByteArray.empty, ByteArray.empty⟩)) := hid fun W h => hid (h.out.put ⟨3, z, ByteArray.empty, ByteArray.empty⟩)
  have HM := hid hm
  clear hm hz bz x0e x1e xle h0 hn hk hk0 hks rz g1 g4 g0 r0e hms
  go_enter Tryz.func20, Tryz.ntmps20
  go_upto_region 4 with fail
  rw [← hw1, ← hg, ← hg2]
  clear hw1 hg hg2
  go_upto_region 11 with (first
    | (go_at_call 40; refine (HEn.out _).mono ?_; rintro e w2 ⟨rfl, HO2⟩; have HP := hid (HP0.out.more HO2); clear HP0 HO2)
    | (go_at_call 41; refine (HBk.out _).mono ?_; rintro e w3 ⟨rfl, HO3⟩; have HP1 := hid (HP.out.more HO3); clear HP; have HP := HP1; clear HP1 HO3; have cx0 := HP.out.r2.cell (i := 0) (by omega); have cx1 := HP.out.r2.cell (i := 1) (by omega); have cx2 := HP.out.r2.cell (i := 2) (by omega); have cx3 := HP.out.r2.cell (i := 3) (by omega); have fx0 := HP.out.r2.frozen 0; have fx1 := HP.out.r2.frozen 1; have fx2 := HP.out.r2.frozen 2; have fx3 := HP.out.r2.frozen 3; have hlt2 := HP.out.r2.lt))
  have HPn := HPut.out _ HP
  clear HP HPut cx0 cx1 cx2 cx3 fx0 fx1 fx2 fx3 hlt2
  generalize ((((w3.setCell ⟨g2, 0, none⟩ (.int .i64 3)).setCell ⟨g2, 1, none⟩ (.string z)).setCell ⟨g2, 2, none⟩ (.string { data := #[] })).setCell ⟨g2, 3, none⟩ (.string { data := #[] })) = w5 at *
  have HP := HPn
  clear HPn
  go_upto_region 17 with fail
  rw [HM.out] at HP
  clear HM
  obtain ⟨d0, d1, d2, d3⟩ := TmAt.cells HP.out.r2
  have HT2 := hid (fun W2 o => pa_after HP.out (W2 := W2) o)
  clear HP
  cases hr : rightT m with
  | false =>
    rw [hr] at HRi
    have HPe : Hid (endP s m = (zeroT, 10)) := hid (endP_no (by rw [hr]; simp))
    clear hr HTx
    go_upto_region 18 with (go_at_call 23; refine (HRi.out _).mono ?_; rintro e w7 ⟨rfl, HO7⟩; obtain ⟨⟨c0, c1, c2, c3, _⟩, HR⟩ := HT2.out _ HO7)
    have cx0 := HR.out.row.cell (i := 0) (by omega)
    have cx1 := HR.out.row.cell (i := 1) (by omega)
    have cx2 := HR.out.row.cell (i := 2) (by omega)
    have cx3 := HR.out.row.cell (i := 3) (by omega)
    have fx0 := HR.out.row.frozen 0
    have fx1 := HR.out.row.frozen 1
    have fx2 := HR.out.row.frozen 2
    have fx3 := HR.out.row.frozen 3
    have hlt2 := HR.out.row.lt
    have HQ := hid fun a b c d => tm_set HR.out.row a b c d
    clear d0 d1 d2 d3 HT2
    go_wp2_with fail
    obtain ⟨q0, q1, q2, q3⟩ := HQ.out (.int .i64 0) (.string { data := #[] }) (.string { data := #[] }) (.string { data := #[] })
    exact bodyPost_ret (v := .tuple #[tmV zeroT, .int .i64 10]) (by simp [results, Tryz.results20, go_sem, q0, q1, q2, q3, tmV, zeroT]; rfl) rfl ⟨by rw [HPe.out], HR.out.set _ _ _ _⟩
  | true =>
    rw [hr] at HRi
    have HTy := hid (HTx.out hr)
    clear HTx
    by_cases hz : strB (textL m) = s
    · have hzs : ((strB (textL m)).toList == s.toList) = true := by rw [toList_beq, decide_eq_true hz]
      have HPe : Hid (endP s m = (m, 0)) := hid (endP_yes hr hz)
      have HT3 := HT2
      generalize strB (textL m) = z at *
      clear hr hz
      go_upto_region 19 with (first
        | (go_at_call 23; refine (HRi.out _).mono ?_; rintro e w7 ⟨rfl, HO7⟩; obtain ⟨⟨c0, c1, c2, c3, _⟩, HR⟩ := HT3.out _ HO7)
        | (go_at_call 42; refine (HTy.out _).mono ?_; rintro e w8 ⟨rfl, HO8⟩; obtain ⟨_, HR8⟩ := HT2.out _ (hid (HO7.out.trans HO8.out))))
      obtain ⟨⟨b0, b1, b2, b3, _⟩, HR⟩ := HT3.out _ (hid (HO7.out.trans HO8.out))
      have cx0 := HR.out.row.cell (i := 0) (by omega)
      have cx1 := HR.out.row.cell (i := 1) (by omega)
      have cx2 := HR.out.row.cell (i := 2) (by omega)
      have cx3 := HR.out.row.cell (i := 3) (by omega)
      have fx0 := HR.out.row.frozen 0
      have fx1 := HR.out.row.frozen 1
      have fx2 := HR.out.row.frozen 2
      have fx3 := HR.out.row.frozen 3
      have hlt2 := HR.out.row.lt
      have HQ := hid fun a b c d => tm_set HR.out.row a b c d
      clear d0 d1 d2 d3 c0 c1 c2 c3 HT2 HT3 HR8
      go_wp2_with fail
      obtain ⟨q0, q1, q2, q3⟩ := HQ.out (.int .i64 m.k) (.string m.x) (.string m.g) (.string m.y)
      exact bodyPost_ret (v := .tuple #[tmV m, .int .i64 0]) (by simp [results, Tryz.results20, go_sem, q0, q1, q2, q3, tmV]) rfl ⟨by rw [HPe.out], HR.out.set _ _ _ _⟩
    · have hzs : ((strB (textL m)).toList == s.toList) = false := by rw [toList_beq, decide_eq_false hz]
      have HPe : Hid (endP s m = (zeroT, 10)) := hid (endP_no (fun h => hz (by rw [h.2, strB_bl])))
      have HT3 := HT2
      generalize strB (textL m) = z at *
      clear hr hz
      go_upto_region 18 with (first
        | (go_at_call 23; refine (HRi.out _).mono ?_; rintro e w7 ⟨rfl, HO7⟩; obtain ⟨⟨c0, c1, c2, c3, _⟩, HR⟩ := HT3.out _ HO7)
        | (go_at_call 42; refine (HTy.out _).mono ?_; rintro e w8 ⟨rfl, HO8⟩; obtain ⟨_, HR8⟩ := HT2.out _ (hid (HO7.out.trans HO8.out))))
      obtain ⟨⟨b0, b1, b2, b3, _⟩, HR⟩ := HT3.out _ (hid (HO7.out.trans HO8.out))
      have cx0 := HR.out.row.cell (i := 0) (by omega)
      have cx1 := HR.out.row.cell (i := 1) (by omega)
      have cx2 := HR.out.row.cell (i := 2) (by omega)
      have cx3 := HR.out.row.cell (i := 3) (by omega)
      have fx0 := HR.out.row.frozen 0
      have fx1 := HR.out.row.frozen 1
      have fx2 := HR.out.row.frozen 2
      have fx3 := HR.out.row.frozen 3
      have hlt2 := HR.out.row.lt
      have HQ := hid fun a b c d => tm_set HR.out.row a b c d
      clear d0 d1 d2 d3 c0 c1 c2 c3 HT2 HT3 HR8
      go_wp2_with fail
      obtain ⟨q0, q1, q2, q3⟩ := HQ.out (.int .i64 0) (.string { data := #[] }) (.string { data := #[] }) (.string { data := #[] })
      exact bodyPost_ret (v := .tuple #[tmV zeroT, .int .i64 10]) (by simp [results, Tryz.results20, go_sem, q0, q1, q2, q3, tmV, zeroT]; rfl) rfl ⟨by rw [HPe.out], HR.out.set _ _ _ _⟩
set_option maxRecDepth 100000 in
set_option maxHeartbeats 4000000 in
theorem pa_p3 {s : ByteArray} {w : World} (hs : s.size ≤ 4096) (hn : 2 ≤ s.size) (h0 : (bl s).getD 0 0 = 34) {k : Nat} (hk : endK s = (k : Int)) (hk0 : 0 < k) (hks : k < s.size) (g4 : 4 ≤ (s.extract (k + 1) s.size).size) (g0 : (bl (s.extract (k + 1) s.size)).getD 0 0 ≠ 64) (h3 : ¬ (s.extract (k + 1) s.size).extract 0 3 = { data := #[94, 94, 60] }) : RP s w ⟨3, strB (bkL (bl (s.extract 1 k))), ByteArray.empty, ByteArray.empty⟩ := by
  obtain ⟨w1, g, g2, hw1, hg, hg2, HP0⟩ := pa_start w
  have hl' : ¬ (4096 : Int) < (s.size : Int) := by omega
  have k0 : (2 : Int) ≤ (s.size : Int) := by omega
  have y0 : (0 : Int) < (s.size : Int) := by omega
  have y1 : (1 : Int) < (s.size : Int) := by omega
  have hs0 : 0 < s.size := by omega
  have hs1 : 1 < s.size := by omega
  have hsl : s.size - 1 < s.size := by omega
  have kw : IntKind.i64.wrap ((s.size : Int) - 1) = (s.size : Int) - 1 := by rw [IntKind.wrap_i64]; omega
  have kt : ((s.size : Int) - 1).toNat = s.size - 1 := by omega
  have kn : (0 : Int) ≤ (s.size : Int) - 1 := by omega
  have km : (s.size : Int) - 1 < (s.size : Int) := by omega
  have ke : (s.size : Int) - 1 ≤ (s.size : Int) := by omega
  have kf : (1 : Int) ≤ (s.size : Int) - 1 := by omega
  have x0e := bl_at hs0
  have x1e := bl_at hs1
  have xle := bl_at hsl
  obtain ⟨x0, hx0⟩ : ∃ x, s[0]'hs0 = x := ⟨_, rfl⟩
  obtain ⟨x1, hx1⟩ : ∃ x, s[1]'hs1 = x := ⟨_, rfl⟩
  obtain ⟨xl, hxl⟩ : ∃ x, s[s.size - 1]'hsl = x := ⟨_, rfl⟩
  rw [hx0] at x0e
  rw [hx1] at x1e
  rw [hxl] at xle
  rw [x0e] at h0
  have q0 : (x0.toNat : Int) = 34 := by omega
  have HEn : Hid (∀ W, Calls Tryz.prog 40 #[.string s] W fun e w' => e = .returned (.int .i64 (endK s)) ∧ StU W w') := hid fun W => refEnd_any (by omega) W
  rw [hk] at HEn
  have j0 : (0 : Int) < (k : Int) := by omega
  have j1 : (1 : Int) ≤ (k : Int) := by omega
  have j2 : (k : Int) ≤ (s.size : Int) := by omega
  have j3 : (k : Int) + 1 ≤ (s.size : Int) := by omega
  have j4 : (0 : Int) ≤ (k : Int) + 1 := by omega
  have jw : IntKind.i64.wrap ((k : Int) + 1) = (k : Int) + 1 := by rw [IntKind.wrap_i64]; omega
  have jt : ((k : Int) + 1).toNat = k + 1 := by omega
  have HBk : Hid (∀ W, Calls Tryz.prog 41 #[.string (s.extract 1 k)] W fun e w' => e = .returned (.string (strB (bkL (bl (s.extract 1 k))))) ∧ StU W w') := hid fun W => refBack_any (by have := ext_size s 1 k; omega)
  have bz : (strB (bkL (bl (s.extract 1 k)))).size ≤ 4096 := by
    have h1 := bkL_len _ (bl (s.extract 1 k)) (Nat.le_refl _)
    have h2 := ext_size s 1 k
    rw [bl_len] at h1
    rw [strB_size (bkL_bys _ _ (Nat.le_refl _) (bl_bys _))]
    omega
  have rz := ext_size s (k + 1) s.size
  obtain ⟨z, hz⟩ : ∃ z, strB (bkL (bl (s.extract 1 k))) = z := ⟨_, rfl⟩
  rw [hz] at HBk bz ⊢
  obtain ⟨r, hr⟩ : ∃ r, s.extract (k + 1) s.size = r := ⟨_, rfl⟩
  rw [hr] at rz g4 g0 h3
  have i0 : (1 : Int) < (r.size : Int) := by omega
  have i1 : (0 : Int) < (r.size : Int) := by omega
  have hr0 : 0 < r.size := by omega
  have r0e := bl_at hr0
  obtain ⟨y0, hy0⟩ : ∃ x, r[0]'hr0 = x := ⟨_, rfl⟩
  rw [hy0] at r0e
  have i4 : (4 : Int) ≤ (r.size : Int) := by omega
  have hrl : r.size - 1 < r.size := by omega
  have i5 : IntKind.i64.wrap ((r.size : Int) - 1) = (r.size : Int) - 1 := by rw [IntKind.wrap_i64]; omega
  have i6 : ((r.size : Int) - 1).toNat = r.size - 1 := by omega
  have i7 : (0 : Int) ≤ (r.size : Int) - 1 := by omega
  have i8 : (r.size : Int) - 1 < (r.size : Int) := by omega
  have i9 : (3 : Int) ≤ (r.size : Int) := by omega
  have iA : (r.size : Int) - 1 ≤ (r.size : Int) := by omega
  have iB : (3 : Int) ≤ (r.size : Int) - 1 := by omega
  have rle := bl_at hrl
  obtain ⟨yl, hyl⟩ : ∃ x, r[r.size - 1]'hrl = x := ⟨_, rfl⟩
  rw [hyl] at rle
  rw [r0e] at g0
  have p0 : ((y0.toNat : Int) == 64) = false := by rw [beq_eq_false_iff_ne]; omega
  have hq3 : ((r.extract 0 3).toList == [94, 94, 60]) = false := by
    have e : ({ data := #[94, 94, 60] } : ByteArray).toList = [94, 94, 60] := by rw [ByteArray.toList_eq]
    rw [← e, toList_beq]
    exact decide_eq_false h3
  obtain ⟨m, hm⟩ : ∃ m : Tm, ⟨3, z, ByteArray.empty, ByteArray.empty⟩ = m := ⟨_, rfl⟩
  have hms : sizeT m ≤ 900000 := by rw [← hm]; show z.size + 0 + 0 ≤ _; omega
  rw [hm]
  have HRi : Hid (∀ W, Calls Tryz.prog 23 #[.agg #[.int .i64 m.k, .string m.x, .string m.g, .string m.y]] W fun e w' => e = .returned (.bool (rightT m)) ∧ StU W w') := hid fun W => refRight_any hms
  have HTx : Hid (rightT m = true → ∀ W, Calls Tryz.prog 42 #[.agg #[.int .i64 m.k, .string m.x, .string m.g, .string m.y]] W fun e w' => e = .returned (.string (strB (textL m))) ∧ StU W w') := hid fun hr W => refText_any' hr hms
  have HPut : Hid (∀ W, Hid (PaS w W g g2 zeroT) → Hid (PaS w ((((W.setCell ⟨g2, 0, none⟩ (.int .i64 3)).setCell ⟨g2, 1, none⟩ (.string z)).setCell ⟨g2, 2, none⟩ (.string { data := #[] })).setCell ⟨g2, 3, none⟩ (.string { data := #[] })) g g2 ⟨3, z, ByteArray.empty, ByteArray.empty⟩)) := hid fun W h => hid (h.out.put ⟨3, z, ByteArray.empty, ByteArray.empty⟩)
  have HM := hid hm
  clear hm hz bz x0e x1e xle h0 hn hk hk0 hks rz g4 g0 h3 r0e rle hms
  go_enter Tryz.func20, Tryz.ntmps20
  go_upto_region 4 with fail
  rw [← hw1, ← hg, ← hg2]
  clear hw1 hg hg2
  go_upto_region 11 with (first
    | (go_at_call 40; refine (HEn.out _).mono ?_; rintro e w2 ⟨rfl, HO2⟩; have HP := hid (HP0.out.more HO2); clear HP0 HO2)
    | (go_at_call 41; refine (HBk.out _).mono ?_; rintro e w3 ⟨rfl, HO3⟩; have HP1 := hid (HP.out.more HO3); clear HP; have HP := HP1; clear HP1 HO3; have cx0 := HP.out.r2.cell (i := 0) (by omega); have cx1 := HP.out.r2.cell (i := 1) (by omega); have cx2 := HP.out.r2.cell (i := 2) (by omega); have cx3 := HP.out.r2.cell (i := 3) (by omega); have fx0 := HP.out.r2.frozen 0; have fx1 := HP.out.r2.frozen 1; have fx2 := HP.out.r2.frozen 2; have fx3 := HP.out.r2.frozen 3; have hlt2 := HP.out.r2.lt))
  have HPn := HPut.out _ HP
  clear HP HPut cx0 cx1 cx2 cx3 fx0 fx1 fx2 fx3 hlt2
  generalize ((((w3.setCell ⟨g2, 0, none⟩ (.int .i64 3)).setCell ⟨g2, 1, none⟩ (.string z)).setCell ⟨g2, 2, none⟩ (.string { data := #[] })).setCell ⟨g2, 3, none⟩ (.string { data := #[] })) = w5 at *
  have HP := HPn
  clear HPn
  go_upto_region 17 with fail
  rw [HM.out] at HP
  clear HM
  obtain ⟨d0, d1, d2, d3⟩ := TmAt.cells HP.out.r2
  have HT2 := hid (fun W2 o => pa_after HP.out (W2 := W2) o)
  clear HP
  cases hr : rightT m with
  | false =>
    rw [hr] at HRi
    have HPe : Hid (endP s m = (zeroT, 10)) := hid (endP_no (by rw [hr]; simp))
    clear hr HTx
    go_upto_region 18 with (go_at_call 23; refine (HRi.out _).mono ?_; rintro e w7 ⟨rfl, HO7⟩; obtain ⟨⟨c0, c1, c2, c3, _⟩, HR⟩ := HT2.out _ HO7)
    have cx0 := HR.out.row.cell (i := 0) (by omega)
    have cx1 := HR.out.row.cell (i := 1) (by omega)
    have cx2 := HR.out.row.cell (i := 2) (by omega)
    have cx3 := HR.out.row.cell (i := 3) (by omega)
    have fx0 := HR.out.row.frozen 0
    have fx1 := HR.out.row.frozen 1
    have fx2 := HR.out.row.frozen 2
    have fx3 := HR.out.row.frozen 3
    have hlt2 := HR.out.row.lt
    have HQ := hid fun a b c d => tm_set HR.out.row a b c d
    clear d0 d1 d2 d3 HT2
    go_wp2_with fail
    obtain ⟨q0, q1, q2, q3⟩ := HQ.out (.int .i64 0) (.string { data := #[] }) (.string { data := #[] }) (.string { data := #[] })
    exact bodyPost_ret (v := .tuple #[tmV zeroT, .int .i64 10]) (by simp [results, Tryz.results20, go_sem, q0, q1, q2, q3, tmV, zeroT]; rfl) rfl ⟨by rw [HPe.out], HR.out.set _ _ _ _⟩
  | true =>
    rw [hr] at HRi
    have HTy := hid (HTx.out hr)
    clear HTx
    by_cases hz : strB (textL m) = s
    · have hzs : ((strB (textL m)).toList == s.toList) = true := by rw [toList_beq, decide_eq_true hz]
      have HPe : Hid (endP s m = (m, 0)) := hid (endP_yes hr hz)
      have HT3 := HT2
      generalize strB (textL m) = z at *
      clear hr hz
      go_upto_region 19 with (first
        | (go_at_call 23; refine (HRi.out _).mono ?_; rintro e w7 ⟨rfl, HO7⟩; obtain ⟨⟨c0, c1, c2, c3, _⟩, HR⟩ := HT3.out _ HO7)
        | (go_at_call 42; refine (HTy.out _).mono ?_; rintro e w8 ⟨rfl, HO8⟩; obtain ⟨_, HR8⟩ := HT2.out _ (hid (HO7.out.trans HO8.out))))
      obtain ⟨⟨b0, b1, b2, b3, _⟩, HR⟩ := HT3.out _ (hid (HO7.out.trans HO8.out))
      have cx0 := HR.out.row.cell (i := 0) (by omega)
      have cx1 := HR.out.row.cell (i := 1) (by omega)
      have cx2 := HR.out.row.cell (i := 2) (by omega)
      have cx3 := HR.out.row.cell (i := 3) (by omega)
      have fx0 := HR.out.row.frozen 0
      have fx1 := HR.out.row.frozen 1
      have fx2 := HR.out.row.frozen 2
      have fx3 := HR.out.row.frozen 3
      have hlt2 := HR.out.row.lt
      have HQ := hid fun a b c d => tm_set HR.out.row a b c d
      clear d0 d1 d2 d3 c0 c1 c2 c3 HT2 HT3 HR8
      go_wp2_with fail
      obtain ⟨q0, q1, q2, q3⟩ := HQ.out (.int .i64 m.k) (.string m.x) (.string m.g) (.string m.y)
      exact bodyPost_ret (v := .tuple #[tmV m, .int .i64 0]) (by simp [results, Tryz.results20, go_sem, q0, q1, q2, q3, tmV]) rfl ⟨by rw [HPe.out], HR.out.set _ _ _ _⟩
    · have hzs : ((strB (textL m)).toList == s.toList) = false := by rw [toList_beq, decide_eq_false hz]
      have HPe : Hid (endP s m = (zeroT, 10)) := hid (endP_no (fun h => hz (by rw [h.2, strB_bl])))
      have HT3 := HT2
      generalize strB (textL m) = z at *
      clear hr hz
      go_upto_region 18 with (first
        | (go_at_call 23; refine (HRi.out _).mono ?_; rintro e w7 ⟨rfl, HO7⟩; obtain ⟨⟨c0, c1, c2, c3, _⟩, HR⟩ := HT3.out _ HO7)
        | (go_at_call 42; refine (HTy.out _).mono ?_; rintro e w8 ⟨rfl, HO8⟩; obtain ⟨_, HR8⟩ := HT2.out _ (hid (HO7.out.trans HO8.out))))
      obtain ⟨⟨b0, b1, b2, b3, _⟩, HR⟩ := HT3.out _ (hid (HO7.out.trans HO8.out))
      have cx0 := HR.out.row.cell (i := 0) (by omega)
      have cx1 := HR.out.row.cell (i := 1) (by omega)
      have cx2 := HR.out.row.cell (i := 2) (by omega)
      have cx3 := HR.out.row.cell (i := 3) (by omega)
      have fx0 := HR.out.row.frozen 0
      have fx1 := HR.out.row.frozen 1
      have fx2 := HR.out.row.frozen 2
      have fx3 := HR.out.row.frozen 3
      have hlt2 := HR.out.row.lt
      have HQ := hid fun a b c d => tm_set HR.out.row a b c d
      clear d0 d1 d2 d3 c0 c1 c2 c3 HT2 HT3 HR8
      go_wp2_with fail
      obtain ⟨q0, q1, q2, q3⟩ := HQ.out (.int .i64 0) (.string { data := #[] }) (.string { data := #[] }) (.string { data := #[] })
      exact bodyPost_ret (v := .tuple #[tmV zeroT, .int .i64 10]) (by simp [results, Tryz.results20, go_sem, q0, q1, q2, q3, tmV, zeroT]; rfl) rfl ⟨by rw [HPe.out], HR.out.set _ _ _ _⟩
set_option maxRecDepth 100000 in
set_option maxHeartbeats 4000000 in
theorem pa_p4 {s : ByteArray} {w : World} (hs : s.size ≤ 4096) (hn : 2 ≤ s.size) (h0 : (bl s).getD 0 0 = 34) {k : Nat} (hk : endK s = (k : Int)) (hk0 : 0 < k) (hks : k < s.size) (g4 : 4 ≤ (s.extract (k + 1) s.size).size) (g0 : (bl (s.extract (k + 1) s.size)).getD 0 0 ≠ 64) (h3 : (s.extract (k + 1) s.size).extract 0 3 = { data := #[94, 94, 60] }) (gl : (bl (s.extract (k + 1) s.size)).getD ((s.extract (k + 1) s.size).size - 1) 0 ≠ 62) : RP s w ⟨3, strB (bkL (bl (s.extract 1 k))), ByteArray.empty, ByteArray.empty⟩ := by
  obtain ⟨w1, g, g2, hw1, hg, hg2, HP0⟩ := pa_start w
  have hl' : ¬ (4096 : Int) < (s.size : Int) := by omega
  have k0 : (2 : Int) ≤ (s.size : Int) := by omega
  have y0 : (0 : Int) < (s.size : Int) := by omega
  have y1 : (1 : Int) < (s.size : Int) := by omega
  have hs0 : 0 < s.size := by omega
  have hs1 : 1 < s.size := by omega
  have hsl : s.size - 1 < s.size := by omega
  have kw : IntKind.i64.wrap ((s.size : Int) - 1) = (s.size : Int) - 1 := by rw [IntKind.wrap_i64]; omega
  have kt : ((s.size : Int) - 1).toNat = s.size - 1 := by omega
  have kn : (0 : Int) ≤ (s.size : Int) - 1 := by omega
  have km : (s.size : Int) - 1 < (s.size : Int) := by omega
  have ke : (s.size : Int) - 1 ≤ (s.size : Int) := by omega
  have kf : (1 : Int) ≤ (s.size : Int) - 1 := by omega
  have x0e := bl_at hs0
  have x1e := bl_at hs1
  have xle := bl_at hsl
  obtain ⟨x0, hx0⟩ : ∃ x, s[0]'hs0 = x := ⟨_, rfl⟩
  obtain ⟨x1, hx1⟩ : ∃ x, s[1]'hs1 = x := ⟨_, rfl⟩
  obtain ⟨xl, hxl⟩ : ∃ x, s[s.size - 1]'hsl = x := ⟨_, rfl⟩
  rw [hx0] at x0e
  rw [hx1] at x1e
  rw [hxl] at xle
  rw [x0e] at h0
  have q0 : (x0.toNat : Int) = 34 := by omega
  have HEn : Hid (∀ W, Calls Tryz.prog 40 #[.string s] W fun e w' => e = .returned (.int .i64 (endK s)) ∧ StU W w') := hid fun W => refEnd_any (by omega) W
  rw [hk] at HEn
  have j0 : (0 : Int) < (k : Int) := by omega
  have j1 : (1 : Int) ≤ (k : Int) := by omega
  have j2 : (k : Int) ≤ (s.size : Int) := by omega
  have j3 : (k : Int) + 1 ≤ (s.size : Int) := by omega
  have j4 : (0 : Int) ≤ (k : Int) + 1 := by omega
  have jw : IntKind.i64.wrap ((k : Int) + 1) = (k : Int) + 1 := by rw [IntKind.wrap_i64]; omega
  have jt : ((k : Int) + 1).toNat = k + 1 := by omega
  have HBk : Hid (∀ W, Calls Tryz.prog 41 #[.string (s.extract 1 k)] W fun e w' => e = .returned (.string (strB (bkL (bl (s.extract 1 k))))) ∧ StU W w') := hid fun W => refBack_any (by have := ext_size s 1 k; omega)
  have bz : (strB (bkL (bl (s.extract 1 k)))).size ≤ 4096 := by
    have h1 := bkL_len _ (bl (s.extract 1 k)) (Nat.le_refl _)
    have h2 := ext_size s 1 k
    rw [bl_len] at h1
    rw [strB_size (bkL_bys _ _ (Nat.le_refl _) (bl_bys _))]
    omega
  have rz := ext_size s (k + 1) s.size
  obtain ⟨z, hz⟩ : ∃ z, strB (bkL (bl (s.extract 1 k))) = z := ⟨_, rfl⟩
  rw [hz] at HBk bz ⊢
  obtain ⟨r, hr⟩ : ∃ r, s.extract (k + 1) s.size = r := ⟨_, rfl⟩
  rw [hr] at rz g4 g0 h3 gl
  have i0 : (1 : Int) < (r.size : Int) := by omega
  have i1 : (0 : Int) < (r.size : Int) := by omega
  have hr0 : 0 < r.size := by omega
  have r0e := bl_at hr0
  obtain ⟨y0, hy0⟩ : ∃ x, r[0]'hr0 = x := ⟨_, rfl⟩
  rw [hy0] at r0e
  have i4 : (4 : Int) ≤ (r.size : Int) := by omega
  have hrl : r.size - 1 < r.size := by omega
  have i5 : IntKind.i64.wrap ((r.size : Int) - 1) = (r.size : Int) - 1 := by rw [IntKind.wrap_i64]; omega
  have i6 : ((r.size : Int) - 1).toNat = r.size - 1 := by omega
  have i7 : (0 : Int) ≤ (r.size : Int) - 1 := by omega
  have i8 : (r.size : Int) - 1 < (r.size : Int) := by omega
  have i9 : (3 : Int) ≤ (r.size : Int) := by omega
  have iA : (r.size : Int) - 1 ≤ (r.size : Int) := by omega
  have iB : (3 : Int) ≤ (r.size : Int) - 1 := by omega
  have rle := bl_at hrl
  obtain ⟨yl, hyl⟩ : ∃ x, r[r.size - 1]'hrl = x := ⟨_, rfl⟩
  rw [hyl] at rle
  rw [r0e] at g0
  rw [rle] at gl
  have p0 : ((y0.toNat : Int) == 64) = false := by rw [beq_eq_false_iff_ne]; omega
  have pl : ((yl.toNat : Int) == 62) = false := by rw [beq_eq_false_iff_ne]; omega
  have hq3 : ((r.extract 0 3).toList == [94, 94, 60]) = true := by
    have e : ({ data := #[94, 94, 60] } : ByteArray).toList = [94, 94, 60] := by rw [ByteArray.toList_eq]
    rw [← e, toList_beq]
    exact decide_eq_true h3
  obtain ⟨m, hm⟩ : ∃ m : Tm, ⟨3, z, ByteArray.empty, ByteArray.empty⟩ = m := ⟨_, rfl⟩
  have hms : sizeT m ≤ 900000 := by rw [← hm]; show z.size + 0 + 0 ≤ _; omega
  rw [hm]
  have HRi : Hid (∀ W, Calls Tryz.prog 23 #[.agg #[.int .i64 m.k, .string m.x, .string m.g, .string m.y]] W fun e w' => e = .returned (.bool (rightT m)) ∧ StU W w') := hid fun W => refRight_any hms
  have HTx : Hid (rightT m = true → ∀ W, Calls Tryz.prog 42 #[.agg #[.int .i64 m.k, .string m.x, .string m.g, .string m.y]] W fun e w' => e = .returned (.string (strB (textL m))) ∧ StU W w') := hid fun hr W => refText_any' hr hms
  have HPut : Hid (∀ W, Hid (PaS w W g g2 zeroT) → Hid (PaS w ((((W.setCell ⟨g2, 0, none⟩ (.int .i64 3)).setCell ⟨g2, 1, none⟩ (.string z)).setCell ⟨g2, 2, none⟩ (.string { data := #[] })).setCell ⟨g2, 3, none⟩ (.string { data := #[] })) g g2 ⟨3, z, ByteArray.empty, ByteArray.empty⟩)) := hid fun W h => hid (h.out.put ⟨3, z, ByteArray.empty, ByteArray.empty⟩)
  have HM := hid hm
  clear hm hz bz x0e x1e xle h0 hn hk hk0 hks rz g4 g0 h3 gl r0e rle hms
  go_enter Tryz.func20, Tryz.ntmps20
  go_upto_region 4 with fail
  rw [← hw1, ← hg, ← hg2]
  clear hw1 hg hg2
  go_upto_region 11 with (first
    | (go_at_call 40; refine (HEn.out _).mono ?_; rintro e w2 ⟨rfl, HO2⟩; have HP := hid (HP0.out.more HO2); clear HP0 HO2)
    | (go_at_call 41; refine (HBk.out _).mono ?_; rintro e w3 ⟨rfl, HO3⟩; have HP1 := hid (HP.out.more HO3); clear HP; have HP := HP1; clear HP1 HO3; have cx0 := HP.out.r2.cell (i := 0) (by omega); have cx1 := HP.out.r2.cell (i := 1) (by omega); have cx2 := HP.out.r2.cell (i := 2) (by omega); have cx3 := HP.out.r2.cell (i := 3) (by omega); have fx0 := HP.out.r2.frozen 0; have fx1 := HP.out.r2.frozen 1; have fx2 := HP.out.r2.frozen 2; have fx3 := HP.out.r2.frozen 3; have hlt2 := HP.out.r2.lt))
  have HPn := HPut.out _ HP
  clear HP HPut cx0 cx1 cx2 cx3 fx0 fx1 fx2 fx3 hlt2
  generalize ((((w3.setCell ⟨g2, 0, none⟩ (.int .i64 3)).setCell ⟨g2, 1, none⟩ (.string z)).setCell ⟨g2, 2, none⟩ (.string { data := #[] })).setCell ⟨g2, 3, none⟩ (.string { data := #[] })) = w5 at *
  have HP := HPn
  clear HPn
  go_upto_region 17 with fail
  rw [HM.out] at HP
  clear HM
  obtain ⟨d0, d1, d2, d3⟩ := TmAt.cells HP.out.r2
  have HT2 := hid (fun W2 o => pa_after HP.out (W2 := W2) o)
  clear HP
  cases hr : rightT m with
  | false =>
    rw [hr] at HRi
    have HPe : Hid (endP s m = (zeroT, 10)) := hid (endP_no (by rw [hr]; simp))
    clear hr HTx
    go_upto_region 18 with (go_at_call 23; refine (HRi.out _).mono ?_; rintro e w7 ⟨rfl, HO7⟩; obtain ⟨⟨c0, c1, c2, c3, _⟩, HR⟩ := HT2.out _ HO7)
    have cx0 := HR.out.row.cell (i := 0) (by omega)
    have cx1 := HR.out.row.cell (i := 1) (by omega)
    have cx2 := HR.out.row.cell (i := 2) (by omega)
    have cx3 := HR.out.row.cell (i := 3) (by omega)
    have fx0 := HR.out.row.frozen 0
    have fx1 := HR.out.row.frozen 1
    have fx2 := HR.out.row.frozen 2
    have fx3 := HR.out.row.frozen 3
    have hlt2 := HR.out.row.lt
    have HQ := hid fun a b c d => tm_set HR.out.row a b c d
    clear d0 d1 d2 d3 HT2
    go_wp2_with fail
    obtain ⟨q0, q1, q2, q3⟩ := HQ.out (.int .i64 0) (.string { data := #[] }) (.string { data := #[] }) (.string { data := #[] })
    exact bodyPost_ret (v := .tuple #[tmV zeroT, .int .i64 10]) (by simp [results, Tryz.results20, go_sem, q0, q1, q2, q3, tmV, zeroT]; rfl) rfl ⟨by rw [HPe.out], HR.out.set _ _ _ _⟩
  | true =>
    rw [hr] at HRi
    have HTy := hid (HTx.out hr)
    clear HTx
    by_cases hz : strB (textL m) = s
    · have hzs : ((strB (textL m)).toList == s.toList) = true := by rw [toList_beq, decide_eq_true hz]
      have HPe : Hid (endP s m = (m, 0)) := hid (endP_yes hr hz)
      have HT3 := HT2
      generalize strB (textL m) = z at *
      clear hr hz
      go_upto_region 19 with (first
        | (go_at_call 23; refine (HRi.out _).mono ?_; rintro e w7 ⟨rfl, HO7⟩; obtain ⟨⟨c0, c1, c2, c3, _⟩, HR⟩ := HT3.out _ HO7)
        | (go_at_call 42; refine (HTy.out _).mono ?_; rintro e w8 ⟨rfl, HO8⟩; obtain ⟨_, HR8⟩ := HT2.out _ (hid (HO7.out.trans HO8.out))))
      obtain ⟨⟨b0, b1, b2, b3, _⟩, HR⟩ := HT3.out _ (hid (HO7.out.trans HO8.out))
      have cx0 := HR.out.row.cell (i := 0) (by omega)
      have cx1 := HR.out.row.cell (i := 1) (by omega)
      have cx2 := HR.out.row.cell (i := 2) (by omega)
      have cx3 := HR.out.row.cell (i := 3) (by omega)
      have fx0 := HR.out.row.frozen 0
      have fx1 := HR.out.row.frozen 1
      have fx2 := HR.out.row.frozen 2
      have fx3 := HR.out.row.frozen 3
      have hlt2 := HR.out.row.lt
      have HQ := hid fun a b c d => tm_set HR.out.row a b c d
      clear d0 d1 d2 d3 c0 c1 c2 c3 HT2 HT3 HR8
      go_wp2_with fail
      obtain ⟨q0, q1, q2, q3⟩ := HQ.out (.int .i64 m.k) (.string m.x) (.string m.g) (.string m.y)
      exact bodyPost_ret (v := .tuple #[tmV m, .int .i64 0]) (by simp [results, Tryz.results20, go_sem, q0, q1, q2, q3, tmV]) rfl ⟨by rw [HPe.out], HR.out.set _ _ _ _⟩
    · have hzs : ((strB (textL m)).toList == s.toList) = false := by rw [toList_beq, decide_eq_false hz]
      have HPe : Hid (endP s m = (zeroT, 10)) := hid (endP_no (fun h => hz (by rw [h.2, strB_bl])))
      have HT3 := HT2
      generalize strB (textL m) = z at *
      clear hr hz
      go_upto_region 18 with (first
        | (go_at_call 23; refine (HRi.out _).mono ?_; rintro e w7 ⟨rfl, HO7⟩; obtain ⟨⟨c0, c1, c2, c3, _⟩, HR⟩ := HT3.out _ HO7)
        | (go_at_call 42; refine (HTy.out _).mono ?_; rintro e w8 ⟨rfl, HO8⟩; obtain ⟨_, HR8⟩ := HT2.out _ (hid (HO7.out.trans HO8.out))))
      obtain ⟨⟨b0, b1, b2, b3, _⟩, HR⟩ := HT3.out _ (hid (HO7.out.trans HO8.out))
      have cx0 := HR.out.row.cell (i := 0) (by omega)
      have cx1 := HR.out.row.cell (i := 1) (by omega)
      have cx2 := HR.out.row.cell (i := 2) (by omega)
      have cx3 := HR.out.row.cell (i := 3) (by omega)
      have fx0 := HR.out.row.frozen 0
      have fx1 := HR.out.row.frozen 1
      have fx2 := HR.out.row.frozen 2
      have fx3 := HR.out.row.frozen 3
      have hlt2 := HR.out.row.lt
      have HQ := hid fun a b c d => tm_set HR.out.row a b c d
      clear d0 d1 d2 d3 c0 c1 c2 c3 HT2 HT3 HR8
      go_wp2_with fail
      obtain ⟨q0, q1, q2, q3⟩ := HQ.out (.int .i64 0) (.string { data := #[] }) (.string { data := #[] }) (.string { data := #[] })
      exact bodyPost_ret (v := .tuple #[tmV zeroT, .int .i64 10]) (by simp [results, Tryz.results20, go_sem, q0, q1, q2, q3, tmV, zeroT]; rfl) rfl ⟨by rw [HPe.out], HR.out.set _ _ _ _⟩
set_option maxRecDepth 100000 in
set_option maxHeartbeats 4000000 in
theorem pa_lang {s : ByteArray} {w : World} (hs : s.size ≤ 4096) (hn : 2 ≤ s.size) (h0 : (bl s).getD 0 0 = 34) {k : Nat} (hk : endK s = (k : Int)) (hk0 : 0 < k) (hks : k < s.size) (g1 : 1 < (s.extract (k + 1) s.size).size) (g0 : (bl (s.extract (k + 1) s.size)).getD 0 0 = 64) : RP s w ⟨3, strB (bkL (bl (s.extract 1 k))), (s.extract (k + 1) s.size).extract 1 (s.extract (k + 1) s.size).size, ByteArray.empty⟩ := by
  obtain ⟨w1, g, g2, hw1, hg, hg2, HP0⟩ := pa_start w
  have hl' : ¬ (4096 : Int) < (s.size : Int) := by omega
  have k0 : (2 : Int) ≤ (s.size : Int) := by omega
  have y0 : (0 : Int) < (s.size : Int) := by omega
  have y1 : (1 : Int) < (s.size : Int) := by omega
  have hs0 : 0 < s.size := by omega
  have hs1 : 1 < s.size := by omega
  have hsl : s.size - 1 < s.size := by omega
  have kw : IntKind.i64.wrap ((s.size : Int) - 1) = (s.size : Int) - 1 := by rw [IntKind.wrap_i64]; omega
  have kt : ((s.size : Int) - 1).toNat = s.size - 1 := by omega
  have kn : (0 : Int) ≤ (s.size : Int) - 1 := by omega
  have km : (s.size : Int) - 1 < (s.size : Int) := by omega
  have ke : (s.size : Int) - 1 ≤ (s.size : Int) := by omega
  have kf : (1 : Int) ≤ (s.size : Int) - 1 := by omega
  have x0e := bl_at hs0
  have x1e := bl_at hs1
  have xle := bl_at hsl
  obtain ⟨x0, hx0⟩ : ∃ x, s[0]'hs0 = x := ⟨_, rfl⟩
  obtain ⟨x1, hx1⟩ : ∃ x, s[1]'hs1 = x := ⟨_, rfl⟩
  obtain ⟨xl, hxl⟩ : ∃ x, s[s.size - 1]'hsl = x := ⟨_, rfl⟩
  rw [hx0] at x0e
  rw [hx1] at x1e
  rw [hxl] at xle
  rw [x0e] at h0
  have q0 : (x0.toNat : Int) = 34 := by omega
  have HEn : Hid (∀ W, Calls Tryz.prog 40 #[.string s] W fun e w' => e = .returned (.int .i64 (endK s)) ∧ StU W w') := hid fun W => refEnd_any (by omega) W
  rw [hk] at HEn
  have j0 : (0 : Int) < (k : Int) := by omega
  have j1 : (1 : Int) ≤ (k : Int) := by omega
  have j2 : (k : Int) ≤ (s.size : Int) := by omega
  have j3 : (k : Int) + 1 ≤ (s.size : Int) := by omega
  have j4 : (0 : Int) ≤ (k : Int) + 1 := by omega
  have jw : IntKind.i64.wrap ((k : Int) + 1) = (k : Int) + 1 := by rw [IntKind.wrap_i64]; omega
  have jt : ((k : Int) + 1).toNat = k + 1 := by omega
  have HBk : Hid (∀ W, Calls Tryz.prog 41 #[.string (s.extract 1 k)] W fun e w' => e = .returned (.string (strB (bkL (bl (s.extract 1 k))))) ∧ StU W w') := hid fun W => refBack_any (by have := ext_size s 1 k; omega)
  have bz : (strB (bkL (bl (s.extract 1 k)))).size ≤ 4096 := by
    have h1 := bkL_len _ (bl (s.extract 1 k)) (Nat.le_refl _)
    have h2 := ext_size s 1 k
    rw [bl_len] at h1
    rw [strB_size (bkL_bys _ _ (Nat.le_refl _) (bl_bys _))]
    omega
  have rz := ext_size s (k + 1) s.size
  obtain ⟨z, hz⟩ : ∃ z, strB (bkL (bl (s.extract 1 k))) = z := ⟨_, rfl⟩
  rw [hz] at HBk bz ⊢
  obtain ⟨r, hr⟩ : ∃ r, s.extract (k + 1) s.size = r := ⟨_, rfl⟩
  rw [hr] at rz g1 g0 ⊢
  have i0 : (1 : Int) < (r.size : Int) := by omega
  have i1 : (0 : Int) < (r.size : Int) := by omega
  have hr0 : 0 < r.size := by omega
  have r0e := bl_at hr0
  obtain ⟨y0, hy0⟩ : ∃ x, r[0]'hr0 = x := ⟨_, rfl⟩
  rw [hy0] at r0e
  rw [r0e] at g0
  have p0 : (y0.toNat : Int) = 64 := by omega
  have i2 : (1 : Int) ≤ (r.size : Int) := by omega
  have vz := ext_size r 1 r.size
  obtain ⟨m, hm⟩ : ∃ m : Tm, ⟨3, z, r.extract 1 r.size, ByteArray.empty⟩ = m := ⟨_, rfl⟩
  have hms : sizeT m ≤ 900000 := by rw [← hm]; show z.size + (r.extract 1 r.size).size + 0 ≤ _; omega
  rw [hm]
  have HRi : Hid (∀ W, Calls Tryz.prog 23 #[.agg #[.int .i64 m.k, .string m.x, .string m.g, .string m.y]] W fun e w' => e = .returned (.bool (rightT m)) ∧ StU W w') := hid fun W => refRight_any hms
  have HTx : Hid (rightT m = true → ∀ W, Calls Tryz.prog 42 #[.agg #[.int .i64 m.k, .string m.x, .string m.g, .string m.y]] W fun e w' => e = .returned (.string (strB (textL m))) ∧ StU W w') := hid fun hr W => refText_any' hr hms
  have HPut : Hid (∀ W, Hid (PaS w W g g2 zeroT) → Hid (PaS w ((((W.setCell ⟨g2, 0, none⟩ (.int .i64 3)).setCell ⟨g2, 1, none⟩ (.string z)).setCell ⟨g2, 2, none⟩ (.string { data := #[] })).setCell ⟨g2, 3, none⟩ (.string { data := #[] })) g g2 ⟨3, z, ByteArray.empty, ByteArray.empty⟩)) := hid fun W h => hid (h.out.put ⟨3, z, ByteArray.empty, ByteArray.empty⟩)
  have HM := hid hm
  clear hm hz bz x0e x1e xle h0 hn hk hk0 hks rz g1 g0 r0e vz hms
  go_enter Tryz.func20, Tryz.ntmps20
  go_upto_region 4 with fail
  rw [← hw1, ← hg, ← hg2]
  clear hw1 hg hg2
  go_upto_region 11 with (first
    | (go_at_call 40; refine (HEn.out _).mono ?_; rintro e w2 ⟨rfl, HO2⟩; have HP := hid (HP0.out.more HO2); clear HP0 HO2)
    | (go_at_call 41; refine (HBk.out _).mono ?_; rintro e w3 ⟨rfl, HO3⟩; have HP1 := hid (HP.out.more HO3); clear HP; have HP := HP1; clear HP1 HO3; have cx0 := HP.out.r2.cell (i := 0) (by omega); have cx1 := HP.out.r2.cell (i := 1) (by omega); have cx2 := HP.out.r2.cell (i := 2) (by omega); have cx3 := HP.out.r2.cell (i := 3) (by omega); have fx0 := HP.out.r2.frozen 0; have fx1 := HP.out.r2.frozen 1; have fx2 := HP.out.r2.frozen 2; have fx3 := HP.out.r2.frozen 3; have hlt2 := HP.out.r2.lt))
  have HPn := HPut.out _ HP
  clear HP HPut cx0 cx1 cx2 cx3 fx0 fx1 fx2 fx3 hlt2
  generalize ((((w3.setCell ⟨g2, 0, none⟩ (.int .i64 3)).setCell ⟨g2, 1, none⟩ (.string z)).setCell ⟨g2, 2, none⟩ (.string { data := #[] })).setCell ⟨g2, 3, none⟩ (.string { data := #[] })) = w5 at *
  have HP := HPn
  clear HPn
  have cx0 := HP.out.r2.cell (i := 0) (by omega)
  have cx1 := HP.out.r2.cell (i := 1) (by omega)
  have cx2 := HP.out.r2.cell (i := 2) (by omega)
  have cx3 := HP.out.r2.cell (i := 3) (by omega)
  have fx0 := HP.out.r2.frozen 0
  have fx1 := HP.out.r2.frozen 1
  have fx2 := HP.out.r2.frozen 2
  have fx3 := HP.out.r2.frozen 3
  have hlt2 := HP.out.r2.lt
  have HLa := hid (fun v => HP.out.lang v)
  go_upto_region 17 with fail
  have HPn := hid (HLa.out (r.extract 1 r.size))
  clear HP HLa cx0 cx1 cx2 cx3 fx0 fx1 fx2 fx3 hlt2
  generalize (w5.setCell ⟨g2, 2, none⟩ (.string (r.extract 1 r.size))) = w6 at *
  have HP : Hid (PaS w w6 g g2 m) := hid (HM.out ▸ HPn.out)
  clear HPn HM
  obtain ⟨d0, d1, d2, d3⟩ := TmAt.cells HP.out.r2
  have HT2 := hid (fun W2 o => pa_after HP.out (W2 := W2) o)
  clear HP
  cases hr : rightT m with
  | false =>
    rw [hr] at HRi
    have HPe : Hid (endP s m = (zeroT, 10)) := hid (endP_no (by rw [hr]; simp))
    clear hr HTx
    go_upto_region 18 with (go_at_call 23; refine (HRi.out _).mono ?_; rintro e w7 ⟨rfl, HO7⟩; obtain ⟨⟨c0, c1, c2, c3, _⟩, HR⟩ := HT2.out _ HO7)
    have cx0 := HR.out.row.cell (i := 0) (by omega)
    have cx1 := HR.out.row.cell (i := 1) (by omega)
    have cx2 := HR.out.row.cell (i := 2) (by omega)
    have cx3 := HR.out.row.cell (i := 3) (by omega)
    have fx0 := HR.out.row.frozen 0
    have fx1 := HR.out.row.frozen 1
    have fx2 := HR.out.row.frozen 2
    have fx3 := HR.out.row.frozen 3
    have hlt2 := HR.out.row.lt
    have HQ := hid fun a b c d => tm_set HR.out.row a b c d
    clear d0 d1 d2 d3 HT2
    go_wp2_with fail
    obtain ⟨q0, q1, q2, q3⟩ := HQ.out (.int .i64 0) (.string { data := #[] }) (.string { data := #[] }) (.string { data := #[] })
    exact bodyPost_ret (v := .tuple #[tmV zeroT, .int .i64 10]) (by simp [results, Tryz.results20, go_sem, q0, q1, q2, q3, tmV, zeroT]; rfl) rfl ⟨by rw [HPe.out], HR.out.set _ _ _ _⟩
  | true =>
    rw [hr] at HRi
    have HTy := hid (HTx.out hr)
    clear HTx
    by_cases hz : strB (textL m) = s
    · have hzs : ((strB (textL m)).toList == s.toList) = true := by rw [toList_beq, decide_eq_true hz]
      have HPe : Hid (endP s m = (m, 0)) := hid (endP_yes hr hz)
      have HT3 := HT2
      generalize strB (textL m) = z at *
      clear hr hz
      go_upto_region 19 with (first
        | (go_at_call 23; refine (HRi.out _).mono ?_; rintro e w7 ⟨rfl, HO7⟩; obtain ⟨⟨c0, c1, c2, c3, _⟩, HR⟩ := HT3.out _ HO7)
        | (go_at_call 42; refine (HTy.out _).mono ?_; rintro e w8 ⟨rfl, HO8⟩; obtain ⟨_, HR8⟩ := HT2.out _ (hid (HO7.out.trans HO8.out))))
      obtain ⟨⟨b0, b1, b2, b3, _⟩, HR⟩ := HT3.out _ (hid (HO7.out.trans HO8.out))
      have cx0 := HR.out.row.cell (i := 0) (by omega)
      have cx1 := HR.out.row.cell (i := 1) (by omega)
      have cx2 := HR.out.row.cell (i := 2) (by omega)
      have cx3 := HR.out.row.cell (i := 3) (by omega)
      have fx0 := HR.out.row.frozen 0
      have fx1 := HR.out.row.frozen 1
      have fx2 := HR.out.row.frozen 2
      have fx3 := HR.out.row.frozen 3
      have hlt2 := HR.out.row.lt
      have HQ := hid fun a b c d => tm_set HR.out.row a b c d
      clear d0 d1 d2 d3 c0 c1 c2 c3 HT2 HT3 HR8
      go_wp2_with fail
      obtain ⟨q0, q1, q2, q3⟩ := HQ.out (.int .i64 m.k) (.string m.x) (.string m.g) (.string m.y)
      exact bodyPost_ret (v := .tuple #[tmV m, .int .i64 0]) (by simp [results, Tryz.results20, go_sem, q0, q1, q2, q3, tmV]) rfl ⟨by rw [HPe.out], HR.out.set _ _ _ _⟩
    · have hzs : ((strB (textL m)).toList == s.toList) = false := by rw [toList_beq, decide_eq_false hz]
      have HPe : Hid (endP s m = (zeroT, 10)) := hid (endP_no (fun h => hz (by rw [h.2, strB_bl])))
      have HT3 := HT2
      generalize strB (textL m) = z at *
      clear hr hz
      go_upto_region 18 with (first
        | (go_at_call 23; refine (HRi.out _).mono ?_; rintro e w7 ⟨rfl, HO7⟩; obtain ⟨⟨c0, c1, c2, c3, _⟩, HR⟩ := HT3.out _ HO7)
        | (go_at_call 42; refine (HTy.out _).mono ?_; rintro e w8 ⟨rfl, HO8⟩; obtain ⟨_, HR8⟩ := HT2.out _ (hid (HO7.out.trans HO8.out))))
      obtain ⟨⟨b0, b1, b2, b3, _⟩, HR⟩ := HT3.out _ (hid (HO7.out.trans HO8.out))
      have cx0 := HR.out.row.cell (i := 0) (by omega)
      have cx1 := HR.out.row.cell (i := 1) (by omega)
      have cx2 := HR.out.row.cell (i := 2) (by omega)
      have cx3 := HR.out.row.cell (i := 3) (by omega)
      have fx0 := HR.out.row.frozen 0
      have fx1 := HR.out.row.frozen 1
      have fx2 := HR.out.row.frozen 2
      have fx3 := HR.out.row.frozen 3
      have hlt2 := HR.out.row.lt
      have HQ := hid fun a b c d => tm_set HR.out.row a b c d
      clear d0 d1 d2 d3 c0 c1 c2 c3 HT2 HT3 HR8
      go_wp2_with fail
      obtain ⟨q0, q1, q2, q3⟩ := HQ.out (.int .i64 0) (.string { data := #[] }) (.string { data := #[] }) (.string { data := #[] })
      exact bodyPost_ret (v := .tuple #[tmV zeroT, .int .i64 10]) (by simp [results, Tryz.results20, go_sem, q0, q1, q2, q3, tmV, zeroT]; rfl) rfl ⟨by rw [HPe.out], HR.out.set _ _ _ _⟩
set_option maxRecDepth 100000 in
set_option maxHeartbeats 4000000 in
theorem pa_typ {s : ByteArray} {w : World} (hs : s.size ≤ 4096) (hn : 2 ≤ s.size) (h0 : (bl s).getD 0 0 = 34) {k : Nat} (hk : endK s = (k : Int)) (hk0 : 0 < k) (hks : k < s.size) (g4 : 4 ≤ (s.extract (k + 1) s.size).size) (g0 : (bl (s.extract (k + 1) s.size)).getD 0 0 ≠ 64) (h3 : (s.extract (k + 1) s.size).extract 0 3 = { data := #[94, 94, 60] }) (gl : (bl (s.extract (k + 1) s.size)).getD ((s.extract (k + 1) s.size).size - 1) 0 = 62) : RP s w ⟨4, strB (bkL (bl (s.extract 1 k))), ByteArray.empty, strB (bkL (bl ((s.extract (k + 1) s.size).extract 3 ((s.extract (k + 1) s.size).size - 1))))⟩ := by
  obtain ⟨w1, g, g2, hw1, hg, hg2, HP0⟩ := pa_start w
  have hl' : ¬ (4096 : Int) < (s.size : Int) := by omega
  have k0 : (2 : Int) ≤ (s.size : Int) := by omega
  have y0 : (0 : Int) < (s.size : Int) := by omega
  have y1 : (1 : Int) < (s.size : Int) := by omega
  have hs0 : 0 < s.size := by omega
  have hs1 : 1 < s.size := by omega
  have hsl : s.size - 1 < s.size := by omega
  have kw : IntKind.i64.wrap ((s.size : Int) - 1) = (s.size : Int) - 1 := by rw [IntKind.wrap_i64]; omega
  have kt : ((s.size : Int) - 1).toNat = s.size - 1 := by omega
  have kn : (0 : Int) ≤ (s.size : Int) - 1 := by omega
  have km : (s.size : Int) - 1 < (s.size : Int) := by omega
  have ke : (s.size : Int) - 1 ≤ (s.size : Int) := by omega
  have kf : (1 : Int) ≤ (s.size : Int) - 1 := by omega
  have x0e := bl_at hs0
  have x1e := bl_at hs1
  have xle := bl_at hsl
  obtain ⟨x0, hx0⟩ : ∃ x, s[0]'hs0 = x := ⟨_, rfl⟩
  obtain ⟨x1, hx1⟩ : ∃ x, s[1]'hs1 = x := ⟨_, rfl⟩
  obtain ⟨xl, hxl⟩ : ∃ x, s[s.size - 1]'hsl = x := ⟨_, rfl⟩
  rw [hx0] at x0e
  rw [hx1] at x1e
  rw [hxl] at xle
  rw [x0e] at h0
  have q0 : (x0.toNat : Int) = 34 := by omega
  have HEn : Hid (∀ W, Calls Tryz.prog 40 #[.string s] W fun e w' => e = .returned (.int .i64 (endK s)) ∧ StU W w') := hid fun W => refEnd_any (by omega) W
  rw [hk] at HEn
  have j0 : (0 : Int) < (k : Int) := by omega
  have j1 : (1 : Int) ≤ (k : Int) := by omega
  have j2 : (k : Int) ≤ (s.size : Int) := by omega
  have j3 : (k : Int) + 1 ≤ (s.size : Int) := by omega
  have j4 : (0 : Int) ≤ (k : Int) + 1 := by omega
  have jw : IntKind.i64.wrap ((k : Int) + 1) = (k : Int) + 1 := by rw [IntKind.wrap_i64]; omega
  have jt : ((k : Int) + 1).toNat = k + 1 := by omega
  have HBk : Hid (∀ W, Calls Tryz.prog 41 #[.string (s.extract 1 k)] W fun e w' => e = .returned (.string (strB (bkL (bl (s.extract 1 k))))) ∧ StU W w') := hid fun W => refBack_any (by have := ext_size s 1 k; omega)
  have bz : (strB (bkL (bl (s.extract 1 k)))).size ≤ 4096 := by
    have h1 := bkL_len _ (bl (s.extract 1 k)) (Nat.le_refl _)
    have h2 := ext_size s 1 k
    rw [bl_len] at h1
    rw [strB_size (bkL_bys _ _ (Nat.le_refl _) (bl_bys _))]
    omega
  have rz := ext_size s (k + 1) s.size
  obtain ⟨z, hz⟩ : ∃ z, strB (bkL (bl (s.extract 1 k))) = z := ⟨_, rfl⟩
  rw [hz] at HBk bz ⊢
  obtain ⟨r, hr⟩ : ∃ r, s.extract (k + 1) s.size = r := ⟨_, rfl⟩
  rw [hr] at rz g4 g0 h3 gl ⊢
  have i0 : (1 : Int) < (r.size : Int) := by omega
  have i1 : (0 : Int) < (r.size : Int) := by omega
  have hr0 : 0 < r.size := by omega
  have r0e := bl_at hr0
  obtain ⟨y0, hy0⟩ : ∃ x, r[0]'hr0 = x := ⟨_, rfl⟩
  rw [hy0] at r0e
  have i4 : (4 : Int) ≤ (r.size : Int) := by omega
  have hrl : r.size - 1 < r.size := by omega
  have i5 : IntKind.i64.wrap ((r.size : Int) - 1) = (r.size : Int) - 1 := by rw [IntKind.wrap_i64]; omega
  have i6 : ((r.size : Int) - 1).toNat = r.size - 1 := by omega
  have i7 : (0 : Int) ≤ (r.size : Int) - 1 := by omega
  have i8 : (r.size : Int) - 1 < (r.size : Int) := by omega
  have i9 : (3 : Int) ≤ (r.size : Int) := by omega
  have iA : (r.size : Int) - 1 ≤ (r.size : Int) := by omega
  have iB : (3 : Int) ≤ (r.size : Int) - 1 := by omega
  have rle := bl_at hrl
  obtain ⟨yl, hyl⟩ : ∃ x, r[r.size - 1]'hrl = x := ⟨_, rfl⟩
  rw [hyl] at rle
  rw [r0e] at g0
  rw [rle] at gl
  have p0 : ((y0.toNat : Int) == 64) = false := by rw [beq_eq_false_iff_ne]; omega
  have pl : (yl.toNat : Int) = 62 := by omega
  have hq3 : ((r.extract 0 3).toList == [94, 94, 60]) = true := by
    have e : ({ data := #[94, 94, 60] } : ByteArray).toList = [94, 94, 60] := by rw [ByteArray.toList_eq]
    rw [← e, toList_beq]
    exact decide_eq_true h3
  have HBr : Hid (∀ W, Calls Tryz.prog 41 #[.string (r.extract 3 (r.size - 1))] W fun e w' => e = .returned (.string (strB (bkL (bl (r.extract 3 (r.size - 1)))))) ∧ StU W w') := hid fun W => refBack_any (by have := ext_size r 3 (r.size - 1); omega)
  have bv : (strB (bkL (bl (r.extract 3 (r.size - 1))))).size ≤ 4096 := by
    have h1 := bkL_len _ (bl (r.extract 3 (r.size - 1))) (Nat.le_refl _)
    have h2 := ext_size r 3 (r.size - 1)
    rw [bl_len] at h1
    rw [strB_size (bkL_bys _ _ (Nat.le_refl _) (bl_bys _))]
    omega
  obtain ⟨v, hv⟩ : ∃ v, strB (bkL (bl (r.extract 3 (r.size - 1)))) = v := ⟨_, rfl⟩
  rw [hv] at HBr bv ⊢
  obtain ⟨m, hm⟩ : ∃ m : Tm, ⟨4, z, ByteArray.empty, v⟩ = m := ⟨_, rfl⟩
  have hms : sizeT m ≤ 900000 := by rw [← hm]; show z.size + 0 + v.size ≤ _; omega
  rw [hm]
  have HRi : Hid (∀ W, Calls Tryz.prog 23 #[.agg #[.int .i64 m.k, .string m.x, .string m.g, .string m.y]] W fun e w' => e = .returned (.bool (rightT m)) ∧ StU W w') := hid fun W => refRight_any hms
  have HTx : Hid (rightT m = true → ∀ W, Calls Tryz.prog 42 #[.agg #[.int .i64 m.k, .string m.x, .string m.g, .string m.y]] W fun e w' => e = .returned (.string (strB (textL m))) ∧ StU W w') := hid fun hr W => refText_any' hr hms
  have HPut : Hid (∀ W, Hid (PaS w W g g2 zeroT) → Hid (PaS w ((((W.setCell ⟨g2, 0, none⟩ (.int .i64 3)).setCell ⟨g2, 1, none⟩ (.string z)).setCell ⟨g2, 2, none⟩ (.string { data := #[] })).setCell ⟨g2, 3, none⟩ (.string { data := #[] })) g g2 ⟨3, z, ByteArray.empty, ByteArray.empty⟩)) := hid fun W h => hid (h.out.put ⟨3, z, ByteArray.empty, ByteArray.empty⟩)
  have HM := hid hm
  clear hm hz bz x0e x1e xle h0 hn hk hk0 hks rz g4 g0 h3 gl r0e rle hms bv hv
  go_enter Tryz.func20, Tryz.ntmps20
  go_upto_region 4 with fail
  rw [← hw1, ← hg, ← hg2]
  clear hw1 hg hg2
  go_upto_region 11 with (first
    | (go_at_call 40; refine (HEn.out _).mono ?_; rintro e w2 ⟨rfl, HO2⟩; have HP := hid (HP0.out.more HO2); clear HP0 HO2)
    | (go_at_call 41; refine (HBk.out _).mono ?_; rintro e w3 ⟨rfl, HO3⟩; have HP1 := hid (HP.out.more HO3); clear HP; have HP := HP1; clear HP1 HO3; have cx0 := HP.out.r2.cell (i := 0) (by omega); have cx1 := HP.out.r2.cell (i := 1) (by omega); have cx2 := HP.out.r2.cell (i := 2) (by omega); have cx3 := HP.out.r2.cell (i := 3) (by omega); have fx0 := HP.out.r2.frozen 0; have fx1 := HP.out.r2.frozen 1; have fx2 := HP.out.r2.frozen 2; have fx3 := HP.out.r2.frozen 3; have hlt2 := HP.out.r2.lt))
  have HPn := HPut.out _ HP
  clear HP HPut cx0 cx1 cx2 cx3 fx0 fx1 fx2 fx3 hlt2
  generalize ((((w3.setCell ⟨g2, 0, none⟩ (.int .i64 3)).setCell ⟨g2, 1, none⟩ (.string z)).setCell ⟨g2, 2, none⟩ (.string { data := #[] })).setCell ⟨g2, 3, none⟩ (.string { data := #[] })) = w5 at *
  have HP := HPn
  clear HPn
  have cx0 := HP.out.r2.cell (i := 0) (by omega)
  have cx1 := HP.out.r2.cell (i := 1) (by omega)
  have cx2 := HP.out.r2.cell (i := 2) (by omega)
  have cx3 := HP.out.r2.cell (i := 3) (by omega)
  have fx0 := HP.out.r2.frozen 0
  have fx1 := HP.out.r2.frozen 1
  have fx2 := HP.out.r2.frozen 2
  have fx3 := HP.out.r2.frozen 3
  have hlt2 := HP.out.r2.lt
  have HKi := hid (HP.out.kind 4)
  go_upto_region 16 with fail
  clear HP cx0 cx1 cx2 cx3 fx0 fx1 fx2 fx3 hlt2
  generalize (w5.setCell ⟨g2, 0, none⟩ (.int .i64 4)) = w6 at *
  go_upto_region 17 with (go_at_call 41; refine (HBr.out _).mono ?_; rintro e w7 ⟨rfl, HO7⟩; have HP := hid (HKi.out.more HO7); clear HKi HO7; have cx0 := HP.out.r2.cell (i := 0) (by omega); have cx1 := HP.out.r2.cell (i := 1) (by omega); have cx2 := HP.out.r2.cell (i := 2) (by omega); have cx3 := HP.out.r2.cell (i := 3) (by omega); have fx0 := HP.out.r2.frozen 0; have fx1 := HP.out.r2.frozen 1; have fx2 := HP.out.r2.frozen 2; have fx3 := HP.out.r2.frozen 3; have hlt2 := HP.out.r2.lt)
  have HPn := hid (HP.out.type v)
  clear HP cx0 cx1 cx2 cx3 fx0 fx1 fx2 fx3 hlt2
  generalize (w7.setCell ⟨g2, 3, none⟩ (.string v)) = w8 at *
  have HP : Hid (PaS w w8 g g2 m) := hid (HM.out ▸ HPn.out)
  clear HPn HM
  obtain ⟨d0, d1, d2, d3⟩ := TmAt.cells HP.out.r2
  have HT2 := hid (fun W2 o => pa_after HP.out (W2 := W2) o)
  clear HP
  cases hr : rightT m with
  | false =>
    rw [hr] at HRi
    have HPe : Hid (endP s m = (zeroT, 10)) := hid (endP_no (by rw [hr]; simp))
    clear hr HTx
    go_upto_region 18 with (go_at_call 23; refine (HRi.out _).mono ?_; rintro e w7 ⟨rfl, HO7⟩; obtain ⟨⟨c0, c1, c2, c3, _⟩, HR⟩ := HT2.out _ HO7)
    have cx0 := HR.out.row.cell (i := 0) (by omega)
    have cx1 := HR.out.row.cell (i := 1) (by omega)
    have cx2 := HR.out.row.cell (i := 2) (by omega)
    have cx3 := HR.out.row.cell (i := 3) (by omega)
    have fx0 := HR.out.row.frozen 0
    have fx1 := HR.out.row.frozen 1
    have fx2 := HR.out.row.frozen 2
    have fx3 := HR.out.row.frozen 3
    have hlt2 := HR.out.row.lt
    have HQ := hid fun a b c d => tm_set HR.out.row a b c d
    clear d0 d1 d2 d3 HT2
    go_wp2_with fail
    obtain ⟨q0, q1, q2, q3⟩ := HQ.out (.int .i64 0) (.string { data := #[] }) (.string { data := #[] }) (.string { data := #[] })
    exact bodyPost_ret (v := .tuple #[tmV zeroT, .int .i64 10]) (by simp [results, Tryz.results20, go_sem, q0, q1, q2, q3, tmV, zeroT]; rfl) rfl ⟨by rw [HPe.out], HR.out.set _ _ _ _⟩
  | true =>
    rw [hr] at HRi
    have HTy := hid (HTx.out hr)
    clear HTx
    by_cases hz : strB (textL m) = s
    · have hzs : ((strB (textL m)).toList == s.toList) = true := by rw [toList_beq, decide_eq_true hz]
      have HPe : Hid (endP s m = (m, 0)) := hid (endP_yes hr hz)
      have HT3 := HT2
      generalize strB (textL m) = z at *
      clear hr hz
      go_upto_region 19 with (first
        | (go_at_call 23; refine (HRi.out _).mono ?_; rintro e w7 ⟨rfl, HO7⟩; obtain ⟨⟨c0, c1, c2, c3, _⟩, HR⟩ := HT3.out _ HO7)
        | (go_at_call 42; refine (HTy.out _).mono ?_; rintro e w8 ⟨rfl, HO8⟩; obtain ⟨_, HR8⟩ := HT2.out _ (hid (HO7.out.trans HO8.out))))
      obtain ⟨⟨b0, b1, b2, b3, _⟩, HR⟩ := HT3.out _ (hid (HO7.out.trans HO8.out))
      have cx0 := HR.out.row.cell (i := 0) (by omega)
      have cx1 := HR.out.row.cell (i := 1) (by omega)
      have cx2 := HR.out.row.cell (i := 2) (by omega)
      have cx3 := HR.out.row.cell (i := 3) (by omega)
      have fx0 := HR.out.row.frozen 0
      have fx1 := HR.out.row.frozen 1
      have fx2 := HR.out.row.frozen 2
      have fx3 := HR.out.row.frozen 3
      have hlt2 := HR.out.row.lt
      have HQ := hid fun a b c d => tm_set HR.out.row a b c d
      clear d0 d1 d2 d3 c0 c1 c2 c3 HT2 HT3 HR8
      go_wp2_with fail
      obtain ⟨q0, q1, q2, q3⟩ := HQ.out (.int .i64 m.k) (.string m.x) (.string m.g) (.string m.y)
      exact bodyPost_ret (v := .tuple #[tmV m, .int .i64 0]) (by simp [results, Tryz.results20, go_sem, q0, q1, q2, q3, tmV]) rfl ⟨by rw [HPe.out], HR.out.set _ _ _ _⟩
    · have hzs : ((strB (textL m)).toList == s.toList) = false := by rw [toList_beq, decide_eq_false hz]
      have HPe : Hid (endP s m = (zeroT, 10)) := hid (endP_no (fun h => hz (by rw [h.2, strB_bl])))
      have HT3 := HT2
      generalize strB (textL m) = z at *
      clear hr hz
      go_upto_region 18 with (first
        | (go_at_call 23; refine (HRi.out _).mono ?_; rintro e w7 ⟨rfl, HO7⟩; obtain ⟨⟨c0, c1, c2, c3, _⟩, HR⟩ := HT3.out _ HO7)
        | (go_at_call 42; refine (HTy.out _).mono ?_; rintro e w8 ⟨rfl, HO8⟩; obtain ⟨_, HR8⟩ := HT2.out _ (hid (HO7.out.trans HO8.out))))
      obtain ⟨⟨b0, b1, b2, b3, _⟩, HR⟩ := HT3.out _ (hid (HO7.out.trans HO8.out))
      have cx0 := HR.out.row.cell (i := 0) (by omega)
      have cx1 := HR.out.row.cell (i := 1) (by omega)
      have cx2 := HR.out.row.cell (i := 2) (by omega)
      have cx3 := HR.out.row.cell (i := 3) (by omega)
      have fx0 := HR.out.row.frozen 0
      have fx1 := HR.out.row.frozen 1
      have fx2 := HR.out.row.frozen 2
      have fx3 := HR.out.row.frozen 3
      have hlt2 := HR.out.row.lt
      have HQ := hid fun a b c d => tm_set HR.out.row a b c d
      clear d0 d1 d2 d3 c0 c1 c2 c3 HT2 HT3 HR8
      go_wp2_with fail
      obtain ⟨q0, q1, q2, q3⟩ := HQ.out (.int .i64 0) (.string { data := #[] }) (.string { data := #[] }) (.string { data := #[] })
      exact bodyPost_ret (v := .tuple #[tmV zeroT, .int .i64 10]) (by simp [results, Tryz.results20, go_sem, q0, q1, q2, q3, tmV, zeroT]; rfl) rfl ⟨by rw [HPe.out], HR.out.set _ _ _ _⟩

def rparsT (s : ByteArray) : Tm × Int := if 4096 < s.size then (zeroT, 3) else endP s (rmeantT s)
theorem rparsT_eq (s : ByteArray) : rparsT s = parsT s := by
  unfold rparsT
  by_cases h : 4096 < s.size
  · unfold parsT
    rw [if_pos h, if_pos h]
  · rw [if_neg h]
    by_cases h2 : rightT (rmeantT s) = true ∧ textL (rmeantT s) = bl s
    · rw [parsT_yes h2.1 h2.2 (by omega)]
      unfold endP
      rw [if_pos h2]
    · rw [endP_no h2]
      unfold parsT
      rw [if_neg h, if_neg]
      intro h3
      have e := rmeant_of h3.1 h3.2
      exact h2 (by rw [e]; exact h3)
set_option maxRecDepth 100000 in
set_option maxHeartbeats 4000000 in
theorem pa_long {s : ByteArray} {w : World} (hl : 4096 < s.size) : Calls Tryz.prog 20 #[.string s] w fun e w' => e = .returned (.tuple #[tmV zeroT, .int .i64 3]) ∧ StU w w' := by
  obtain ⟨w1, g, hw1, hg, HR⟩ := res_start w
  have hl' : (4096 : Int) < (s.size : Int) := by omega
  have cx0 := HR.out.row.cell (i := 0) (by omega)
  have cx1 := HR.out.row.cell (i := 1) (by omega)
  have cx2 := HR.out.row.cell (i := 2) (by omega)
  have cx3 := HR.out.row.cell (i := 3) (by omega)
  have fx0 := HR.out.row.frozen 0
  have fx1 := HR.out.row.frozen 1
  have fx2 := HR.out.row.frozen 2
  have fx3 := HR.out.row.frozen 3
  have hlt2 := HR.out.row.lt
  have HQ := hid fun a b c d => tm_set HR.out.row a b c d
  clear hl
  go_enter Tryz.func20, Tryz.ntmps20
  go_upto_region 1 with fail
  rw [← hw1, ← hg]
  clear hw1 hg
  go_wp2_with fail
  obtain ⟨q0, q1, q2, q3⟩ := HQ.out (.int .i64 0) (.string { data := #[] }) (.string { data := #[] }) (.string { data := #[] })
  exact bodyPost_ret (v := .tuple #[tmV zeroT, .int .i64 3]) (by simp [results, Tryz.results20, go_sem, q0, q1, q2, q3, tmV, zeroT]; rfl) rfl ⟨rfl, HR.out.set _ _ _ _⟩
theorem pa_lit {s : ByteArray} {w : World} (hs : s.size ≤ 4096) (hn : 2 ≤ s.size) (h0 : (bl s).getD 0 0 = 34) {k : Nat} (hk : endK s = (k : Int)) (hk0 : 0 < k) (hks : k < s.size) : RP s w (rlitT (strB (bkL (bl (s.extract 1 k)))) (s.extract (k + 1) s.size)) := by
  unfold rlitT
  by_cases c1 : 1 < (s.extract (k + 1) s.size).size ∧ (bl (s.extract (k + 1) s.size)).getD 0 0 = 64
  · rw [if_pos c1]
    exact pa_lang hs hn h0 hk hk0 hks c1.1 c1.2
  rw [if_neg c1]
  by_cases g1 : 1 < (s.extract (k + 1) s.size).size
  · have g0 : (bl (s.extract (k + 1) s.size)).getD 0 0 ≠ 64 := fun h => c1 ⟨g1, h⟩
    by_cases g4 : 4 ≤ (s.extract (k + 1) s.size).size
    · by_cases h3 : (s.extract (k + 1) s.size).extract 0 3 = { data := #[94, 94, 60] }
      · by_cases gl : (bl (s.extract (k + 1) s.size)).getD ((s.extract (k + 1) s.size).size - 1) 0 = 62
        · rw [if_pos ⟨⟨g4, h3⟩, gl⟩]
          exact pa_typ hs hn h0 hk hk0 hks g4 g0 h3 gl
        · rw [if_neg (fun h => gl h.2)]
          exact pa_p4 hs hn h0 hk hk0 hks g4 g0 h3 gl
      · rw [if_neg (fun h => h3 h.1.2)]
        exact pa_p3 hs hn h0 hk hk0 hks g4 g0 h3
    · rw [if_neg (fun h => g4 h.1.1)]
      exact pa_p2 hs hn h0 hk hk0 hks g1 g4 g0
  · rw [if_neg (fun h => by have := h.1.1; omega)]
    exact pa_p1 hs hn h0 hk hk0 hks g1
theorem pa_any {s : ByteArray} {w : World} (hs : s.size ≤ 4096) : RP s w (rmeantT s) := by
  unfold rmeantT
  by_cases hn : 2 ≤ s.size
  · by_cases h60 : (bl s).getD 0 0 = 60
    · by_cases hl : (bl s).getD (s.size - 1) 0 = 62
      · rw [if_pos ⟨⟨hn, h60⟩, hl⟩]
        exact pa_iri hs hn h60 hl
      · rw [if_neg (fun h => hl h.2), if_neg (fun h => by have := h.1.2; omega), if_neg (fun h => by have := h.1.2; omega)]
        exact pa_z2 hs hn h60 hl
    rw [if_neg (fun h => h60 h.1.2)]
    by_cases h95 : (bl s).getD 0 0 = 95
    · by_cases h1 : (bl s).getD 1 0 = 58
      · rw [if_pos ⟨⟨hn, h95⟩, h1⟩]
        exact pa_blank hs hn h95 h1
      · rw [if_neg (fun h => h1 h.2), if_neg (fun h => by have := h.1.2; omega)]
        exact pa_z3 hs hn h95 h1
    rw [if_neg (fun h => h95 h.1.2)]
    by_cases h34 : (bl s).getD 0 0 = 34
    · by_cases hk : 0 < endK s
      · rw [if_pos ⟨⟨hn, h34⟩, hk⟩]
        have hin := endL_in _ ((bl s).drop 1) 1 (Nat.le_refl _)
        rw [List.length_drop, bl_len] at hin
        have hin2 : endK s < (s.size : Int) := by
          have e : endK s = endL ((bl s).drop 1) 1 := rfl
          rw [← e] at hin
          omega
        obtain ⟨k, hke⟩ : ∃ k : Nat, endK s = (k : Int) := ⟨(endK s).toNat, by omega⟩
        rw [hke, Int.toNat_natCast]
        exact pa_lit hs hn h34 hke (by omega) (by omega)
      · rw [if_neg (fun h => hk h.2)]
        exact pa_z4 hs hn h34 hk
    · rw [if_neg (fun h => h34 h.1.2)]
      exact pa_z5 hs hn h60 h95 h34
  · rw [if_neg (fun h => hn h.1.1), if_neg (fun h => hn h.1.1), if_neg (fun h => hn h.1.1)]
    exact pa_z1 hs hn
theorem refParse_any {s : ByteArray} {w : World} : Calls Tryz.prog 20 #[.string s] w fun e w' => e = .returned (.tuple #[tmV (parsT s).1, .int .i64 (parsT s).2]) ∧ StU w w' := by
  rw [← rparsT_eq]
  unfold rparsT
  by_cases h : 4096 < s.size
  · rw [if_pos h]
    exact pa_long h
  · rw [if_neg h]
    exact pa_any (by omega)
end Go.Proofs.YtefcnaccemefnaaGreatDoor
