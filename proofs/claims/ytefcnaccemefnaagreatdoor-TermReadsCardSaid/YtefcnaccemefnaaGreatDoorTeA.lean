/- A right term's text. -/
import Derived.Test.YtefcnaccemefnaaGreatDoorTe9
namespace Go.Proofs.YtefcnaccemefnaaGreatDoor
open Go.RowKit U G

theorem right_iri {t : Tm} (hk : t.k = 1) (h : rightT t = true) : t = iriT t.x ∧ vld (bl t.x) = true := by
  unfold rightT at h
  rw [if_pos hk, Bool.and_eq_true, decide_eq_true_iff] at h
  exact h
theorem right_blank {t : Tm} (hk : t.k = 2) (h : rightT t = true) : t = blankT t.x ∧ 0 < lab (bl t.x) ∧ lab (bl t.x) = t.x.size := by
  unfold rightT at h
  rw [hk, if_neg (by decide), if_pos rfl, Bool.and_eq_true, Bool.and_eq_true, decide_eq_true_iff, decide_eq_true_iff, decide_eq_true_iff] at h
  exact h
theorem right_lit {t : Tm} (hk : t.k = 3) (h : rightT t = true) : t = tagT t.x t.g ∧ vld (bl t.x) = true ∧ (t.g = ByteArray.empty ∨ (0 < tag (bl t.g) ∧ tag (bl t.g) = t.g.size)) := by
  unfold rightT at h
  rw [hk, if_neg (by decide), if_neg (by decide), if_pos rfl, Bool.and_eq_true, Bool.and_eq_true, Bool.or_eq_true, Bool.and_eq_true, decide_eq_true_iff, decide_eq_true_iff, decide_eq_true_iff, decide_eq_true_iff] at h
  exact ⟨h.1.1, h.1.2, h.2⟩
theorem right_typ {t : Tm} (hk : t.k = 4) (h : rightT t = true) : t = ⟨4, t.x, ByteArray.empty, t.y⟩ ∧ t.y ≠ xsd ∧ vld (bl t.x) = true ∧ vld (bl t.y) = true := by
  unfold rightT at h
  rw [hk, if_neg (by decide), if_neg (by decide), if_neg (by decide), if_pos rfl, Bool.and_eq_true, Bool.and_eq_true, decide_eq_true_iff] at h
  obtain ⟨h1, h2, h3⟩ := h
  by_cases e : t.y = xsd
  · rw [typT, if_pos e] at h1
    have := congrArg Tm.k h1
    rw [hk] at this
    exact absurd this (show ¬ (4 : Int) = 3 by decide)
  · rw [typT, if_neg e] at h1
    exact ⟨h1, e, h2, h3⟩
theorem right_kind {t : Tm} (h : rightT t = true) : t.k = 1 ∨ t.k = 2 ∨ t.k = 3 ∨ t.k = 4 := by
  by_cases h1 : t.k = 1
  · exact .inl h1
  · by_cases h2 : t.k = 2
    · exact .inr (.inl h2)
    · by_cases h3 : t.k = 3
      · exact .inr (.inr (.inl h3))
      · by_cases h4 : t.k = 4
        · exact .inr (.inr (.inr h4))
        · unfold rightT at h
          rw [if_neg h1, if_neg h2, if_neg h3, if_neg h4] at h
          cases h
/-- What all four kinds begin with. -/
theorem text_start (k : Int) (x g y : ByteArray) (w : World) (hs : x.size + g.size + y.size ≤ 1099511627776) :
    ∃ w1, w1 = w.alloc (.cells #[.int .i64 k, .string x, .string g, .string y] 27) ∧ Hid (TmAt w1 w.heap.size ⟨k, x, g, y⟩) ∧ StU w w1 ∧
      Hid (Calls Tryz.prog 48 #[.pointer (some ⟨w1.heap.size, 0, none⟩), .int .i64 ((x.size : Int) + (g.size : Int) + (y.size : Int) + 6)] (w1.alloc (.cells #[.pointer none, .slice none 0 0] 59)) fun e w' => e = .returned (.tuple #[]) ∧ Hid (WrS w1 w' w1.heap.size []) ∧ TmS w1 w.heap.size ⟨k, x, g, y⟩ w') := by
  refine ⟨_, rfl, hid (tm_new w ⟨k, x, g, y⟩), hid ((Only.refl _ w).alloc _), hid ?_⟩
  have hA := tm_new w ⟨k, x, g, y⟩
  simp only at hA
  generalize w.alloc (.cells #[.int .i64 k, .string x, .string g, .string y] 27) = w1 at *
  have := grow_any (x.size + g.size + y.size + 6) w1 (by omega)
  rw [show ((x.size + g.size + y.size + 6 : Nat) : Int) = (x.size : Int) + (g.size : Int) + (y.size : Int) + 6 by omega] at this
  exact this.mono fun e w' h => ⟨h.1, h.2, tmS_of hA (hid h.2.out.only)⟩
set_option maxHeartbeats 2000000 in
theorem text1 {x g y : ByteArray} {w : World} (hv : vld (bl x) = true) (hs : x.size + g.size + y.size ≤ 1099511627776) :
    Calls Tryz.prog 31 #[tmV ⟨1, x, g, y⟩] w fun e w' => e = .returned (.string (strB (textL ⟨1, x, g, y⟩))) ∧ StU w w' := by
  obtain ⟨w1, hw1, HA0, HO0, HG⟩ := text_start 1 x g y w hs
  have hcs := HA0.out.cells
  simp only at hcs
  obtain ⟨d0, d1, d2, d3⟩ := hcs
  have hlt : w.heap.size < w1.heap.size := HA0.out.lt
  have HI : Hid (∀ W, WrS w1 W w1.heap.size [] → Calls Tryz.prog 49 #[.pointer (some ⟨w1.heap.size, 0, none⟩), .string x] W fun e w' => e = .returned (.tuple #[]) ∧ Hid (WrS w1 w' w1.heap.size (textL ⟨1, x, g, y⟩)) ∧ TmS w1 w.heap.size ⟨1, x, g, y⟩ w') := hid fun W hW => (iri_any hW hv (by simp; omega)).mono fun e w' h => ⟨h.1, hid h.2.out.1, tmS_of HA0.out (hid h.2.out.1.only)⟩
  have HS : Hid (∀ W, WrS w1 W w1.heap.size (textL ⟨1, x, g, y⟩) → Calls Tryz.prog 52 #[.pointer (some ⟨w1.heap.size, 0, none⟩)] W fun e w' => e = .returned (.string (strB (textL ⟨1, x, g, y⟩))) ∧ StU w1 w') := hid fun W hW => string_any hW (textL_bys _)
  generalize textL ⟨1, x, g, y⟩ = T at *
  have hq1 : IntKind.i64.wrap ((x.size : Int) + (g.size : Int)) = (x.size : Int) + (g.size : Int) := by rw [IntKind.wrap_i64]; omega
  have hq2 : IntKind.i64.wrap ((x.size : Int) + (g.size : Int) + (y.size : Int)) = (x.size : Int) + (g.size : Int) + (y.size : Int) := by rw [IntKind.wrap_i64]; omega
  have hq3 : IntKind.i64.wrap ((x.size : Int) + (g.size : Int) + (y.size : Int) + 6) = (x.size : Int) + (g.size : Int) + (y.size : Int) + 6 := by rw [IntKind.wrap_i64]; omega
  clear hv
  unfold tmV
  go_enter Tryz.func31, Tryz.ntmps31
  go_upto_region 1 with fail
  rw [← hw1]
  clear hw1
  go_wp2_with (first
    | (go_at_call 48; refine HG.out.mono ?_; rintro e w2 ⟨rfl, HX, q0, q1, q2, q3, qO⟩)
    | (go_at_call 49; refine (HI.out _ HX.out).mono ?_; rintro e w3 ⟨rfl, HX3, q0, q1, q2, q3, qO⟩)
    | (go_at_call 52; refine (HS.out _ HX3.out).mono ?_; rintro e w4 ⟨rfl, HZ⟩))
  go_ret
  exact ⟨rfl, hid (HO0.out.trans HZ.out)⟩
set_option maxHeartbeats 2000000 in
theorem text2 {x g y : ByteArray} {w : World} (hs : x.size + g.size + y.size ≤ 1099511627776) :
    Calls Tryz.prog 31 #[tmV ⟨2, x, g, y⟩] w fun e w' => e = .returned (.string (strB (textL ⟨2, x, g, y⟩))) ∧ StU w w' := by
  obtain ⟨w1, hw1, HA0, HO0, HG⟩ := text_start 2 x g y w hs
  have hcs := HA0.out.cells
  simp only at hcs
  obtain ⟨d0, d1, d2, d3⟩ := hcs
  have hlt : w.heap.size < w1.heap.size := HA0.out.lt
  have l1 := iriB_len (bl x)
  have l2 := litB_len (bl x)
  have l3 := iriB_len (bl y)
  have l4 := bl_len x
  have l5 := bl_len g
  have l6 := bl_len y
  have HI : Hid (∀ W, WrS w1 W w1.heap.size [] → Calls Tryz.prog 50 #[.pointer (some ⟨w1.heap.size, 0, none⟩), .slice (some ⟨W.heap.size, 0, none⟩) 2 2] (W.alloc (.cells #[.string { data := #[95, 58] }, .string x] 9)) fun e w' => e = .returned (.tuple #[]) ∧ Hid (WrS w1 w' w1.heap.size (textL ⟨2, x, g, y⟩)) ∧ TmS w1 w.heap.size ⟨2, x, g, y⟩ w') := hid fun W hW => (pieces_new (n := 2) (ss := [{ data := #[95, 58] }, x]) hW rfl (by simp) (by omega) (by simp only [List.flatMap_cons, List.flatMap_nil, List.length_append, List.length_nil, bl_len]; show 0 + (2 + _) ≤ _; omega)).mono fun e w' h => ⟨h.1, hid (by have := h.2.out.1; simpa [textL, show bl { data := #[95, 58] } = [95, 58] from rfl] using this), tmS_of HA0.out (hid h.2.out.1.only)⟩
  have HS : Hid (∀ W, WrS w1 W w1.heap.size (textL ⟨2, x, g, y⟩) → Calls Tryz.prog 52 #[.pointer (some ⟨w1.heap.size, 0, none⟩)] W fun e w' => e = .returned (.string (strB (textL ⟨2, x, g, y⟩))) ∧ StU w1 w') := hid fun W hW => string_any hW (textL_bys _)
  generalize textL ⟨2, x, g, y⟩ = T at *
  have hq1 : IntKind.i64.wrap ((x.size : Int) + (g.size : Int)) = (x.size : Int) + (g.size : Int) := by rw [IntKind.wrap_i64]; omega
  have hq2 : IntKind.i64.wrap ((x.size : Int) + (g.size : Int) + (y.size : Int)) = (x.size : Int) + (g.size : Int) + (y.size : Int) := by rw [IntKind.wrap_i64]; omega
  have hq3 : IntKind.i64.wrap ((x.size : Int) + (g.size : Int) + (y.size : Int) + 6) = (x.size : Int) + (g.size : Int) + (y.size : Int) + 6 := by rw [IntKind.wrap_i64]; omega
  clear l1 l2 l3 l4 l5 l6
  unfold tmV
  go_enter Tryz.func31, Tryz.ntmps31
  go_upto_region 1 with fail
  rw [← hw1]
  clear hw1
  go_wp2_with (first
    | (go_at_call 48; refine HG.out.mono ?_; rintro e w2 ⟨rfl, HX, q0, q1, q2, q3, qO⟩)
    | (go_at_call 50; refine (HI.out _ HX.out).mono ?_; rintro e w3 ⟨rfl, HX3, q0, q1, q2, q3, qO⟩)
    | (go_at_call 52; refine (HS.out _ HX3.out).mono ?_; rintro e w4 ⟨rfl, HZ⟩))
  go_ret
  exact ⟨rfl, hid (HO0.out.trans HZ.out)⟩
set_option maxHeartbeats 2000000 in
theorem text3e {x g y : ByteArray} {w : World} (hv : vld (bl x) = true) (hg : g = ByteArray.empty) (hs : x.size + g.size + y.size ≤ 1099511627776) :
    Calls Tryz.prog 31 #[tmV ⟨3, x, g, y⟩] w fun e w' => e = .returned (.string (strB (textL ⟨3, x, g, y⟩))) ∧ StU w w' := by
  obtain ⟨w1, hw1, HA0, HO0, HG⟩ := text_start 3 x g y w hs
  have hcs := HA0.out.cells
  simp only at hcs
  obtain ⟨d0, d1, d2, d3⟩ := hcs
  have hlt : w.heap.size < w1.heap.size := HA0.out.lt
  have l1 := iriB_len (bl x)
  have l2 := litB_len (bl x)
  have l3 := iriB_len (bl y)
  have l4 := bl_len x
  have l5 := bl_len g
  have l6 := bl_len y
  have hte : textL ⟨3, x, g, y⟩ = (34 :: (litB (bl x) ++ [34])) := by unfold textL; simp [hg]
  have hq := emp_beq g
  rw [decide_eq_true hg] at hq
  have HI : Hid (∀ W, WrS w1 W w1.heap.size [] → Calls Tryz.prog 51 #[.pointer (some ⟨w1.heap.size, 0, none⟩), .string x] W fun e w' => e = .returned (.tuple #[]) ∧ Hid (WrS w1 w' w1.heap.size (34 :: (litB (bl x) ++ [34]))) ∧ TmS w1 w.heap.size ⟨3, x, g, y⟩ w') := hid fun W hW => (literal_any hW hv (by simp; omega)).mono fun e w' h => ⟨h.1, hid (by have := h.2.out.1; simpa using this), tmS_of HA0.out (hid h.2.out.1.only)⟩
  rw [hte]
  have hte0 := hte
  clear hte hg
  have HS : Hid (∀ W, WrS w1 W w1.heap.size (34 :: (litB (bl x) ++ [34])) → Calls Tryz.prog 52 #[.pointer (some ⟨w1.heap.size, 0, none⟩)] W fun e w' => e = .returned (.string (strB (34 :: (litB (bl x) ++ [34])))) ∧ StU w1 w') := hid fun W hW => string_any hW (hte0 ▸ textL_bys ⟨3, x, g, y⟩)
  generalize hTe : (34 :: (litB (bl x) ++ [34])) = T at *
  clear hTe
  have hq1 : IntKind.i64.wrap ((x.size : Int) + (g.size : Int)) = (x.size : Int) + (g.size : Int) := by rw [IntKind.wrap_i64]; omega
  have hq2 : IntKind.i64.wrap ((x.size : Int) + (g.size : Int) + (y.size : Int)) = (x.size : Int) + (g.size : Int) + (y.size : Int) := by rw [IntKind.wrap_i64]; omega
  have hq3 : IntKind.i64.wrap ((x.size : Int) + (g.size : Int) + (y.size : Int) + 6) = (x.size : Int) + (g.size : Int) + (y.size : Int) + 6 := by rw [IntKind.wrap_i64]; omega
  clear hv l1 l2 l3 l4 l5 l6
  unfold tmV
  go_enter Tryz.func31, Tryz.ntmps31
  go_upto_region 1 with fail
  rw [← hw1]
  clear hw1
  go_wp2_with (first
    | (go_at_call 48; refine HG.out.mono ?_; rintro e w2 ⟨rfl, HX, q0, q1, q2, q3, qO⟩)
    | (go_at_call 51; refine (HI.out _ HX.out).mono ?_; rintro e w3 ⟨rfl, HX3, q0, q1, q2, q3, qO⟩)
    | (go_at_call 52; refine (HS.out _ HX3.out).mono ?_; rintro e w4 ⟨rfl, HZ⟩))
  go_ret
  exact ⟨rfl, hid (HO0.out.trans HZ.out)⟩
set_option maxHeartbeats 2000000 in
theorem text3 {x g y : ByteArray} {w : World} (hv : vld (bl x) = true) (hg : g ≠ ByteArray.empty) (hs : x.size + g.size + y.size ≤ 1099511627776) :
    Calls Tryz.prog 31 #[tmV ⟨3, x, g, y⟩] w fun e w' => e = .returned (.string (strB (textL ⟨3, x, g, y⟩))) ∧ StU w w' := by
  obtain ⟨w1, hw1, HA0, HO0, HG⟩ := text_start 3 x g y w hs
  have hcs := HA0.out.cells
  simp only at hcs
  obtain ⟨d0, d1, d2, d3⟩ := hcs
  have hlt : w.heap.size < w1.heap.size := HA0.out.lt
  have l1 := iriB_len (bl x)
  have l2 := litB_len (bl x)
  have l3 := iriB_len (bl y)
  have l4 := bl_len x
  have l5 := bl_len g
  have l6 := bl_len y
  have hq := emp_beq g
  rw [decide_eq_false hg] at hq
  have HI : Hid (∀ W, WrS w1 W w1.heap.size [] → Calls Tryz.prog 51 #[.pointer (some ⟨w1.heap.size, 0, none⟩), .string x] W fun e w' => e = .returned (.tuple #[]) ∧ Hid (WrS w1 w' w1.heap.size (34 :: (litB (bl x) ++ [34]))) ∧ TmS w1 w.heap.size ⟨3, x, g, y⟩ w') := hid fun W hW => (literal_any hW hv (by simp; omega)).mono fun e w' h => ⟨h.1, hid (by have := h.2.out.1; simpa using this), tmS_of HA0.out (hid h.2.out.1.only)⟩
  have HP : Hid (∀ W, WrS w1 W w1.heap.size (34 :: (litB (bl x) ++ [34])) → Calls Tryz.prog 50 #[.pointer (some ⟨w1.heap.size, 0, none⟩), .slice (some ⟨W.heap.size, 0, none⟩) 2 2] (W.alloc (.cells #[.string { data := #[64] }, .string g] 9)) fun e w' => e = .returned (.tuple #[]) ∧ Hid (WrS w1 w' w1.heap.size (textL ⟨3, x, g, y⟩)) ∧ TmS w1 w.heap.size ⟨3, x, g, y⟩ w') := hid fun W hW => (pieces_new (n := 2) (ss := [{ data := #[64] }, g]) hW rfl (by simp) (by omega) (by simp only [List.flatMap_cons, List.flatMap_nil, List.length_append, List.length_nil, List.length_cons]; show _ + (1 + _) ≤ _; omega)).mono fun e w' h => ⟨h.1, hid (by have := h.2.out.1; simpa [textL, hg, show bl { data := #[64] } = [64] from rfl] using this), tmS_of HA0.out (hid h.2.out.1.only)⟩
  have HS : Hid (∀ W, WrS w1 W w1.heap.size (textL ⟨3, x, g, y⟩) → Calls Tryz.prog 52 #[.pointer (some ⟨w1.heap.size, 0, none⟩)] W fun e w' => e = .returned (.string (strB (textL ⟨3, x, g, y⟩))) ∧ StU w1 w') := hid fun W hW => string_any hW (textL_bys _)
  generalize textL ⟨3, x, g, y⟩ = T at *
  have hq1 : IntKind.i64.wrap ((x.size : Int) + (g.size : Int)) = (x.size : Int) + (g.size : Int) := by rw [IntKind.wrap_i64]; omega
  have hq2 : IntKind.i64.wrap ((x.size : Int) + (g.size : Int) + (y.size : Int)) = (x.size : Int) + (g.size : Int) + (y.size : Int) := by rw [IntKind.wrap_i64]; omega
  have hq3 : IntKind.i64.wrap ((x.size : Int) + (g.size : Int) + (y.size : Int) + 6) = (x.size : Int) + (g.size : Int) + (y.size : Int) + 6 := by rw [IntKind.wrap_i64]; omega
  clear hv hg l1 l2 l3 l4 l5 l6
  unfold tmV
  go_enter Tryz.func31, Tryz.ntmps31
  go_upto_region 1 with fail
  rw [← hw1]
  clear hw1
  go_wp2_with (first
    | (go_at_call 48; refine HG.out.mono ?_; rintro e w2 ⟨rfl, HX, q0, q1, q2, q3, qO⟩)
    | (go_at_call 51; refine (HI.out _ HX.out).mono ?_; rintro e w3 ⟨rfl, HX2, q0, q1, q2, q3, qO⟩)
    | (go_at_call 50; refine (HP.out _ HX2.out).mono ?_; rintro e w3 ⟨rfl, HX3, q0, q1, q2, q3, qO⟩)
    | (go_at_call 52; refine (HS.out _ HX3.out).mono ?_; rintro e w4 ⟨rfl, HZ⟩))
  go_ret
  exact ⟨rfl, hid (HO0.out.trans HZ.out)⟩
set_option maxHeartbeats 2000000 in
theorem text4 {x g y : ByteArray} {w : World} (hv : vld (bl x) = true) (hvy : vld (bl y) = true) (hs : x.size + g.size + y.size ≤ 1099511627776) :
    Calls Tryz.prog 31 #[tmV ⟨4, x, g, y⟩] w fun e w' => e = .returned (.string (strB (textL ⟨4, x, g, y⟩))) ∧ StU w w' := by
  obtain ⟨w1, hw1, HA0, HO0, HG⟩ := text_start 4 x g y w hs
  have hcs := HA0.out.cells
  simp only at hcs
  obtain ⟨d0, d1, d2, d3⟩ := hcs
  have hlt : w.heap.size < w1.heap.size := HA0.out.lt
  have l1 := iriB_len (bl x)
  have l2 := litB_len (bl x)
  have l3 := iriB_len (bl y)
  have l4 := bl_len x
  have l5 := bl_len g
  have l6 := bl_len y
  have HI : Hid (∀ W, WrS w1 W w1.heap.size [] → Calls Tryz.prog 51 #[.pointer (some ⟨w1.heap.size, 0, none⟩), .string x] W fun e w' => e = .returned (.tuple #[]) ∧ Hid (WrS w1 w' w1.heap.size (34 :: (litB (bl x) ++ [34]))) ∧ TmS w1 w.heap.size ⟨4, x, g, y⟩ w') := hid fun W hW => (literal_any hW hv (by simp; omega)).mono fun e w' h => ⟨h.1, hid (by have := h.2.out.1; simpa using this), tmS_of HA0.out (hid h.2.out.1.only)⟩
  have HP : Hid (∀ W, WrS w1 W w1.heap.size (34 :: (litB (bl x) ++ [34])) → Calls Tryz.prog 50 #[.pointer (some ⟨w1.heap.size, 0, none⟩), .slice (some ⟨W.heap.size, 0, none⟩) 1 1] (W.alloc (.cells #[.string { data := #[94, 94] }] 9)) fun e w' => e = .returned (.tuple #[]) ∧ Hid (WrS w1 w' w1.heap.size (34 :: (litB (bl x) ++ [34, 94, 94]))) ∧ TmS w1 w.heap.size ⟨4, x, g, y⟩ w') := hid fun W hW => (pieces_new (n := 1) (ss := [{ data := #[94, 94] }]) hW rfl (by simp) (by omega) (by simp only [List.flatMap_cons, List.flatMap_nil, List.length_append, List.length_nil, List.length_cons, bl_len]; show _ + (2 + 0) ≤ _; omega)).mono fun e w' h => ⟨h.1, hid (by have := h.2.out.1; simpa [show bl { data := #[94, 94] } = [94, 94] from rfl] using this), tmS_of HA0.out (hid h.2.out.1.only)⟩
  have HY : Hid (∀ W, WrS w1 W w1.heap.size (34 :: (litB (bl x) ++ [34, 94, 94])) → Calls Tryz.prog 49 #[.pointer (some ⟨w1.heap.size, 0, none⟩), .string y] W fun e w' => e = .returned (.tuple #[]) ∧ Hid (WrS w1 w' w1.heap.size (textL ⟨4, x, g, y⟩)) ∧ TmS w1 w.heap.size ⟨4, x, g, y⟩ w') := hid fun W hW => (iri_any hW hvy (by simp only [List.length_cons, List.length_append, List.length_nil]; omega)).mono fun e w' h => ⟨h.1, hid (by have := h.2.out.1; simpa [textL] using this), tmS_of HA0.out (hid h.2.out.1.only)⟩
  have HS : Hid (∀ W, WrS w1 W w1.heap.size (textL ⟨4, x, g, y⟩) → Calls Tryz.prog 52 #[.pointer (some ⟨w1.heap.size, 0, none⟩)] W fun e w' => e = .returned (.string (strB (textL ⟨4, x, g, y⟩))) ∧ StU w1 w') := hid fun W hW => string_any hW (textL_bys _)
  generalize textL ⟨4, x, g, y⟩ = T at *
  have hq1 : IntKind.i64.wrap ((x.size : Int) + (g.size : Int)) = (x.size : Int) + (g.size : Int) := by rw [IntKind.wrap_i64]; omega
  have hq2 : IntKind.i64.wrap ((x.size : Int) + (g.size : Int) + (y.size : Int)) = (x.size : Int) + (g.size : Int) + (y.size : Int) := by rw [IntKind.wrap_i64]; omega
  have hq3 : IntKind.i64.wrap ((x.size : Int) + (g.size : Int) + (y.size : Int) + 6) = (x.size : Int) + (g.size : Int) + (y.size : Int) + 6 := by rw [IntKind.wrap_i64]; omega
  clear hv hvy l1 l2 l3 l4 l5 l6
  unfold tmV
  go_enter Tryz.func31, Tryz.ntmps31
  go_upto_region 1 with fail
  rw [← hw1]
  clear hw1
  go_wp2_with (first
    | (go_at_call 48; refine HG.out.mono ?_; rintro e w2 ⟨rfl, HX, q0, q1, q2, q3, qO⟩)
    | (go_at_call 51; refine (HI.out _ HX.out).mono ?_; rintro e w3 ⟨rfl, HX2, q0, q1, q2, q3, qO⟩)
    | (go_at_call 50; refine (HP.out _ HX2.out).mono ?_; rintro e w3 ⟨rfl, HX4, q0, q1, q2, q3, qO⟩)
    | (go_at_call 49; refine (HY.out _ HX4.out).mono ?_; rintro e w3 ⟨rfl, HX3, q0, q1, q2, q3, qO⟩)
    | (go_at_call 52; refine (HS.out _ HX3.out).mono ?_; rintro e w4 ⟨rfl, HZ⟩))
  go_ret
  exact ⟨rfl, hid (HO0.out.trans HZ.out)⟩
/-- A right term's text. -/
theorem textOf_any {t : Tm} {w : World} (hr : rightT t = true) (hs : sizeT t ≤ 1099511627776) :
    Calls Tryz.prog 31 #[tmV t] w fun e w' => e = .returned (.string (strB (textL t))) ∧ StU w w' := by
  obtain ⟨k, x, g, y⟩ := t
  have hs' : x.size + g.size + y.size ≤ 1099511627776 := hs
  rcases right_kind hr with h | h | h | h
  · have h' : k = 1 := h
    subst h'
    exact text1 (right_iri rfl hr).2 hs'
  · have h' : k = 2 := h
    subst h'
    exact text2 hs'
  · have h' : k = 3 := h
    subst h'
    obtain ⟨_, h2, _⟩ := right_lit rfl hr
    by_cases e : g = ByteArray.empty
    · exact text3e h2 e hs'
    · exact text3 h2 e hs'
  · have h' : k = 4 := h
    subst h'
    obtain ⟨_, _, h2, h3⟩ := right_typ rfl hr
    exact text4 h2 h3 hs'
end Go.Proofs.YtefcnaccemefnaaGreatDoor
