/- The document's Text. -/
import Derived.Test.YtefcnaccemefnaaGreatDoorTeH
import Derived.Test.YtefcnaccemefnaaGreatDoorTeF
import Derived.Test.YtefcnaccemefnaaGreatDoorTeC
namespace Go.Proofs.YtefcnaccemefnaaGreatDoor
open Go.RowKit U G

theorem iri_size (s : ByteArray) : (strB (iriB (bl s))).size ≤ 6 * s.size := by
  have h1 := (iriB_len (bl s)).2
  rw [← bl_len, bl_strB (iriB_bys (bl_bys s)), ← bl_len s]
  exact h1
theorem lit_size (s : ByteArray) : (strB (litB (bl s))).size ≤ 2 * s.size := by
  have h1 := (litB_len (bl s)).2
  rw [← bl_len, bl_strB (litB_bys (bl_bys s)), ← bl_len s]
  exact h1
theorem str_eq {a : ByteArray} {l : List Nat} (h : bl a = l) : Ending.returned (.string a) = .returned (.string (strB l)) := by
  rw [← h, strB_bl]
set_option maxHeartbeats 2000000 in
theorem rtext1 {x g y : ByteArray} {w : World} (hx : x.size ≤ 900000)  :
    Calls Tryz.prog 42 #[tmV ⟨1, x, g, y⟩] w fun e w' => e = .returned (.string (strB (textL ⟨1, x, g, y⟩))) ∧ StU w w' := by
  obtain ⟨w1, hw1⟩ : ∃ w1, w1 = w.alloc (.cells #[.int .i64 1, .string x, .string g, .string y] 27) := ⟨_, rfl⟩
  have HO0 : StU w w1 := hid (by rw [hw1]; exact (Only.refl _ w).alloc _)
  have HA0 : Hid (TmAt w1 w.heap.size ⟨1, x, g, y⟩) := hid (by rw [hw1]; exact tm_new w ⟨1, x, g, y⟩)
  have hcs := HA0.out.cells
  simp only at hcs
  obtain ⟨d0, d1, d2, d3⟩ := hcs
  have HB0 : StU w1 w1 := hid (Only.refl _ w1)
  have HI : Hid (∀ W, StU w1 W → Calls Tryz.prog 68 #[.string x] W fun e w' => e = .returned (.string (strB (iriB (bl x)))) ∧ TmS w1 w.heap.size ⟨1, x, g, y⟩ w') := hid fun W hW => (refIri_any hx).mono fun e w' h => ⟨h.1, tmS_of HA0.out (hid (hW.out.trans h.2.out))⟩
  have hz := iri_size x
  have hb := bl_strB (iriB_bys (bl_bys x))
  obtain ⟨I, hI⟩ : ∃ I, strB (iriB (bl x)) = I := ⟨_, rfl⟩
  rw [hI] at HI hz hb
  have Hb := hid hb
  clear hI hb
  unfold tmV
  go_enter Tryz.func42, Tryz.ntmps42
  go_upto_region 1 with fail
  rw [← hw1]
  clear hw1
  go_wp2_with (go_at_call 68; refine (HI.out _ HB0).mono ?_; rintro e w2 ⟨rfl, q0, q1, q2, q3, qO⟩)
  go_ret
  exact ⟨str_eq (by rw [bl_append, bl_append, Hb.out]; simp [textL]; rfl), hid (HO0.out.trans qO.out)⟩
set_option maxHeartbeats 2000000 in
theorem rtext2 {x g y : ByteArray} {w : World} (hx : x.size ≤ 900000)  :
    Calls Tryz.prog 42 #[tmV ⟨2, x, g, y⟩] w fun e w' => e = .returned (.string (strB (textL ⟨2, x, g, y⟩))) ∧ StU w w' := by
  obtain ⟨w1, hw1⟩ : ∃ w1, w1 = w.alloc (.cells #[.int .i64 2, .string x, .string g, .string y] 27) := ⟨_, rfl⟩
  have HO0 : StU w w1 := hid (by rw [hw1]; exact (Only.refl _ w).alloc _)
  have HA0 : Hid (TmAt w1 w.heap.size ⟨2, x, g, y⟩) := hid (by rw [hw1]; exact tm_new w ⟨2, x, g, y⟩)
  have hcs := HA0.out.cells
  simp only at hcs
  obtain ⟨d0, d1, d2, d3⟩ := hcs
  have HB0 : StU w1 w1 := hid (Only.refl _ w1)
  unfold tmV
  go_enter Tryz.func42, Tryz.ntmps42
  go_upto_region 1 with fail
  rw [← hw1]
  clear hw1
  go_wp2_with fail
  go_ret
  exact ⟨str_eq (by rw [bl_append]; simp [textL]; rfl), hid (HO0.out.trans HB0.out)⟩
set_option maxHeartbeats 2000000 in
theorem rtext3e {x g y : ByteArray} {w : World} (hx : x.size ≤ 900000) (hg : g = ByteArray.empty) :
    Calls Tryz.prog 42 #[tmV ⟨3, x, g, y⟩] w fun e w' => e = .returned (.string (strB (textL ⟨3, x, g, y⟩))) ∧ StU w w' := by
  obtain ⟨w1, hw1⟩ : ∃ w1, w1 = w.alloc (.cells #[.int .i64 3, .string x, .string g, .string y] 27) := ⟨_, rfl⟩
  have HO0 : StU w w1 := hid (by rw [hw1]; exact (Only.refl _ w).alloc _)
  have HA0 : Hid (TmAt w1 w.heap.size ⟨3, x, g, y⟩) := hid (by rw [hw1]; exact tm_new w ⟨3, x, g, y⟩)
  have hcs := HA0.out.cells
  simp only at hcs
  obtain ⟨d0, d1, d2, d3⟩ := hcs
  have HB0 : StU w1 w1 := hid (Only.refl _ w1)
  have hq := emp_beq g
  rw [decide_eq_true hg] at hq
  have Hg := hid hg
  clear hg
  have HL : Hid (∀ W, StU w1 W → Calls Tryz.prog 69 #[.string x] W fun e w' => e = .returned (.string (strB (litB (bl x)))) ∧ TmS w1 w.heap.size ⟨3, x, g, y⟩ w') := hid fun W hW => (refLit_any hx).mono fun e w' h => ⟨h.1, tmS_of HA0.out (hid (hW.out.trans h.2.out))⟩
  have hz := lit_size x
  have hb := bl_strB (litB_bys (bl_bys x))
  obtain ⟨L, hL⟩ : ∃ L, strB (litB (bl x)) = L := ⟨_, rfl⟩
  rw [hL] at HL hz hb
  have Hb := hid hb
  clear hL hb
  unfold tmV
  go_enter Tryz.func42, Tryz.ntmps42
  go_upto_region 1 with fail
  rw [← hw1]
  clear hw1
  go_wp2_with (go_at_call 69; refine (HL.out _ HB0).mono ?_; rintro e w2 ⟨rfl, q0, q1, q2, q3, qO⟩)
  go_ret
  exact ⟨str_eq (by rw [bl_append, bl_append, Hb.out]; simp [textL, Hg.out]; rfl), hid (HO0.out.trans qO.out)⟩
set_option maxHeartbeats 2000000 in
theorem rtext3 {x g y : ByteArray} {w : World} (hx : x.size ≤ 900000) (hg : g ≠ ByteArray.empty) (hgs : g.size ≤ 900000) :
    Calls Tryz.prog 42 #[tmV ⟨3, x, g, y⟩] w fun e w' => e = .returned (.string (strB (textL ⟨3, x, g, y⟩))) ∧ StU w w' := by
  obtain ⟨w1, hw1⟩ : ∃ w1, w1 = w.alloc (.cells #[.int .i64 3, .string x, .string g, .string y] 27) := ⟨_, rfl⟩
  have HO0 : StU w w1 := hid (by rw [hw1]; exact (Only.refl _ w).alloc _)
  have HA0 : Hid (TmAt w1 w.heap.size ⟨3, x, g, y⟩) := hid (by rw [hw1]; exact tm_new w ⟨3, x, g, y⟩)
  have hcs := HA0.out.cells
  simp only at hcs
  obtain ⟨d0, d1, d2, d3⟩ := hcs
  have HB0 : StU w1 w1 := hid (Only.refl _ w1)
  have hq := emp_beq g
  rw [decide_eq_false hg] at hq
  have HL : Hid (∀ W, StU w1 W → Calls Tryz.prog 69 #[.string x] W fun e w' => e = .returned (.string (strB (litB (bl x)))) ∧ TmS w1 w.heap.size ⟨3, x, g, y⟩ w') := hid fun W hW => (refLit_any hx).mono fun e w' h => ⟨h.1, tmS_of HA0.out (hid (hW.out.trans h.2.out))⟩
  have hz := lit_size x
  have hb := bl_strB (litB_bys (bl_bys x))
  obtain ⟨L, hL⟩ : ∃ L, strB (litB (bl x)) = L := ⟨_, rfl⟩
  rw [hL] at HL hz hb
  have Hb := hid hb
  clear hL hb
  have n1 : ¬ 9223372036854775807 < 1 + L.size := by omega
  have n2 : ¬ 9223372036854775807 < 1 + L.size + 2 := by omega
  have n3 : ¬ 9223372036854775807 < 1 + L.size + 2 + g.size := by omega
  unfold tmV
  go_enter Tryz.func42, Tryz.ntmps42
  go_upto_region 1 with fail
  rw [← hw1]
  clear hw1
  go_wp2_with fail
  refine wp_region_noPanic ?_
  refine wp_region_held_drew (S := fun u => u.cell? ⟨w.heap.size, 0, none⟩ = some (.int .i64 3) ∧ u.cell? ⟨w.heap.size, 1, none⟩ = some (.string x) ∧ u.cell? ⟨w.heap.size, 2, none⟩ = some (.string g) ∧ u.cell? ⟨w.heap.size, 3, none⟩ = some (.string y) ∧ StU w1 u) (by kernel_rfl) (tmS_of HA0.out (hid ((Only.refl _ _).drew))) (fun hHeld => ?_)
  refine wpAnyH_take (i := 0) (oi := { dst := some 32, op := Op.fieldAddr 27 (Operand.tmp 1) 1, type := 0, pos := "ref.go:115", after := #[], guard := none }) (v := ?_) rfl (by kernel_rfl) (by kernel_rfl) (by kernel_rfl) (fun _ _ _ h => h) (Or.inl ⟨by rfl, ?_⟩) (by with_reducible assumption) ?_
  rotate_left
  · (intro w' hSw; (try dsimp only at hSw); first | (go_simp; done) | (go_simp; with_reducible rfl))
  (try simp only [Act.put, List.setIfInBounds_toArray, List.set_cons_zero, List.set_cons_succ])
  refine wpAnyH_take (i := 1) (oi := { dst := some 33, op := Op.load 9 (Operand.tmp 32), type := 9, pos := "ref.go:115", after := #[{ on := 0, ground := Ground.data }], guard := none }) (v := ?_) rfl (by kernel_rfl) (by kernel_rfl) (by kernel_rfl) (fun _ _ _ h => h) (Or.inl ⟨by rfl, ?_⟩) (by with_reducible assumption) ?_
  rotate_left
  · (intro w' hSw; (try dsimp only at hSw); first | (go_simp; done) | (go_simp; with_reducible rfl))
  (try simp only [Act.put, List.setIfInBounds_toArray, List.set_cons_zero, List.set_cons_succ])
  refine wpAnyH_take (i := 5) (oi := { dst := some 37, op := Op.fieldAddr 27 (Operand.tmp 1) 2, type := 0, pos := "ref.go:115", after := #[], guard := none }) (v := ?_) rfl (by kernel_rfl) (by kernel_rfl) (by kernel_rfl) (fun _ _ _ h => h) (Or.inl ⟨by rfl, ?_⟩) (by with_reducible assumption) ?_
  rotate_left
  · (intro w' hSw; (try dsimp only at hSw); first | (go_simp; done) | (go_simp; with_reducible rfl))
  (try simp only [Act.put, List.setIfInBounds_toArray, List.set_cons_zero, List.set_cons_succ])
  refine wpAnyH_take (i := 6) (oi := { dst := some 38, op := Op.load 9 (Operand.tmp 37), type := 9, pos := "ref.go:115", after := #[{ on := 5, ground := Ground.data }], guard := none }) (v := ?_) rfl (by kernel_rfl) (by kernel_rfl) (by kernel_rfl) (fun _ _ _ h => h) (Or.inl ⟨by rfl, ?_⟩) (by with_reducible assumption) ?_
  rotate_left
  · (intro w' hSw; (try dsimp only at hSw); first | (go_simp; done) | (go_simp; with_reducible rfl))
  (try simp only [Act.put, List.setIfInBounds_toArray, List.set_cons_zero, List.set_cons_succ])
  refine wpAnyH_ready (rs := [2]) (by kernel_rfl) (by simp) ?_
  refine AllReadyH.cons (o := { dst := some 34, op := Op.call { callee := Callee.value (Operand.func 69), args := #[Operand.tmp 33], argTypes := #[9] }, type := 9, pos := "ref.go:115", after := #[{ on := 1, ground := Ground.data }], guard := none }) rfl (fun K hK => ?_) AllReadyH.nil
  go_simp
  (refine (HL.out _ hHeld.2.2.2.2).mono ?_)
  rintro e wa ⟨rfl, HOa⟩
  go_wp2_with fail
  refine hK.out _ _ (HOa) (fun hHeld => ?_)
  clear hK K
  (try simp only [Act.put, List.setIfInBounds_toArray, List.set_cons_zero, List.set_cons_succ])
  refine wpAnyH_take (i := 3) (oi := { dst := some 35, op := Op.binOp BinOp.add 9 (Operand.const (Value.string { data := #[34] })) (Operand.tmp 34) 9, type := 9, pos := "ref.go:115", after := #[{ on := 2, ground := Ground.data }], guard := none }) (v := ?_) rfl (by kernel_rfl) (by kernel_rfl) (by kernel_rfl) (fun _ _ _ h => h) (Or.inl ⟨by rfl, ?_⟩) (by with_reducible assumption) ?_
  rotate_left
  · (intro w' hSw; (try dsimp only at hSw); first | (go_simp; done) | (go_simp; with_reducible rfl))
  (try simp only [Act.put, List.setIfInBounds_toArray, List.set_cons_zero, List.set_cons_succ])
  refine wpAnyH_take (i := 4) (oi := { dst := some 36, op := Op.binOp BinOp.add 9 (Operand.tmp 35) (Operand.const (Value.string { data := #[34, 64] })) 9, type := 9, pos := "ref.go:115", after := #[{ on := 3, ground := Ground.data }], guard := none }) (v := ?_) rfl (by kernel_rfl) (by kernel_rfl) (by kernel_rfl) (fun _ _ _ h => h) (Or.inl ⟨by rfl, ?_⟩) (by with_reducible assumption) ?_
  rotate_left
  · (intro w' hSw; (try dsimp only at hSw); first | (go_simp; done) | (go_simp; with_reducible rfl))
  (try simp only [Act.put, List.setIfInBounds_toArray, List.set_cons_zero, List.set_cons_succ])
  refine wpAnyH_take (i := 7) (oi := { dst := some 39, op := Op.binOp BinOp.add 9 (Operand.tmp 36) (Operand.tmp 38) 9, type := 9, pos := "ref.go:115", after := #[{ on := 4, ground := Ground.data }, { on := 6, ground := Ground.data }], guard := none }) (v := ?_) rfl (by kernel_rfl) (by kernel_rfl) (by kernel_rfl) (fun _ _ _ h => h) (Or.inl ⟨by rfl, ?_⟩) (by with_reducible assumption) ?_
  rotate_left
  · (intro w' hSw; (try dsimp only at hSw); first | (go_simp; done) | (go_simp; with_reducible rfl))
  (try simp only [Act.put, List.setIfInBounds_toArray, List.set_cons_zero, List.set_cons_succ])
  refine wpAnyH_take (i := 8) (oi := { dst := some 2, op := Op.assign (Operand.tmp 39), type := 9, pos := "ref.go:115", after := #[{ on := 7, ground := Ground.data }, { on := 2, ground := Ground.chain }, { on := 0, ground := Ground.phase }, { on := 1, ground := Ground.phase }, { on := 2, ground := Ground.phase }, { on := 3, ground := Ground.phase }, { on := 4, ground := Ground.phase }, { on := 5, ground := Ground.phase }, { on := 6, ground := Ground.phase }, { on := 7, ground := Ground.phase }], guard := none }) (v := ?_) rfl (by kernel_rfl) (by kernel_rfl) (by kernel_rfl) (fun _ _ _ h => h) (Or.inl ⟨by rfl, ?_⟩) (by with_reducible assumption) ?_
  rotate_left
  · (intro w' hSw; (try dsimp only at hSw); first | (go_simp; done) | (go_simp; with_reducible rfl))
  (try simp only [Act.put, List.setIfInBounds_toArray, List.set_cons_zero, List.set_cons_succ])
  refine wpAnyH_done (by kernel_rfl) ?_ _
  refine NoPanic.normal ?_
  go_wp2_with fail
  go_ret
  exact ⟨str_eq (by rw [bl_append, bl_append, bl_append, Hb.out]; simp [textL, hg]; rfl), hid (HO0.out.trans hHeld.2.2.2.2.out)⟩
set_option maxHeartbeats 2000000 in
theorem rtext4 {x g y : ByteArray} {w : World} (hx : x.size ≤ 900000) (hys : y.size ≤ 900000) :
    Calls Tryz.prog 42 #[tmV ⟨4, x, g, y⟩] w fun e w' => e = .returned (.string (strB (textL ⟨4, x, g, y⟩))) ∧ StU w w' := by
  obtain ⟨w1, hw1⟩ : ∃ w1, w1 = w.alloc (.cells #[.int .i64 4, .string x, .string g, .string y] 27) := ⟨_, rfl⟩
  have HO0 : StU w w1 := hid (by rw [hw1]; exact (Only.refl _ w).alloc _)
  have HA0 : Hid (TmAt w1 w.heap.size ⟨4, x, g, y⟩) := hid (by rw [hw1]; exact tm_new w ⟨4, x, g, y⟩)
  have hcs := HA0.out.cells
  simp only at hcs
  obtain ⟨d0, d1, d2, d3⟩ := hcs
  have HB0 : StU w1 w1 := hid (Only.refl _ w1)
  have HL : Hid (∀ W, StU w1 W → Calls Tryz.prog 69 #[.string x] W fun e w' => e = .returned (.string (strB (litB (bl x)))) ∧ TmS w1 w.heap.size ⟨4, x, g, y⟩ w') := hid fun W hW => (refLit_any hx).mono fun e w' h => ⟨h.1, tmS_of HA0.out (hid (hW.out.trans h.2.out))⟩
  have hz := lit_size x
  have hb := bl_strB (litB_bys (bl_bys x))
  obtain ⟨L, hL⟩ : ∃ L, strB (litB (bl x)) = L := ⟨_, rfl⟩
  rw [hL] at HL hz hb
  have Hb := hid hb
  clear hL hb
  have HI : Hid (∀ W, StU w1 W → Calls Tryz.prog 68 #[.string y] W fun e w' => e = .returned (.string (strB (iriB (bl y)))) ∧ TmS w1 w.heap.size ⟨4, x, g, y⟩ w') := hid fun W hW => (refIri_any hys).mono fun e w' h => ⟨h.1, tmS_of HA0.out (hid (hW.out.trans h.2.out))⟩
  have hzy := iri_size y
  have hby := bl_strB (iriB_bys (bl_bys y))
  obtain ⟨I, hI⟩ : ∃ I, strB (iriB (bl y)) = I := ⟨_, rfl⟩
  rw [hI] at HI hzy hby
  have Hby := hid hby
  clear hI hby
  have n1 : ¬ 9223372036854775807 < 1 + L.size := by omega
  have n2 : ¬ 9223372036854775807 < 1 + L.size + 4 := by omega
  have n3 : ¬ 9223372036854775807 < 1 + L.size + 4 + I.size := by omega
  have n4 : ¬ 9223372036854775807 < 1 + L.size + 4 + I.size + 1 := by omega
  unfold tmV
  go_enter Tryz.func42, Tryz.ntmps42
  go_upto_region 1 with fail
  rw [← hw1]
  clear hw1
  go_wp2_with fail
  refine wp_region_noPanic ?_
  refine wp_region_held_drew (S := fun u => u.cell? ⟨w.heap.size, 0, none⟩ = some (.int .i64 4) ∧ u.cell? ⟨w.heap.size, 1, none⟩ = some (.string x) ∧ u.cell? ⟨w.heap.size, 2, none⟩ = some (.string g) ∧ u.cell? ⟨w.heap.size, 3, none⟩ = some (.string y) ∧ StU w1 u) (by kernel_rfl) (tmS_of HA0.out (hid ((Only.refl _ _).drew))) (fun hHeld => ?_)
  refine wpAnyH_take (i := 0) (oi := { dst := some 19, op := Op.fieldAddr 27 (Operand.tmp 1) 1, type := 0, pos := "ref.go:112", after := #[], guard := none }) (v := ?_) rfl (by kernel_rfl) (by kernel_rfl) (by kernel_rfl) (fun _ _ _ h => h) (Or.inl ⟨by rfl, ?_⟩) (by with_reducible assumption) ?_
  rotate_left
  · (intro w' hSw; (try dsimp only at hSw); first | (go_simp; done) | (go_simp; with_reducible rfl))
  (try simp only [Act.put, List.setIfInBounds_toArray, List.set_cons_zero, List.set_cons_succ])
  refine wpAnyH_take (i := 1) (oi := { dst := some 20, op := Op.load 9 (Operand.tmp 19), type := 9, pos := "ref.go:112", after := #[{ on := 0, ground := Ground.data }], guard := none }) (v := ?_) rfl (by kernel_rfl) (by kernel_rfl) (by kernel_rfl) (fun _ _ _ h => h) (Or.inl ⟨by rfl, ?_⟩) (by with_reducible assumption) ?_
  rotate_left
  · (intro w' hSw; (try dsimp only at hSw); first | (go_simp; done) | (go_simp; with_reducible rfl))
  (try simp only [Act.put, List.setIfInBounds_toArray, List.set_cons_zero, List.set_cons_succ])
  refine wpAnyH_take (i := 5) (oi := { dst := some 24, op := Op.fieldAddr 27 (Operand.tmp 1) 3, type := 0, pos := "ref.go:112", after := #[], guard := none }) (v := ?_) rfl (by kernel_rfl) (by kernel_rfl) (by kernel_rfl) (fun _ _ _ h => h) (Or.inl ⟨by rfl, ?_⟩) (by with_reducible assumption) ?_
  rotate_left
  · (intro w' hSw; (try dsimp only at hSw); first | (go_simp; done) | (go_simp; with_reducible rfl))
  (try simp only [Act.put, List.setIfInBounds_toArray, List.set_cons_zero, List.set_cons_succ])
  refine wpAnyH_take (i := 6) (oi := { dst := some 25, op := Op.load 9 (Operand.tmp 24), type := 9, pos := "ref.go:112", after := #[{ on := 5, ground := Ground.data }], guard := none }) (v := ?_) rfl (by kernel_rfl) (by kernel_rfl) (by kernel_rfl) (fun _ _ _ h => h) (Or.inl ⟨by rfl, ?_⟩) (by with_reducible assumption) ?_
  rotate_left
  · (intro w' hSw; (try dsimp only at hSw); first | (go_simp; done) | (go_simp; with_reducible rfl))
  (try simp only [Act.put, List.setIfInBounds_toArray, List.set_cons_zero, List.set_cons_succ])
  refine wpAnyH_ready (rs := [2]) (by kernel_rfl) (by simp) ?_
  refine AllReadyH.cons (o := { dst := some 21, op := Op.call { callee := Callee.value (Operand.func 69), args := #[Operand.tmp 20], argTypes := #[9] }, type := 9, pos := "ref.go:112", after := #[{ on := 1, ground := Ground.data }], guard := none }) rfl (fun K hK => ?_) AllReadyH.nil
  go_simp
  (refine (HL.out _ hHeld.2.2.2.2).mono ?_)
  rintro e wa ⟨rfl, HOa⟩
  go_wp2_with fail
  refine hK.out _ _ (HOa) (fun hHeld => ?_)
  clear hK K
  (try simp only [Act.put, List.setIfInBounds_toArray, List.set_cons_zero, List.set_cons_succ])
  refine wpAnyH_take (i := 3) (oi := { dst := some 22, op := Op.binOp BinOp.add 9 (Operand.const (Value.string { data := #[34] })) (Operand.tmp 21) 9, type := 9, pos := "ref.go:112", after := #[{ on := 2, ground := Ground.data }], guard := none }) (v := ?_) rfl (by kernel_rfl) (by kernel_rfl) (by kernel_rfl) (fun _ _ _ h => h) (Or.inl ⟨by rfl, ?_⟩) (by with_reducible assumption) ?_
  rotate_left
  · (intro w' hSw; (try dsimp only at hSw); first | (go_simp; done) | (go_simp; with_reducible rfl))
  (try simp only [Act.put, List.setIfInBounds_toArray, List.set_cons_zero, List.set_cons_succ])
  refine wpAnyH_take (i := 4) (oi := { dst := some 23, op := Op.binOp BinOp.add 9 (Operand.tmp 22) (Operand.const (Value.string { data := #[34, 94, 94, 60] })) 9, type := 9, pos := "ref.go:112", after := #[{ on := 3, ground := Ground.data }], guard := none }) (v := ?_) rfl (by kernel_rfl) (by kernel_rfl) (by kernel_rfl) (fun _ _ _ h => h) (Or.inl ⟨by rfl, ?_⟩) (by with_reducible assumption) ?_
  rotate_left
  · (intro w' hSw; (try dsimp only at hSw); first | (go_simp; done) | (go_simp; with_reducible rfl))
  (try simp only [Act.put, List.setIfInBounds_toArray, List.set_cons_zero, List.set_cons_succ])
  refine wpAnyH_ready (rs := [7]) (by kernel_rfl) (by simp) ?_
  refine AllReadyH.cons (o := { dst := some 26, op := Op.call { callee := Callee.value (Operand.func 68), args := #[Operand.tmp 25], argTypes := #[9] }, type := 9, pos := "ref.go:112", after := #[{ on := 6, ground := Ground.data }, { on := 2, ground := Ground.chain }], guard := none }) rfl (fun K hK => ?_) AllReadyH.nil
  go_simp
  (refine (HI.out _ hHeld.2.2.2.2).mono ?_)
  rintro e wa ⟨rfl, HOa⟩
  go_wp2_with fail
  refine hK.out _ _ (HOa) (fun hHeld => ?_)
  clear hK K
  (try simp only [Act.put, List.setIfInBounds_toArray, List.set_cons_zero, List.set_cons_succ])
  refine wpAnyH_take (i := 8) (oi := { dst := some 27, op := Op.binOp BinOp.add 9 (Operand.tmp 23) (Operand.tmp 26) 9, type := 9, pos := "ref.go:112", after := #[{ on := 4, ground := Ground.data }, { on := 7, ground := Ground.data }], guard := none }) (v := ?_) rfl (by kernel_rfl) (by kernel_rfl) (by kernel_rfl) (fun _ _ _ h => h) (Or.inl ⟨by rfl, ?_⟩) (by with_reducible assumption) ?_
  rotate_left
  · (intro w' hSw; (try dsimp only at hSw); first | (go_simp; done) | (go_simp; with_reducible rfl))
  (try simp only [Act.put, List.setIfInBounds_toArray, List.set_cons_zero, List.set_cons_succ])
  refine wpAnyH_take (i := 9) (oi := { dst := some 28, op := Op.binOp BinOp.add 9 (Operand.tmp 27) (Operand.const (Value.string { data := #[62] })) 9, type := 9, pos := "ref.go:112", after := #[{ on := 8, ground := Ground.data }], guard := none }) (v := ?_) rfl (by kernel_rfl) (by kernel_rfl) (by kernel_rfl) (fun _ _ _ h => h) (Or.inl ⟨by rfl, ?_⟩) (by with_reducible assumption) ?_
  rotate_left
  · (intro w' hSw; (try dsimp only at hSw); first | (go_simp; done) | (go_simp; with_reducible rfl))
  (try simp only [Act.put, List.setIfInBounds_toArray, List.set_cons_zero, List.set_cons_succ])
  refine wpAnyH_take (i := 10) (oi := { dst := some 2, op := Op.assign (Operand.tmp 28), type := 9, pos := "ref.go:112", after := #[{ on := 9, ground := Ground.data }, { on := 7, ground := Ground.chain }, { on := 0, ground := Ground.phase }, { on := 1, ground := Ground.phase }, { on := 2, ground := Ground.phase }, { on := 3, ground := Ground.phase }, { on := 4, ground := Ground.phase }, { on := 5, ground := Ground.phase }, { on := 6, ground := Ground.phase }, { on := 7, ground := Ground.phase }, { on := 8, ground := Ground.phase }, { on := 9, ground := Ground.phase }], guard := none }) (v := ?_) rfl (by kernel_rfl) (by kernel_rfl) (by kernel_rfl) (fun _ _ _ h => h) (Or.inl ⟨by rfl, ?_⟩) (by with_reducible assumption) ?_
  rotate_left
  · (intro w' hSw; (try dsimp only at hSw); first | (go_simp; done) | (go_simp; with_reducible rfl))
  (try simp only [Act.put, List.setIfInBounds_toArray, List.set_cons_zero, List.set_cons_succ])
  refine wpAnyH_done (by kernel_rfl) ?_ _
  refine NoPanic.normal ?_
  go_wp2_with fail
  go_ret
  exact ⟨str_eq (by rw [bl_append, bl_append, bl_append, bl_append, Hb.out, Hby.out]; simp [textL]; rfl), hid (HO0.out.trans hHeld.2.2.2.2.out)⟩
/-- The document's Text, of a right term. -/
theorem refText_any' {t : Tm} {w : World} (hr : rightT t = true) (hs : sizeT t ≤ 900000) :
    Calls Tryz.prog 42 #[tmV t] w fun e w' => e = .returned (.string (strB (textL t))) ∧ StU w w' := by
  obtain ⟨k, x, g, y⟩ := t
  have hs' : x.size + g.size + y.size ≤ 900000 := hs
  rcases right_kind hr with h | h | h | h
  · have h' : k = 1 := h
    subst h'
    exact rtext1 (by omega)
  · have h' : k = 2 := h
    subst h'
    exact rtext2 (by omega)
  · have h' : k = 3 := h
    subst h'
    by_cases e : g = ByteArray.empty
    · exact rtext3e (by omega) e
    · exact rtext3 (by omega) e (by omega)
  · have h' : k = 4 := h
    subst h'
    exact rtext4 (by omega) (by omega)
end Go.Proofs.YtefcnaccemefnaaGreatDoor
