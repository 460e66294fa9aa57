/- How terms stand. -/
import Derived.Test.YtefcnaccemefnaaGreatDoorTeB
namespace Go.Proofs.YtefcnaccemefnaaGreatDoor
open Go.RowKit U G

def cmpT (a b : Tm) : Int :=
  if a = b then 0 else if rightT a then (if rightT b then cmpL (textL a) (textL b) else -1) else if rightT b then 1
  else orI [cmpZ a.k b.k, cmpL (bl a.x) (bl b.x), cmpL (bl a.g) (bl b.g), cmpL (bl a.y) (bl b.y)]
theorem both_of {w1 u : World} {ga gb : Nat} {a b : Tm} (ha : TmAt w1 ga a) (hb : TmAt w1 gb b) (o : StU w1 u) :
    u.cell? ⟨ga, 0, none⟩ = some (.int .i64 a.k) ∧ u.cell? ⟨ga, 1, none⟩ = some (.string a.x) ∧ u.cell? ⟨ga, 2, none⟩ = some (.string a.g) ∧ u.cell? ⟨ga, 3, none⟩ = some (.string a.y) ∧
    u.cell? ⟨gb, 0, none⟩ = some (.int .i64 b.k) ∧ u.cell? ⟨gb, 1, none⟩ = some (.string b.x) ∧ u.cell? ⟨gb, 2, none⟩ = some (.string b.g) ∧ u.cell? ⟨gb, 3, none⟩ = some (.string b.y) ∧ StU w1 u := by
  obtain ⟨h0, h1, h2, h3⟩ := TmAt.cells (o.out.row ha no_)
  obtain ⟨k0, k1, k2, k3⟩ := TmAt.cells (o.out.row hb no_)
  exact ⟨h0, h1, h2, h3, k0, k1, k2, k3, o⟩
abbrev tmObj (t : Tm) : Obj := .cells #[.int .i64 t.k, .string t.x, .string t.g, .string t.y] 27
theorem two_start (a b : Tm) (w : World) : ∃ w1 ga gb, w1 = (w.alloc (tmObj a)).alloc (tmObj b) ∧ ga = w.heap.size ∧ gb = w.heap.size + 1 ∧ Hid (TmAt w1 ga a) ∧ Hid (TmAt w1 gb b) ∧ StU w w1 := by
  refine ⟨_, _, _, rfl, rfl, rfl, hid ?_, hid ?_, hid (((Only.refl _ w).alloc _).alloc _)⟩
  · exact ((Only.refl (fun _ => False) (w.alloc (tmObj a))).alloc (tmObj b)).row (tm_new w a) no_
  · have := tm_new (w.alloc (tmObj a)) b
    rwa [show (w.alloc (tmObj a)).heap.size = w.heap.size + 1 by simp] at this
set_option maxHeartbeats 2000000 in
theorem compare_same {a b : Tm} {w : World} (h : a = b) :
    Calls Tryz.prog 19 #[tmV a, tmV b] w fun e w' => e = .returned (.int .i64 (cmpT a b)) ∧ StU w w' := by
  have hE := eql_tm a b
  rw [decide_eq_true h] at hE
  have hc : cmpT a b = 0 := by unfold cmpT; rw [if_pos h]
  rw [hc]
  clear hc h
  unfold tmV at hE
  obtain ⟨w1, ga, gb, hw1, hga, hgb, HA0, HB0, HO0⟩ := two_start a b w
  subst hga
  subst hgb
  obtain ⟨q0, q1, q2, q3, p0, p1, p2, p3, qO⟩ := both_of HA0.out HB0.out (hid (Only.refl _ w1))
  unfold tmV
  go_enter Tryz.func19, Tryz.ntmps19
  go_upto_region 1 with fail
  rw [← hw1]
  clear hw1
  go_wp2_with fail
  go_ret
  exact ⟨rfl, HO0⟩
set_option maxHeartbeats 4000000 in
theorem compare_one {a b : Tm} {w : World} (hT : Tb w) (hne : a ≠ b) (hsa : sizeT a ≤ 1099511627776) (hsb : sizeT b ≤ 1099511627776) (ra : rightT a = true) (rb : rightT b = false) :
    Calls Tryz.prog 19 #[tmV a, tmV b] w fun e w' => e = .returned (.int .i64 (cmpT a b)) ∧ StU w w' := by
  have hE := eql_tm a b
  rw [decide_eq_false hne] at hE
  have hc : cmpT a b = -1 := by unfold cmpT; rw [if_neg hne, if_pos ra, if_neg (by rw [rb]; simp)]
  rw [hc]
  clear hc hne
  unfold tmV at hE
  obtain ⟨w1, ga, gb, hw1, hga, hgb, HA0, HB0, HO0⟩ := two_start a b w
  subst hga
  subst hgb
  obtain ⟨q0, q1, q2, q3, p0, p1, p2, p3, qO⟩ := both_of HA0.out HB0.out (hid (Only.refl _ w1))
  replace hT : Tb w1 := hT.stu HO0
  have HRa : Hid (∀ W, StU w1 W → Calls Tryz.prog 18 #[.agg #[.int .i64 a.k, .string a.x, .string a.g, .string a.y]] W fun e w' => e = .returned (.bool true) ∧ StU w1 w') := hid fun W hW => (right_any (hT.stu hW) (by omega)).mono fun e w' h => ⟨by rw [h.1, ra], hid (hW.out.trans h.2.out)⟩
  have HRb : Hid (∀ W, StU w1 W → Calls Tryz.prog 18 #[.agg #[.int .i64 b.k, .string b.x, .string b.g, .string b.y]] W fun e w' => e = .returned (.bool false) ∧ StU w1 w') := hid fun W hW => (right_any (hT.stu hW) (by omega)).mono fun e w' h => ⟨by rw [h.1, rb], hid (hW.out.trans h.2.out)⟩
  clear hT hsa hsb
  unfold tmV
  go_enter Tryz.func19, Tryz.ntmps19
  go_upto_region 1 with fail
  rw [← hw1]
  clear hw1
  go_wp2_with fail
  go_region_held3 (fun u => u.cell? ⟨w.heap.size, 0, none⟩ = some (.int .i64 a.k) ∧ u.cell? ⟨w.heap.size, 1, none⟩ = some (.string a.x) ∧ u.cell? ⟨w.heap.size, 2, none⟩ = some (.string a.g) ∧ u.cell? ⟨w.heap.size, 3, none⟩ = some (.string a.y) ∧ u.cell? ⟨w.heap.size + 1, 0, none⟩ = some (.int .i64 b.k) ∧ u.cell? ⟨w.heap.size + 1, 1, none⟩ = some (.string b.x) ∧ u.cell? ⟨w.heap.size + 1, 2, none⟩ = some (.string b.g) ∧ u.cell? ⟨w.heap.size + 1, 3, none⟩ = some (.string b.y) ∧ StU w1 u)
    (first | with_reducible assumption | exact both_of HA0.out HB0.out (hid (Only.refl _ _).drew) | exact both_of HA0.out HB0.out (hid (Only.refl _ _)) | exact both_of HA0.out HB0.out HO)
    (first
      | (go_at_call 18; first
          | (with_reducible refine (HRa.out _ ?_).mono ?_; (first | exact hid (Only.refl _ _).drew | exact hid (Only.refl _ _) | with_reducible assumption); rintro e w' ⟨rfl, HO⟩)
          | (with_reducible refine (HRb.out _ ?_).mono ?_; (first | exact hid (Only.refl _ _).drew | exact hid (Only.refl _ _) | with_reducible assumption); rintro e w' ⟨rfl, HO⟩)))
  go_wp2_with fail
  go_ret
  exact ⟨rfl, hid (HO0.out.trans HO.out)⟩
set_option maxHeartbeats 4000000 in
theorem compare_other {a b : Tm} {w : World} (hT : Tb w) (hne : a ≠ b) (hsa : sizeT a ≤ 1099511627776) (hsb : sizeT b ≤ 1099511627776) (ra : rightT a = false) (rb : rightT b = true) :
    Calls Tryz.prog 19 #[tmV a, tmV b] w fun e w' => e = .returned (.int .i64 (cmpT a b)) ∧ StU w w' := by
  have hE := eql_tm a b
  rw [decide_eq_false hne] at hE
  have hc : cmpT a b = 1 := by unfold cmpT; rw [if_neg hne, if_neg (by rw [ra]; simp), if_pos rb]
  rw [hc]
  clear hc hne
  unfold tmV at hE
  obtain ⟨w1, ga, gb, hw1, hga, hgb, HA0, HB0, HO0⟩ := two_start a b w
  subst hga
  subst hgb
  obtain ⟨q0, q1, q2, q3, p0, p1, p2, p3, qO⟩ := both_of HA0.out HB0.out (hid (Only.refl _ w1))
  replace hT : Tb w1 := hT.stu HO0
  have HRa : Hid (∀ W, StU w1 W → Calls Tryz.prog 18 #[.agg #[.int .i64 a.k, .string a.x, .string a.g, .string a.y]] W fun e w' => e = .returned (.bool false) ∧ StU w1 w') := hid fun W hW => (right_any (hT.stu hW) (by omega)).mono fun e w' h => ⟨by rw [h.1, ra], hid (hW.out.trans h.2.out)⟩
  have HRb : Hid (∀ W, StU w1 W → Calls Tryz.prog 18 #[.agg #[.int .i64 b.k, .string b.x, .string b.g, .string b.y]] W fun e w' => e = .returned (.bool true) ∧ StU w1 w') := hid fun W hW => (right_any (hT.stu hW) (by omega)).mono fun e w' h => ⟨by rw [h.1, rb], hid (hW.out.trans h.2.out)⟩
  clear hT hsa hsb
  unfold tmV
  go_enter Tryz.func19, Tryz.ntmps19
  go_upto_region 1 with fail
  rw [← hw1]
  clear hw1
  go_wp2_with fail
  go_region_held3 (fun u => u.cell? ⟨w.heap.size, 0, none⟩ = some (.int .i64 a.k) ∧ u.cell? ⟨w.heap.size, 1, none⟩ = some (.string a.x) ∧ u.cell? ⟨w.heap.size, 2, none⟩ = some (.string a.g) ∧ u.cell? ⟨w.heap.size, 3, none⟩ = some (.string a.y) ∧ u.cell? ⟨w.heap.size + 1, 0, none⟩ = some (.int .i64 b.k) ∧ u.cell? ⟨w.heap.size + 1, 1, none⟩ = some (.string b.x) ∧ u.cell? ⟨w.heap.size + 1, 2, none⟩ = some (.string b.g) ∧ u.cell? ⟨w.heap.size + 1, 3, none⟩ = some (.string b.y) ∧ StU w1 u)
    (first | with_reducible assumption | exact both_of HA0.out HB0.out (hid (Only.refl _ _).drew) | exact both_of HA0.out HB0.out (hid (Only.refl _ _)) | exact both_of HA0.out HB0.out HO)
    (first
      | (go_at_call 18; first
          | (with_reducible refine (HRa.out _ ?_).mono ?_; (first | exact hid (Only.refl _ _).drew | exact hid (Only.refl _ _) | with_reducible assumption); rintro e w' ⟨rfl, HO⟩)
          | (with_reducible refine (HRb.out _ ?_).mono ?_; (first | exact hid (Only.refl _ _).drew | exact hid (Only.refl _ _) | with_reducible assumption); rintro e w' ⟨rfl, HO⟩)))
  go_wp2_with fail
  go_ret
  exact ⟨rfl, hid (HO0.out.trans HO.out)⟩
set_option maxHeartbeats 4000000 in
theorem compare_both {a b : Tm} {w : World} (hT : Tb w) (hne : a ≠ b) (hsa : sizeT a ≤ 1099511627776) (hsb : sizeT b ≤ 1099511627776) (ra : rightT a = true) (rb : rightT b = true) :
    Calls Tryz.prog 19 #[tmV a, tmV b] w fun e w' => e = .returned (.int .i64 (cmpT a b)) ∧ StU w w' := by
  have hE := eql_tm a b
  rw [decide_eq_false hne] at hE
  have hc : cmpT a b = cmpL (textL a) (textL b) := by unfold cmpT; rw [if_neg hne, if_pos ra, if_pos rb]
  rw [hc]
  clear hc hne
  unfold tmV at hE
  obtain ⟨w1, ga, gb, hw1, hga, hgb, HA0, HB0, HO0⟩ := two_start a b w
  subst hga
  subst hgb
  obtain ⟨q0, q1, q2, q3, p0, p1, p2, p3, qO⟩ := both_of HA0.out HB0.out (hid (Only.refl _ w1))
  replace hT : Tb w1 := hT.stu HO0
  have HRa : Hid (∀ W, StU w1 W → Calls Tryz.prog 18 #[.agg #[.int .i64 a.k, .string a.x, .string a.g, .string a.y]] W fun e w' => e = .returned (.bool true) ∧ StU w1 w') := hid fun W hW => (right_any (hT.stu hW) (by omega)).mono fun e w' h => ⟨by rw [h.1, ra], hid (hW.out.trans h.2.out)⟩
  have HRb : Hid (∀ W, StU w1 W → Calls Tryz.prog 18 #[.agg #[.int .i64 b.k, .string b.x, .string b.g, .string b.y]] W fun e w' => e = .returned (.bool true) ∧ StU w1 w') := hid fun W hW => (right_any (hT.stu hW) (by omega)).mono fun e w' h => ⟨by rw [h.1, rb], hid (hW.out.trans h.2.out)⟩
  have HTa : Hid (∀ W, StU w1 W → Calls Tryz.prog 31 #[.agg #[.int .i64 a.k, .string a.x, .string a.g, .string a.y]] W fun e w' => e = .returned (.string (strB (textL a))) ∧ StU w1 w') := hid fun W hW => (textOf_any ra (by omega)).mono fun e w' h => ⟨h.1, hid (hW.out.trans h.2.out)⟩
  have HTb : Hid (∀ W, StU w1 W → Calls Tryz.prog 31 #[.agg #[.int .i64 b.k, .string b.x, .string b.g, .string b.y]] W fun e w' => e = .returned (.string (strB (textL b))) ∧ StU w1 w') := hid fun W hW => (textOf_any rb (by omega)).mono fun e w' h => ⟨h.1, hid (hW.out.trans h.2.out)⟩
  have HSc : Hid (∀ W, Calls Tryz.prog 37 #[.string (strB (textL a)), .string (strB (textL b))] W fun e w' => e = .returned (.int .i64 (cmpL (textL a) (textL b))) ∧ W = w') := hid fun W => by
    have := strCmp_any (strB (textL a)) (strB (textL b)) W
    rwa [bl_strB (textL_bys a), bl_strB (textL_bys b)] at this
  clear hT hsa hsb
  unfold tmV
  go_enter Tryz.func19, Tryz.ntmps19
  go_upto_region 1 with fail
  rw [← hw1]
  clear hw1
  go_wp2_with fail
  go_region_held3 (fun u => u.cell? ⟨w.heap.size, 0, none⟩ = some (.int .i64 a.k) ∧ u.cell? ⟨w.heap.size, 1, none⟩ = some (.string a.x) ∧ u.cell? ⟨w.heap.size, 2, none⟩ = some (.string a.g) ∧ u.cell? ⟨w.heap.size, 3, none⟩ = some (.string a.y) ∧ u.cell? ⟨w.heap.size + 1, 0, none⟩ = some (.int .i64 b.k) ∧ u.cell? ⟨w.heap.size + 1, 1, none⟩ = some (.string b.x) ∧ u.cell? ⟨w.heap.size + 1, 2, none⟩ = some (.string b.g) ∧ u.cell? ⟨w.heap.size + 1, 3, none⟩ = some (.string b.y) ∧ StU w1 u)
    (first | with_reducible assumption | exact both_of HA0.out HB0.out (hid (Only.refl _ _).drew) | exact both_of HA0.out HB0.out (hid (Only.refl _ _)) | exact both_of HA0.out HB0.out HO)
    (first
      | (go_at_call 18; first
          | (with_reducible refine (HRa.out _ ?_).mono ?_; (first | exact hid (Only.refl _ _).drew | exact hid (Only.refl _ _) | with_reducible assumption); rintro e w' ⟨rfl, HO⟩)
          | (with_reducible refine (HRb.out _ ?_).mono ?_; (first | exact hid (Only.refl _ _).drew | exact hid (Only.refl _ _) | with_reducible assumption); rintro e w' ⟨rfl, HO⟩)))
  go_wp2_with fail
  refine wp_region_noPanic ?_
  refine wp_region_held_drew (S := (fun u => u.cell? ⟨w.heap.size, 0, none⟩ = some (.int .i64 a.k) ∧ u.cell? ⟨w.heap.size, 1, none⟩ = some (.string a.x) ∧ u.cell? ⟨w.heap.size, 2, none⟩ = some (.string a.g) ∧ u.cell? ⟨w.heap.size, 3, none⟩ = some (.string a.y) ∧ u.cell? ⟨w.heap.size + 1, 0, none⟩ = some (.int .i64 b.k) ∧ u.cell? ⟨w.heap.size + 1, 1, none⟩ = some (.string b.x) ∧ u.cell? ⟨w.heap.size + 1, 2, none⟩ = some (.string b.g) ∧ u.cell? ⟨w.heap.size + 1, 3, none⟩ = some (.string b.y) ∧ StU w1 u)) (by kernel_rfl) (both_of HA0.out HB0.out (hid (HO.out.drew))) (fun hHeld => ?_)
  refine wpAnyH_take (i := 0) (oi := { dst := some 19, op := Op.load 27 (Operand.tmp 2), type := 27, pos := "term.go:85", after := #[], guard := none }) (v := ?_) rfl (by kernel_rfl) (by kernel_rfl) (by kernel_rfl) (fun _ _ _ h => h) (Or.inl ⟨by rfl, ?_⟩) (by with_reducible assumption) ?_
  rotate_left
  · (intro w' hSw; (try dsimp only at hSw); first | (go_simp; done) | (go_simp; with_reducible rfl))
  (try simp only [Act.put, List.setIfInBounds_toArray, List.set_cons_zero, List.set_cons_succ])
  refine wpAnyH_take (i := 2) (oi := { dst := some 21, op := Op.load 27 (Operand.tmp 3), type := 27, pos := "term.go:85", after := #[], guard := none }) (v := ?_) rfl (by kernel_rfl) (by kernel_rfl) (by kernel_rfl) (fun _ _ _ h => h) (Or.inl ⟨by rfl, ?_⟩) (by with_reducible assumption) ?_
  rotate_left
  · (intro w' hSw; (try dsimp only at hSw); first | (go_simp; done) | (go_simp; with_reducible rfl))
  (try simp only [Act.put, List.setIfInBounds_toArray, List.set_cons_zero, List.set_cons_succ])
  refine wpAnyH_ready (rs := [1]) (by kernel_rfl) (by simp) ?_
  refine AllReadyH.cons (o := { dst := some 20, op := Op.call { callee := Callee.value (Operand.func 31), args := #[Operand.tmp 19], argTypes := #[27] }, type := 9, pos := "term.go:85", after := #[{ on := 0, ground := Ground.data }], guard := none }) rfl (fun K hK => ?_) AllReadyH.nil
  go_simp
  (refine (HTa.out _ hHeld.2.2.2.2.2.2.2.2).mono ?_)
  rintro e wa ⟨rfl, HOa⟩
  go_wp2_with fail
  refine hK.out _ _ (both_of HA0.out HB0.out (HOa)) (fun hHeld => ?_)
  clear hK K
  (try simp only [Act.put, List.setIfInBounds_toArray, List.set_cons_zero, List.set_cons_succ])
  refine wpAnyH_ready (rs := [3]) (by kernel_rfl) (by simp) ?_
  refine AllReadyH.cons (o := { dst := some 22, op := Op.call { callee := Callee.value (Operand.func 31), args := #[Operand.tmp 21], argTypes := #[27] }, type := 9, pos := "term.go:85", after := #[{ on := 2, ground := Ground.data }, { on := 1, ground := Ground.chain }], guard := none }) rfl (fun K hK => ?_) AllReadyH.nil
  go_simp
  (refine (HTb.out _ hHeld.2.2.2.2.2.2.2.2).mono ?_)
  rintro e wa ⟨rfl, HOa⟩
  go_wp2_with fail
  refine hK.out _ _ (both_of HA0.out HB0.out (HOa)) (fun hHeld => ?_)
  clear hK K
  (try simp only [Act.put, List.setIfInBounds_toArray, List.set_cons_zero, List.set_cons_succ])
  refine wpAnyH_ready (rs := [4]) (by kernel_rfl) (by simp) ?_
  refine AllReadyH.cons (o := { dst := some 23, op := Op.call { callee := Callee.value (Operand.func 37), args := #[Operand.tmp 20, Operand.tmp 22], argTypes := #[9, 9] }, type := 3, pos := "term.go:85", after := #[{ on := 1, ground := Ground.data }, { on := 3, ground := Ground.data }, { on := 3, ground := Ground.chain }], guard := none }) rfl (fun K hK => ?_) AllReadyH.nil
  go_simp
  (refine (HSc.out _).mono ?_)
  rintro e wa ⟨rfl, rfl⟩
  go_wp2_with fail
  refine hK.out _ _ (by with_reducible assumption) (fun hHeld => ?_)
  clear hK K
  (try simp only [Act.put, List.setIfInBounds_toArray, List.set_cons_zero, List.set_cons_succ])
  refine wpAnyH_take (i := 5) (oi := { dst := some 4, op := Op.assign (Operand.tmp 23), type := 3, pos := "term.go:85", after := #[{ on := 4, ground := Ground.data }, { on := 4, ground := Ground.chain }, { on := 0, ground := Ground.phase }, { on := 1, ground := Ground.phase }, { on := 2, ground := Ground.phase }, { on := 3, ground := Ground.phase }, { on := 4, ground := Ground.phase }], guard := none }) (v := ?_) rfl (by kernel_rfl) (by kernel_rfl) (by kernel_rfl) (fun _ _ _ h => h) (Or.inl ⟨by rfl, ?_⟩) (by with_reducible assumption) ?_
  rotate_left
  · (intro w' hSw; (try dsimp only at hSw); first | (go_simp; done) | (go_simp; with_reducible rfl))
  (try simp only [Act.put, List.setIfInBounds_toArray, List.set_cons_zero, List.set_cons_succ])
  refine wpAnyH_done (by kernel_rfl) ?_ _
  refine NoPanic.normal ?_
  go_wp2_with fail
  go_ret
  exact ⟨rfl, hid (HO0.out.trans hHeld.2.2.2.2.2.2.2.2.out)⟩
set_option maxHeartbeats 4000000 in
theorem compare_none {a b : Tm} {w : World} (hT : Tb w) (hne : a ≠ b) (hsa : sizeT a ≤ 1099511627776) (hsb : sizeT b ≤ 1099511627776) (ra : rightT a = false) (rb : rightT b = false) :
    Calls Tryz.prog 19 #[tmV a, tmV b] w fun e w' => e = .returned (.int .i64 (cmpT a b)) ∧ StU w w' := by
  have hE := eql_tm a b
  rw [decide_eq_false hne] at hE
  have hc : cmpT a b = orI [cmpZ a.k b.k, cmpL (bl a.x) (bl b.x), cmpL (bl a.g) (bl b.g), cmpL (bl a.y) (bl b.y)] := by unfold cmpT; rw [if_neg hne, if_neg (by rw [ra]; simp), if_neg (by rw [rb]; simp)]
  rw [hc]
  clear hc hne
  unfold tmV at hE
  obtain ⟨w1, ga, gb, hw1, hga, hgb, HA0, HB0, HO0⟩ := two_start a b w
  subst hga
  subst hgb
  obtain ⟨q0, q1, q2, q3, p0, p1, p2, p3, qO⟩ := both_of HA0.out HB0.out (hid (Only.refl _ w1))
  replace hT : Tb w1 := hT.stu HO0
  have HRa : Hid (∀ W, StU w1 W → Calls Tryz.prog 18 #[.agg #[.int .i64 a.k, .string a.x, .string a.g, .string a.y]] W fun e w' => e = .returned (.bool false) ∧ StU w1 w') := hid fun W hW => (right_any (hT.stu hW) (by omega)).mono fun e w' h => ⟨by rw [h.1, ra], hid (hW.out.trans h.2.out)⟩
  have HRb : Hid (∀ W, StU w1 W → Calls Tryz.prog 18 #[.agg #[.int .i64 b.k, .string b.x, .string b.g, .string b.y]] W fun e w' => e = .returned (.bool false) ∧ StU w1 w') := hid fun W hW => (right_any (hT.stu hW) (by omega)).mono fun e w' h => ⟨by rw [h.1, rb], hid (hW.out.trans h.2.out)⟩
  clear hT hsa hsb
  unfold tmV
  go_enter Tryz.func19, Tryz.ntmps19
  go_upto_region 1 with fail
  rw [← hw1]
  clear hw1
  go_wp2_with fail
  go_region_held3 (fun u => u.cell? ⟨w.heap.size, 0, none⟩ = some (.int .i64 a.k) ∧ u.cell? ⟨w.heap.size, 1, none⟩ = some (.string a.x) ∧ u.cell? ⟨w.heap.size, 2, none⟩ = some (.string a.g) ∧ u.cell? ⟨w.heap.size, 3, none⟩ = some (.string a.y) ∧ u.cell? ⟨w.heap.size + 1, 0, none⟩ = some (.int .i64 b.k) ∧ u.cell? ⟨w.heap.size + 1, 1, none⟩ = some (.string b.x) ∧ u.cell? ⟨w.heap.size + 1, 2, none⟩ = some (.string b.g) ∧ u.cell? ⟨w.heap.size + 1, 3, none⟩ = some (.string b.y) ∧ StU w1 u)
    (first | with_reducible assumption | exact both_of HA0.out HB0.out (hid (Only.refl _ _).drew) | exact both_of HA0.out HB0.out (hid (Only.refl _ _)) | exact both_of HA0.out HB0.out HO)
    (first
      | (go_at_call 18; first
          | (with_reducible refine (HRa.out _ ?_).mono ?_; (first | exact hid (Only.refl _ _).drew | exact hid (Only.refl _ _) | with_reducible assumption); rintro e w' ⟨rfl, HO⟩)
          | (with_reducible refine (HRb.out _ ?_).mono ?_; (first | exact hid (Only.refl _ _).drew | exact hid (Only.refl _ _) | with_reducible assumption); rintro e w' ⟨rfl, HO⟩)))
  go_wp2_with fail
  refine wp_region_noPanic ?_
  refine wp_region_held_drew (S := (fun u => u.cell? ⟨w.heap.size, 0, none⟩ = some (.int .i64 a.k) ∧ u.cell? ⟨w.heap.size, 1, none⟩ = some (.string a.x) ∧ u.cell? ⟨w.heap.size, 2, none⟩ = some (.string a.g) ∧ u.cell? ⟨w.heap.size, 3, none⟩ = some (.string a.y) ∧ u.cell? ⟨w.heap.size + 1, 0, none⟩ = some (.int .i64 b.k) ∧ u.cell? ⟨w.heap.size + 1, 1, none⟩ = some (.string b.x) ∧ u.cell? ⟨w.heap.size + 1, 2, none⟩ = some (.string b.g) ∧ u.cell? ⟨w.heap.size + 1, 3, none⟩ = some (.string b.y) ∧ StU w1 u)) (by kernel_rfl) (both_of HA0.out HB0.out (hid (HO.out.drew))) (fun hHeld => ?_)
  refine wpAnyH_take (i := 0) (oi := { dst := some 28, op := Op.fieldAddr 27 (Operand.tmp 2) 0, type := 0, pos := "term.go:91", after := #[], guard := none }) (v := ?_) rfl (by kernel_rfl) (by kernel_rfl) (by kernel_rfl) (fun _ _ _ h => h) (Or.inl ⟨by rfl, ?_⟩) (by with_reducible assumption) ?_
  rotate_left
  · (intro w' hSw; (try dsimp only at hSw); first | (go_simp; done) | (go_simp; with_reducible rfl))
  (try simp only [Act.put, List.setIfInBounds_toArray, List.set_cons_zero, List.set_cons_succ])
  refine wpAnyH_take (i := 1) (oi := { dst := some 29, op := Op.load 25 (Operand.tmp 28), type := 25, pos := "term.go:91", after := #[{ on := 0, ground := Ground.data }], guard := none }) (v := ?_) rfl (by kernel_rfl) (by kernel_rfl) (by kernel_rfl) (fun _ _ _ h => h) (Or.inl ⟨by rfl, ?_⟩) (by with_reducible assumption) ?_
  rotate_left
  · (intro w' hSw; (try dsimp only at hSw); first | (go_simp; done) | (go_simp; with_reducible rfl))
  (try simp only [Act.put, List.setIfInBounds_toArray, List.set_cons_zero, List.set_cons_succ])
  refine wpAnyH_take (i := 2) (oi := { dst := some 30, op := Op.fieldAddr 27 (Operand.tmp 3) 0, type := 0, pos := "term.go:91", after := #[], guard := none }) (v := ?_) rfl (by kernel_rfl) (by kernel_rfl) (by kernel_rfl) (fun _ _ _ h => h) (Or.inl ⟨by rfl, ?_⟩) (by with_reducible assumption) ?_
  rotate_left
  · (intro w' hSw; (try dsimp only at hSw); first | (go_simp; done) | (go_simp; with_reducible rfl))
  (try simp only [Act.put, List.setIfInBounds_toArray, List.set_cons_zero, List.set_cons_succ])
  refine wpAnyH_take (i := 3) (oi := { dst := some 31, op := Op.load 25 (Operand.tmp 30), type := 25, pos := "term.go:91", after := #[{ on := 2, ground := Ground.data }], guard := none }) (v := ?_) rfl (by kernel_rfl) (by kernel_rfl) (by kernel_rfl) (fun _ _ _ h => h) (Or.inl ⟨by rfl, ?_⟩) (by with_reducible assumption) ?_
  rotate_left
  · (intro w' hSw; (try dsimp only at hSw); first | (go_simp; done) | (go_simp; with_reducible rfl))
  (try simp only [Act.put, List.setIfInBounds_toArray, List.set_cons_zero, List.set_cons_succ])
  refine wpAnyH_take (i := 5) (oi := { dst := some 33, op := Op.fieldAddr 27 (Operand.tmp 2) 1, type := 0, pos := "term.go:91", after := #[], guard := none }) (v := ?_) rfl (by kernel_rfl) (by kernel_rfl) (by kernel_rfl) (fun _ _ _ h => h) (Or.inl ⟨by rfl, ?_⟩) (by with_reducible assumption) ?_
  rotate_left
  · (intro w' hSw; (try dsimp only at hSw); first | (go_simp; done) | (go_simp; with_reducible rfl))
  (try simp only [Act.put, List.setIfInBounds_toArray, List.set_cons_zero, List.set_cons_succ])
  refine wpAnyH_take (i := 6) (oi := { dst := some 34, op := Op.load 9 (Operand.tmp 33), type := 9, pos := "term.go:91", after := #[{ on := 5, ground := Ground.data }], guard := none }) (v := ?_) rfl (by kernel_rfl) (by kernel_rfl) (by kernel_rfl) (fun _ _ _ h => h) (Or.inl ⟨by rfl, ?_⟩) (by with_reducible assumption) ?_
  rotate_left
  · (intro w' hSw; (try dsimp only at hSw); first | (go_simp; done) | (go_simp; with_reducible rfl))
  (try simp only [Act.put, List.setIfInBounds_toArray, List.set_cons_zero, List.set_cons_succ])
  refine wpAnyH_take (i := 7) (oi := { dst := some 35, op := Op.fieldAddr 27 (Operand.tmp 3) 1, type := 0, pos := "term.go:91", after := #[], guard := none }) (v := ?_) rfl (by kernel_rfl) (by kernel_rfl) (by kernel_rfl) (fun _ _ _ h => h) (Or.inl ⟨by rfl, ?_⟩) (by with_reducible assumption) ?_
  rotate_left
  · (intro w' hSw; (try dsimp only at hSw); first | (go_simp; done) | (go_simp; with_reducible rfl))
  (try simp only [Act.put, List.setIfInBounds_toArray, List.set_cons_zero, List.set_cons_succ])
  refine wpAnyH_take (i := 8) (oi := { dst := some 36, op := Op.load 9 (Operand.tmp 35), type := 9, pos := "term.go:91", after := #[{ on := 7, ground := Ground.data }], guard := none }) (v := ?_) rfl (by kernel_rfl) (by kernel_rfl) (by kernel_rfl) (fun _ _ _ h => h) (Or.inl ⟨by rfl, ?_⟩) (by with_reducible assumption) ?_
  rotate_left
  · (intro w' hSw; (try dsimp only at hSw); first | (go_simp; done) | (go_simp; with_reducible rfl))
  (try simp only [Act.put, List.setIfInBounds_toArray, List.set_cons_zero, List.set_cons_succ])
  refine wpAnyH_take (i := 10) (oi := { dst := some 38, op := Op.fieldAddr 27 (Operand.tmp 2) 2, type := 0, pos := "term.go:91", after := #[], guard := none }) (v := ?_) rfl (by kernel_rfl) (by kernel_rfl) (by kernel_rfl) (fun _ _ _ h => h) (Or.inl ⟨by rfl, ?_⟩) (by with_reducible assumption) ?_
  rotate_left
  · (intro w' hSw; (try dsimp only at hSw); first | (go_simp; done) | (go_simp; with_reducible rfl))
  (try simp only [Act.put, List.setIfInBounds_toArray, List.set_cons_zero, List.set_cons_succ])
  refine wpAnyH_take (i := 11) (oi := { dst := some 39, op := Op.load 9 (Operand.tmp 38), type := 9, pos := "term.go:91", after := #[{ on := 10, ground := Ground.data }], guard := none }) (v := ?_) rfl (by kernel_rfl) (by kernel_rfl) (by kernel_rfl) (fun _ _ _ h => h) (Or.inl ⟨by rfl, ?_⟩) (by with_reducible assumption) ?_
  rotate_left
  · (intro w' hSw; (try dsimp only at hSw); first | (go_simp; done) | (go_simp; with_reducible rfl))
  (try simp only [Act.put, List.setIfInBounds_toArray, List.set_cons_zero, List.set_cons_succ])
  refine wpAnyH_take (i := 12) (oi := { dst := some 40, op := Op.fieldAddr 27 (Operand.tmp 3) 2, type := 0, pos := "term.go:91", after := #[], guard := none }) (v := ?_) rfl (by kernel_rfl) (by kernel_rfl) (by kernel_rfl) (fun _ _ _ h => h) (Or.inl ⟨by rfl, ?_⟩) (by with_reducible assumption) ?_
  rotate_left
  · (intro w' hSw; (try dsimp only at hSw); first | (go_simp; done) | (go_simp; with_reducible rfl))
  (try simp only [Act.put, List.setIfInBounds_toArray, List.set_cons_zero, List.set_cons_succ])
  refine wpAnyH_take (i := 13) (oi := { dst := some 41, op := Op.load 9 (Operand.tmp 40), type := 9, pos := "term.go:91", after := #[{ on := 12, ground := Ground.data }], guard := none }) (v := ?_) rfl (by kernel_rfl) (by kernel_rfl) (by kernel_rfl) (fun _ _ _ h => h) (Or.inl ⟨by rfl, ?_⟩) (by with_reducible assumption) ?_
  rotate_left
  · (intro w' hSw; (try dsimp only at hSw); first | (go_simp; done) | (go_simp; with_reducible rfl))
  (try simp only [Act.put, List.setIfInBounds_toArray, List.set_cons_zero, List.set_cons_succ])
  refine wpAnyH_take (i := 15) (oi := { dst := some 43, op := Op.fieldAddr 27 (Operand.tmp 2) 3, type := 0, pos := "term.go:91", after := #[], guard := none }) (v := ?_) rfl (by kernel_rfl) (by kernel_rfl) (by kernel_rfl) (fun _ _ _ h => h) (Or.inl ⟨by rfl, ?_⟩) (by with_reducible assumption) ?_
  rotate_left
  · (intro w' hSw; (try dsimp only at hSw); first | (go_simp; done) | (go_simp; with_reducible rfl))
  (try simp only [Act.put, List.setIfInBounds_toArray, List.set_cons_zero, List.set_cons_succ])
  refine wpAnyH_take (i := 16) (oi := { dst := some 44, op := Op.load 9 (Operand.tmp 43), type := 9, pos := "term.go:91", after := #[{ on := 15, ground := Ground.data }], guard := none }) (v := ?_) rfl (by kernel_rfl) (by kernel_rfl) (by kernel_rfl) (fun _ _ _ h => h) (Or.inl ⟨by rfl, ?_⟩) (by with_reducible assumption) ?_
  rotate_left
  · (intro w' hSw; (try dsimp only at hSw); first | (go_simp; done) | (go_simp; with_reducible rfl))
  (try simp only [Act.put, List.setIfInBounds_toArray, List.set_cons_zero, List.set_cons_succ])
  refine wpAnyH_take (i := 17) (oi := { dst := some 45, op := Op.fieldAddr 27 (Operand.tmp 3) 3, type := 0, pos := "term.go:91", after := #[], guard := none }) (v := ?_) rfl (by kernel_rfl) (by kernel_rfl) (by kernel_rfl) (fun _ _ _ h => h) (Or.inl ⟨by rfl, ?_⟩) (by with_reducible assumption) ?_
  rotate_left
  · (intro w' hSw; (try dsimp only at hSw); first | (go_simp; done) | (go_simp; with_reducible rfl))
  (try simp only [Act.put, List.setIfInBounds_toArray, List.set_cons_zero, List.set_cons_succ])
  refine wpAnyH_take (i := 18) (oi := { dst := some 46, op := Op.load 9 (Operand.tmp 45), type := 9, pos := "term.go:91", after := #[{ on := 17, ground := Ground.data }], guard := none }) (v := ?_) rfl (by kernel_rfl) (by kernel_rfl) (by kernel_rfl) (fun _ _ _ h => h) (Or.inl ⟨by rfl, ?_⟩) (by with_reducible assumption) ?_
  rotate_left
  · (intro w' hSw; (try dsimp only at hSw); first | (go_simp; done) | (go_simp; with_reducible rfl))
  (try simp only [Act.put, List.setIfInBounds_toArray, List.set_cons_zero, List.set_cons_succ])
  refine wpAnyH_ready (rs := [4]) (by kernel_rfl) (by simp) ?_
  refine AllReadyH.cons (o := { dst := some 32, op := Op.call { callee := Callee.value (Operand.func 39), args := #[Operand.tmp 29, Operand.tmp 31], argTypes := #[25, 25] }, type := 3, pos := "term.go:92", after := #[{ on := 1, ground := Ground.data }, { on := 3, ground := Ground.data }], guard := none }) rfl (fun K hK => ?_) AllReadyH.nil
  go_simp
  (refine (kindCmp_any _ _ _).mono ?_)
  rintro e wa ⟨rfl, rfl⟩
  go_wp2_with fail
  refine hK.out _ _ (by with_reducible assumption) (fun hHeld => ?_)
  clear hK K
  (try simp only [Act.put, List.setIfInBounds_toArray, List.set_cons_zero, List.set_cons_succ])
  refine wpAnyH_ready (rs := [9]) (by kernel_rfl) (by simp) ?_
  refine AllReadyH.cons (o := { dst := some 37, op := Op.call { callee := Callee.value (Operand.func 37), args := #[Operand.tmp 34, Operand.tmp 36], argTypes := #[9, 9] }, type := 3, pos := "term.go:93", after := #[{ on := 6, ground := Ground.data }, { on := 8, ground := Ground.data }, { on := 4, ground := Ground.chain }], guard := none }) rfl (fun K hK => ?_) AllReadyH.nil
  go_simp
  (refine (strCmp_any _ _ _).mono ?_)
  rintro e wa ⟨rfl, rfl⟩
  go_wp2_with fail
  refine hK.out _ _ (by with_reducible assumption) (fun hHeld => ?_)
  clear hK K
  (try simp only [Act.put, List.setIfInBounds_toArray, List.set_cons_zero, List.set_cons_succ])
  refine wpAnyH_ready (rs := [14]) (by kernel_rfl) (by simp) ?_
  refine AllReadyH.cons (o := { dst := some 42, op := Op.call { callee := Callee.value (Operand.func 37), args := #[Operand.tmp 39, Operand.tmp 41], argTypes := #[9, 9] }, type := 3, pos := "term.go:94", after := #[{ on := 11, ground := Ground.data }, { on := 13, ground := Ground.data }, { on := 9, ground := Ground.chain }], guard := none }) rfl (fun K hK => ?_) AllReadyH.nil
  go_simp
  (refine (strCmp_any _ _ _).mono ?_)
  rintro e wa ⟨rfl, rfl⟩
  go_wp2_with fail
  refine hK.out _ _ (by with_reducible assumption) (fun hHeld => ?_)
  clear hK K
  (try simp only [Act.put, List.setIfInBounds_toArray, List.set_cons_zero, List.set_cons_succ])
  refine wpAnyH_ready (rs := [19]) (by kernel_rfl) (by simp) ?_
  refine AllReadyH.cons (o := { dst := some 47, op := Op.call { callee := Callee.value (Operand.func 37), args := #[Operand.tmp 44, Operand.tmp 46], argTypes := #[9, 9] }, type := 3, pos := "term.go:95", after := #[{ on := 16, ground := Ground.data }, { on := 18, ground := Ground.data }, { on := 14, ground := Ground.chain }], guard := none }) rfl (fun K hK => ?_) AllReadyH.nil
  go_simp
  (refine (strCmp_any _ _ _).mono ?_)
  rintro e wa ⟨rfl, rfl⟩
  go_wp2_with fail
  refine hK.out _ _ (by with_reducible assumption) (fun hHeld => ?_)
  clear hK K
  (try simp only [Act.put, List.setIfInBounds_toArray, List.set_cons_zero, List.set_cons_succ])
  refine wpAnyH_ready (rs := [20]) (by kernel_rfl) (by simp) ?_
  refine AllReadyH.cons (o := { dst := some 48, op := Op.buildSlice 71 4 #[(0, Operand.tmp 32), (1, Operand.tmp 37), (2, Operand.tmp 42), (3, Operand.tmp 47)], type := 71, pos := "term.go:91", after := #[{ on := 4, ground := Ground.data }, { on := 9, ground := Ground.data }, { on := 14, ground := Ground.data }, { on := 19, ground := Ground.data }], guard := none }) rfl (fun K hK => ?_) AllReadyH.nil
  go_simp
  have hS0 := hHeld.2.2.2.2.2.2.2.2
  refine hK.out _ _ (both_of HA0.out HB0.out (hid (hS0.out.alloc _))) (fun hHeld => ?_)
  clear hK K
  (try simp only [Act.put, List.setIfInBounds_toArray, List.set_cons_zero, List.set_cons_succ])
  refine wpAnyH_ready (rs := [21]) (by kernel_rfl) (by simp) ?_
  refine AllReadyH.cons (o := { dst := some 49, op := Op.call { callee := Callee.value (Operand.func 38), args := #[Operand.tmp 48], argTypes := #[71] }, type := 3, pos := "term.go:91", after := #[{ on := 20, ground := Ground.data }, { on := 19, ground := Ground.chain }], guard := none }) rfl (fun K hK => ?_) AllReadyH.nil
  go_simp
  (refine (or_newD (n := 4) (zs := [cmpZ a.k b.k, cmpL (bl a.x) (bl b.x), cmpL (bl a.g) (bl b.g), cmpL (bl a.y) (bl b.y)]) rfl rfl (by simp)).mono ?_)
  rintro e wa ⟨rfl, HOa⟩
  go_wp2_with fail
  refine hK.out _ _ (both_of HA0.out HB0.out (hid (hS0.out.trans HOa))) (fun hHeld => ?_)
  clear hK K
  (try simp only [Act.put, List.setIfInBounds_toArray, List.set_cons_zero, List.set_cons_succ])
  refine wpAnyH_take (i := 22) (oi := { dst := some 4, op := Op.assign (Operand.tmp 49), type := 3, pos := "term.go:91", after := #[{ on := 21, ground := Ground.data }, { on := 21, ground := Ground.chain }, { on := 0, ground := Ground.phase }, { on := 1, ground := Ground.phase }, { on := 2, ground := Ground.phase }, { on := 3, ground := Ground.phase }, { on := 4, ground := Ground.phase }, { on := 5, ground := Ground.phase }, { on := 6, ground := Ground.phase }, { on := 7, ground := Ground.phase }, { on := 8, ground := Ground.phase }, { on := 9, ground := Ground.phase }, { on := 10, ground := Ground.phase }, { on := 11, ground := Ground.phase }, { on := 12, ground := Ground.phase }, { on := 13, ground := Ground.phase }, { on := 14, ground := Ground.phase }, { on := 15, ground := Ground.phase }, { on := 16, ground := Ground.phase }, { on := 17, ground := Ground.phase }, { on := 18, ground := Ground.phase }, { on := 19, ground := Ground.phase }, { on := 20, ground := Ground.phase }, { on := 21, ground := Ground.phase }], guard := none }) (v := ?_) rfl (by kernel_rfl) (by kernel_rfl) (by kernel_rfl) (fun _ _ _ h => h) (Or.inl ⟨by rfl, ?_⟩) (by with_reducible assumption) ?_
  rotate_left
  · (intro w' hSw; (try dsimp only at hSw); first | (go_simp; done) | (go_simp; with_reducible rfl))
  (try simp only [Act.put, List.setIfInBounds_toArray, List.set_cons_zero, List.set_cons_succ])
  refine wpAnyH_done (by kernel_rfl) ?_ _
  refine NoPanic.normal ?_
  go_wp2_with fail
  go_ret
  exact ⟨rfl, hid (HO0.out.trans hHeld.2.2.2.2.2.2.2.2.out)⟩
/-- Compare, of any terms. -/
theorem compare_any {a b : Tm} {w : World} (hT : Tb w) (hsa : sizeT a ≤ 1099511627776) (hsb : sizeT b ≤ 1099511627776) :
    Calls Tryz.prog 19 #[tmV a, tmV b] w fun e w' => e = .returned (.int .i64 (cmpT a b)) ∧ StU w w' := by
  by_cases h : a = b
  · exact compare_same h
  · cases ra : rightT a with
    | true =>
      cases rb : rightT b with
      | true => exact compare_both hT h hsa hsb ra rb
      | false => exact compare_one hT h hsa hsb ra rb
    | false =>
      cases rb : rightT b with
      | true => exact compare_other hT h hsa hsb ra rb
      | false => exact compare_none hT h hsa hsb ra rb
end Go.Proofs.YtefcnaccemefnaaGreatDoor
