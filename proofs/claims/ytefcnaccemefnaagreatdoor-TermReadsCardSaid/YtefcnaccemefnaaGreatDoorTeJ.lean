/- The document's Show, Compare. -/
import Derived.Test.YtefcnaccemefnaaGreatDoorTeI
namespace Go.Proofs.YtefcnaccemefnaaGreatDoor
open Go.RowKit U G

set_option maxHeartbeats 1000000 in
theorem refShow_any {t : Tm} {w : World} (hs : sizeT t ≤ 900000) :
    Calls Tryz.prog 22 #[tmV t] w fun e w' => e = .returned (showV t) ∧ StU w w' := by
  obtain ⟨w1, hw1⟩ : ∃ w1, w1 = w.alloc (.cells #[.int .i64 t.k, .string t.x, .string t.g, .string t.y] 27) := ⟨_, rfl⟩
  have HO0 : StU w w1 := hid (by rw [hw1]; exact (Only.refl _ w).alloc _)
  have HA0 : Hid (TmAt w1 w.heap.size t) := hid (by rw [hw1]; exact tm_new w t)
  obtain ⟨d0, d1, d2, d3⟩ := HA0.out.cells
  have HR : Hid (Calls Tryz.prog 23 #[.agg #[.int .i64 t.k, .string t.x, .string t.g, .string t.y]] w1 fun e w' => e = .returned (.bool (rightT t)) ∧ TmS w1 w.heap.size t w') := hid ((refRight_any hs).mono fun e w' h => ⟨h.1, tmS_of HA0.out h.2⟩)
  have hsh : showV t = if rightT t then (if 4096 < (textL t).length then .tuple #[.string ByteArray.empty, .int .i64 3] else .tuple #[.string (strB (textL t)), .int .i64 0]) else .tuple #[.string ByteArray.empty, .int .i64 2] := rfl
  have HT : Hid (rightT t = true → ∀ W, StU w1 W → Calls Tryz.prog 42 #[.agg #[.int .i64 t.k, .string t.x, .string t.g, .string t.y]] W fun e w' => e = .returned (.string (strB (textL t))) ∧ StU w1 w') := hid fun hr W hW => (refText_any' hr hs).mono fun e w' h => ⟨h.1, hid (hW.out.trans h.2.out)⟩
  have hln : (strB (textL t)).size = (textL t).length := by rw [← bl_len, bl_strB (textL_bys t)]
  have hle := textL_len t
  generalize textL t = T at *
  rw [hsh]
  clear hsh
  cases hr : rightT t with
  | false =>
    rw [hr] at HR
    clear HT hr hln hle
    unfold tmV
    go_enter Tryz.func22, Tryz.ntmps22
    go_upto_region 1 with fail
    rw [← hw1]
    clear hw1
    go_wp2_with (go_at_call 23; refine HR.out.mono ?_; rintro e w2 ⟨rfl, q0, q1, q2, q3, qO⟩)
    go_ret2
    exact ⟨rfl, hid (HO0.out.trans qO.out)⟩
  | true =>
    rw [hr] at HR
    have HT2 := hid (HT.out hr)
    obtain ⟨z, hz⟩ : ∃ z, strB T = z := ⟨_, rfl⟩
    rw [hz] at hln HT2 ⊢
    rw [← hln]
    have hl48 : z.size ≤ 140737488355328 := by omega
    clear HT hr hz hle hln
    unfold tmV
    by_cases hl : 4096 < z.size
    · have hl' : (4096 : Int) < (z.size : Int) := by omega
      rw [if_pos hl]
      clear hl
      go_enter Tryz.func22, Tryz.ntmps22
      go_upto_region 1 with fail
      rw [← hw1]
      clear hw1
      go_wp2_with (first
        | (go_at_call 23; refine HR.out.mono ?_; rintro e w2 ⟨rfl, q0, q1, q2, q3, qO⟩)
        | (go_at_call 42; refine (HT2.out _ qO).mono ?_; rintro e w3 ⟨rfl, qO3⟩))
      go_ret2
      exact ⟨rfl, hid (HO0.out.trans qO3.out)⟩
    · have hl' : ¬ (4096 : Int) < (z.size : Int) := by omega
      rw [if_neg hl]
      clear hl
      go_enter Tryz.func22, Tryz.ntmps22
      go_upto_region 1 with fail
      rw [← hw1]
      clear hw1
      go_wp2_with (first
        | (go_at_call 23; refine HR.out.mono ?_; rintro e w2 ⟨rfl, q0, q1, q2, q3, qO⟩)
        | (go_at_call 42; refine (HT2.out _ qO).mono ?_; rintro e w3 ⟨rfl, qO3⟩))
      go_ret2
      exact ⟨rfl, hid (HO0.out.trans qO3.out)⟩
theorem cmpL_self (a : List Nat) : cmpL a a = 0 := by
  unfold cmpL
  rw [lessL_irrefl]
  rfl
theorem cmpL_zero {a b : List Nat} (h : a ≠ b) : cmpL a b ≠ 0 := by
  unfold cmpL
  rcases lessL_tri a b with h2 | h2 | h2
  · exact absurd h2 h
  · rw [if_pos h2]; decide
  · rw [if_neg (by rw [lessL_asymm h2]; simp), if_pos h2]; decide
theorem cmpZ_self (a : Int) : cmpZ a a = 0 := by unfold cmpZ; rw [if_neg (by omega), if_neg (by omega)]
def noneT (a b : Tm) : Int := if a.k < b.k then -1 else if b.k < a.k then 1 else if a.x ≠ b.x then cmpL (bl a.x) (bl b.x) else if a.g ≠ b.g then cmpL (bl a.g) (bl b.g) else cmpL (bl a.y) (bl b.y)
theorem noneT_or (a b : Tm) : noneT a b = orI [cmpZ a.k b.k, cmpL (bl a.x) (bl b.x), cmpL (bl a.g) (bl b.g), cmpL (bl a.y) (bl b.y)] := by
  unfold noneT
  rcases Int.lt_trichotomy a.k b.k with h | h | h
  · rw [if_pos h, show cmpZ a.k b.k = -1 by unfold cmpZ; rw [if_pos h]]
    rfl
  · rw [if_neg (by omega), if_neg (by omega), h, cmpZ_self]
    have e0 : ∀ zs, orI (0 :: zs) = orI zs := fun zs => rfl
    rw [e0]
    have e1 : ∀ z zs, z ≠ 0 → orI (z :: zs) = z := fun z zs hz => by show (if z = 0 then orI zs else z) = z; rw [if_neg hz]
    by_cases hx : a.x = b.x
    · rw [if_neg (by simpa using hx), hx, cmpL_self, e0]
      by_cases hg : a.g = b.g
      · rw [if_neg (by simpa using hg), hg, cmpL_self, e0]
        show _ = (if cmpL (bl a.y) (bl b.y) = 0 then orI [] else cmpL (bl a.y) (bl b.y))
        split
        · rename_i h0; rw [h0]; rfl
        · rfl
      · rw [if_pos hg, e1 _ _ (cmpL_zero fun e => hg (bl_inj e))]
    · rw [if_pos hx, e1 _ _ (cmpL_zero fun e => hx (bl_inj e))]
  · rw [if_neg (by omega), if_pos h, show cmpZ a.k b.k = 1 by unfold cmpZ; rw [if_neg (by omega), if_pos h]]
    rfl
theorem cmpT_ref (a b : Tm) : cmpT a b = if rightT a then (if rightT b then cmpL (textL a) (textL b) else -1) else if rightT b then 1 else noneT a b := by
  unfold cmpT
  by_cases h : a = b
  · subst h
    rw [if_pos rfl]
    cases hr : rightT a with
    | true => rw [if_pos rfl, if_pos rfl, cmpL_self]
    | false =>
      rw [if_neg (by simp), if_neg (by simp), noneT_or, cmpZ_self, cmpL_self, cmpL_self, cmpL_self]
      rfl
  · rw [if_neg h, noneT_or]
set_option maxHeartbeats 4000000 in
theorem rcmp_one {a b : Tm} {w : World} (hsa : sizeT a ≤ 900000) (hsb : sizeT b ≤ 900000) (ra : rightT a = true) (rb : rightT b = false) :
    Calls Tryz.prog 24 #[tmV a, tmV b] w fun e w' => e = .returned (.int .i64 (cmpT a b)) ∧ StU w w' := by
  have hc : cmpT a b = -1 := by rw [cmpT_ref, if_pos ra, if_neg (by rw [rb]; simp)]
  rw [hc]
  clear hc
  obtain ⟨w1, ga, gb, hw1, hga, hgb, HA0, HB0, HO0⟩ := two_start a b w
  subst hga
  subst hgb
  obtain ⟨q0, q1, q2, q3, p0, p1, p2, p3, qO⟩ := both_of HA0.out HB0.out (hid (Only.refl _ w1))
  have HRa : Hid (∀ W, StU w1 W → Calls Tryz.prog 23 #[.agg #[.int .i64 a.k, .string a.x, .string a.g, .string a.y]] W fun e w' => e = .returned (.bool true) ∧ StU w1 w') := hid fun W hW => (refRight_any hsa).mono fun e w' h => ⟨by rw [h.1, ra], hid (hW.out.trans h.2.out)⟩
  have HRb : Hid (∀ W, StU w1 W → Calls Tryz.prog 23 #[.agg #[.int .i64 b.k, .string b.x, .string b.g, .string b.y]] W fun e w' => e = .returned (.bool false) ∧ StU w1 w') := hid fun W hW => (refRight_any hsb).mono fun e w' h => ⟨by rw [h.1, rb], hid (hW.out.trans h.2.out)⟩
  clear hsa hsb
  unfold tmV
  go_enter Tryz.func24, Tryz.ntmps24
  go_upto_region 1 with fail
  rw [← hw1]
  clear hw1
  go_wp2_with fail
  go_region_held3 (fun u => u.cell? ⟨w.heap.size, 0, none⟩ = some (.int .i64 a.k) ∧ u.cell? ⟨w.heap.size, 1, none⟩ = some (.string a.x) ∧ u.cell? ⟨w.heap.size, 2, none⟩ = some (.string a.g) ∧ u.cell? ⟨w.heap.size, 3, none⟩ = some (.string a.y) ∧ u.cell? ⟨w.heap.size + 1, 0, none⟩ = some (.int .i64 b.k) ∧ u.cell? ⟨w.heap.size + 1, 1, none⟩ = some (.string b.x) ∧ u.cell? ⟨w.heap.size + 1, 2, none⟩ = some (.string b.g) ∧ u.cell? ⟨w.heap.size + 1, 3, none⟩ = some (.string b.y) ∧ StU w1 u)
    (first | with_reducible assumption | exact both_of HA0.out HB0.out (hid (Only.refl _ _).drew) | exact both_of HA0.out HB0.out (hid (Only.refl _ _)) | exact both_of HA0.out HB0.out HO)
    (first
      | (go_at_call 23; first
          | (with_reducible refine (HRa.out _ ?_).mono ?_; (first | exact hid (Only.refl _ _).drew | exact hid (Only.refl _ _) | with_reducible assumption); rintro e w' ⟨rfl, HO⟩)
          | (with_reducible refine (HRb.out _ ?_).mono ?_; (first | exact hid (Only.refl _ _).drew | exact hid (Only.refl _ _) | with_reducible assumption); rintro e w' ⟨rfl, HO⟩)))
  go_wp2_with fail
  go_ret
  exact ⟨rfl, hid (HO0.out.trans HO.out)⟩
set_option maxHeartbeats 4000000 in
theorem rcmp_other {a b : Tm} {w : World} (hsa : sizeT a ≤ 900000) (hsb : sizeT b ≤ 900000) (ra : rightT a = false) (rb : rightT b = true) :
    Calls Tryz.prog 24 #[tmV a, tmV b] w fun e w' => e = .returned (.int .i64 (cmpT a b)) ∧ StU w w' := by
  have hc : cmpT a b = 1 := by rw [cmpT_ref, if_neg (by rw [ra]; simp), if_pos rb]
  rw [hc]
  clear hc
  obtain ⟨w1, ga, gb, hw1, hga, hgb, HA0, HB0, HO0⟩ := two_start a b w
  subst hga
  subst hgb
  obtain ⟨q0, q1, q2, q3, p0, p1, p2, p3, qO⟩ := both_of HA0.out HB0.out (hid (Only.refl _ w1))
  have HRa : Hid (∀ W, StU w1 W → Calls Tryz.prog 23 #[.agg #[.int .i64 a.k, .string a.x, .string a.g, .string a.y]] W fun e w' => e = .returned (.bool false) ∧ StU w1 w') := hid fun W hW => (refRight_any hsa).mono fun e w' h => ⟨by rw [h.1, ra], hid (hW.out.trans h.2.out)⟩
  have HRb : Hid (∀ W, StU w1 W → Calls Tryz.prog 23 #[.agg #[.int .i64 b.k, .string b.x, .string b.g, .string b.y]] W fun e w' => e = .returned (.bool true) ∧ StU w1 w') := hid fun W hW => (refRight_any hsb).mono fun e w' h => ⟨by rw [h.1, rb], hid (hW.out.trans h.2.out)⟩
  clear hsa hsb
  unfold tmV
  go_enter Tryz.func24, Tryz.ntmps24
  go_upto_region 1 with fail
  rw [← hw1]
  clear hw1
  go_wp2_with fail
  go_region_held3 (fun u => u.cell? ⟨w.heap.size, 0, none⟩ = some (.int .i64 a.k) ∧ u.cell? ⟨w.heap.size, 1, none⟩ = some (.string a.x) ∧ u.cell? ⟨w.heap.size, 2, none⟩ = some (.string a.g) ∧ u.cell? ⟨w.heap.size, 3, none⟩ = some (.string a.y) ∧ u.cell? ⟨w.heap.size + 1, 0, none⟩ = some (.int .i64 b.k) ∧ u.cell? ⟨w.heap.size + 1, 1, none⟩ = some (.string b.x) ∧ u.cell? ⟨w.heap.size + 1, 2, none⟩ = some (.string b.g) ∧ u.cell? ⟨w.heap.size + 1, 3, none⟩ = some (.string b.y) ∧ StU w1 u)
    (first | with_reducible assumption | exact both_of HA0.out HB0.out (hid (Only.refl _ _).drew) | exact both_of HA0.out HB0.out (hid (Only.refl _ _)) | exact both_of HA0.out HB0.out HO)
    (first
      | (go_at_call 23; first
          | (with_reducible refine (HRa.out _ ?_).mono ?_; (first | exact hid (Only.refl _ _).drew | exact hid (Only.refl _ _) | with_reducible assumption); rintro e w' ⟨rfl, HO⟩)
          | (with_reducible refine (HRb.out _ ?_).mono ?_; (first | exact hid (Only.refl _ _).drew | exact hid (Only.refl _ _) | with_reducible assumption); rintro e w' ⟨rfl, HO⟩)))
  go_wp2_with fail
  go_ret
  exact ⟨rfl, hid (HO0.out.trans HO.out)⟩
set_option maxHeartbeats 4000000 in
theorem rcmp_both {a b : Tm} {w : World} (hsa : sizeT a ≤ 900000) (hsb : sizeT b ≤ 900000) (ra : rightT a = true) (rb : rightT b = true) :
    Calls Tryz.prog 24 #[tmV a, tmV b] w fun e w' => e = .returned (.int .i64 (cmpT a b)) ∧ StU w w' := by
  have hc : cmpT a b = cmpL (textL a) (textL b) := by rw [cmpT_ref, if_pos ra, if_pos rb]
  rw [hc]
  clear hc
  obtain ⟨w1, ga, gb, hw1, hga, hgb, HA0, HB0, HO0⟩ := two_start a b w
  subst hga
  subst hgb
  obtain ⟨q0, q1, q2, q3, p0, p1, p2, p3, qO⟩ := both_of HA0.out HB0.out (hid (Only.refl _ w1))
  have HRa : Hid (∀ W, StU w1 W → Calls Tryz.prog 23 #[.agg #[.int .i64 a.k, .string a.x, .string a.g, .string a.y]] W fun e w' => e = .returned (.bool true) ∧ StU w1 w') := hid fun W hW => (refRight_any hsa).mono fun e w' h => ⟨by rw [h.1, ra], hid (hW.out.trans h.2.out)⟩
  have HRb : Hid (∀ W, StU w1 W → Calls Tryz.prog 23 #[.agg #[.int .i64 b.k, .string b.x, .string b.g, .string b.y]] W fun e w' => e = .returned (.bool true) ∧ StU w1 w') := hid fun W hW => (refRight_any hsb).mono fun e w' h => ⟨by rw [h.1, rb], hid (hW.out.trans h.2.out)⟩
  have HTa : Hid (∀ W, StU w1 W → Calls Tryz.prog 42 #[.agg #[.int .i64 a.k, .string a.x, .string a.g, .string a.y]] W fun e w' => e = .returned (.string (strB (textL a))) ∧ StU w1 w') := hid fun W hW => (refText_any' ra hsa).mono fun e w' h => ⟨h.1, hid (hW.out.trans h.2.out)⟩
  have HTb : Hid (∀ W, StU w1 W → Calls Tryz.prog 42 #[.agg #[.int .i64 b.k, .string b.x, .string b.g, .string b.y]] W fun e w' => e = .returned (.string (strB (textL b))) ∧ StU w1 w') := hid fun W hW => (refText_any' rb hsb).mono fun e w' h => ⟨h.1, hid (hW.out.trans h.2.out)⟩
  have HSc : Hid (∀ W, Calls Tryz.prog 47 #[.string (strB (textL a)), .string (strB (textL b))] W fun e w' => e = .returned (.int .i64 (cmpL (textL a) (textL b))) ∧ W = w') := hid fun W => by
    have := order_any (strB (textL a)) (strB (textL b)) W
    rwa [bl_strB (textL_bys a), bl_strB (textL_bys b)] at this
  clear hsa hsb
  unfold tmV
  go_enter Tryz.func24, Tryz.ntmps24
  go_upto_region 1 with fail
  rw [← hw1]
  clear hw1
  go_wp2_with fail
  go_region_held3 (fun u => u.cell? ⟨w.heap.size, 0, none⟩ = some (.int .i64 a.k) ∧ u.cell? ⟨w.heap.size, 1, none⟩ = some (.string a.x) ∧ u.cell? ⟨w.heap.size, 2, none⟩ = some (.string a.g) ∧ u.cell? ⟨w.heap.size, 3, none⟩ = some (.string a.y) ∧ u.cell? ⟨w.heap.size + 1, 0, none⟩ = some (.int .i64 b.k) ∧ u.cell? ⟨w.heap.size + 1, 1, none⟩ = some (.string b.x) ∧ u.cell? ⟨w.heap.size + 1, 2, none⟩ = some (.string b.g) ∧ u.cell? ⟨w.heap.size + 1, 3, none⟩ = some (.string b.y) ∧ StU w1 u)
    (first | with_reducible assumption | exact both_of HA0.out HB0.out (hid (Only.refl _ _).drew) | exact both_of HA0.out HB0.out (hid (Only.refl _ _)) | exact both_of HA0.out HB0.out HO)
    (first
      | (go_at_call 23; first
          | (with_reducible refine (HRa.out _ ?_).mono ?_; (first | exact hid (Only.refl _ _).drew | exact hid (Only.refl _ _) | with_reducible assumption); rintro e w' ⟨rfl, HO⟩)
          | (with_reducible refine (HRb.out _ ?_).mono ?_; (first | exact hid (Only.refl _ _).drew | exact hid (Only.refl _ _) | with_reducible assumption); rintro e w' ⟨rfl, HO⟩)))
  go_wp2_with fail
  refine wp_region_noPanic ?_
  refine wp_region_held_drew (S := (fun u => u.cell? ⟨w.heap.size, 0, none⟩ = some (.int .i64 a.k) ∧ u.cell? ⟨w.heap.size, 1, none⟩ = some (.string a.x) ∧ u.cell? ⟨w.heap.size, 2, none⟩ = some (.string a.g) ∧ u.cell? ⟨w.heap.size, 3, none⟩ = some (.string a.y) ∧ u.cell? ⟨w.heap.size + 1, 0, none⟩ = some (.int .i64 b.k) ∧ u.cell? ⟨w.heap.size + 1, 1, none⟩ = some (.string b.x) ∧ u.cell? ⟨w.heap.size + 1, 2, none⟩ = some (.string b.g) ∧ u.cell? ⟨w.heap.size + 1, 3, none⟩ = some (.string b.y) ∧ StU w1 u)) (by kernel_rfl) (both_of HA0.out HB0.out (hid (HO.out.drew))) (fun hHeld => ?_)
  refine wpAnyH_take (i := 0) (oi := { dst := some 16, op := Op.load 27 (Operand.tmp 2), type := 27, pos := "ref.go:225", after := #[], guard := none }) (v := ?_) rfl (by kernel_rfl) (by kernel_rfl) (by kernel_rfl) (fun _ _ _ h => h) (Or.inl ⟨by rfl, ?_⟩) (by with_reducible assumption) ?_
  rotate_left
  · (intro w' hSw; (try dsimp only at hSw); first | (go_simp; done) | (go_simp; with_reducible rfl))
  (try simp only [Act.put, List.setIfInBounds_toArray, List.set_cons_zero, List.set_cons_succ])
  refine wpAnyH_take (i := 2) (oi := { dst := some 18, op := Op.load 27 (Operand.tmp 3), type := 27, pos := "ref.go:225", after := #[], guard := none }) (v := ?_) rfl (by kernel_rfl) (by kernel_rfl) (by kernel_rfl) (fun _ _ _ h => h) (Or.inl ⟨by rfl, ?_⟩) (by with_reducible assumption) ?_
  rotate_left
  · (intro w' hSw; (try dsimp only at hSw); first | (go_simp; done) | (go_simp; with_reducible rfl))
  (try simp only [Act.put, List.setIfInBounds_toArray, List.set_cons_zero, List.set_cons_succ])
  refine wpAnyH_ready (rs := [1]) (by kernel_rfl) (by simp) ?_
  refine AllReadyH.cons (o := { dst := some 17, op := Op.call { callee := Callee.value (Operand.func 42), args := #[Operand.tmp 16], argTypes := #[27] }, type := 9, pos := "ref.go:225", after := #[{ on := 0, ground := Ground.data }], guard := none }) rfl (fun K hK => ?_) AllReadyH.nil
  go_simp
  (refine (HTa.out _ hHeld.2.2.2.2.2.2.2.2).mono ?_)
  rintro e wa ⟨rfl, HOa⟩
  go_wp2_with fail
  refine hK.out _ _ (both_of HA0.out HB0.out (HOa)) (fun hHeld => ?_)
  clear hK K
  (try simp only [Act.put, List.setIfInBounds_toArray, List.set_cons_zero, List.set_cons_succ])
  refine wpAnyH_ready (rs := [3]) (by kernel_rfl) (by simp) ?_
  refine AllReadyH.cons (o := { dst := some 19, op := Op.call { callee := Callee.value (Operand.func 42), args := #[Operand.tmp 18], argTypes := #[27] }, type := 9, pos := "ref.go:225", after := #[{ on := 2, ground := Ground.data }, { on := 1, ground := Ground.chain }], guard := none }) rfl (fun K hK => ?_) AllReadyH.nil
  go_simp
  (refine (HTb.out _ hHeld.2.2.2.2.2.2.2.2).mono ?_)
  rintro e wa ⟨rfl, HOa⟩
  go_wp2_with fail
  refine hK.out _ _ (both_of HA0.out HB0.out (HOa)) (fun hHeld => ?_)
  clear hK K
  (try simp only [Act.put, List.setIfInBounds_toArray, List.set_cons_zero, List.set_cons_succ])
  refine wpAnyH_ready (rs := [4]) (by kernel_rfl) (by simp) ?_
  refine AllReadyH.cons (o := { dst := some 20, op := Op.call { callee := Callee.value (Operand.func 47), args := #[Operand.tmp 17, Operand.tmp 19], argTypes := #[9, 9] }, type := 3, pos := "ref.go:225", after := #[{ on := 1, ground := Ground.data }, { on := 3, ground := Ground.data }, { on := 3, ground := Ground.chain }], guard := none }) rfl (fun K hK => ?_) AllReadyH.nil
  go_simp
  (refine (HSc.out _).mono ?_)
  rintro e wa ⟨rfl, rfl⟩
  go_wp2_with fail
  refine hK.out _ _ (by with_reducible assumption) (fun hHeld => ?_)
  clear hK K
  (try simp only [Act.put, List.setIfInBounds_toArray, List.set_cons_zero, List.set_cons_succ])
  refine wpAnyH_take (i := 5) (oi := { dst := some 4, op := Op.assign (Operand.tmp 20), type := 3, pos := "ref.go:225", after := #[{ on := 4, ground := Ground.data }, { on := 4, ground := Ground.chain }, { on := 0, ground := Ground.phase }, { on := 1, ground := Ground.phase }, { on := 2, ground := Ground.phase }, { on := 3, ground := Ground.phase }, { on := 4, ground := Ground.phase }], guard := none }) (v := ?_) rfl (by kernel_rfl) (by kernel_rfl) (by kernel_rfl) (fun _ _ _ h => h) (Or.inl ⟨by rfl, ?_⟩) (by with_reducible assumption) ?_
  rotate_left
  · (intro w' hSw; (try dsimp only at hSw); first | (go_simp; done) | (go_simp; with_reducible rfl))
  (try simp only [Act.put, List.setIfInBounds_toArray, List.set_cons_zero, List.set_cons_succ])
  refine wpAnyH_done (by kernel_rfl) ?_ _
  refine NoPanic.normal ?_
  go_wp2_with fail
  go_ret
  exact ⟨rfl, hid (HO0.out.trans hHeld.2.2.2.2.2.2.2.2.out)⟩
set_option maxHeartbeats 4000000 in
theorem rcmp_n1 {a b : Tm} {w : World} (hsa : sizeT a ≤ 900000) (hsb : sizeT b ≤ 900000) (ra : rightT a = false) (rb : rightT b = false) (h : a.k < b.k) :
    Calls Tryz.prog 24 #[tmV a, tmV b] w fun e w' => e = .returned (.int .i64 (cmpT a b)) ∧ StU w w' := by
  have hc : cmpT a b = -1 := by rw [cmpT_ref, if_neg (by rw [ra]; simp), if_neg (by rw [rb]; simp)]; unfold noneT; rw [if_pos h]
  rw [hc]
  clear hc
  obtain ⟨w1, ga, gb, hw1, hga, hgb, HA0, HB0, HO0⟩ := two_start a b w
  subst hga
  subst hgb
  obtain ⟨q0, q1, q2, q3, p0, p1, p2, p3, qO⟩ := both_of HA0.out HB0.out (hid (Only.refl _ w1))
  have HRa : Hid (∀ W, StU w1 W → Calls Tryz.prog 23 #[.agg #[.int .i64 a.k, .string a.x, .string a.g, .string a.y]] W fun e w' => e = .returned (.bool false) ∧ StU w1 w') := hid fun W hW => (refRight_any hsa).mono fun e w' h => ⟨by rw [h.1, ra], hid (hW.out.trans h.2.out)⟩
  have HRb : Hid (∀ W, StU w1 W → Calls Tryz.prog 23 #[.agg #[.int .i64 b.k, .string b.x, .string b.g, .string b.y]] W fun e w' => e = .returned (.bool false) ∧ StU w1 w') := hid fun W hW => (refRight_any hsb).mono fun e w' h => ⟨by rw [h.1, rb], hid (hW.out.trans h.2.out)⟩
  clear hsa hsb
  unfold tmV
  go_enter Tryz.func24, Tryz.ntmps24
  go_upto_region 1 with fail
  rw [← hw1]
  clear hw1
  go_wp2_with fail
  go_region_held3 (fun u => u.cell? ⟨w.heap.size, 0, none⟩ = some (.int .i64 a.k) ∧ u.cell? ⟨w.heap.size, 1, none⟩ = some (.string a.x) ∧ u.cell? ⟨w.heap.size, 2, none⟩ = some (.string a.g) ∧ u.cell? ⟨w.heap.size, 3, none⟩ = some (.string a.y) ∧ u.cell? ⟨w.heap.size + 1, 0, none⟩ = some (.int .i64 b.k) ∧ u.cell? ⟨w.heap.size + 1, 1, none⟩ = some (.string b.x) ∧ u.cell? ⟨w.heap.size + 1, 2, none⟩ = some (.string b.g) ∧ u.cell? ⟨w.heap.size + 1, 3, none⟩ = some (.string b.y) ∧ StU w1 u)
    (first | with_reducible assumption | exact both_of HA0.out HB0.out (hid (Only.refl _ _).drew) | exact both_of HA0.out HB0.out (hid (Only.refl _ _)) | exact both_of HA0.out HB0.out HO)
    (first
      | (go_at_call 23; first
          | (with_reducible refine (HRa.out _ ?_).mono ?_; (first | exact hid (Only.refl _ _).drew | exact hid (Only.refl _ _) | with_reducible assumption); rintro e w' ⟨rfl, HO⟩)
          | (with_reducible refine (HRb.out _ ?_).mono ?_; (first | exact hid (Only.refl _ _).drew | exact hid (Only.refl _ _) | with_reducible assumption); rintro e w' ⟨rfl, HO⟩)))
  have HQ := hid (both_of HA0.out HB0.out HO)
  obtain ⟨c0, c1, c2, c3, e0, e1, e2, e3, qO5⟩ := HQ.out
  go_wp2_with fail
  go_ret
  exact ⟨rfl, hid (HO0.out.trans qO5.out)⟩
set_option maxHeartbeats 4000000 in
theorem rcmp_n2 {a b : Tm} {w : World} (hsa : sizeT a ≤ 900000) (hsb : sizeT b ≤ 900000) (ra : rightT a = false) (rb : rightT b = false) (h : b.k < a.k) :
    Calls Tryz.prog 24 #[tmV a, tmV b] w fun e w' => e = .returned (.int .i64 (cmpT a b)) ∧ StU w w' := by
  have hc : cmpT a b = 1 := by rw [cmpT_ref, if_neg (by rw [ra]; simp), if_neg (by rw [rb]; simp)]; unfold noneT; rw [if_neg (by omega), if_pos h]
  rw [hc]
  clear hc
  obtain ⟨w1, ga, gb, hw1, hga, hgb, HA0, HB0, HO0⟩ := two_start a b w
  subst hga
  subst hgb
  obtain ⟨q0, q1, q2, q3, p0, p1, p2, p3, qO⟩ := both_of HA0.out HB0.out (hid (Only.refl _ w1))
  have HRa : Hid (∀ W, StU w1 W → Calls Tryz.prog 23 #[.agg #[.int .i64 a.k, .string a.x, .string a.g, .string a.y]] W fun e w' => e = .returned (.bool false) ∧ StU w1 w') := hid fun W hW => (refRight_any hsa).mono fun e w' h => ⟨by rw [h.1, ra], hid (hW.out.trans h.2.out)⟩
  have HRb : Hid (∀ W, StU w1 W → Calls Tryz.prog 23 #[.agg #[.int .i64 b.k, .string b.x, .string b.g, .string b.y]] W fun e w' => e = .returned (.bool false) ∧ StU w1 w') := hid fun W hW => (refRight_any hsb).mono fun e w' h => ⟨by rw [h.1, rb], hid (hW.out.trans h.2.out)⟩
  have h0 : ¬ a.k < b.k := by omega
  clear hsa hsb
  unfold tmV
  go_enter Tryz.func24, Tryz.ntmps24
  go_upto_region 1 with fail
  rw [← hw1]
  clear hw1
  go_wp2_with fail
  go_region_held3 (fun u => u.cell? ⟨w.heap.size, 0, none⟩ = some (.int .i64 a.k) ∧ u.cell? ⟨w.heap.size, 1, none⟩ = some (.string a.x) ∧ u.cell? ⟨w.heap.size, 2, none⟩ = some (.string a.g) ∧ u.cell? ⟨w.heap.size, 3, none⟩ = some (.string a.y) ∧ u.cell? ⟨w.heap.size + 1, 0, none⟩ = some (.int .i64 b.k) ∧ u.cell? ⟨w.heap.size + 1, 1, none⟩ = some (.string b.x) ∧ u.cell? ⟨w.heap.size + 1, 2, none⟩ = some (.string b.g) ∧ u.cell? ⟨w.heap.size + 1, 3, none⟩ = some (.string b.y) ∧ StU w1 u)
    (first | with_reducible assumption | exact both_of HA0.out HB0.out (hid (Only.refl _ _).drew) | exact both_of HA0.out HB0.out (hid (Only.refl _ _)) | exact both_of HA0.out HB0.out HO)
    (first
      | (go_at_call 23; first
          | (with_reducible refine (HRa.out _ ?_).mono ?_; (first | exact hid (Only.refl _ _).drew | exact hid (Only.refl _ _) | with_reducible assumption); rintro e w' ⟨rfl, HO⟩)
          | (with_reducible refine (HRb.out _ ?_).mono ?_; (first | exact hid (Only.refl _ _).drew | exact hid (Only.refl _ _) | with_reducible assumption); rintro e w' ⟨rfl, HO⟩)))
  have HQ := hid (both_of HA0.out HB0.out HO)
  obtain ⟨c0, c1, c2, c3, e0, e1, e2, e3, qO5⟩ := HQ.out
  go_wp2_with fail
  go_ret
  exact ⟨rfl, hid (HO0.out.trans qO5.out)⟩
set_option maxHeartbeats 4000000 in
theorem rcmp_n3 {a b : Tm} {w : World} (hsa : sizeT a ≤ 900000) (hsb : sizeT b ≤ 900000) (ra : rightT a = false) (rb : rightT b = false) (h : a.k = b.k) (hx : a.x ≠ b.x) :
    Calls Tryz.prog 24 #[tmV a, tmV b] w fun e w' => e = .returned (.int .i64 (cmpT a b)) ∧ StU w w' := by
  have hc : cmpT a b = cmpL (bl a.x) (bl b.x) := by rw [cmpT_ref, if_neg (by rw [ra]; simp), if_neg (by rw [rb]; simp)]; unfold noneT; rw [if_neg (by omega), if_neg (by omega), if_pos hx]
  rw [hc]
  clear hc
  obtain ⟨w1, ga, gb, hw1, hga, hgb, HA0, HB0, HO0⟩ := two_start a b w
  subst hga
  subst hgb
  obtain ⟨q0, q1, q2, q3, p0, p1, p2, p3, qO⟩ := both_of HA0.out HB0.out (hid (Only.refl _ w1))
  have HRa : Hid (∀ W, StU w1 W → Calls Tryz.prog 23 #[.agg #[.int .i64 a.k, .string a.x, .string a.g, .string a.y]] W fun e w' => e = .returned (.bool false) ∧ StU w1 w') := hid fun W hW => (refRight_any hsa).mono fun e w' h => ⟨by rw [h.1, ra], hid (hW.out.trans h.2.out)⟩
  have HRb : Hid (∀ W, StU w1 W → Calls Tryz.prog 23 #[.agg #[.int .i64 b.k, .string b.x, .string b.g, .string b.y]] W fun e w' => e = .returned (.bool false) ∧ StU w1 w') := hid fun W hW => (refRight_any hsb).mono fun e w' h => ⟨by rw [h.1, rb], hid (hW.out.trans h.2.out)⟩
  have h0 : ¬ a.k < b.k := by omega
  have h1 : ¬ b.k < a.k := by omega
  have qx := toList_beq a.x b.x
  rw [decide_eq_false hx] at qx
  clear h hx
  clear hsa hsb
  unfold tmV
  go_enter Tryz.func24, Tryz.ntmps24
  go_upto_region 1 with fail
  rw [← hw1]
  clear hw1
  go_wp2_with fail
  go_region_held3 (fun u => u.cell? ⟨w.heap.size, 0, none⟩ = some (.int .i64 a.k) ∧ u.cell? ⟨w.heap.size, 1, none⟩ = some (.string a.x) ∧ u.cell? ⟨w.heap.size, 2, none⟩ = some (.string a.g) ∧ u.cell? ⟨w.heap.size, 3, none⟩ = some (.string a.y) ∧ u.cell? ⟨w.heap.size + 1, 0, none⟩ = some (.int .i64 b.k) ∧ u.cell? ⟨w.heap.size + 1, 1, none⟩ = some (.string b.x) ∧ u.cell? ⟨w.heap.size + 1, 2, none⟩ = some (.string b.g) ∧ u.cell? ⟨w.heap.size + 1, 3, none⟩ = some (.string b.y) ∧ StU w1 u)
    (first | with_reducible assumption | exact both_of HA0.out HB0.out (hid (Only.refl _ _).drew) | exact both_of HA0.out HB0.out (hid (Only.refl _ _)) | exact both_of HA0.out HB0.out HO)
    (first
      | (go_at_call 23; first
          | (with_reducible refine (HRa.out _ ?_).mono ?_; (first | exact hid (Only.refl _ _).drew | exact hid (Only.refl _ _) | with_reducible assumption); rintro e w' ⟨rfl, HO⟩)
          | (with_reducible refine (HRb.out _ ?_).mono ?_; (first | exact hid (Only.refl _ _).drew | exact hid (Only.refl _ _) | with_reducible assumption); rintro e w' ⟨rfl, HO⟩)))
  have HQ := hid (both_of HA0.out HB0.out HO)
  obtain ⟨c0, c1, c2, c3, e0, e1, e2, e3, qO5⟩ := HQ.out
  go_wp2_with (go_at_call 47; refine (order_any _ _ _).mono ?_; rintro e w2 ⟨rfl, rfl⟩)
  go_ret
  exact ⟨rfl, hid (HO0.out.trans qO5.out)⟩
set_option maxHeartbeats 4000000 in
theorem rcmp_n4 {a b : Tm} {w : World} (hsa : sizeT a ≤ 900000) (hsb : sizeT b ≤ 900000) (ra : rightT a = false) (rb : rightT b = false) (h : a.k = b.k) (hx : a.x = b.x) (hg : a.g ≠ b.g) :
    Calls Tryz.prog 24 #[tmV a, tmV b] w fun e w' => e = .returned (.int .i64 (cmpT a b)) ∧ StU w w' := by
  have hc : cmpT a b = cmpL (bl a.g) (bl b.g) := by rw [cmpT_ref, if_neg (by rw [ra]; simp), if_neg (by rw [rb]; simp)]; unfold noneT; rw [if_neg (by omega), if_neg (by omega), if_neg (by simpa using hx), if_pos hg]
  rw [hc]
  clear hc
  obtain ⟨w1, ga, gb, hw1, hga, hgb, HA0, HB0, HO0⟩ := two_start a b w
  subst hga
  subst hgb
  obtain ⟨q0, q1, q2, q3, p0, p1, p2, p3, qO⟩ := both_of HA0.out HB0.out (hid (Only.refl _ w1))
  have HRa : Hid (∀ W, StU w1 W → Calls Tryz.prog 23 #[.agg #[.int .i64 a.k, .string a.x, .string a.g, .string a.y]] W fun e w' => e = .returned (.bool false) ∧ StU w1 w') := hid fun W hW => (refRight_any hsa).mono fun e w' h => ⟨by rw [h.1, ra], hid (hW.out.trans h.2.out)⟩
  have HRb : Hid (∀ W, StU w1 W → Calls Tryz.prog 23 #[.agg #[.int .i64 b.k, .string b.x, .string b.g, .string b.y]] W fun e w' => e = .returned (.bool false) ∧ StU w1 w') := hid fun W hW => (refRight_any hsb).mono fun e w' h => ⟨by rw [h.1, rb], hid (hW.out.trans h.2.out)⟩
  have h0 : ¬ a.k < b.k := by omega
  have h1 : ¬ b.k < a.k := by omega
  have qx := toList_beq a.x b.x
  rw [decide_eq_true hx] at qx
  have qg := toList_beq a.g b.g
  rw [decide_eq_false hg] at qg
  clear h hx hg
  clear hsa hsb
  unfold tmV
  go_enter Tryz.func24, Tryz.ntmps24
  go_upto_region 1 with fail
  rw [← hw1]
  clear hw1
  go_wp2_with fail
  go_region_held3 (fun u => u.cell? ⟨w.heap.size, 0, none⟩ = some (.int .i64 a.k) ∧ u.cell? ⟨w.heap.size, 1, none⟩ = some (.string a.x) ∧ u.cell? ⟨w.heap.size, 2, none⟩ = some (.string a.g) ∧ u.cell? ⟨w.heap.size, 3, none⟩ = some (.string a.y) ∧ u.cell? ⟨w.heap.size + 1, 0, none⟩ = some (.int .i64 b.k) ∧ u.cell? ⟨w.heap.size + 1, 1, none⟩ = some (.string b.x) ∧ u.cell? ⟨w.heap.size + 1, 2, none⟩ = some (.string b.g) ∧ u.cell? ⟨w.heap.size + 1, 3, none⟩ = some (.string b.y) ∧ StU w1 u)
    (first | with_reducible assumption | exact both_of HA0.out HB0.out (hid (Only.refl _ _).drew) | exact both_of HA0.out HB0.out (hid (Only.refl _ _)) | exact both_of HA0.out HB0.out HO)
    (first
      | (go_at_call 23; first
          | (with_reducible refine (HRa.out _ ?_).mono ?_; (first | exact hid (Only.refl _ _).drew | exact hid (Only.refl _ _) | with_reducible assumption); rintro e w' ⟨rfl, HO⟩)
          | (with_reducible refine (HRb.out _ ?_).mono ?_; (first | exact hid (Only.refl _ _).drew | exact hid (Only.refl _ _) | with_reducible assumption); rintro e w' ⟨rfl, HO⟩)))
  have HQ := hid (both_of HA0.out HB0.out HO)
  obtain ⟨c0, c1, c2, c3, e0, e1, e2, e3, qO5⟩ := HQ.out
  go_wp2_with (go_at_call 47; refine (order_any _ _ _).mono ?_; rintro e w2 ⟨rfl, rfl⟩)
  go_ret
  exact ⟨rfl, hid (HO0.out.trans qO5.out)⟩
set_option maxHeartbeats 4000000 in
theorem rcmp_n5 {a b : Tm} {w : World} (hsa : sizeT a ≤ 900000) (hsb : sizeT b ≤ 900000) (ra : rightT a = false) (rb : rightT b = false) (h : a.k = b.k) (hx : a.x = b.x) (hg : a.g = b.g) :
    Calls Tryz.prog 24 #[tmV a, tmV b] w fun e w' => e = .returned (.int .i64 (cmpT a b)) ∧ StU w w' := by
  have hc : cmpT a b = cmpL (bl a.y) (bl b.y) := by rw [cmpT_ref, if_neg (by rw [ra]; simp), if_neg (by rw [rb]; simp)]; unfold noneT; rw [if_neg (by omega), if_neg (by omega), if_neg (by simpa using hx), if_neg (by simpa using hg)]
  rw [hc]
  clear hc
  obtain ⟨w1, ga, gb, hw1, hga, hgb, HA0, HB0, HO0⟩ := two_start a b w
  subst hga
  subst hgb
  obtain ⟨q0, q1, q2, q3, p0, p1, p2, p3, qO⟩ := both_of HA0.out HB0.out (hid (Only.refl _ w1))
  have HRa : Hid (∀ W, StU w1 W → Calls Tryz.prog 23 #[.agg #[.int .i64 a.k, .string a.x, .string a.g, .string a.y]] W fun e w' => e = .returned (.bool false) ∧ StU w1 w') := hid fun W hW => (refRight_any hsa).mono fun e w' h => ⟨by rw [h.1, ra], hid (hW.out.trans h.2.out)⟩
  have HRb : Hid (∀ W, StU w1 W → Calls Tryz.prog 23 #[.agg #[.int .i64 b.k, .string b.x, .string b.g, .string b.y]] W fun e w' => e = .returned (.bool false) ∧ StU w1 w') := hid fun W hW => (refRight_any hsb).mono fun e w' h => ⟨by rw [h.1, rb], hid (hW.out.trans h.2.out)⟩
  have h0 : ¬ a.k < b.k := by omega
  have h1 : ¬ b.k < a.k := by omega
  have qx := toList_beq a.x b.x
  rw [decide_eq_true hx] at qx
  have qg := toList_beq a.g b.g
  rw [decide_eq_true hg] at qg
  clear h hx hg
  clear hsa hsb
  unfold tmV
  go_enter Tryz.func24, Tryz.ntmps24
  go_upto_region 1 with fail
  rw [← hw1]
  clear hw1
  go_wp2_with fail
  go_region_held3 (fun u => u.cell? ⟨w.heap.size, 0, none⟩ = some (.int .i64 a.k) ∧ u.cell? ⟨w.heap.size, 1, none⟩ = some (.string a.x) ∧ u.cell? ⟨w.heap.size, 2, none⟩ = some (.string a.g) ∧ u.cell? ⟨w.heap.size, 3, none⟩ = some (.string a.y) ∧ u.cell? ⟨w.heap.size + 1, 0, none⟩ = some (.int .i64 b.k) ∧ u.cell? ⟨w.heap.size + 1, 1, none⟩ = some (.string b.x) ∧ u.cell? ⟨w.heap.size + 1, 2, none⟩ = some (.string b.g) ∧ u.cell? ⟨w.heap.size + 1, 3, none⟩ = some (.string b.y) ∧ StU w1 u)
    (first | with_reducible assumption | exact both_of HA0.out HB0.out (hid (Only.refl _ _).drew) | exact both_of HA0.out HB0.out (hid (Only.refl _ _)) | exact both_of HA0.out HB0.out HO)
    (first
      | (go_at_call 23; first
          | (with_reducible refine (HRa.out _ ?_).mono ?_; (first | exact hid (Only.refl _ _).drew | exact hid (Only.refl _ _) | with_reducible assumption); rintro e w' ⟨rfl, HO⟩)
          | (with_reducible refine (HRb.out _ ?_).mono ?_; (first | exact hid (Only.refl _ _).drew | exact hid (Only.refl _ _) | with_reducible assumption); rintro e w' ⟨rfl, HO⟩)))
  have HQ := hid (both_of HA0.out HB0.out HO)
  obtain ⟨c0, c1, c2, c3, e0, e1, e2, e3, qO5⟩ := HQ.out
  go_wp2_with (go_at_call 47; refine (order_any _ _ _).mono ?_; rintro e w2 ⟨rfl, rfl⟩)
  go_ret
  exact ⟨rfl, hid (HO0.out.trans qO5.out)⟩
/-- The document's Compare, of any terms. -/
theorem refCompare_any {a b : Tm} {w : World} (hsa : sizeT a ≤ 900000) (hsb : sizeT b ≤ 900000) :
    Calls Tryz.prog 24 #[tmV a, tmV b] w fun e w' => e = .returned (.int .i64 (cmpT a b)) ∧ StU w w' := by
  cases ra : rightT a with
  | true =>
    cases rb : rightT b with
    | true => exact rcmp_both hsa hsb ra rb
    | false => exact rcmp_one hsa hsb ra rb
  | false =>
    cases rb : rightT b with
    | true => exact rcmp_other hsa hsb ra rb
    | false =>
      rcases Int.lt_trichotomy a.k b.k with h | h | h
      · exact rcmp_n1 hsa hsb ra rb h
      · by_cases hx : a.x = b.x
        · by_cases hg : a.g = b.g
          · exact rcmp_n5 hsa hsb ra rb h hx hg
          · exact rcmp_n4 hsa hsb ra rb h hx hg
        · exact rcmp_n3 hsa hsb ra rb h hx
      · exact rcmp_n2 hsa hsb ra rb h
end Go.Proofs.YtefcnaccemefnaaGreatDoor
