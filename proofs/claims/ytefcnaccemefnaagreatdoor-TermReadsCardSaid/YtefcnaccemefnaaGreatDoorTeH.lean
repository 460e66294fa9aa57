/- The document's iri. -/
import Derived.Test.YtefcnaccemefnaaGreatDoorTeG
import Derived.Deep.RegionHeld3
namespace Go.Proofs.YtefcnaccemefnaaGreatDoor
open Go.RowKit U G

theorem hexS_get : ∀ n : Fin 16, ((hexS[n.val]'n.isLt).toNat : Int) = ((hexD n.val : Nat) : Int) := by decide
set_option maxHeartbeats 4000000 in
theorem refIri_any {s : ByteArray} {w : World} (hs : s.size ≤ 900000) :
    Calls Tryz.prog 68 #[.string s] w fun e w' => e = .returned (.string (strB (iriB (bl s)))) ∧ StU w w' := by
  have HI : Hid (TxS w w (.slice none 0 0) []) := hid ⟨by simpa [yvs] using OwG.nil (Nat.le_refl _), Only.refl _ w⟩
  have HD : Hid (∀ k (h : k < s.size) l, iriB (bl s) = l ++ iriB ((bl s).drop k) → l.length + 6 ≤ 6000000 ∧ iriB (bl s) = (l ++ iriC (s[k]'h).toNat) ++ iriB ((bl s).drop (k + 1))) := hid fun k h l e => by
    have h1 := iriB_len (bl s)
    have h2 := congrArg List.length e
    rw [List.length_append] at h2
    rw [bl_len] at h1
    refine ⟨by omega, by rw [e, iriB_drop h, List.append_assoc]⟩
  have HE : Hid (∀ l, iriB (bl s) = l ++ iriB ((bl s).drop s.size) → iriB (bl s) = l) := hid fun l e => by
    rw [e, List.drop_eq_nil_of_le (by rw [bl_len]; exact Nat.le_refl _)]
    simp [iriB]
  have HRaw := hid refRaw_any
  go_enter Tryz.func68, Tryz.ntmps68
  go_wp2_with fail
  go_loopw [4, 5] (fun v i wr => ∃ (k : Nat) (v0 : Value) (l : List Nat), v0 = v ∧ i = .int .i64 (k : Int) ∧ k ≤ s.size ∧ Hid (TxS w wr v0 l) ∧ Hid (iriB (bl s) = l ++ iriB ((bl s).drop k))) (fun _ i _ => s.size - (intOf i).toNat)
  case atStart => exact ⟨0, _, [], rfl, rfl, by omega, HI, hid rfl⟩
  case round =>
    obtain ⟨k, v0, l, rfl, rfl, hk, HS, HA⟩ := hrel
    clear HI
    by_cases hp : k < s.size
    · have hp' : (k : Int) < (s.size : Int) := by omega
      obtain ⟨hl, hA⟩ := HD.out k hp l HA.out
      obtain ⟨x, hx⟩ : ∃ x, s[k]'hp = x := ⟨_, rfl⟩
      rw [hx] at hA
      have HA2 := hid hA
      have hx2 := x.toNat_lt
      clear hA HA
      by_cases h1 : x.toNat < 128
      · have h1' : (x.toNat : Int) < 128 := by omega
        have hw64 : IntKind.i64.wrap (x.toNat : Int) = (x.toNat : Int) := by rw [IntKind.wrap_i64]; omega
        have HRx := hid (fun W => HRaw.out (x.toNat : Int) W)
        cases hr : rawZ (x.toNat : Int) with
        | false =>
          have e1 : iriC x.toNat = [92, 117, 48, 48, hexD (x.toNat / 16), hexD (x.toNat % 16)] := by unfold iriC; rw [if_pos ⟨h1, hr⟩]
          rw [hr] at HRx
          have t1 : IntKind.u8.wrap ((x.toNat : Int) / 16) = ((x.toNat / 16 : Nat) : Int) := by rw [IntKind.wrap_u8]; omega
          have t2 : (x.toNat : Int).tmod 16 = ((x.toNat % 16 : Nat) : Int) := by rw [Int.tmod_eq_emod_of_nonneg (by omega)]; omega
          have b1 : x.toNat / 16 < 16 := by omega
          have b2 : x.toNat % 16 < 16 := by omega
          generalize x.toNat / 16 = d1 at *
          generalize x.toNat % 16 = d2 at *
          obtain ⟨c1, hc1⟩ : ∃ c, (({ data := #[48, 49, 50, 51, 52, 53, 54, 55, 56, 57, 65, 66, 67, 68, 69, 70] } : ByteArray)[d1]'b1) = c := ⟨_, rfl⟩
          obtain ⟨c2, hc2⟩ : ∃ c, (({ data := #[48, 49, 50, 51, 52, 53, 54, 55, 56, 57, 65, 66, 67, 68, 69, 70] } : ByteArray)[d2]'b2) = c := ⟨_, rfl⟩
          have f1 : c1.toNat = hexD d1 := by have := hexS_get ⟨d1, b1⟩; rw [← hc1]; exact Int.ofNat_inj.1 this
          have f2 : c2.toNat = hexD d2 := by have := hexS_get ⟨d2, b2⟩; rw [← hc2]; exact Int.ofNat_inj.1 this
          rw [← f1, ← f2] at e1
          rw [e1] at HA2
          have b1' : (d1 : Int) < 16 := by omega
          have b2' : (d2 : Int) < 16 := by omega
          clear f1 f2
          clear hr e1
          go_wp2_with (go_at_call 94; refine (HRx.out _).mono ?_; rintro e w2 ⟨rfl, HO2⟩; have HS2 : Hid (TxS w w2 v0 l) := hid ⟨HS.out.own.same HO2.out, HS.out.only.trans HO2.out⟩; clear HS HO2)
          have HSd : Hid (∀ (cs : Array Value), TxS w (w2.alloc (.cells cs 5)).drew v0 l) := hid fun cs => ⟨HS2.out.own.same ((Only.refl _ w2).alloc _).drew, (HS2.out.only.alloc _).drew⟩
          refine wp_region_noPanic ?_
          refine wp_region_held_drew (S := fun u => True ∧ StU w u) (by kernel_rfl) (⟨trivial, hid (HS2.out.only.drew)⟩) (fun hHeld => ?_)
          refine wpAnyH_take (i := 0) (oi := { dst := some 24, op := Op.move (Operand.tmp 4), type := 24, pos := "ref.go:77", after := #[], guard := none }) (v := ?_) rfl (by kernel_rfl) (by kernel_rfl) (by kernel_rfl) (fun _ _ _ h => h) (Or.inl ⟨by rfl, ?_⟩) (by with_reducible assumption) ?_
          rotate_left
          · (intro w' hSw; (try dsimp only at hSw); first | (go_simp; done) | (go_simp; with_reducible rfl))
          (try simp only [Act.put, List.setIfInBounds_toArray, List.set_cons_zero, List.set_cons_succ])
          refine wpAnyH_take (i := 1) (oi := { dst := some 25, op := Op.move (Operand.tmp 3), type := 9, pos := "ref.go:77", after := #[], guard := none }) (v := ?_) rfl (by kernel_rfl) (by kernel_rfl) (by kernel_rfl) (fun _ _ _ h => h) (Or.inl ⟨by rfl, ?_⟩) (by with_reducible assumption) ?_
          rotate_left
          · (intro w' hSw; (try dsimp only at hSw); first | (go_simp; done) | (go_simp; with_reducible rfl))
          (try simp only [Act.put, List.setIfInBounds_toArray, List.set_cons_zero, List.set_cons_succ])
          refine wpAnyH_take (i := 2) (oi := { dst := some 26, op := Op.move (Operand.tmp 6), type := 5, pos := "ref.go:77", after := #[], guard := none }) (v := ?_) rfl (by kernel_rfl) (by kernel_rfl) (by kernel_rfl) (fun _ _ _ h => h) (Or.inl ⟨by rfl, ?_⟩) (by with_reducible assumption) ?_
          rotate_left
          · (intro w' hSw; (try dsimp only at hSw); first | (go_simp; done) | (go_simp; with_reducible rfl))
          (try simp only [Act.put, List.setIfInBounds_toArray, List.set_cons_zero, List.set_cons_succ])
          refine wpAnyH_take (i := 3) (oi := { dst := some 27, op := Op.binOp BinOp.quo 5 (Operand.tmp 26) (Operand.const (Value.int IntKind.u8 16)) 5, type := 5, pos := "ref.go:77", after := #[{ on := 2, ground := Ground.data }], guard := none }) (v := ?_) rfl (by kernel_rfl) (by kernel_rfl) (by kernel_rfl) (fun _ _ _ h => h) (Or.inl ⟨by rfl, ?_⟩) (by with_reducible assumption) ?_
          rotate_left
          · (intro w' hSw; (try dsimp only at hSw); first | (go_simp; done) | (go_simp; with_reducible rfl))
          (try simp only [Act.put, List.setIfInBounds_toArray, List.set_cons_zero, List.set_cons_succ])
          refine wpAnyH_take (i := 4) (oi := { dst := some 28, op := Op.index 9 (Operand.tmp 25) (Operand.tmp 27), type := 5, pos := "ref.go:77", after := #[{ on := 1, ground := Ground.data }, { on := 3, ground := Ground.data }], guard := none }) (v := ?_) rfl (by kernel_rfl) (by kernel_rfl) (by kernel_rfl) (fun _ _ _ h => h) (Or.inl ⟨by rfl, ?_⟩) (by with_reducible assumption) ?_
          rotate_left
          · (intro w' hSw; (try dsimp only at hSw); first | (go_simp; done) | (go_simp; with_reducible rfl))
          (try simp only [Act.put, List.setIfInBounds_toArray, List.set_cons_zero, List.set_cons_succ])
          refine wpAnyH_take (i := 5) (oi := { dst := some 29, op := Op.move (Operand.tmp 3), type := 9, pos := "ref.go:77", after := #[], guard := none }) (v := ?_) rfl (by kernel_rfl) (by kernel_rfl) (by kernel_rfl) (fun _ _ _ h => h) (Or.inl ⟨by rfl, ?_⟩) (by with_reducible assumption) ?_
          rotate_left
          · (intro w' hSw; (try dsimp only at hSw); first | (go_simp; done) | (go_simp; with_reducible rfl))
          (try simp only [Act.put, List.setIfInBounds_toArray, List.set_cons_zero, List.set_cons_succ])
          refine wpAnyH_take (i := 6) (oi := { dst := some 30, op := Op.move (Operand.tmp 6), type := 5, pos := "ref.go:77", after := #[], guard := none }) (v := ?_) rfl (by kernel_rfl) (by kernel_rfl) (by kernel_rfl) (fun _ _ _ h => h) (Or.inl ⟨by rfl, ?_⟩) (by with_reducible assumption) ?_
          rotate_left
          · (intro w' hSw; (try dsimp only at hSw); first | (go_simp; done) | (go_simp; with_reducible rfl))
          (try simp only [Act.put, List.setIfInBounds_toArray, List.set_cons_zero, List.set_cons_succ])
          refine wpAnyH_take (i := 7) (oi := { dst := some 31, op := Op.binOp BinOp.rem 5 (Operand.tmp 30) (Operand.const (Value.int IntKind.u8 16)) 5, type := 5, pos := "ref.go:77", after := #[{ on := 6, ground := Ground.data }], guard := none }) (v := ?_) rfl (by kernel_rfl) (by kernel_rfl) (by kernel_rfl) (fun _ _ _ h => h) (Or.inl ⟨by rfl, ?_⟩) (by with_reducible assumption) ?_
          rotate_left
          · (intro w' hSw; (try dsimp only at hSw); first | (go_simp; done) | (go_simp; with_reducible rfl))
          (try simp only [Act.put, List.setIfInBounds_toArray, List.set_cons_zero, List.set_cons_succ])
          refine wpAnyH_take (i := 8) (oi := { dst := some 32, op := Op.index 9 (Operand.tmp 29) (Operand.tmp 31), type := 5, pos := "ref.go:77", after := #[{ on := 5, ground := Ground.data }, { on := 7, ground := Ground.data }], guard := none }) (v := ?_) rfl (by kernel_rfl) (by kernel_rfl) (by kernel_rfl) (fun _ _ _ h => h) (Or.inl ⟨by rfl, ?_⟩) (by with_reducible assumption) ?_
          rotate_left
          · (intro w' hSw; (try dsimp only at hSw); first | (go_simp; done) | (go_simp; with_reducible rfl))
          (try simp only [Act.put, List.setIfInBounds_toArray, List.set_cons_zero, List.set_cons_succ])
          refine wpAnyH_ready (rs := [9]) (by kernel_rfl) (by simp) ?_
          refine AllReadyH.cons (o := { dst := some 33, op := Op.buildSlice 24 6 #[(0, Operand.const (Value.int IntKind.u8 92)), (1, Operand.const (Value.int IntKind.u8 117)), (2, Operand.const (Value.int IntKind.u8 48)), (3, Operand.const (Value.int IntKind.u8 48)), (4, Operand.tmp 28), (5, Operand.tmp 32)], type := 24, pos := "ref.go:77", after := #[{ on := 4, ground := Ground.data }, { on := 8, ground := Ground.data }], guard := none }) rfl (fun K hK => ?_) AllReadyH.nil
          go_simp
          refine hK.out _ _ (⟨trivial, hid ((HSd.out _).only)⟩) (fun hHeld => ?_)
          clear hK K
          (try simp only [Act.put, List.setIfInBounds_toArray, List.set_cons_zero, List.set_cons_succ])
          refine wpAnyH_ready (rs := [10]) (by kernel_rfl) (by simp) ?_
          refine AllReadyH.cons (o := { dst := some 34, op := Op.call { callee := Callee.builtin Builtin.append, args := #[Operand.tmp 24, Operand.tmp 33], argTypes := #[24, 24] }, type := 24, pos := "ref.go:77", after := #[{ on := 0, ground := Ground.data }, { on := 9, ground := Ground.data }], guard := none }) rfl (fun K hK => ?_) AllReadyH.nil
          refine step_addY (by rfl) w _ _ rfl v0 l (by rfl) (hid (HSd.out _)) [92, 117, 48, 48, c1.toNat, c2.toNat] _ 6 6 (by rfl) rfl (hid (new_rd w2 [92, 117, 48, 48, c1.toNat, c2.toNat] _ _ rfl)) (by omega) ?_
          intro v3 w3 HS3
          refine hK.out _ _ (⟨trivial, hid HS3.out.only⟩) (fun hHeld => ?_)
          clear hK K
          (try simp only [Act.put, List.setIfInBounds_toArray, List.set_cons_zero, List.set_cons_succ])
          refine wpAnyH_take (i := 11) (oi := { dst := some 4, op := Op.assign (Operand.tmp 34), type := 24, pos := "ref.go:77", after := #[{ on := 10, ground := Ground.data }, { on := 10, ground := Ground.chain }, { on := 0, ground := Ground.phase }, { on := 1, ground := Ground.phase }, { on := 2, ground := Ground.phase }, { on := 3, ground := Ground.phase }, { on := 4, ground := Ground.phase }, { on := 5, ground := Ground.phase }, { on := 6, ground := Ground.phase }, { on := 7, ground := Ground.phase }, { on := 8, ground := Ground.phase }, { on := 9, ground := Ground.phase }, { on := 10, ground := Ground.phase }], guard := none }) (v := ?_) rfl (by kernel_rfl) (by kernel_rfl) (by kernel_rfl) (fun _ _ _ h => h) (Or.inl ⟨by rfl, ?_⟩) (by with_reducible assumption) ?_
          rotate_left
          · (intro w' hSw; (try dsimp only at hSw); first | (go_simp; done) | (go_simp; with_reducible rfl))
          (try simp only [Act.put, List.setIfInBounds_toArray, List.set_cons_zero, List.set_cons_succ])
          refine wpAnyH_done (by kernel_rfl) ?_ _
          refine NoPanic.normal ?_
          go_wp2_with fail
          go_roundw
          case rel => exact ⟨k + 1, _, _, rfl, by go_num, by omega, HS3, HA2⟩
          case measure => simp [intOf]; omega
        | true =>
          have e1 : iriC x.toNat = [x.toNat] := by unfold iriC; rw [if_neg (by rintro ⟨_, h⟩; rw [h] at hr; cases hr)]
          rw [e1] at HA2
          rw [hr] at HRx
          clear hr e1
          go_wp2_with (first
            | (go_at_call 94; refine (HRx.out _).mono ?_; rintro e w2 ⟨rfl, HO2⟩; have HS2 : Hid (TxS w w2 v0 l) := hid ⟨HS.out.own.same HO2.out, HS.out.only.trans HO2.out⟩; have HSa : Hid (∀ (cs : Array Value), TxS w (w2.alloc (.cells cs 5)) v0 l) := hid (fun cs => ⟨HS2.out.own.same ((Only.refl _ w2).alloc _), HS2.out.only.alloc _⟩); clear HS HO2 HS2)
            | (at_builtin; refine wpList_addY w _ rfl _ _ rfl v0 l rfl (hid (HSa.out _)) [x.toNat] _ 1 1 rfl rfl (hid (new_rd _ [x.toNat] _ _ rfl)) (by omega) ?_; intro v3 w3 HS3))
          go_roundw
          case rel => exact ⟨k + 1, _, _, rfl, by go_num, by omega, HS3, HA2⟩
          case measure => simp [intOf]; omega
      · have h1' : ¬ (x.toNat : Int) < 128 := by omega
        have e1 : iriC x.toNat = [x.toNat] := by unfold iriC; rw [if_neg (by rintro ⟨h, _⟩; exact h1 h)]
        rw [e1] at HA2
        have HSa : Hid (∀ (cs : Array Value), TxS w (wr.alloc (.cells cs 5)) v0 l) := hid fun cs => ⟨HS.out.own.same ((Only.refl _ wr).alloc _), HS.out.only.alloc _⟩
        clear e1 HS
        go_wp2_with (at_builtin; refine wpList_addY w _ rfl _ _ rfl v0 l rfl (hid (HSa.out _)) [x.toNat] _ 1 1 rfl rfl (hid (new_rd wr [x.toNat] _ _ rfl)) (by omega) ?_; intro v3 w3 HS3)
        go_roundw
        case rel => exact ⟨k + 1, _, _, rfl, by go_num, by omega, HS3, HA2⟩
        case measure => simp [intOf]; omega
    · obtain rfl : k = s.size := by omega
      have hcv := str_own HS.out
      have HF := hid (HE.out l HA.out)
      have HO := hid HS.out.only
      clear HS HA
      go_wp2_with fail
      go_ret
      exact ⟨by rw [HF.out]; rfl, HO⟩
end Go.Proofs.YtefcnaccemefnaaGreatDoor
