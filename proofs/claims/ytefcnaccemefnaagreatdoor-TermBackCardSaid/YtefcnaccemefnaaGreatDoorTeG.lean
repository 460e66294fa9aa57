/- Bytes appended to a row of the call's own; the document's iri, literal. -/
import Derived.Test.YtefcnaccemefnaaGreatDoorTeD
namespace Go.Proofs.YtefcnaccemefnaaGreatDoor
open Go.RowKit U G

theorem run_addY {w0 w : World} (ty : TypeId) {v : Value} {l : List Nat} (h : TxS w0 w v l) {b n c : Nat} {ys : List Nat} (hn : ys.length = n) (hrd : ∀ j y, (yvs ys)[j]? = some y → w.cell? ⟨b, j, none⟩ = some y) (hb : l.length + n ≤ 1099511627776) :
    ∃ v' w', (Builtin.append_ #[24, 24] ty #[v, .slice (some ⟨b, 0, none⟩) n c]).run Tryz.prog w = .ok v' w' ∧ TxS w0 w' v' (l ++ ys) := by
  obtain ⟨i0, hi0, hz0, hz1, hz2⟩ := info_parts byteInfoU
  obtain ⟨v', w', hrun, hown, hg, _, _⟩ := run_append_own_at (P := Tryz.prog) w w0.heap.size 24 ty 5 i0 (.int .u8 0) 1 1 Tryz.underlying24 hi0 hz0 hz1 hz2 rfl (by omega) v (yvs l).length _ h.own.own ⟨b, 0, none⟩ n c (yvs ys) (by rw [yvs_len]; omega) (fun j y hj => by
    have := hrd j y hj
    unfold Addr.add
    by_cases e : j = 0
    · subst e; simpa using this
    · simpa [e] using this) (fun y hy => by obtain ⟨u, _, rfl⟩ := List.mem_map.1 hy; rfl) (by unfold maxLen; rw [yvs_len]; omega) (by rw [yvs_len]; omega) h.own.ge
  refine ⟨v', w', hrun, ⟨⟨?_, Nat.le_trans h.own.ge hg.size⟩, h.only.grown hg fun k e => .inr (own_block h.own.own e).1⟩⟩
  have e1 : (yvs (l ++ ys)).length = (yvs l).length + n := by rw [yvs_len, yvs_len, List.length_append, hn]
  rw [e1, show yvs (l ++ ys) = yvs l ++ yvs ys from by simp [yvs]]
  exact hown
/-- .. in a region whose order is the text's. -/
theorem wpList_addY {ops : Array Oper} {rest : List Oper} {o : Oper} {a : Act} {Q : Exit → Act → World → Prop} (w0 w : World) (hgd : o.guard = none) (s x : Operand)
    (hop : o.op = Op.call { callee := Callee.builtin Builtin.append, args := #[s, x], argTypes := #[24, 24] })
    (v : Value) (l : List Nat) (hs : a.eval s = v) (h : Hid (TxS w0 w v l)) (ys : List Nat) (b n c : Nat) (hx : a.eval x = .slice (some ⟨b, 0, none⟩) n c) (hn : ys.length = n) (hrd : Hid (∀ j y, (yvs ys)[j]? = some y → w.cell? ⟨b, j, none⟩ = some y)) (hb : l.length + n ≤ 1099511627776)
    (K : ∀ v' w', Hid (TxS w0 w' v' (l ++ ys)) → wpList Tryz.prog ops Q rest (a.put o.dst v') w') :
    wpList Tryz.prog ops Q (o :: rest) a w := by
  refine wpList_plain hgd fun K2 hK => ?_
  obtain ⟨v', w', hrun, hown⟩ := run_addY (c := c) o.type h.out hn hrd.out hb
  unfold Oper.wp execOp
  simp only [hop, resolve, invoke, builtin, Sem.run_bind, Sem.run_pure, Result.andThen_ok, List.map_toArray, List.map_cons, List.map_nil, hs, hx, hrun]
  exact hK _ _ (K v' w' (hid hown))
/-- .. in one that draws its order. -/
theorem step_addY {ops : Array Oper} {o : Oper} {a : Act} {w : World} {K : Act → World → Prop} {Q : Exit → Act → World → Prop} {E : Prop} (hw : Region.wanted o (yielded ops a.tmps) = true) (w0 : World) (s x : Operand)
    (hop : o.op = Op.call { callee := Callee.builtin Builtin.append, args := #[s, x], argTypes := #[24, 24] })
    (v : Value) (l : List Nat) (hs : a.eval s = v) (h : Hid (TxS w0 w v l)) (ys : List Nat) (b n c : Nat) (hx : a.eval x = .slice (some ⟨b, 0, none⟩) n c) (hn : ys.length = n) (hrd : Hid (∀ j y, (yvs ys)[j]? = some y → w.cell? ⟨b, j, none⟩ = some y)) (hb : l.length + n ≤ 1099511627776)
    (K' : ∀ v' w', Hid (TxS w0 w' v' (l ++ ys)) → K (a.put o.dst v') w') :
    if Region.wanted o (yielded ops a.tmps) = true then Oper.wp Tryz.prog o a w K Q else E := by
  rw [if_pos hw]
  obtain ⟨v', w', hrun, hown⟩ := run_addY (c := c) o.type h.out hn hrd.out hb
  unfold Oper.wp
  simp [execOp, hop, resolve, invoke, builtin, hs, hx, hrun, Result.andThen]
  exact K' v' w' (hid hown)
/-- What was put into a new row is read there. -/
theorem new_rd (W : World) (ys : List Nat) (cs : Array Value) (t : TypeId) (h : cs.toList = yvs ys) : ∀ j y, (yvs ys)[j]? = some y → (W.alloc (.cells cs t)).cell? ⟨W.heap.size, j, none⟩ = some y := fun j y hj => by
  rw [← h, Array.getElem?_toList] at hj
  simpa using hj
set_option maxRecDepth 100000 in
theorem str_own {w0 w : World} {v : Value} {l : List Nat} (h : TxS w0 w v l) : (convert 24 9 v).run Tryz.prog w = .ok (.string (strB l)) w := by
  obtain ⟨A2, cap, hv, hrd, hnil, _⟩ := h.own.rd
  by_cases h0 : (yvs l).length = 0
  · have hemp : l = [] := by rw [yvs_len] at h0; exact List.length_eq_zero_iff.1 h0
    have hE : strB l = ByteArray.empty := by rw [hemp]; rfl
    rw [h0] at hv
    rw [hE, hv]
    cases A2 with
    | none => exact run_convert_bytes_nil (P := Tryz.prog) w 24 5 Tryz.underlying24 Tryz.underlying5 0 cap 9 Tryz.underlying9
    | some ad =>
      obtain ⟨b, off, sp⟩ := ad
      have := h.own.own.2
      rcases this with ⟨h, _⟩ | ⟨g, cp, cur, h, _⟩
      · rw [hv] at h; cases h
      · rw [hv] at h
        injection h with h _ _
        injection h with h
        injection h with e1 e2 e3
        subst e1; subst e2; subst e3
        have := run_convert_bytes_arg (P := Tryz.prog) w 24 5 Tryz.underlying24 Tryz.underlying5 b 0 0 cap [] rfl (fun i hi => absurd hi (by omega)) 9 Tryz.underlying9
        exact this
  · obtain ⟨b, off, rfl, hcell⟩ := hrd (by omega)
    have hcv := run_convert_bytes_arg (P := Tryz.prog) w 24 5 Tryz.underlying24 Tryz.underlying5 b off (yvs l).length cap (l.map fun n : Nat => (n : Int)) (by simp [yvs]) (fun i hi => by
      rw [hcell i hi]
      simp [yvs, List.getD, show i < l.length by rw [yvs_len] at hi; exact hi]) 9 Tryz.underlying9
    rw [show strOfNums (l.map fun n : Nat => (n : Int)) = strB l from rfl, ← hv] at hcv
    exact hcv
theorem litB_drop {s : ByteArray} {k : Nat} (h : k < s.size) : litB ((bl s).drop k) = litC (s[k]'h).toNat ++ litB ((bl s).drop (k + 1)) := by
  rw [drop_cons_bl h]
  simp [litB]
theorem iriB_drop {s : ByteArray} {k : Nat} (h : k < s.size) : iriB ((bl s).drop k) = iriC (s[k]'h).toNat ++ iriB ((bl s).drop (k + 1)) := by
  rw [drop_cons_bl h]
  simp [iriB]
set_option maxHeartbeats 2000000 in
theorem refLit_any {s : ByteArray} {w : World} (hs : s.size ≤ 900000) :
    Calls Tryz.prog 69 #[.string s] w fun e w' => e = .returned (.string (strB (litB (bl s)))) ∧ StU w w' := by
  have HI : Hid (TxS w w (.slice none 0 0) []) := hid ⟨by simpa [yvs] using OwG.nil (Nat.le_refl _), Only.refl _ w⟩
  have HD : Hid (∀ k (h : k < s.size) l, litB (bl s) = l ++ litB ((bl s).drop k) → l.length + 2 ≤ 2000000 ∧ litB (bl s) = (l ++ litC (s[k]'h).toNat) ++ litB ((bl s).drop (k + 1))) := hid fun k h l e => by
    have h1 := litB_len (bl s)
    have h2 := congrArg List.length e
    rw [List.length_append] at h2
    rw [bl_len] at h1
    refine ⟨by omega, by rw [e, litB_drop h, List.append_assoc]⟩
  have HE : Hid (∀ l, litB (bl s) = l ++ litB ((bl s).drop s.size) → litB (bl s) = l) := hid fun l e => by
    rw [e, List.drop_eq_nil_of_le (by rw [bl_len]; exact Nat.le_refl _)]
    simp [litB]
  go_enter Tryz.func69, Tryz.ntmps69
  go_wp2_with fail
  go_loopw [3, 4] (fun v i wr => ∃ (k : Nat) (v0 : Value) (l : List Nat), v0 = v ∧ i = .int .i64 (k : Int) ∧ k ≤ s.size ∧ Hid (TxS w wr v0 l) ∧ Hid (litB (bl s) = l ++ litB ((bl s).drop k))) (fun _ i _ => s.size - (intOf i).toNat)
  case atStart => exact ⟨0, _, [], rfl, rfl, by omega, HI, hid rfl⟩
  case round =>
    obtain ⟨k, v0, l, rfl, rfl, hk, HS, HA⟩ := hrel
    clear HI
    by_cases hp : k < s.size
    · have hp' : (k : Int) < (s.size : Int) := by omega
      obtain ⟨hl, hA⟩ := HD.out k hp l HA.out
      obtain ⟨x, hx⟩ : ∃ x, s[k]'hp = x := ⟨_, rfl⟩
      rw [hx] at hA
      have HA2 := hid hA
      have hx2 := x.toNat_lt
      clear hA HA
      have HSa : Hid (∀ (cs : Array Value), TxS w (wr.alloc (.cells cs 5)) v0 l) := hid fun cs => ⟨HS.out.own.same ((Only.refl _ wr).alloc _), HS.out.only.alloc _⟩
      by_cases h34 : x.toNat = 34
      · have e1 : litC x.toNat = [92, 34] := by rw [h34]; rfl
        have q34 : (x.toNat : Int) = 34 := by omega
        rw [e1] at HA2
        clear h34 e1 HS
        go_wp2_with (at_builtin; refine wpList_addY w _ rfl _ _ rfl v0 l rfl (hid (HSa.out _)) [92, 34] _ 2 2 rfl rfl (hid (new_rd wr [92, 34] _ _ rfl)) (by omega) ?_; intro v3 w3 HS3)
        go_roundw
        case rel => exact ⟨k + 1, _, _, rfl, by go_num, by omega, HS3, HA2⟩
        case measure => simp [intOf]; omega
      by_cases h92 : x.toNat = 92
      · have e1 : litC x.toNat = [92, 92] := by rw [h92]; rfl
        have q92 : (x.toNat : Int) = 92 := by omega
        rw [e1] at HA2
        clear h92 e1 HS
        go_wp2_with (at_builtin; refine wpList_addY w _ rfl _ _ rfl v0 l rfl (hid (HSa.out _)) [92, 92] _ 2 2 rfl rfl (hid (new_rd wr [92, 92] _ _ rfl)) (by omega) ?_; intro v3 w3 HS3)
        go_roundw
        case rel => exact ⟨k + 1, _, _, rfl, by go_num, by omega, HS3, HA2⟩
        case measure => simp [intOf]; omega
      by_cases h10 : x.toNat = 10
      · have e1 : litC x.toNat = [92, 110] := by rw [h10]; rfl
        have q10 : (x.toNat : Int) = 10 := by omega
        rw [e1] at HA2
        clear h10 e1 HS
        go_wp2_with (at_builtin; refine wpList_addY w _ rfl _ _ rfl v0 l rfl (hid (HSa.out _)) [92, 110] _ 2 2 rfl rfl (hid (new_rd wr [92, 110] _ _ rfl)) (by omega) ?_; intro v3 w3 HS3)
        go_roundw
        case rel => exact ⟨k + 1, _, _, rfl, by go_num, by omega, HS3, HA2⟩
        case measure => simp [intOf]; omega
      by_cases h13 : x.toNat = 13
      · have e1 : litC x.toNat = [92, 114] := by rw [h13]; rfl
        have q13 : (x.toNat : Int) = 13 := by omega
        rw [e1] at HA2
        clear h13 e1 HS
        go_wp2_with (at_builtin; refine wpList_addY w _ rfl _ _ rfl v0 l rfl (hid (HSa.out _)) [92, 114] _ 2 2 rfl rfl (hid (new_rd wr [92, 114] _ _ rfl)) (by omega) ?_; intro v3 w3 HS3)
        go_roundw
        case rel => exact ⟨k + 1, _, _, rfl, by go_num, by omega, HS3, HA2⟩
        case measure => simp [intOf]; omega
      have e1 : litC x.toNat = [x.toNat] := by unfold litC; rw [if_neg h34, if_neg h92, if_neg h10, if_neg h13]
      rw [e1] at HA2
      have g34 : ((x.toNat : Int) == 34) = false := by rw [beq_eq_false_iff_ne]; omega
      have g92 : ((x.toNat : Int) == 92) = false := by rw [beq_eq_false_iff_ne]; omega
      have g10 : ((x.toNat : Int) == 10) = false := by rw [beq_eq_false_iff_ne]; omega
      have g13 : ((x.toNat : Int) == 13) = false := by rw [beq_eq_false_iff_ne]; omega
      clear h34 h92 h10 h13 e1 HS
      go_wp2_with (at_builtin; refine wpList_addY w _ rfl _ _ rfl v0 l rfl (hid (HSa.out _)) [x.toNat] _ 1 1 rfl rfl (hid (new_rd wr [x.toNat] _ _ rfl)) (by omega) ?_; intro v3 w3 HS3)
      go_roundw
      case rel => exact ⟨k + 1, _, _, rfl, by go_num, by omega, HS3, HA2⟩
      case measure => simp [intOf]; omega
    · obtain rfl : k = s.size := by omega
      have hcv := str_own HS.out
      have HF := hid (HE.out l HA.out)
      have HO := hid HS.out.only
      clear HS HA
      go_wp2_with fail
      go_ret
      exact ⟨by rw [HF.out]; rfl, HO⟩
end Go.Proofs.YtefcnaccemefnaaGreatDoor
