/- The document's inner. -/
import Derived.Test.YtbbclcllkpabkaaDoorLxG
import Derived.Test.YtbbclcllkpabkaaDoorUtG
namespace Go.Proofs.YtbbclcllkpabkaaDoor.X
open Go.RowKit U G

def innD (lit : Bool) (l : List Nat) : List Nat × Nat := match unt lit l with
  | some q => if allG q.1 = true then (encL q.1, q.2) else ([], 0)
  | none => ([], 0)
def InE (lit : Bool) (w : World) (s : ByteArray) (a : Nat) (e : Ending) (w' : World) : Prop := e = .returned (.tuple #[.string (strB (innD lit ((bl s).drop a)).1), .int .i64 ((innD lit ((bl s).drop a)).2 : Int)]) ∧ StU w w'
theorem allG_app (a b : List Nat) : allG (a ++ b) = (allG a && allG b) := by simp [allG]
/-- Bytes so far. -/
structure InS (lit : Bool) (w wr : World) (s : ByteArray) (a b : Nat) (v : Value) (acc : List Nat) : Prop where
  own : TxS w wr v (encL acc)
  val : Val ((bl s).drop b)
  ok : allG acc = true
  eq : unt lit ((bl s).drop a) = (unt lit ((bl s).drop b)).map fun r => (acc ++ r.1, (b - a) + r.2)
theorem InS.none {lit : Bool} {w wr : World} {s : ByteArray} {a b : Nat} {v : Value} {acc : List Nat} (h : InS lit w wr s a b v acc) (hn : ∀ r, unt lit ((bl s).drop b) = some r → allG r.1 = false) : innD lit ((bl s).drop a) = ([], 0) := by
  unfold innD
  rw [h.eq]
  cases hu : unt lit ((bl s).drop b) with
  | none => rfl
  | some r =>
    show (if allG (acc ++ r.1) = true then _ else _) = _
    rw [allG_app, hn r hu, Bool.and_false, if_neg (by simp)]
theorem InS.on {lit : Bool} {w wr w' : World} {s : ByteArray} {a b k x : Nat} {v v' : Value} {acc : List Nat} (h : InS lit w wr s a b v acc) (hab : a ≤ b) (hx : sgn x) (hv : Val ((bl s).drop (b + k))) (hu : unt lit ((bl s).drop b) = (unt lit ((bl s).drop (b + k))).map fun r => (x :: r.1, k + r.2))
    (ho : TxS w w' v' (encL acc ++ encN x)) : InS lit w w' s a (b + k) v' (acc ++ [x]) := by
  refine ⟨?_, hv, ?_, ?_⟩
  · have e : encL (acc ++ [x]) = encL acc ++ encN x := by simp [encL]
    rw [e]; exact ho
  · rw [allG_app, h.ok]
    simpa [allG] using hx
  · rw [h.eq, hu, Option.map_map]
    congr 1
    funext r
    show (acc ++ (x :: r.1), b - a + (k + r.2)) = (acc ++ [x] ++ r.1, b + k - a + r.2)
    rw [List.append_assoc, show b - a + (k + r.2) = b + k - a + r.2 by omega]
    rfl
theorem head_nxt {l : List Nat} (hv : Val l) (h0 : l ≠ []) : (∀ c, c < 128 → (l.getD 0 0 = c ↔ (nxt l).1 = c)) ∧ (l.getD 0 0 < 128 → (nxt l).2 = 1) := by
  cases l with
  | nil => exact absurd rfl h0
  | cons b t =>
    have hn := hv.nxt h0
    simp only [List.getD_cons_zero]
    by_cases hb : b < 128
    · rw [nxt_asc hb]; exact ⟨fun c _ => Iff.rfl, fun _ => rfl⟩
    · have := nxt_high hv.bys (by omega) hn
      exact ⟨fun c hc => ⟨fun h => by omega, fun h => by omega⟩, fun h => by omega⟩
theorem innD_end {lit : Bool} {w wr : World} {s : ByteArray} {a b : Nat} {v : Value} {acc : List Nat} (h : InS lit w wr s a b v acc) (hu : unt lit ((bl s).drop b) = some ([], 1)) : innD lit ((bl s).drop a) = (encL acc, b - a + 1) := by
  unfold innD
  rw [h.eq, hu]
  show (if allG (acc ++ []) = true then (encL (acc ++ []), b - a + 1) else _) = _
  rw [List.append_nil, h.ok, if_pos rfl]
set_option maxHeartbeats 8000000 in
set_option maxRecDepth 100000 in
theorem refInner_iri {s : ByteArray} {a : Nat} {w : World} (ha : a ≤ s.size) (hs : s.size ≤ 100000) (hv : Val ((bl s).drop a)) :
    Calls Tryd.prog 31 #[.string s, .int .i64 (a : Int), .int .u8 62] w (InE false w s a) := by
  have HI : Hid (InS false w w s a a (.slice none 0 0) []) := hid ⟨⟨by simpa [encL, yvs] using OwG.nil (Nat.le_refl _), Only.refl _ w⟩, hv, rfl, by simp⟩
  have hsz : s.size ≤ 900000 := by omega
  clear hv
  go_enter Tryd.func31, Tryd.ntmps31
  go_wp2_with fail
  go_loopw [8, 9] (fun v kv wr => ∃ (b : Nat) (acc : List Nat) (v0 : Value), v0 = v ∧ kv = .int .i64 (b : Int) ∧ a ≤ b ∧ b ≤ s.size ∧ acc.length ≤ b - a ∧ Hid (InS false w wr s a b v0 acc)) (fun _ kv _ => s.size - (intOf kv).toNat)
  case atStart => exact ⟨a, [], _, rfl, rfl, by omega, ha, by simp, HI⟩
  case round =>
    obtain ⟨b, acc, v0, rfl, rfl, hab, hb, hacc, HS⟩ := hrel
    clear HI
    have hb0 : (0 : Int) ≤ (b : Int) := by omega
    by_cases hlt : b < s.size
    · have hlt' : (b : Int) < (s.size : Int) := by omega
      have hne : (bl s).drop b ≠ [] := fun h => by have := congrArg List.length h; rw [List.length_drop, bl_len] at this; simp at this; omega
      obtain ⟨hh1, hh2⟩ := head_nxt HS.out.val hne
      have hk := HS.out.val.nxt hne
      obtain ⟨x, hx⟩ : ∃ x, s[b]'hlt = x := ⟨_, rfl⟩
      have hgd : ((bl s).drop b).getD 0 0 = x.toNat := by rw [drop_getD, Nat.add_zero, bl_at hlt, hx]
      rw [hgd] at hh1 hh2
      have hst := unt_step false hk
      rw [show endC false = 62 from rfl] at hst
      have hle := nxt_le HS.out.val.bys
      rw [List.length_drop, bl_len] at hle
      by_cases hend : x.toNat = 62
      · have hxe : ((x.toNat : Int) != 62) = false := by rw [bne_eq_false_iff_eq]; omega
        have hxe0 : ((x.toNat : Int) == 62) = true := by rw [beq_iff_eq]; omega
        rw [if_pos ((hh1 62 (by omega)).1 hend)] at hst
        have HF : Hid (innD false ((bl s).drop a) = (encL acc, b - a + 1)) := hid (innD_end HS.out hst)
        have hbe : ((b : Int) == (s.size : Int)) = false := by rw [beq_eq_false_iff_ne]; omega
        have hw1 : IntKind.i64.wrap ((b : Int) + 1) = ((b + 1 : Nat) : Int) := by rw [IntKind.wrap_i64]; omega
        have hw2 : IntKind.i64.wrap (((b + 1 : Nat) : Int) - (a : Int)) = ((b - a + 1 : Nat) : Int) := by rw [IntKind.wrap_i64]; omega
        have HO := hid HS.out.own.only
        clear hst hh1 hh2 hk hle hgd hne hend
        obtain ⟨A2, cap, hv, hrd, hnil, _⟩ := HS.out.own.own.rd
        by_cases h0 : (yvs (encL acc)).length = 0
        · have hemp : encL acc = [] := by rw [yvs_len] at h0; exact List.length_eq_zero_iff.1 h0
          have HE : Hid (strB (encL acc) = ByteArray.empty) := hid (by rw [hemp]; rfl)
          rw [h0] at hv
          have hcv : ∀ dst, Tryd.prog.underlying dst = some .string → (convert 25 dst v0).run Tryd.prog wr = .ok (.string ByteArray.empty) wr := fun dst hd => by
            rw [hv]
            cases A2 with
            | none => exact run_convert_bytes_nil (P := Tryd.prog) wr 25 5 Tryd.underlying25 Tryd.underlying5 0 cap dst hd
            | some ad =>
              obtain ⟨b, off, sp⟩ := ad
              have := HS.out.own.own.own.2
              rcases this with ⟨h, _⟩ | ⟨g, cp, cur, h, _⟩
              · rw [hv] at h; cases h
              · rw [hv] at h
                injection h with h _ _
                injection h with h
                injection h with e1 e2 e3
                subst e1; subst e2; subst e3
                exact run_convert_bytes_arg (P := Tryd.prog) wr 25 5 Tryd.underlying25 Tryd.underlying5 b 0 0 cap [] rfl (fun i hi => absurd hi (by omega)) dst hd
          have hcv2 := hcv 9 Tryd.underlying9
          clear hcv hv hrd hnil h0 hemp HS
          go_wp2_with fail
          go_ret2
          exact ⟨by rw [HF.out]; show _ = Ending.returned (.tuple #[.string (strB (encL acc)), .int .i64 ((b - a + 1 : Nat) : Int)]); rw [HE.out]; show Ending.returned (.tuple #[.string ByteArray.empty, .int .i64 ((b : Int) + 1 - (a : Int))]) = _; rw [show (b : Int) + 1 - (a : Int) = ((b - a + 1 : Nat) : Int) by omega], HO⟩
        · have hS : ∃ bk off, A2 = some ⟨bk, off, none⟩ ∧ ∀ j, j < (yvs (encL acc)).length → wr.cell? ⟨bk, off + j, none⟩ = some ((yvs (encL acc)).getD j undef) := hrd (by omega)
          obtain ⟨bk, off, rfl, hcell⟩ := hS
          have hcv := run_convert_bytes_arg (P := Tryd.prog) wr 25 5 Tryd.underlying25 Tryd.underlying5 bk off (yvs (encL acc)).length cap ((encL acc).map fun n : Nat => (n : Int)) (by simp [yvs]) (fun i hi => by
            rw [hcell i hi]
            simp [yvs, List.getD, show i < (encL acc).length by rw [yvs_len] at hi; exact hi]) 9 Tryd.underlying9
          rw [show strOfNums ((encL acc).map fun n : Nat => (n : Int)) = strB (encL acc) from rfl, ← hv] at hcv
          generalize hSe : strB (encL acc) = S at *
          have HSe := hid hSe
          clear hSe hcell hv hrd hnil h0 HS
          go_wp2_with fail
          go_ret2
          exact ⟨by rw [HF.out]; show _ = Ending.returned (.tuple #[.string (strB (encL acc)), .int .i64 ((b - a + 1 : Nat) : Int)]); rw [HSe.out]; show Ending.returned (.tuple #[.string S, .int .i64 ((b : Int) + 1 - (a : Int))]) = _; rw [show (b : Int) + 1 - (a : Int) = ((b - a + 1 : Nat) : Int) by omega], HO⟩
      · have hxe : ((x.toNat : Int) != 62) = true := by rw [bne_iff_ne]; omega
        have hxe0 : ((x.toNat : Int) == 62) = false := by rw [beq_eq_false_iff_ne]; omega
        rw [if_neg (fun h => hend ((hh1 62 (by omega)).2 h))] at hst
        have HEs : Hid (∀ W, Calls Tryd.prog 49 #[.string s, .int .i64 (b : Int), .bool false] W (EsD false W s b)) := hid fun W => refEsc_any hlt hsz
        have HNx : Hid (∀ W, Calls Tryd.prog 30 #[.string s, .int .i64 (b : Int)] W fun e w' => e = .returned (.tuple #[.int .i64 (((nxt ((bl s).drop b)).1 : Nat) : Int), .int .i64 (((nxt ((bl s).drop b)).2 : Nat) : Int)]) ∧ StU W w') := hid fun W => refNext_any hlt hsz
        unfold EsD at HEs
        by_cases h92 : x.toNat = 92
        · have hn92 := (hh1 92 (by omega)).1 h92
          have hk1 := hh2 (by omega)
          rw [if_pos hn92] at hst
          rw [hn92, hk1] at HNx
          have hed : escD false ((bl s).drop b) = match esc false ((bl s).drop (b + 1)) with | some q => if sgn q.1 then (q.1, 1 + q.2) else (0, 0) | none => (0, 0) := by
            unfold escD
            rw [hgd, if_pos h92, List.drop_drop]
            rfl
          rw [List.drop_drop] at hst
          have bad : (escD false ((bl s).drop b) = (0, 0)) → (∀ r, unt false ((bl s).drop b) = some r → allG r.1 = false) → Hid (innD false ((bl s).drop a) = ([], 0)) := fun _ h2 => hid (HS.out.none h2)
          cases hes : esc false ((bl s).drop (b + 1)) with
          | none =>
            rw [hes] at hed hst
            have HF := bad hed (fun r hr => by rw [hst] at hr; cases hr)
            rw [hed] at HEs
            have HO := hid HS.out.own.only
            clear hst hh1 hh2 hk hle hgd hne hend bad hed hes HS hn92 hk1 h92
            have HRw := hid (fun W => refRaw_any 92 W)
            have hr92 : rawZ 92 = false := by decide +kernel
            rw [hr92] at HRw
            clear hr92
            go_wp2_with (first
              | (go_at_call 49; refine (HEs.out _).mono ?_; rintro e w2 ⟨rfl, HO2⟩)
              | (go_at_call 30; refine (HNx.out _).mono ?_; rintro e w3 ⟨rfl, HO3⟩)
              | (go_at_call 50; refine (HRw.out _).mono ?_; rintro e w4 ⟨rfl, HO4⟩))
            go_ret2
            exact ⟨by rw [HF.out]; rfl, hid ((((HO.out.trans HO2.out).trans HO3.out).trans HO4.out))⟩
          | some q =>
            obtain ⟨m, j⟩ := q
            rw [hes] at hed hst
            simp only at hed hst
            obtain ⟨c1, c2, c3, _, c5⟩ := esc_cut hes
            rw [List.length_drop, bl_len] at c2
            rw [List.drop_drop] at hst
            by_cases hsg : sgn m
            · rw [if_pos hsg] at hed
              rw [hed] at HEs
              have hv2 : Val ((bl s).drop (b + (1 + j))) := by
                have hv1 : Val ((bl s).drop (b + 1)) := by
                  have := HS.out.val.drop hk
                  rwa [hk1, List.drop_drop] at this
                have := (Val.asc c3).right (b := ((bl s).drop (b + 1)).drop j) (by rw [List.take_append_drop]; exact hv1)
                rwa [List.drop_drop, Nat.add_assoc] at this
              have hst2 : unt false ((bl s).drop b) = (unt false ((bl s).drop (b + (1 + j)))).map fun r => (m :: r.1, 1 + j + r.2) := hst
              have HOn : Hid (∀ w5 v5, TxS w w5 v5 (encL acc ++ encN m) → InS false w w5 s a (b + (1 + j)) v5 (acc ++ [m])) := hid fun w5 v5 h5 => HS.out.on hab hsg hv2 hst2 h5
              have hwk : IntKind.i64.wrap ((b : Int) + ((1 + j : Nat) : Int)) = ((b + (1 + j) : Nat) : Int) := by rw [IntKind.wrap_i64]; omega
              have hjn : (((1 + j : Nat) : Int) == 0) = false := by rw [beq_eq_false_iff_ne]; omega
              have hbj : b + (1 + j) ≤ s.size := by omega
              have hpos : 0 < 1 + j := by omega
              clear hst hh1 hh2 hk hle hgd hne hend bad hed hes hn92 hk1 h92 c3 hv2 hst2 c1 c2 c5
              generalize 1 + j = kk at *
              have HBy := hid (fun W => refBytes_any hsg W)
              have Hln : Hid ((encN m).length ≤ 4) := hid (encN_len m).2
              have HOw := hid HS.out.own
              have Hle : Hid ((encL acc).length ≤ 4 * acc.length) := hid (encL_len acc)
              clear hsg
              generalize encN m = y at *
              generalize encL acc = l at *
              go_wp2_with (first
                | (go_at_call 49; refine (HEs.out _).mono ?_; rintro e w2 ⟨rfl, HO2⟩)
                | (go_at_call 48; refine (HBy.out _).mono ?_; rintro e w6 ⟨g, rfl, HB⟩; have HS2 : Hid (TxS w w6 v0 l) := hid ⟨(HOw.out.own.same HO2.out).same HB.out.2.1, (HOw.out.only.trans HO2.out).trans HB.out.2.1⟩; clear HOw)
                | (at_builtin; refine wpList_addVs w _ 25 5 (.int .u8 0) 1 Tryd.underlying25 byteInfoU (by decide) rfl rfl _ _ rfl _ _ rfl (hid HS2.out.own) (yvs y) (by intro q hq; obtain ⟨u, _, rfl⟩ := List.mem_map.1 hq; rfl) g y.length y.length rfl (yvs_len y) (by have := Hle.out; have := Hln.out; rw [yvs_len]; omega) (hid (by
                    intro j q hq
                    have hj : j < y.length := by
                      have := (List.getElem?_eq_some_iff.1 hq).1
                      rwa [yvs_len] at this
                    rw [HB.out.1.cell hj]
                    simp [yvs, hj] at hq
                    rw [← hq]
                    simp [vY, List.getD, hj])) ?_; intro v3 w7 Hown3 Hfr3))
              have HS3 := hid (HOn.out w7 v3 ⟨by simpa [yvs] using Hown3.out, only_fr HS2.out.only Hfr3.out⟩)
              clear HS2 Hown3 Hfr3 HOn Hle
              go_roundw
              case rel => exact ⟨b + kk, acc ++ [m], _, rfl, by go_num, by omega, by omega, by rw [List.length_append, List.length_singleton]; omega, HS3⟩
              case measure => simp [intOf]; omega
            · rw [if_neg hsg] at hed
              have HF := bad hed (fun r hr => by
                rw [hst] at hr
                cases hu : unt false ((bl s).drop (b + (1 + j))) with
                | none => rw [hu] at hr; cases hr
                | some r2 =>
                  rw [hu] at hr
                  injection hr with hr
                  rw [← hr]
                  simp [allG, hsg])
              rw [hed] at HEs
              have HO := hid HS.out.own.only
              clear hst hh1 hh2 hk hle hgd hne hend bad hed hes HS hn92 hk1 h92 c3 c1 c2 c5 hsg
              have HRw := hid (fun W => refRaw_any 92 W)
              have hr92 : rawZ 92 = false := by decide +kernel
              rw [hr92] at HRw
              clear hr92
              go_wp2_with (first
                | (go_at_call 49; refine (HEs.out _).mono ?_; rintro e w2 ⟨rfl, HO2⟩)
                | (go_at_call 30; refine (HNx.out _).mono ?_; rintro e w3 ⟨rfl, HO3⟩)
                | (go_at_call 50; refine (HRw.out _).mono ?_; rintro e w4 ⟨rfl, HO4⟩))
              go_ret2
              exact ⟨by rw [HF.out]; rfl, hid ((((HO.out.trans HO2.out).trans HO3.out).trans HO4.out))⟩
        · have hn92 : (nxt ((bl s).drop b)).1 ≠ 92 := fun h => h92 ((hh1 92 (by omega)).2 h)
          rw [if_neg hn92] at hst
          have hed : escD false ((bl s).drop b) = (0, 0) := esc_zero (.inl (by rw [hgd]; exact h92))
          rw [hed] at HEs
          have hof := nxt_of HS.out.val.bys hk
          have hvd := HS.out.val.drop hk
          rw [List.drop_drop] at hst hvd
          have hb92 : (((nxt ((bl s).drop b)).1 : Int) != 92) = true := by rw [bne_iff_ne]; omega
          generalize nxt ((bl s).drop b) = q at *
          obtain ⟨m, kk⟩ := q
          simp only at *
          have hjn : ((kk : Int) == 0) = false := by rw [beq_eq_false_iff_ne]; omega
          cases hrw : rawB false m with
          | false =>
            rw [hrw, if_neg (by simp)] at hst
            have HF : Hid (innD false ((bl s).drop a) = ([], 0)) := hid (HS.out.none fun r hr => by rw [hst] at hr; cases hr)
            have HO := hid HS.out.own.only
            clear hst hh1 hh2 hk hle hgd hne hend hed HS hn92 h92 hof hvd
            have HRw : Hid (∀ W, Calls Tryd.prog 50 #[.int .i64 (m : Int)] W fun e w' => e = .returned (.bool false) ∧ StU W w') := hid fun W => by have := refRaw_any (m : Int) W; rwa [show rawZ (m : Int) = false from hrw] at this
            clear hrw
            go_wp2_with (first
              | (go_at_call 49; refine (HEs.out _).mono ?_; rintro e w2 ⟨rfl, HO2⟩)
              | (go_at_call 30; refine (HNx.out _).mono ?_; rintro e w3 ⟨rfl, HO3⟩)
              | (go_at_call 50; refine (HRw.out _).mono ?_; rintro e w4 ⟨rfl, HO4⟩))
            go_ret2
            exact ⟨by rw [HF.out]; rfl, hid ((((HO.out.trans HO2.out).trans HO3.out).trans HO4.out))⟩
          | true =>
            rw [hrw, if_pos rfl] at hst
            have hsg : sgn m := hof.1
            have HOn : Hid (∀ w5 v5, TxS w w5 v5 (encL acc ++ encN m) → InS false w w5 s a (b + kk) v5 (acc ++ [m])) := hid fun w5 v5 h5 => HS.out.on hab hsg hvd hst h5
            have hwk : IntKind.i64.wrap ((b : Int) + (kk : Int)) = ((b + kk : Nat) : Int) := by rw [IntKind.wrap_i64]; omega
            have hbj : b + kk ≤ s.size := by omega
            have hpos : 0 < kk := by omega
            clear hst hh1 hh2 hk hle hgd hne hend hed hn92 h92 hof hvd
            have HRw : Hid (∀ W, Calls Tryd.prog 50 #[.int .i64 (m : Int)] W fun e w' => e = .returned (.bool true) ∧ StU W w') := hid fun W => by have := refRaw_any (m : Int) W; rwa [show rawZ (m : Int) = true from hrw] at this
            clear hrw
            have HBy := hid (fun W => refBytes_any hsg W)
            have Hln : Hid ((encN m).length ≤ 4) := hid (encN_len m).2
            have HOw := hid HS.out.own
            have Hle : Hid ((encL acc).length ≤ 4 * acc.length) := hid (encL_len acc)
            clear hsg
            generalize encN m = y at *
            generalize encL acc = l at *
            go_wp2_with (first
              | (go_at_call 49; refine (HEs.out _).mono ?_; rintro e w2 ⟨rfl, HO2⟩)
              | (go_at_call 30; refine (HNx.out _).mono ?_; rintro e w3 ⟨rfl, HO3⟩)
              | (go_at_call 50; refine (HRw.out _).mono ?_; rintro e w4 ⟨rfl, HO4⟩)
              | (go_at_call 48; refine (HBy.out _).mono ?_; rintro e w6 ⟨g, rfl, HB⟩; have HS2 : Hid (TxS w w6 v0 l) := hid ⟨(HOw.out.own.same ((HO2.out.trans HO3.out).trans HO4.out)).same HB.out.2.1, (HOw.out.only.trans ((HO2.out.trans HO3.out).trans HO4.out)).trans HB.out.2.1⟩; clear HOw)
              | (at_builtin; refine wpList_addVs w _ 25 5 (.int .u8 0) 1 Tryd.underlying25 byteInfoU (by decide) rfl rfl _ _ rfl _ _ rfl (hid HS2.out.own) (yvs y) (by intro q hq; obtain ⟨u, _, rfl⟩ := List.mem_map.1 hq; rfl) g y.length y.length rfl (yvs_len y) (by have := Hle.out; have := Hln.out; rw [yvs_len]; omega) (hid (by
                  intro j q hq
                  have hj : j < y.length := by
                    have := (List.getElem?_eq_some_iff.1 hq).1
                    rwa [yvs_len] at this
                  rw [HB.out.1.cell hj]
                  simp [yvs, hj] at hq
                  rw [← hq]
                  simp [vY, List.getD, hj])) ?_; intro v3 w7 Hown3 Hfr3))
            have HS3 := hid (HOn.out w7 v3 ⟨by simpa [yvs] using Hown3.out, only_fr HS2.out.only Hfr3.out⟩)
            clear HS2 Hown3 Hfr3 HOn Hle
            go_roundw
            case rel => exact ⟨b + kk, acc ++ [m], _, rfl, by go_num, by omega, by omega, by rw [List.length_append, List.length_singleton]; omega, HS3⟩
            case measure => simp [intOf]; omega
    · have hlt' : ¬ (b : Int) < (s.size : Int) := by omega
      obtain rfl : b = s.size := by omega
      have hn : unt false ((bl s).drop s.size) = none := by rw [List.drop_eq_nil_of_le (by rw [bl_len]; exact Nat.le_refl _)]; exact unt_nil (by rw [nxt_nil])
      have HF : Hid (innD false ((bl s).drop a) = ([], 0)) := hid (HS.out.none fun r hr => by rw [hn] at hr; cases hr)
      have HO := hid HS.out.own.only
      clear hn HS
      go_wp2_with fail
      go_ret2
      exact ⟨by rw [HF.out]; rfl, HO⟩
set_option maxHeartbeats 8000000 in
set_option maxRecDepth 100000 in
theorem refInner_lit {s : ByteArray} {a : Nat} {w : World} (ha : a ≤ s.size) (hs : s.size ≤ 100000) (hv : Val ((bl s).drop a)) :
    Calls Tryd.prog 31 #[.string s, .int .i64 (a : Int), .int .u8 34] w (InE true w s a) := by
  have HI : Hid (InS true w w s a a (.slice none 0 0) []) := hid ⟨⟨by simpa [encL, yvs] using OwG.nil (Nat.le_refl _), Only.refl _ w⟩, hv, rfl, by simp⟩
  have hsz : s.size ≤ 900000 := by omega
  clear hv
  go_enter Tryd.func31, Tryd.ntmps31
  go_wp2_with fail
  go_loopw [8, 9] (fun v kv wr => ∃ (b : Nat) (acc : List Nat) (v0 : Value), v0 = v ∧ kv = .int .i64 (b : Int) ∧ a ≤ b ∧ b ≤ s.size ∧ acc.length ≤ b - a ∧ Hid (InS true w wr s a b v0 acc)) (fun _ kv _ => s.size - (intOf kv).toNat)
  case atStart => exact ⟨a, [], _, rfl, rfl, by omega, ha, by simp, HI⟩
  case round =>
    obtain ⟨b, acc, v0, rfl, rfl, hab, hb, hacc, HS⟩ := hrel
    clear HI
    have hb0 : (0 : Int) ≤ (b : Int) := by omega
    by_cases hlt : b < s.size
    · have hlt' : (b : Int) < (s.size : Int) := by omega
      have hne : (bl s).drop b ≠ [] := fun h => by have := congrArg List.length h; rw [List.length_drop, bl_len] at this; simp at this; omega
      obtain ⟨hh1, hh2⟩ := head_nxt HS.out.val hne
      have hk := HS.out.val.nxt hne
      obtain ⟨x, hx⟩ : ∃ x, s[b]'hlt = x := ⟨_, rfl⟩
      have hgd : ((bl s).drop b).getD 0 0 = x.toNat := by rw [drop_getD, Nat.add_zero, bl_at hlt, hx]
      rw [hgd] at hh1 hh2
      have hst := unt_step true hk
      rw [show endC true = 34 from rfl] at hst
      have hle := nxt_le HS.out.val.bys
      rw [List.length_drop, bl_len] at hle
      by_cases hend : x.toNat = 34
      · have hxe : ((x.toNat : Int) != 34) = false := by rw [bne_eq_false_iff_eq]; omega
        have hxe0 : ((x.toNat : Int) == 34) = true := by rw [beq_iff_eq]; omega
        rw [if_pos ((hh1 34 (by omega)).1 hend)] at hst
        have HF : Hid (innD true ((bl s).drop a) = (encL acc, b - a + 1)) := hid (innD_end HS.out hst)
        have hbe : ((b : Int) == (s.size : Int)) = false := by rw [beq_eq_false_iff_ne]; omega
        have hw1 : IntKind.i64.wrap ((b : Int) + 1) = ((b + 1 : Nat) : Int) := by rw [IntKind.wrap_i64]; omega
        have hw2 : IntKind.i64.wrap (((b + 1 : Nat) : Int) - (a : Int)) = ((b - a + 1 : Nat) : Int) := by rw [IntKind.wrap_i64]; omega
        have HO := hid HS.out.own.only
        clear hst hh1 hh2 hk hle hgd hne hend
        obtain ⟨A2, cap, hv, hrd, hnil, _⟩ := HS.out.own.own.rd
        by_cases h0 : (yvs (encL acc)).length = 0
        · have hemp : encL acc = [] := by rw [yvs_len] at h0; exact List.length_eq_zero_iff.1 h0
          have HE : Hid (strB (encL acc) = ByteArray.empty) := hid (by rw [hemp]; rfl)
          rw [h0] at hv
          have hcv : ∀ dst, Tryd.prog.underlying dst = some .string → (convert 25 dst v0).run Tryd.prog wr = .ok (.string ByteArray.empty) wr := fun dst hd => by
            rw [hv]
            cases A2 with
            | none => exact run_convert_bytes_nil (P := Tryd.prog) wr 25 5 Tryd.underlying25 Tryd.underlying5 0 cap dst hd
            | some ad =>
              obtain ⟨b, off, sp⟩ := ad
              have := HS.out.own.own.own.2
              rcases this with ⟨h, _⟩ | ⟨g, cp, cur, h, _⟩
              · rw [hv] at h; cases h
              · rw [hv] at h
                injection h with h _ _
                injection h with h
                injection h with e1 e2 e3
                subst e1; subst e2; subst e3
                exact run_convert_bytes_arg (P := Tryd.prog) wr 25 5 Tryd.underlying25 Tryd.underlying5 b 0 0 cap [] rfl (fun i hi => absurd hi (by omega)) dst hd
          have hcv2 := hcv 9 Tryd.underlying9
          clear hcv hv hrd hnil h0 hemp HS
          go_wp2_with fail
          go_ret2
          exact ⟨by rw [HF.out]; show _ = Ending.returned (.tuple #[.string (strB (encL acc)), .int .i64 ((b - a + 1 : Nat) : Int)]); rw [HE.out]; show Ending.returned (.tuple #[.string ByteArray.empty, .int .i64 ((b : Int) + 1 - (a : Int))]) = _; rw [show (b : Int) + 1 - (a : Int) = ((b - a + 1 : Nat) : Int) by omega], HO⟩
        · have hS : ∃ bk off, A2 = some ⟨bk, off, none⟩ ∧ ∀ j, j < (yvs (encL acc)).length → wr.cell? ⟨bk, off + j, none⟩ = some ((yvs (encL acc)).getD j undef) := hrd (by omega)
          obtain ⟨bk, off, rfl, hcell⟩ := hS
          have hcv := run_convert_bytes_arg (P := Tryd.prog) wr 25 5 Tryd.underlying25 Tryd.underlying5 bk off (yvs (encL acc)).length cap ((encL acc).map fun n : Nat => (n : Int)) (by simp [yvs]) (fun i hi => by
            rw [hcell i hi]
            simp [yvs, List.getD, show i < (encL acc).length by rw [yvs_len] at hi; exact hi]) 9 Tryd.underlying9
          rw [show strOfNums ((encL acc).map fun n : Nat => (n : Int)) = strB (encL acc) from rfl, ← hv] at hcv
          generalize hSe : strB (encL acc) = S at *
          have HSe := hid hSe
          clear hSe hcell hv hrd hnil h0 HS
          go_wp2_with fail
          go_ret2
          exact ⟨by rw [HF.out]; show _ = Ending.returned (.tuple #[.string (strB (encL acc)), .int .i64 ((b - a + 1 : Nat) : Int)]); rw [HSe.out]; show Ending.returned (.tuple #[.string S, .int .i64 ((b : Int) + 1 - (a : Int))]) = _; rw [show (b : Int) + 1 - (a : Int) = ((b - a + 1 : Nat) : Int) by omega], HO⟩
      · have hxe : ((x.toNat : Int) != 34) = true := by rw [bne_iff_ne]; omega
        have hxe0 : ((x.toNat : Int) == 34) = false := by rw [beq_eq_false_iff_ne]; omega
        rw [if_neg (fun h => hend ((hh1 34 (by omega)).2 h))] at hst
        have HEs : Hid (∀ W, Calls Tryd.prog 49 #[.string s, .int .i64 (b : Int), .bool true] W (EsD true W s b)) := hid fun W => refEsc_any hlt hsz
        have HNx : Hid (∀ W, Calls Tryd.prog 30 #[.string s, .int .i64 (b : Int)] W fun e w' => e = .returned (.tuple #[.int .i64 (((nxt ((bl s).drop b)).1 : Nat) : Int), .int .i64 (((nxt ((bl s).drop b)).2 : Nat) : Int)]) ∧ StU W w') := hid fun W => refNext_any hlt hsz
        unfold EsD at HEs
        by_cases h92 : x.toNat = 92
        · have hn92 := (hh1 92 (by omega)).1 h92
          have hk1 := hh2 (by omega)
          rw [if_pos hn92] at hst
          rw [hn92, hk1] at HNx
          have hed : escD true ((bl s).drop b) = match esc true ((bl s).drop (b + 1)) with | some q => if sgn q.1 then (q.1, 1 + q.2) else (0, 0) | none => (0, 0) := by
            unfold escD
            rw [hgd, if_pos h92, List.drop_drop]
            rfl
          rw [List.drop_drop] at hst
          have bad : (escD true ((bl s).drop b) = (0, 0)) → (∀ r, unt true ((bl s).drop b) = some r → allG r.1 = false) → Hid (innD true ((bl s).drop a) = ([], 0)) := fun _ h2 => hid (HS.out.none h2)
          cases hes : esc true ((bl s).drop (b + 1)) with
          | none =>
            rw [hes] at hed hst
            have HF := bad hed (fun r hr => by rw [hst] at hr; cases hr)
            rw [hed] at HEs
            have HO := hid HS.out.own.only
            clear hst hh1 hh2 hk hle hgd hne hend bad hed hes HS hn92 hk1 h92
            go_wp2_with (first
              | (go_at_call 49; refine (HEs.out _).mono ?_; rintro e w2 ⟨rfl, HO2⟩)
              | (go_at_call 30; refine (HNx.out _).mono ?_; rintro e w3 ⟨rfl, HO3⟩))
            go_ret2
            exact ⟨by rw [HF.out]; rfl, hid (((HO.out.trans HO2.out).trans HO3.out))⟩
          | some q =>
            obtain ⟨m, j⟩ := q
            rw [hes] at hed hst
            simp only at hed hst
            obtain ⟨c1, c2, c3, _, c5⟩ := esc_cut hes
            rw [List.length_drop, bl_len] at c2
            rw [List.drop_drop] at hst
            by_cases hsg : sgn m
            · rw [if_pos hsg] at hed
              rw [hed] at HEs
              have hv2 : Val ((bl s).drop (b + (1 + j))) := by
                have hv1 : Val ((bl s).drop (b + 1)) := by
                  have := HS.out.val.drop hk
                  rwa [hk1, List.drop_drop] at this
                have := (Val.asc c3).right (b := ((bl s).drop (b + 1)).drop j) (by rw [List.take_append_drop]; exact hv1)
                rwa [List.drop_drop, Nat.add_assoc] at this
              have hst2 : unt true ((bl s).drop b) = (unt true ((bl s).drop (b + (1 + j)))).map fun r => (m :: r.1, 1 + j + r.2) := hst
              have HOn : Hid (∀ w5 v5, TxS w w5 v5 (encL acc ++ encN m) → InS true w w5 s a (b + (1 + j)) v5 (acc ++ [m])) := hid fun w5 v5 h5 => HS.out.on hab hsg hv2 hst2 h5
              have hwk : IntKind.i64.wrap ((b : Int) + ((1 + j : Nat) : Int)) = ((b + (1 + j) : Nat) : Int) := by rw [IntKind.wrap_i64]; omega
              have hjn : (((1 + j : Nat) : Int) == 0) = false := by rw [beq_eq_false_iff_ne]; omega
              have hbj : b + (1 + j) ≤ s.size := by omega
              have hpos : 0 < 1 + j := by omega
              clear hst hh1 hh2 hk hle hgd hne hend bad hed hes hn92 hk1 h92 c3 hv2 hst2 c1 c2 c5
              generalize 1 + j = kk at *
              have HBy := hid (fun W => refBytes_any hsg W)
              have Hln : Hid ((encN m).length ≤ 4) := hid (encN_len m).2
              have HOw := hid HS.out.own
              have Hle : Hid ((encL acc).length ≤ 4 * acc.length) := hid (encL_len acc)
              clear hsg
              generalize encN m = y at *
              generalize encL acc = l at *
              go_wp2_with (first
                | (go_at_call 49; refine (HEs.out _).mono ?_; rintro e w2 ⟨rfl, HO2⟩)
                | (go_at_call 48; refine (HBy.out _).mono ?_; rintro e w6 ⟨g, rfl, HB⟩; have HS2 : Hid (TxS w w6 v0 l) := hid ⟨(HOw.out.own.same HO2.out).same HB.out.2.1, (HOw.out.only.trans HO2.out).trans HB.out.2.1⟩; clear HOw)
                | (at_builtin; refine wpList_addVs w _ 25 5 (.int .u8 0) 1 Tryd.underlying25 byteInfoU (by decide) rfl rfl _ _ rfl _ _ rfl (hid HS2.out.own) (yvs y) (by intro q hq; obtain ⟨u, _, rfl⟩ := List.mem_map.1 hq; rfl) g y.length y.length rfl (yvs_len y) (by have := Hle.out; have := Hln.out; rw [yvs_len]; omega) (hid (by
                    intro j q hq
                    have hj : j < y.length := by
                      have := (List.getElem?_eq_some_iff.1 hq).1
                      rwa [yvs_len] at this
                    rw [HB.out.1.cell hj]
                    simp [yvs, hj] at hq
                    rw [← hq]
                    simp [vY, List.getD, hj])) ?_; intro v3 w7 Hown3 Hfr3))
              have HS3 := hid (HOn.out w7 v3 ⟨by simpa [yvs] using Hown3.out, only_fr HS2.out.only Hfr3.out⟩)
              clear HS2 Hown3 Hfr3 HOn Hle
              go_roundw
              case rel => exact ⟨b + kk, acc ++ [m], _, rfl, by go_num, by omega, by omega, by rw [List.length_append, List.length_singleton]; omega, HS3⟩
              case measure => simp [intOf]; omega
            · rw [if_neg hsg] at hed
              have HF := bad hed (fun r hr => by
                rw [hst] at hr
                cases hu : unt true ((bl s).drop (b + (1 + j))) with
                | none => rw [hu] at hr; cases hr
                | some r2 =>
                  rw [hu] at hr
                  injection hr with hr
                  rw [← hr]
                  simp [allG, hsg])
              rw [hed] at HEs
              have HO := hid HS.out.own.only
              clear hst hh1 hh2 hk hle hgd hne hend bad hed hes HS hn92 hk1 h92 c3 c1 c2 c5 hsg
              go_wp2_with (first
                | (go_at_call 49; refine (HEs.out _).mono ?_; rintro e w2 ⟨rfl, HO2⟩)
                | (go_at_call 30; refine (HNx.out _).mono ?_; rintro e w3 ⟨rfl, HO3⟩))
              go_ret2
              exact ⟨by rw [HF.out]; rfl, hid (((HO.out.trans HO2.out).trans HO3.out))⟩
        · have hn92 : (nxt ((bl s).drop b)).1 ≠ 92 := fun h => h92 ((hh1 92 (by omega)).2 h)
          rw [if_neg hn92] at hst
          have hed : escD true ((bl s).drop b) = (0, 0) := esc_zero (.inl (by rw [hgd]; exact h92))
          rw [hed] at HEs
          have hof := nxt_of HS.out.val.bys hk
          have hvd := HS.out.val.drop hk
          rw [List.drop_drop] at hst hvd
          have hb92 : (((nxt ((bl s).drop b)).1 : Int) != 92) = true := by rw [bne_iff_ne]; omega
          generalize nxt ((bl s).drop b) = q at *
          obtain ⟨m, kk⟩ := q
          simp only at *
          have hjn : ((kk : Int) == 0) = false := by rw [beq_eq_false_iff_ne]; omega
          cases hrw : rawB true m with
          | false =>
            rw [hrw, if_neg (by simp)] at hst
            have HF : Hid (innD true ((bl s).drop a) = ([], 0)) := hid (HS.out.none fun r hr => by rw [hst] at hr; cases hr)
            have HO := hid HS.out.own.only
            clear hst hh1 hh2 hk hle hgd hne hend hed HS hn92 h92 hof hvd
            have h1013 : m = 10 ∨ m = 13 := by
              unfold rawB at hrw
              simp at hrw
              omega
            clear hrw
            rcases h1013 with rfl | rfl
            · go_wp2_with (first
                | (go_at_call 49; refine (HEs.out _).mono ?_; rintro e w2 ⟨rfl, HO2⟩)
                | (go_at_call 30; refine (HNx.out _).mono ?_; rintro e w3 ⟨rfl, HO3⟩))
              go_ret2
              exact ⟨by rw [HF.out]; rfl, hid (((HO.out.trans HO2.out).trans HO3.out))⟩
            · go_wp2_with (first
                | (go_at_call 49; refine (HEs.out _).mono ?_; rintro e w2 ⟨rfl, HO2⟩)
                | (go_at_call 30; refine (HNx.out _).mono ?_; rintro e w3 ⟨rfl, HO3⟩))
              go_ret2
              exact ⟨by rw [HF.out]; rfl, hid (((HO.out.trans HO2.out).trans HO3.out))⟩
          | true =>
            rw [hrw, if_pos rfl] at hst
            have hsg : sgn m := hof.1
            have HOn : Hid (∀ w5 v5, TxS w w5 v5 (encL acc ++ encN m) → InS true w w5 s a (b + kk) v5 (acc ++ [m])) := hid fun w5 v5 h5 => HS.out.on hab hsg hvd hst h5
            have hwk : IntKind.i64.wrap ((b : Int) + (kk : Int)) = ((b + kk : Nat) : Int) := by rw [IntKind.wrap_i64]; omega
            have hbj : b + kk ≤ s.size := by omega
            have hpos : 0 < kk := by omega
            clear hst hh1 hh2 hk hle hgd hne hend hed hn92 h92 hof hvd
            have h1013 : m ≠ 10 ∧ m ≠ 13 := by
              unfold rawB at hrw
              simpa using hrw
            have hb10 : ((m : Int) != 10) = true := by rw [bne_iff_ne]; omega
            have hb13 : ((m : Int) != 13) = true := by rw [bne_iff_ne]; omega
            clear hrw h1013
            have HBy := hid (fun W => refBytes_any hsg W)
            have Hln : Hid ((encN m).length ≤ 4) := hid (encN_len m).2
            have HOw := hid HS.out.own
            have Hle : Hid ((encL acc).length ≤ 4 * acc.length) := hid (encL_len acc)
            clear hsg
            generalize encN m = y at *
            generalize encL acc = l at *
            go_wp2_with (first
              | (go_at_call 49; refine (HEs.out _).mono ?_; rintro e w2 ⟨rfl, HO2⟩)
              | (go_at_call 30; refine (HNx.out _).mono ?_; rintro e w3 ⟨rfl, HO3⟩)
              | (go_at_call 48; refine (HBy.out _).mono ?_; rintro e w6 ⟨g, rfl, HB⟩; have HS2 : Hid (TxS w w6 v0 l) := hid ⟨(HOw.out.own.same (HO2.out.trans HO3.out)).same HB.out.2.1, (HOw.out.only.trans (HO2.out.trans HO3.out)).trans HB.out.2.1⟩; clear HOw)
              | (at_builtin; refine wpList_addVs w _ 25 5 (.int .u8 0) 1 Tryd.underlying25 byteInfoU (by decide) rfl rfl _ _ rfl _ _ rfl (hid HS2.out.own) (yvs y) (by intro q hq; obtain ⟨u, _, rfl⟩ := List.mem_map.1 hq; rfl) g y.length y.length rfl (yvs_len y) (by have := Hle.out; have := Hln.out; rw [yvs_len]; omega) (hid (by
                  intro j q hq
                  have hj : j < y.length := by
                    have := (List.getElem?_eq_some_iff.1 hq).1
                    rwa [yvs_len] at this
                  rw [HB.out.1.cell hj]
                  simp [yvs, hj] at hq
                  rw [← hq]
                  simp [vY, List.getD, hj])) ?_; intro v3 w7 Hown3 Hfr3))
            have HS3 := hid (HOn.out w7 v3 ⟨by simpa [yvs] using Hown3.out, only_fr HS2.out.only Hfr3.out⟩)
            clear HS2 Hown3 Hfr3 HOn Hle
            go_roundw
            case rel => exact ⟨b + kk, acc ++ [m], _, rfl, by go_num, by omega, by omega, by rw [List.length_append, List.length_singleton]; omega, HS3⟩
            case measure => simp [intOf]; omega
    · have hlt' : ¬ (b : Int) < (s.size : Int) := by omega
      obtain rfl : b = s.size := by omega
      have hn : unt true ((bl s).drop s.size) = none := by rw [List.drop_eq_nil_of_le (by rw [bl_len]; exact Nat.le_refl _)]; exact unt_nil (by rw [nxt_nil])
      have HF : Hid (innD true ((bl s).drop a) = ([], 0)) := hid (HS.out.none fun r hr => by rw [hn] at hr; cases hr)
      have HO := hid HS.out.own.only
      clear hn HS
      go_wp2_with fail
      go_ret2
      exact ⟨by rw [HF.out]; rfl, HO⟩
theorem refInner_any {s : ByteArray} {a : Nat} {w : World} (lit : Bool) (ha : a ≤ s.size) (hs : s.size ≤ 100000) (hv : Val ((bl s).drop a)) :
    Calls Tryd.prog 31 #[.string s, .int .i64 (a : Int), .int .u8 (endC lit : Int)] w (InE lit w s a) := by
  cases lit with
  | false => exact refInner_iri ha hs hv
  | true => exact refInner_lit ha hs hv
end Go.Proofs.YtbbclcllkpabkaaDoor.X
