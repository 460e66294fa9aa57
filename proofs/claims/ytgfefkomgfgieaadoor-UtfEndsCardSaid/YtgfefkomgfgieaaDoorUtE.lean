/- The document's Text, Signs. -/
import Derived.Test.YtgfefkomgfgieaaDoorUtD
import Derived.Test.YtgfefkomgfgieaaDoorUtB
namespace Go.Proofs.YtgfefkomgfgieaaDoor
open Go.RowKit U G

theorem wpList_addVs {ops : Array Oper} {rest : List Oper} {o : Oper} {a : Act} {Q : Exit → Act → World → Prop} (w0 w : World) (t e : TypeId) (z : Value) (bytes : Nat) (ht : Tryd.prog.underlying t = some (.slice e)) (hinfo : (Tryd.prog.info? e).map (fun i => (i.zero, i.size, i.bytes)) = some (some z, 1, bytes)) (hby : bytes ≤ 24)
    (hz1 : z.cells = #[z]) (hgd : o.guard = none) (s x : Operand) (hop : o.op = Op.call { callee := Callee.builtin Builtin.append, args := #[s, x], argTypes := #[t, t] })
    (v : Value) (xs : List Value) (hs : a.eval s = v) (h : Hid (OwG e w0 w v xs)) (ys : List Value) (hy : ∀ y ∈ ys, y.oneCell' = true) (b n c : Nat) (hx : a.eval x = .slice (some ⟨b, 0, none⟩) n c) (hn : ys.length = n) (hb : xs.length + n ≤ 1000000) (hrd : Hid (∀ j y, ys[j]? = some y → w.cell? ⟨b, j, none⟩ = some y))
    (K : ∀ v' w', Hid (OwG e w0 w' v' (xs ++ ys)) → Hid (FrT (fun k => k = e) w0.heap.size w w') → wpList Tryd.prog ops Q rest (a.put o.dst v') w') :
    wpList Tryd.prog ops Q (o :: rest) a w := by
  obtain ⟨i0, hi0, hq0, hq1, hq2⟩ := info_parts hinfo
  refine wpList_append_own_at w hgd s x t hop w0.heap.size e i0 z 1 bytes ht hi0 hq0 hq1 hq2 (by rw [hz1]; rfl) (by omega) v xs.length _ hs h.out.own ⟨b, 0, none⟩ n c ys hx (by omega) (fun j y hj => by
    have := hrd.out j y hj
    unfold Addr.add
    by_cases e : j = 0
    · subst e; simpa using this
    · simpa [e] using this) hy (by unfold maxLen; omega) (Nat.le_trans (Nat.mul_le_mul (show xs.length + n ≤ 1000000 by omega) hby) (by decide)) h.out.ge ?_
  intro v' w' hown hg _ hat
  refine K v' w' (hid ⟨by rw [List.length_append, hn]; exact hown, Nat.le_trans h.out.ge hg.size⟩) (hid ((FrT.refl _ _ w).grown hg fun k hk => ?_))
  have := own_block h.out.own hk
  exact ⟨this.1, this.2.2 _ rfl⟩
theorem byteInfoU : (Tryd.prog.info? 5).map (fun i => (i.zero, i.size, i.bytes)) = some (some (.int .u8 0), 1, 1) := by kernel_rfl
theorem only_fr {T : TypeId → Prop} {w w1 w2 : World} (h1 : Only (fun _ => False) w w1) (o : FrT T w.heap.size w1 w2) : Only (fun _ => False) w w2 :=
  ⟨o.os.trans h1.os, o.tape.trans h1.tape, o.output.trans h1.output, Nat.le_trans h1.size o.size, fun i hi _ => (o.block i (Nat.lt_of_lt_of_le hi h1.size) (fun hk => by have := hk.1; omega)).trans (h1.block i hi no_)⟩
set_option maxHeartbeats 2000000 in
theorem refText_any {A : Option Addr} {n c : Nat} {zs : List Int} {w : World} (hz : RdI w A zs) (hn : n = zs.length) (hl : n ≤ 200000) :
    Calls Tryd.prog 18 #[.slice A n c] w (TextE w zs) := by
  have HZ : Hid (∀ W, Only (fun _ => False) w W → ∀ k, k < n → ∃ b off, A = some ⟨b, off, none⟩ ∧ W.cell? ⟨b, off + k, none⟩ = some (.int .i64 (zs.getD k 0))) := hid fun W hW k hk => by
    obtain ⟨b, off, e, h, hlt⟩ := hz.at (k := k) (by omega)
    exact ⟨b, off, e, (hW.cell (p := ⟨b, off + k, none⟩) hlt no_).trans h⟩
  have HI : Hid (TxS w w (.slice none 0 0) (encL (natZ (zs.take 0)))) := hid ⟨by simpa [natZ, encL, yvs] using OwG.nil (Nat.le_refl _), Only.refl _ w⟩
  have HT : Hid (∀ k, k < n → zs.take (k + 1) = zs.take k ++ [zs.getD k 0]) := hid fun k hk => take_getD (by omega)
  have HAl : Hid (zs.take n = zs) := hid (by rw [hn, List.take_length])
  have HBad : Hid (∀ k, k < n → isZ (zs.getD k 0) = false → allSg zs = false) := hid fun k hk h => by
    unfold allSg
    rw [List.all_eq_false]
    exact ⟨_, getD_mem (k := k) (by omega), by rw [h]; decide⟩
  have HIs := hid refIs_any
  clear hz hn
  go_enter Tryd.func18, Tryd.ntmps18
  go_wp2_with fail
  go_loopw [4, 5] (fun v i wr => ∃ (k : Nat) (v0 : Value), v0 = v ∧ i = .int .i64 (k : Int) ∧ k ≤ n ∧ Hid (TxS w wr v0 (encL (natZ (zs.take k)))) ∧ Hid (allSg (zs.take k) = true)) (fun _ i _ => n - (intOf i).toNat)
  case atStart => exact ⟨0, _, rfl, rfl, by omega, HI, hid (by simp [allSg])⟩
  case round =>
    obtain ⟨k, v0, rfl, rfl, hk, HS, HA⟩ := hrel
    clear HI
    by_cases hp : k < n
    · have hp' : (k : Int) < (n : Int) := by omega
      obtain ⟨b, off, rfl, d⟩ := HZ.out wr HS.out.only k hp
      have hT := HT.out k hp
      have HBk := hid (HBad.out k hp)
      have HIk := hid (HIs.out (zs.getD k 0))
      generalize zs.getD k 0 = z at *
      cases hz : isZ z with
      | false =>
        have HF := hid (HBk.out hz)
        rw [hz] at HIk
        have HO := hid HS.out.only
        clear hT HBk hz HS HA
        go_wp2_with (go_at_call 20; refine (HIk.out _).mono ?_; rintro e w2 ⟨rfl, rfl⟩)
        go_ret2
        exact ⟨HO, by rw [HF.out]; rfl⟩
      | true =>
        rw [hz] at HIk
        obtain ⟨h0, hsg⟩ := (isZ_iff z).1 hz
        obtain ⟨m, hm⟩ : ∃ m : Nat, z = (m : Int) := ⟨z.toNat, by omega⟩
        subst hm
        rw [Int.toNat_natCast] at hsg
        have Hle : Hid ((encL (natZ (zs.take k))).length ≤ 4 * k) := hid (by
          have h1 := encL_len (natZ (zs.take k))
          have h2 : (natZ (zs.take k)).length ≤ k := by simp [natZ]; omega
          omega)
        have Hnew : Hid (encL (natZ (zs.take (k + 1))) = encL (natZ (zs.take k)) ++ encN m ∧ allSg (zs.take (k + 1)) = true) := hid (by
          rw [hT]
          refine ⟨by simp [natZ, encL], ?_⟩
          have := HA.out
          unfold allSg at this ⊢
          rw [List.all_append, this]
          simp [hz])
        generalize encL (natZ (zs.take k)) = l at *
        generalize hl' : encL (natZ (zs.take (k + 1))) = l' at *
        have Hl' := hid hl'
        clear hl'
        have HBy := hid (fun W => refBytes_any hsg W)
        have Hln : Hid ((encN m).length ≤ 4) := hid (encN_len m).2
        generalize encN m = y at *
        clear hT HBk hz HA hsg
        go_wp2_with (first
          | (go_at_call 20; refine (HIk.out _).mono ?_; rintro e w2 ⟨rfl, rfl⟩)
          | (go_at_call 44; refine (HBy.out _).mono ?_; rintro e w2 ⟨g, rfl, HB⟩; have HS2 : Hid (TxS w w2 v0 l) := hid ⟨HS.out.own.same HB.out.2.1, HS.out.only.trans HB.out.2.1⟩; clear HS)
          | (at_builtin; refine wpList_addVs w _ 37 5 (.int .u8 0) 1 Tryd.underlying37 byteInfoU (by decide) rfl rfl _ _ rfl _ _ rfl (hid HS2.out.own) (yvs y) (by intro q hq; obtain ⟨u, _, rfl⟩ := List.mem_map.1 hq; rfl) g y.length y.length rfl (yvs_len y) (by have := Hle.out; have := Hln.out; rw [yvs_len]; omega) (hid (by
              intro j q hq
              have hj : j < y.length := by
                have := (List.getElem?_eq_some_iff.1 hq).1
                rwa [yvs_len] at this
              rw [HB.out.1.cell hj]
              simp [yvs, hj] at hq
              rw [← hq]
              simp [vY, List.getD, hj])) ?_; intro v3 w3 Hown3 Hfr3))
        have HS3 : Hid (TxS w w3 v3 l') := hid ⟨by rw [Hnew.out.1]; simpa [yvs] using Hown3.out, only_fr HS2.out.only Hfr3.out⟩
        have HN := hid Hnew.out.2
        clear HS2 Hown3 Hfr3 Hnew Hle
        go_roundw
        case rel => exact ⟨k + 1, _, rfl, by go_num, by omega, by rw [Hl'.out]; exact HS3, HN⟩
        case measure => simp [intOf]; omega
    · obtain rfl : k = n := by omega
      have HF : Hid (allSg zs = true) := hid (by have := HA.out; rwa [HAl.out] at this)
      rw [HAl.out] at HS
      have HO := hid HS.out.only
      obtain ⟨A2, cap, hv, hrd, hnil, _⟩ := HS.out.own.rd
      by_cases h0 : (yvs (encL (natZ zs))).length = 0
      · have hemp : encL (natZ zs) = [] := by rw [yvs_len] at h0; exact List.length_eq_zero_iff.1 h0
        have HE : Hid (strB (encL (natZ zs)) = ByteArray.empty) := hid (by rw [hemp]; rfl)
        rw [h0] at hv
        have hcv : ∀ dst, Tryd.prog.underlying dst = some .string → (convert 37 dst v0).run Tryd.prog wr = .ok (.string ByteArray.empty) wr := fun dst hd => by
          rw [hv]
          cases A2 with
          | none => exact run_convert_bytes_nil (P := Tryd.prog) wr 37 5 Tryd.underlying37 Tryd.underlying5 0 cap dst hd
          | some ad =>
            obtain ⟨b, off, sp⟩ := ad
            have := HS.out.own.own.2
            rcases this with ⟨h, _⟩ | ⟨g, cp, cur, h, _⟩
            · rw [hv] at h; cases h
            · rw [hv] at h
              injection h with h _ _
              injection h with h
              injection h with e1 e2 e3
              subst e1; subst e2; subst e3
              exact run_convert_bytes_arg (P := Tryd.prog) wr 37 5 Tryd.underlying37 Tryd.underlying5 b 0 0 cap [] rfl (fun i hi => absurd hi (by omega)) dst hd
        have hcv2 := hcv 9 Tryd.underlying9
        clear hcv hv hrd hnil h0 hemp HS HA HZ HT HBad hp hl
        go_wp2_with fail
        go_ret2
        exact ⟨HO, by rw [HF.out, HE.out]; rfl⟩
      · have hS : ∃ b off, A2 = some ⟨b, off, none⟩ ∧ ∀ j, j < (yvs (encL (natZ zs))).length → wr.cell? ⟨b, off + j, none⟩ = some ((yvs (encL (natZ zs))).getD j undef) := hrd (by omega)
        obtain ⟨b, off, rfl, hcell⟩ := hS
        have hcv := run_convert_bytes_arg (P := Tryd.prog) wr 37 5 Tryd.underlying37 Tryd.underlying5 b off (yvs (encL (natZ zs))).length cap ((encL (natZ zs)).map fun n : Nat => (n : Int)) (by simp [yvs]) (fun i hi => by
          rw [hcell i hi]
          simp [yvs, List.getD, show i < (encL (natZ zs)).length by rw [yvs_len] at hi; exact hi]) 9 Tryd.underlying9
        rw [show strOfNums ((encL (natZ zs)).map fun n : Nat => (n : Int)) = strB (encL (natZ zs)) from rfl, ← hv] at hcv
        generalize hSe : strB (encL (natZ zs)) = S at *
        have HSe := hid hSe
        clear hSe hcell hv hrd hnil h0 HS HA HZ HT HBad hp hl
        go_wp2_with fail
        go_ret2
        exact ⟨HO, by rw [HF.out, HSe.out]; rfl⟩
/-- Signs so far, of the document's reader. -/
structure SgR (w wr : World) (v : Value) (ns : List Nat) : Prop where
  own : OwG 3 w wr v (ivs ns)
  only : Only (fun _ => False) w wr
theorem SgR.done {w wr : World} {v : Value} {ns : List Nat} (h : SgR w wr v ns) : ∃ A cap, v = .slice A ns.length cap ∧ RdI wr A (iNs ns) ∧ (A = none → ns.length = 0 ∧ cap = 0) ∧ ns.length ≤ cap := by
  obtain ⟨A, cap, h1, h2, h3, h4, _⟩ := h.own.rd
  rw [ivs_len] at h1 h2 h3 h4
  refine ⟨A, cap, h1, ?_, h3, h4⟩
  show RdV wr A (iNs ns).length (vI (iNs ns))
  rw [iNs_len]
  refine h2.congr fun j hj => ?_
  simp [ivs, iNs, vI, List.getD, hj]
set_option maxHeartbeats 2000000 in
theorem refSigns_any {s : ByteArray} {w : World} (hs : s.size ≤ 900000) :
    Calls Tryd.prog 10 #[.string s] w (SignsE w s) := by
  have HI : Hid (SgR w w (.slice none 0 0) []) := hid ⟨OwG.nil (Nat.le_refl _), Only.refl _ w⟩
  go_enter Tryd.func10, Tryd.ntmps10
  go_wp2_with fail
  go_loopw [5, 6] (fun v i wr => ∃ (b : Nat) (ns : List Nat) (v0 : Value), v0 = v ∧ i = .int .i64 (b : Int) ∧ b ≤ s.size ∧ ns.length ≤ b ∧ Hid (SgR w wr v0 ns) ∧ Hid ((sgsL (bl s)).1 = ns ++ (sgsL ((bl s).drop b)).1 ∧ (sgsL (bl s)).2 = b + (sgsL ((bl s).drop b)).2)) (fun _ i _ => s.size - (intOf i).toNat)
  case atStart => exact ⟨0, [], _, rfl, rfl, by omega, by simp, HI, hid (by simp)⟩
  case round =>
    obtain ⟨b, ns, v0, rfl, rfl, hb, hn, HS, HR⟩ := hrel
    clear HI
    by_cases hlt : b < s.size
    · have hlt' : (b : Int) < (s.size : Int) := by omega
      have HN := hid (fun W => refNext_any (w := W) hlt hs)
      by_cases hk : (nxt ((bl s).drop b)).2 = 0
      · have hz := nxt_zero hk
        have HR2 : Hid ((sgsL (bl s)).2 = b) := hid (by have := HR.out.2; rw [sgsL_end hk] at this; exact this)
        rw [hz] at HN
        have HO := hid HS.out.only
        clear hk hz HS
        go_wp2_with (go_at_call 28; refine (HN.out _).mono ?_; rintro e w2 ⟨rfl, HO2⟩)
        go_ret3
        exact ⟨hid (HO.out.trans HO2.out), .inr ⟨by rw [HR2.out]; exact hlt, by rw [HR2.out]; rfl⟩⟩
      · have hle := nxt_le (bys_drop (bl_bys s) b)
        rw [List.length_drop, bl_len] at hle
        have hst := sgsL_step hk
        rw [List.drop_drop] at hst
        have HR1 := HR.out
        rw [hst] at HR1
        generalize nxt ((bl s).drop b) = q at *
        obtain ⟨n, k⟩ := q
        simp only at *
        have HR2 : Hid ((sgsL (bl s)).1 = (ns ++ [n]) ++ (sgsL ((bl s).drop (b + k))).1 ∧ (sgsL (bl s)).2 = (b + k) + (sgsL ((bl s).drop (b + k))).2) := hid ⟨by rw [HR1.1]; simp, by omega⟩
        have hk' : ((k : Int) == 0) = false := by rw [beq_eq_false_iff_ne]; omega
        have hbk : IntKind.i64.wrap ((b : Int) + (k : Int)) = ((b + k : Nat) : Int) := by rw [IntKind.wrap_i64]; omega
        clear hst HR1 HR
        go_wp2_with (first
          | (go_at_call 28; refine (HN.out _).mono ?_; rintro e w2 ⟨rfl, HO⟩; have HS2 : Hid (SgR w w2 v0 ns) := hid ⟨HS.out.own.same HO.out, HS.out.only.trans HO.out⟩; clear HS HO)
          | (at_builtin; refine wpList_addV w _ 23 3 (.int .i64 0) 8 Tryd.underlying23 intInfoU (by decide) rfl rfl _ _ rfl _ _ rfl (hid (HS2.out.own.same ((Only.refl _ w2).alloc _))) (.int .i64 (n : Int)) rfl _ _ rfl (by rw [ivs_len]; omega) w2 rfl rfl ?_; intro v3 w3 Hown3 Hfr3))
        have HS3 : Hid (SgR w w3 v3 (ns ++ [n])) := hid ⟨by simpa [ivs] using Hown3.out, only_fr ((HS2.out.only).alloc _) Hfr3.out⟩
        clear HS2 Hown3 Hfr3
        go_roundw
        case rel => exact ⟨b + k, ns ++ [n], _, rfl, by go_num, by omega, by rw [List.length_append, List.length_singleton]; omega, HS3, HR2⟩
        case measure => simp [intOf]; omega
    · have hbe : b = s.size := by omega
      have HR2 : Hid ((sgsL (bl s)).1 = ns ∧ (sgsL (bl s)).2 = s.size) := hid (by
        have h1 := HR.out
        have e0 : sgsL ([] : List Nat) = ([], 0) := sgsL_end (by rw [nxt_nil])
        rw [List.drop_eq_nil_of_le (by rw [bl_len]; omega), e0] at h1
        exact ⟨by simpa using h1.1, by omega⟩)
      obtain ⟨A, cap, rfl, HD⟩ := HS.out.done
      have HO := hid HS.out.only
      have HD := hid HD
      have hlt' : ¬ (b : Int) < (s.size : Int) := by omega
      clear HS HR hbe hb hn hlt
      go_wp2_with fail
      go_ret3
      refine ⟨HO, .inl ⟨HR2.out.2, A, cap, ?_, hid ?_⟩⟩
      · rw [HR2.out.1]; rfl
      · rw [HR2.out.1]; exact HD.out
end Go.Proofs.YtgfefkomgfgieaaDoor
