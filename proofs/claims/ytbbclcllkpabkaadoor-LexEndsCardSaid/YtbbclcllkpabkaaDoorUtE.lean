/- The document's Text, Signs. -/
import Derived.Test.YtbbclcllkpabkaaDoorUtD
import Derived.Test.YtbbclcllkpabkaaDoorUtB
namespace Go.Proofs.YtbbclcllkpabkaaDoor
open Go.RowKit U G

theorem wpList_addVs {ops : Array Oper} {rest : List Oper} {o : Oper} {a : Act} {Q : Exit → Act → World → Prop} (w0 w : World) (t e : TypeId) (z : Value) (bytes : Nat) (ht : Tryd.prog.underlying t = some (.slice e)) (hinfo : (Tryd.prog.info? e).map (fun i => (i.zero, i.size, i.bytes)) = some (some z, 1, bytes)) (hby : bytes ≤ 24)
    (hz1 : z.cells = #[z]) (hgd : o.guard = none) (s x : Operand) (hop : o.op = Op.call { callee := Callee.builtin Builtin.append, args := #[s, x], argTypes := #[t, t] })
    (v : Value) (xs : List Value) (hs : a.eval s = v) (h : Hid (OwG e w0 w v xs)) (ys : List Value) (hy : ∀ y ∈ ys, y.oneCell' = true) (b n c : Nat) (hx : a.eval x = .slice (some ⟨b, 0, none⟩) n c) (hn : ys.length = n) (hb : xs.length + n ≤ 1000000) (hrd : Hid (∀ j y, ys[j]? = some y → w.cell? ⟨b, j, none⟩ = some y))
    (K : ∀ v' w', Hid (OwG e w0 w' v' (xs ++ ys)) → Hid (FrT (fun k => k = e) w0.heap.size w w') → wpList Tryd.prog ops Q rest (a.put o.dst v') w') :
    wpList Tryd.prog ops Q (o :: rest) a w := by
  obtain ⟨i0, hi0, hq0, hq1, hq2⟩ := info_parts hinfo
  refine wpList_append_own_at w hgd s x t hop w0.heap.size e i0 z 1 bytes ht hi0 hq0 hq1 hq2 (by rw [hz1]; rfl) (by omega) v xs.length _ hs h.out.own ⟨b, 0, none⟩ n c ys hx (by omega) (fun j y hj => by
    have := hrd.out j y hj
    unfold Addr.add
    by_cases e : j = 0
    · subst e; simpa using this
    · simpa [e] using this) hy (by unfold maxLen; omega) (Nat.le_trans (Nat.mul_le_mul (show xs.length + n ≤ 1000000 by omega) hby) (by decide)) h.out.ge ?_
  intro v' w' hown hg _ hat
  refine K v' w' (hid ⟨by rw [List.length_append, hn]; exact hown, Nat.le_trans h.out.ge hg.size⟩) (hid ((FrT.refl _ _ w).grown hg fun k hk => ?_))
  have := own_block h.out.own hk
  exact ⟨this.1, this.2.2 _ rfl⟩
theorem byteInfoU : (Tryd.prog.info? 5).map (fun i => (i.zero, i.size, i.bytes)) = some (some (.int .u8 0), 1, 1) := by kernel_rfl
theorem only_fr {T : TypeId → Prop} {w w1 w2 : World} (h1 : Only (fun _ => False) w w1) (o : FrT T w.heap.size w1 w2) : Only (fun _ => False) w w2 :=
  ⟨o.os.trans h1.os, o.tape.trans h1.tape, o.output.trans h1.output, Nat.le_trans h1.size o.size, fun i hi _ => (o.block i (Nat.lt_of_lt_of_le hi h1.size) (fun hk => by have := hk.1; omega)).trans (h1.block i hi no_)⟩
/-- Signs so far, of the document's reader. -/
structure SgR (w wr : World) (v : Value) (ns : List Nat) : Prop where
  own : OwG 3 w wr v (ivs ns)
  only : Only (fun _ => False) w wr
theorem SgR.done {w wr : World} {v : Value} {ns : List Nat} (h : SgR w wr v ns) : ∃ A cap, v = .slice A ns.length cap ∧ RdI wr A (iNs ns) ∧ (A = none → ns.length = 0 ∧ cap = 0) ∧ ns.length ≤ cap := by
  obtain ⟨A, cap, h1, h2, h3, h4, _⟩ := h.own.rd
  rw [ivs_len] at h1 h2 h3 h4
  refine ⟨A, cap, h1, ?_, h3, h4⟩
  show RdV wr A (iNs ns).length (vI (iNs ns))
  rw [iNs_len]
  refine h2.congr fun j hj => ?_
  simp [ivs, iNs, vI, List.getD, hj]
set_option maxHeartbeats 2000000 in
theorem refSigns_any {s : ByteArray} {w : World} (hs : s.size ≤ 900000) :
    Calls Tryd.prog 20 #[.string s] w (SignsE w s) := by
  have HI : Hid (SgR w w (.slice none 0 0) []) := hid ⟨OwG.nil (Nat.le_refl _), Only.refl _ w⟩
  go_enter Tryd.func20, Tryd.ntmps20
  go_wp2_with fail
  go_loopw [5, 6] (fun v i wr => ∃ (b : Nat) (ns : List Nat) (v0 : Value), v0 = v ∧ i = .int .i64 (b : Int) ∧ b ≤ s.size ∧ ns.length ≤ b ∧ Hid (SgR w wr v0 ns) ∧ Hid ((sgsL (bl s)).1 = ns ++ (sgsL ((bl s).drop b)).1 ∧ (sgsL (bl s)).2 = b + (sgsL ((bl s).drop b)).2)) (fun _ i _ => s.size - (intOf i).toNat)
  case atStart => exact ⟨0, [], _, rfl, rfl, by omega, by simp, HI, hid (by simp)⟩
  case round =>
    obtain ⟨b, ns, v0, rfl, rfl, hb, hn, HS, HR⟩ := hrel
    clear HI
    by_cases hlt : b < s.size
    · have hlt' : (b : Int) < (s.size : Int) := by omega
      have HN := hid (fun W => refNext_any (w := W) hlt hs)
      by_cases hk : (nxt ((bl s).drop b)).2 = 0
      · have hz := nxt_zero hk
        have HR2 : Hid ((sgsL (bl s)).2 = b) := hid (by have := HR.out.2; rw [sgsL_end hk] at this; exact this)
        rw [hz] at HN
        have HO := hid HS.out.only
        clear hk hz HS
        go_wp2_with (go_at_call 30; refine (HN.out _).mono ?_; rintro e w2 ⟨rfl, HO2⟩)
        go_ret3
        exact ⟨hid (HO.out.trans HO2.out), .inr ⟨by rw [HR2.out]; exact hlt, by rw [HR2.out]; rfl⟩⟩
      · have hle := nxt_le (bys_drop (bl_bys s) b)
        rw [List.length_drop, bl_len] at hle
        have hst := sgsL_step hk
        rw [List.drop_drop] at hst
        have HR1 := HR.out
        rw [hst] at HR1
        generalize nxt ((bl s).drop b) = q at *
        obtain ⟨n, k⟩ := q
        simp only at *
        have HR2 : Hid ((sgsL (bl s)).1 = (ns ++ [n]) ++ (sgsL ((bl s).drop (b + k))).1 ∧ (sgsL (bl s)).2 = (b + k) + (sgsL ((bl s).drop (b + k))).2) := hid ⟨by rw [HR1.1]; simp, by omega⟩
        have hk' : ((k : Int) == 0) = false := by rw [beq_eq_false_iff_ne]; omega
        have hbk : IntKind.i64.wrap ((b : Int) + (k : Int)) = ((b + k : Nat) : Int) := by rw [IntKind.wrap_i64]; omega
        clear hst HR1 HR
        go_wp2_with (first
          | (go_at_call 30; refine (HN.out _).mono ?_; rintro e w2 ⟨rfl, HO⟩; have HS2 : Hid (SgR w w2 v0 ns) := hid ⟨HS.out.own.same HO.out, HS.out.only.trans HO.out⟩; clear HS HO)
          | (at_builtin; refine wpList_addV w _ 30 3 (.int .i64 0) 8 Tryd.underlying30 intInfoU (by decide) rfl rfl _ _ rfl _ _ rfl (hid (HS2.out.own.same ((Only.refl _ w2).alloc _))) (.int .i64 (n : Int)) rfl _ _ rfl (by rw [ivs_len]; omega) w2 rfl rfl ?_; intro v3 w3 Hown3 Hfr3))
        have HS3 : Hid (SgR w w3 v3 (ns ++ [n])) := hid ⟨by simpa [ivs] using Hown3.out, only_fr ((HS2.out.only).alloc _) Hfr3.out⟩
        clear HS2 Hown3 Hfr3
        go_roundw
        case rel => exact ⟨b + k, ns ++ [n], _, rfl, by go_num, by omega, by rw [List.length_append, List.length_singleton]; omega, HS3, HR2⟩
        case measure => simp [intOf]; omega
    · have hbe : b = s.size := by omega
      have HR2 : Hid ((sgsL (bl s)).1 = ns ∧ (sgsL (bl s)).2 = s.size) := hid (by
        have h1 := HR.out
        have e0 : sgsL ([] : List Nat) = ([], 0) := sgsL_end (by rw [nxt_nil])
        rw [List.drop_eq_nil_of_le (by rw [bl_len]; omega), e0] at h1
        exact ⟨by simpa using h1.1, by omega⟩)
      obtain ⟨A, cap, rfl, HD⟩ := HS.out.done
      have HO := hid HS.out.only
      have HD := hid HD
      have hlt' : ¬ (b : Int) < (s.size : Int) := by omega
      clear HS HR hbe hb hn hlt
      go_wp2_with fail
      go_ret3
      refine ⟨HO, .inl ⟨HR2.out.2, A, cap, ?_, hid ?_⟩⟩
      · rw [HR2.out.1]; rfl
      · rw [HR2.out.1]; exact HD.out
end Go.Proofs.YtbbclcllkpabkaaDoor
