/- Signs, Label, Tag. -/
import Derived.Test.YtbbclcllkpabkaaDoorUt3
import Derived.Test.YtbbclcllkpabkaaDoorOg
import Derived.Shelf.Abstract
import Derived.BigQuiet
namespace Go.Proofs.YtbbclcllkpabkaaDoor
open Go.RowKit U G

theorem such_is : Such 19 isZ := ⟨enters_of Tryd.func19 (by kernel_rfl) rfl, is_any⟩
theorem such_opens : Such 63 opnZ := ⟨enters_of Tryd.func63 (by kernel_rfl) rfl, opensLabel_any⟩
theorem such_letter : Such 65 letZ := ⟨enters_of Tryd.func65 (by kernel_rfl) rfl, isLetter_any⟩
theorem such_point : Such 66 ptZ := ⟨enters_of Tryd.func66 (by kernel_rfl) rfl, isPoint_any⟩
theorem such_hyphen : Such 68 hyZ := ⟨enters_of Tryd.func68 (by kernel_rfl) rfl, isHyphen_any⟩
theorem such_latin : Such 67 latZ := ⟨enters_of Tryd.func67 (by kernel_rfl) rfl, isLatin_any⟩
theorem such_ld : Such 69 ldZ := ⟨enters_of Tryd.func69 (by kernel_rfl) rfl, isLatinOrDigit_any⟩
theorem endsAt_any (s : ByteArray) (a : Nat) (w : World) : Calls Tryd.prog 17 #[.string s, .int .i64 (a : Int)] w fun e w' => e = .returned (.bool (decide (s.size ≤ a))) ∧ w = w' := by
  by_cases h : s.size ≤ a
  · have h' : (s.size : Int) ≤ (a : Int) := by omega
    go_enter Tryd.func17, Tryd.ntmps17
    go_wp2
    go_ret
    exact ⟨ret_bool (by simp [h]), rfl⟩
  · have h' : ¬ (s.size : Int) ≤ (a : Int) := by omega
    go_enter Tryd.func17, Tryd.ntmps17
    go_wp2
    go_ret
    exact ⟨ret_bool (by simp; try omega), rfl⟩
/-- A new cursor. -/
theorem cu_new (w : World) (s : ByteArray) : CuS (w.alloc (.cells #[.string s, .int .i64 0] 52)) w.heap.size s 0 :=
  World.rowIs_alloc w #[.string s, .int .i64 0] 52 (cuF s 0) (fun i hi => by
    match i, hi with
    | 0, _ => rfl
    | 1, _ => rfl
    | i + 2, hi => exact absurd (show i + 2 < 2 from hi) (by omega))
theorem tb_new {w : World} (h : Tb w) (o : Obj) : Tb (w.alloc o) := h.only ((Only.refl (fun _ => False) w).alloc o) no_ no_
def ivs (ns : List Nat) : List Value := ns.map fun n : Nat => Value.int .i64 (n : Int)
theorem ivs_len (ns : List Nat) : (ivs ns).length = ns.length := by simp [ivs]
/-- Signs so far. -/
structure SgS (w wr : World) (s : ByteArray) (a : Nat) (v : Value) (ns : List Nat) : Prop where
  cu : CuS wr w.heap.size s a
  own : OwG 3 w wr v (ivs ns)
  only : Only (fun _ => False) w wr
theorem only_new {w w1 w2 : World} (h : Only (fun _ => False) w w1) (k : Only (fun j => j = w.heap.size) w1 w2) : Only (fun _ => False) w w2 :=
  ((h.mono (S' := fun j => j = w.heap.size) fun _ _ h => h.elim).trans k).mono fun j hj e => by omega
theorem ty_ne {w : World} {c n : Nat} {t t' : TypeId} {f : Nat → Value} (h : w.rowIs c t n f) (hne : t' ≠ t) : ∀ k, TyAt w k (fun x => x = t') → ¬ k = c := by
  rintro k hk rfl
  exact TyAt.not_row (T := fun x => x = t') h (fun e => hne e.symm) hk
theorem SgS.next {w wr w' : World} {s : ByteArray} {a a' : Nat} {v : Value} {ns : List Nat} (h : SgS w wr s a v ns) (hc : CuS w' w.heap.size s a') (o : Only (fun k => k = w.heap.size) wr w') : SgS w w' s a' v ns :=
  ⟨hc, h.own.fr o fun k hk _ => ty_ne h.cu (by decide) k hk, only_new h.only o⟩
theorem SgS.same {w wr w' : World} {s : ByteArray} {a : Nat} {v : Value} {ns : List Nat} (h : SgS w wr s a v ns) (o : Only (fun _ => False) wr w') : SgS w w' s a v ns :=
  h.next (o.row h.cu no_) (o.mono fun _ _ h => h.elim)
theorem SgS.add {w wr w' : World} {s : ByteArray} {a n : Nat} {v v' : Value} {ns : List Nat} (h : SgS w wr s a v ns) (hown : OwG 3 w w' v' (ivs ns ++ [.int .i64 (n : Int)])) (o : FrT (fun k => k = 3) w.heap.size wr w') : SgS w w' s a v' (ns ++ [n]) :=
  ⟨o.row h.cu (by decide), by simpa [ivs] using hown, by
    have h1 := h.only
    exact ⟨o.os.trans h1.os, o.tape.trans h1.tape, o.output.trans h1.output, Nat.le_trans h1.size o.size, fun i hi _ => (o.block i (Nat.lt_of_lt_of_le hi h1.size) (fun hk => by have := hk.1; omega)).trans (h1.block i hi no_)⟩⟩
def iNs (ns : List Nat) : List Int := ns.map fun n : Nat => (n : Int)
theorem iNs_len (ns : List Nat) : (iNs ns).length = ns.length := by simp [iNs]
/-- What Signs answers. -/
def SignsE (w : World) (s : ByteArray) (e : Ending) (w' : World) : Prop :=
  StU w w' ∧ (((sgsL (bl s)).2 = s.size ∧ ∃ A cap, e = .returned (.tuple #[.slice A (sgsL (bl s)).1.length cap, .int .i64 0, .int .i64 0]) ∧ Hid (RdI w' A (iNs (sgsL (bl s)).1) ∧ (A = none → (sgsL (bl s)).1.length = 0 ∧ cap = 0) ∧ (sgsL (bl s)).1.length ≤ cap)) ∨
    ((sgsL (bl s)).2 < s.size ∧ e = .returned (.tuple #[.slice none 0 0, .int .i64 (((sgsL (bl s)).2 : Nat) : Int), .int .i64 11])))
theorem intInfoU : (Tryd.prog.info? 3).map (fun i => (i.zero, i.size, i.bytes)) = some (some (.int .i64 0), 1, 8) := by kernel_rfl
theorem SgS.done {w wr : World} {s : ByteArray} {a : Nat} {v : Value} {ns : List Nat} (h : SgS w wr s a v ns) : ∃ A cap, v = .slice A ns.length cap ∧ RdI wr A (iNs ns) ∧ (A = none → ns.length = 0 ∧ cap = 0) ∧ ns.length ≤ cap := by
  obtain ⟨A, cap, h1, h2, h3, h4, _⟩ := h.own.rd
  rw [ivs_len] at h1 h2 h3 h4
  refine ⟨A, cap, h1, ?_, h3, h4⟩
  show RdV wr A (iNs ns).length (vI (iNs ns))
  rw [iNs_len]
  refine h2.congr fun j hj => ?_
  simp [ivs, iNs, vI, List.getD, hj]
set_option maxHeartbeats 2000000 in
theorem signs_any {s : ByteArray} {w : World} (hT : Tb w) (hs : s.size ≤ 900000) :
    Calls Tryd.prog 10 #[.string s] w (SignsE w s) := by
  have HT : Hid (∀ W, Only (fun _ => False) w W → Tb W) := hid fun W hW => hT.only hW no_ no_
  have HI : Hid (SgS w (w.alloc (.cells #[.string s, .int .i64 0] 52)) s 0 (.slice none 0 0) []) := hid ⟨cu_new w s, OwG.nil ((Only.refl (fun _ => False) w).alloc _).size, (Only.refl _ w).alloc _⟩
  clear hT
  go_enter Tryd.func10, Tryd.ntmps10
  go_wp2_with fail
  generalize w.alloc (.cells #[.string s, .int .i64 0] 52) = w1 at *
  go_loopw [2] (fun v wr => ∃ (b : Nat) (ns : List Nat) (v0 : Value), v0 = v ∧ b ≤ s.size ∧ ns.length ≤ b ∧ Hid (SgS w wr s b v0 ns) ∧ Hid ((sgsL (bl s)).1 = ns ++ (sgsL ((bl s).drop b)).1 ∧ (sgsL (bl s)).2 = b + (sgsL ((bl s).drop b)).2)) (fun _ wr => s.size - cellA wr w.heap.size)
  case atStart => exact ⟨0, [], _, rfl, by omega, by simp, HI, hid (by simp)⟩
  case round =>
    obtain ⟨b, ns, v0, rfl, hb, hn, HS, HR⟩ := hrel
    clear HI
    have d0 := World.rowIs.cell HS.out.cu (i := 0) (by omega)
    have d1 := World.rowIs.cell HS.out.cu (i := 1) (by omega)
    simp only [cuF, if_true, if_neg (show ¬ (1 : Nat) = 0 by omega)] at d0 d1
    have HE := hid (endsAt_any s b wr)
    by_cases hlt : b < s.size
    · have hd : decide (s.size ≤ b) = false := decide_eq_false (by omega)
      rw [hd] at HE
      by_cases hk : (nxt ((bl s).drop b)).2 = 0
      · have HN := hid (next_no such_is HS.out.cu (HT.out _ HS.out.only) hb (.inl hk))
        have HR2 : Hid ((sgsL (bl s)).2 = b) := hid (by have := HR.out.2; rw [sgsL_end hk] at this; exact this)
        clear hk hd
        go_wp2_with (first
          | (go_at_call 17; refine HE.out.mono ?_; rintro e w2 ⟨rfl, rfl⟩)
          | (go_at_call 18; refine HN.out.mono ?_; rintro e w2 ⟨rfl, HO⟩))
        have HS2 := hid (HS.out.same HO.out)
        have e0 := World.rowIs.cell HS2.out.cu (i := 0) (by omega)
        have e1 := World.rowIs.cell HS2.out.cu (i := 1) (by omega)
        simp only [cuF, if_true, if_neg (show ¬ (1 : Nat) = 0 by omega)] at e0 e1
        clear HS HN HO d0 d1
        go_wp2_with fail
        go_quiet (fail)
        go_wp2_with fail
        go_ret3
        exact ⟨hid (HS2.out.only.drewN _), .inr ⟨by rw [HR2.out]; exact hlt, by rw [HR2.out]; rfl⟩⟩
      · have hof := nxt_of (bys_drop (bl_bys s) b) hk
        have his : isZ ((nxt ((bl s).drop b)).1 : Int) = true := (isZ_iff _).2 ⟨by omega, by simpa using hof.1⟩
        have HN := hid (next_yes such_is HS.out.cu (HT.out _ HS.out.only) hb (by omega) hk his)
        have hle := nxt_le (bys_drop (bl_bys s) b)
        rw [List.length_drop, bl_len] at hle
        have hst := sgsL_step hk
        rw [List.drop_drop] at hst
        have HR1 := HR.out
        rw [hst] at HR1
        generalize nxt ((bl s).drop b) = q at *
        obtain ⟨n, k⟩ := q
        simp only at *
        have HR2 : Hid ((sgsL (bl s)).1 = (ns ++ [n]) ++ (sgsL ((bl s).drop (b + k))).1 ∧ (sgsL (bl s)).2 = (b + k) + (sgsL ((bl s).drop (b + k))).2) := hid ⟨by rw [HR1.1]; simp, by omega⟩
        have Hca : Hid (cellA wr w.heap.size = b) := hid HS.out.cu.cellA
        clear hof his hst HR1 HR hd
        go_wp2_with (first
          | (go_at_call 17; refine HE.out.mono ?_; rintro e w2 ⟨rfl, rfl⟩)
          | (go_at_call 18; refine HN.out.mono ?_; rintro e w2 ⟨rfl, HO⟩; have HS2 := hid (HS.out.next HO.out.1 HO.out.2); clear HS HN HO HE d0 d1)
          | (at_builtin; refine wpList_addV w _ 30 3 (.int .i64 0) 8 Tryd.underlying30 intInfoU (by decide) rfl rfl _ _ rfl _ _ rfl (hid (HS2.out.own.same ((Only.refl _ w2).alloc _))) (.int .i64 (n : Int)) rfl _ _ rfl (by rw [ivs_len]; omega) w2 rfl rfl ?_; intro v3 w3 Hown3 Hfr3))
        have HS3 : Hid (SgS w w3 s (b + k) v3 (ns ++ [n])) := hid ((HS2.out.same ((Only.refl _ w2).alloc _)).add Hown3.out Hfr3.out)
        have Hca2 : Hid (cellA w3 w.heap.size = b + k) := hid HS3.out.cu.cellA
        clear HS2 Hown3 Hfr3
        go_roundw
        case rel => exact ⟨b + k, ns ++ [n], _, rfl, by omega, by rw [List.length_append, List.length_singleton]; omega, HS3, HR2⟩
        case measure => rw [Hca.out, Hca2.out]; omega
    · have hd : decide (s.size ≤ b) = true := decide_eq_true (by omega)
      rw [hd] at HE
      have hbe : b = s.size := by omega
      have HR2 : Hid ((sgsL (bl s)).1 = ns ∧ (sgsL (bl s)).2 = s.size) := hid (by
        have h1 := HR.out
        have e0 : sgsL ([] : List Nat) = ([], 0) := sgsL_end (by rw [nxt_nil])
        rw [List.drop_eq_nil_of_le (by rw [bl_len]; omega), e0] at h1
        exact ⟨by simpa using h1.1, by omega⟩)
      obtain ⟨A, cap, rfl, HD⟩ := HS.out.done
      have HO := hid HS.out.only
      have HD := hid HD
      clear hd HS HR hbe hb hn hlt
      go_wp2_with (go_at_call 17; refine HE.out.mono ?_; rintro e w2 ⟨rfl, rfl⟩)
      go_ret3
      refine ⟨HO, .inl ⟨HR2.out.2, A, cap, ?_, hid ?_⟩⟩
      · rw [HR2.out.1]; rfl
      · rw [HR2.out.1]; exact HD.out
end Go.Proofs.YtbbclcllkpabkaaDoor
