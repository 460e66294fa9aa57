/- Raw. -/
import Derived.Test.YtbbclcllkpabkaaDoorUt6
namespace Go.Proofs.YtbbclcllkpabkaaDoor
open Go.RowKit U G

/-- Signs that may not stand raw. -/
def badL : List Nat := [60, 62, 34, 123, 125, 124, 94, 96, 92]
abbrev badS : ByteArray := { data := #[60, 62, 34, 123, 125, 124, 94, 96, 92] }
def rawZ (z : Int) : Bool := !(badL.any fun b => decide (z = (b : Int))) && (isZ z && decide (32 < z))
set_option maxRecDepth 100000 in
theorem bad_low : ∀ x : Fin 128, decide (0 ≤ Lib.indexByte badS.data.toList ((x.val : Int).toNat.toUInt8)) = badL.any fun b => decide ((x.val : Int) = (b : Int)) := by decide
theorem bad_high {z : Int} (h : 128 ≤ z) : (badL.any fun b => decide (z = (b : Int))) = false := by
  unfold badL
  simp
  omega
theorem bad_none (c : Nat) (hc : 128 ≤ c) (hc2 : c < 256) (m : Nat) : Lib.indexByte (badS.extract m badS.size).data.toList ((c : Int).toNat.toUInt8) = -1 := by
  have key : ∀ (l : List UInt8) (b : UInt8), (∀ x ∈ l, x ≠ b) → Lib.indexByte l b = -1 := by
    intro l b
    induction l with
    | nil => intro _; rfl
    | cons x l ih =>
      intro h
      have h1 : (x == b) = false := by simpa using h x (by simp)
      have h2 := ih fun y hy => h y (by simp [hy])
      simp [Lib.indexByte, h1, h2]
  apply key
  intro x hx e
  have hx2 : x ∈ badS.data.toList := by
    rw [Lib.extract_data] at hx
    exact List.mem_of_mem_drop (List.mem_of_mem_take hx)
  have h3 : x.toNat = c := by
    rw [e]
    simp
    omega
  simp at hx2
  rcases hx2 with rfl | rfl | rfl | rfl | rfl | rfl | rfl | rfl | rfl <;> simp at h3 <;> omega
set_option maxRecDepth 100000 in
set_option maxHeartbeats 2000000 in
theorem indexRune_high (z : Int) (w : World) (h128 : 128 ≤ z) (hz : isZ z = true) (hne : z ≠ 65533) :
    Calls Tryd.prog 74 #[.string badS, .int .i32 z] w fun e w' => e = .returned (.int .i64 (-1)) ∧ StU w w' := by
  obtain ⟨_, hsg⟩ := (isZ_iff z).1 hz
  have hr : z ≤ 1114111 := by unfold sgn at hsg; omega
  have hv : Utf8.valid z = true := by unfold sgn at hsg; simp [Utf8.valid]; omega
  have hv2 : Lib.validRune z = true := by unfold sgn at hsg; simp [Lib.validRune]; omega
  have HV : Hid (∀ W, Calls Tryd.prog 77 #[.int .i32 z] W fun e w' => e = .returned (.bool true) ∧ W = w') := hid fun W => (Tryd.utf8_ValidRune z W).mono fun _ _ h => ⟨by rw [h.1, hv2], h.2.symm⟩
  obtain ⟨m2, m4, hlast⟩ := encode_facts z hv h128
  have hzn : ¬ z < 128 := by omega
  have hz0 : 0 ≤ z := by omega
  have hnb : (z == 65533) = false := by rw [beq_eq_false_iff_ne]; exact hne
  obtain ⟨S, hS⟩ : ∃ S, Utf8.encode z = S := ⟨_, rfl⟩
  have hcv : ∀ W, (convert 21 9 (.int .i32 z)).run Tryd.prog W = .ok (.string S) W := fun W => by
    rw [← hS]
    exact run_convert_int_string W 21 9 .i32 z (by rw [Tryd.underlying21]; rfl) Tryd.underlying9
  rw [hS] at m2 m4 hlast
  obtain ⟨m, hm⟩ : ∃ m, S.size = m + 1 := ⟨S.size - 1, by omega⟩
  have hx := hlast (by omega)
  obtain ⟨x, hxe⟩ : ∃ x, S[S.size - 1]'(by omega) = x := ⟨_, rfl⟩
  rw [hxe] at hx
  have hxm : S[m]'(by omega) = x := by rw [← hxe]; congr 1; omega
  have hx2 := x.toNat_lt
  have HI : Hid (∀ W k, Calls Tryd.prog 76 #[.string (badS.extract k 9), .int .u8 (x.toNat : Int)] W fun e w' => e = .returned (.int .i64 (-1)) ∧ W = w') := hid fun W k => (Tryd.strings_IndexByte _ _ W).mono fun _ _ h => ⟨by rw [h.1, show badS.extract k 9 = badS.extract k badS.size from rfl, bad_none x.toNat hx (by omega) k], h.2.symm⟩
  clear hsg hv hv2 hz hne hlast hxe hS
  have hm3 : m = 1 ∨ m = 2 ∨ m = 3 := by omega
  rcases hm3 with rfl | rfl | rfl
  · go_enter Tryd.func74, Tryd.ntmps74
    go_wp2_with (go_at_call 77; refine (HV.out _).mono ?_; rintro e w1 ⟨rfl, rfl⟩)
    go_step3
    go_wp2_with fail
    go_loopw [9] (fun s wr => s = .int .i64 1 ∧ wr = w) (fun _ _ => 0)
    case atStart => exact ⟨rfl, rfl⟩
    case round =>
      obtain ⟨rfl, rfl⟩ := hrel
      have HIk := hid (fun W => HI.out W 2)
      have hw : IntKind.i64.wrap 2 = 2 := by rw [IntKind.wrap_i64]; omega
      have hb : (((badS[1]'(by decide)).toNat : Int) != (x.toNat : Int)) = true := by
        rw [bne_iff_ne, show (badS[1]'(by decide)).toNat = 62 from rfl]
        omega
      go_wp2_with fail
      go_step3
      go_wp2_with fail
      go_quiet (fail)
      have HO : StU wr (wr.drewN nq) := hid ((Only.refl _ wr).drewN _)
      generalize wr.drewN nq = w2 at HO ⊢
      go_wp2_with fail
      go_quiet ((go_at_call 76; exact quiet_left (HIk.out _)))
      go_wp2_with fail

      refine (show bodyPost Tryd.prog Tryd.f74 (fun e w' => e = .returned (.int .i64 (-1)) ∧ StU wr w') Exit.ret _ _ from ?_)
      go_ret
      exact ⟨rfl, hid (HO.out.drewN _)⟩
  · go_enter Tryd.func74, Tryd.ntmps74
    go_wp2_with (go_at_call 77; refine (HV.out _).mono ?_; rintro e w1 ⟨rfl, rfl⟩)
    go_step3
    go_wp2_with fail
    go_loopw [9] (fun s wr => s = .int .i64 2 ∧ wr = w) (fun _ _ => 0)
    case atStart => exact ⟨rfl, rfl⟩
    case round =>
      obtain ⟨rfl, rfl⟩ := hrel
      have HIk := hid (fun W => HI.out W 3)
      have hw : IntKind.i64.wrap 3 = 3 := by rw [IntKind.wrap_i64]; omega
      have hb : (((badS[2]'(by decide)).toNat : Int) != (x.toNat : Int)) = true := by
        rw [bne_iff_ne, show (badS[2]'(by decide)).toNat = 34 from rfl]
        omega
      go_wp2_with fail
      go_step3
      go_wp2_with fail
      go_quiet (fail)
      have HO : StU wr (wr.drewN nq) := hid ((Only.refl _ wr).drewN _)
      generalize wr.drewN nq = w2 at HO ⊢
      go_wp2_with fail
      go_quiet ((go_at_call 76; exact quiet_left (HIk.out _)))
      go_wp2_with fail

      refine (show bodyPost Tryd.prog Tryd.f74 (fun e w' => e = .returned (.int .i64 (-1)) ∧ StU wr w') Exit.ret _ _ from ?_)
      go_ret
      exact ⟨rfl, hid (HO.out.drewN _)⟩
  · go_enter Tryd.func74, Tryd.ntmps74
    go_wp2_with (go_at_call 77; refine (HV.out _).mono ?_; rintro e w1 ⟨rfl, rfl⟩)
    go_step3
    go_wp2_with fail
    go_loopw [9] (fun s wr => s = .int .i64 3 ∧ wr = w) (fun _ _ => 0)
    case atStart => exact ⟨rfl, rfl⟩
    case round =>
      obtain ⟨rfl, rfl⟩ := hrel
      have HIk := hid (fun W => HI.out W 4)
      have hw : IntKind.i64.wrap 4 = 4 := by rw [IntKind.wrap_i64]; omega
      have hb : (((badS[3]'(by decide)).toNat : Int) != (x.toNat : Int)) = true := by
        rw [bne_iff_ne, show (badS[3]'(by decide)).toNat = 123 from rfl]
        omega
      go_wp2_with fail
      go_step3
      go_wp2_with fail
      go_quiet (fail)
      have HO : StU wr (wr.drewN nq) := hid ((Only.refl _ wr).drewN _)
      generalize wr.drewN nq = w2 at HO ⊢
      go_wp2_with fail
      go_quiet ((go_at_call 76; exact quiet_left (HIk.out _)))
      go_wp2_with fail

      refine (show bodyPost Tryd.prog Tryd.f74 (fun e w' => e = .returned (.int .i64 (-1)) ∧ StU wr w') Exit.ret _ _ from ?_)
      go_ret
      exact ⟨rfl, hid (HO.out.drewN _)⟩
set_option maxRecDepth 100000 in
theorem bad_dec : ∀ p : Fin 9, (Utf8.decode badS p.val).1 < 128 ∧ (Utf8.decode badS p.val).2 = 1 := by decide
set_option maxRecDepth 100000 in
set_option maxHeartbeats 2000000 in
theorem indexRune_bad (w : World) :
    Calls Tryd.prog 74 #[.string badS, .int .i32 65533] w fun e w' => e = .returned (.int .i64 (-1)) ∧ StU w w' := by
  go_enter Tryd.func74, Tryd.ntmps74
  go_wp2_with fail
  go_loopg [] 9 (fun gf wx => ∃ pos : Nat, wx.heap[w.heap.size]? = some (.stringIter badS pos) ∧ StU w wx ∧ 9 ≤ pos + gf)
  case atStart => exact ⟨0, World.iter_heap w badS 0, hid ((Only.refl _ w).alloc _), by omega⟩
  case round =>
    obtain ⟨pos, hit, HO, hfu⟩ := hrel
    by_cases hps : pos < 9
    · obtain ⟨g', rfl⟩ : ∃ g', gk = g' + 1 := ⟨gk - 1, by omega⟩
      have hnx : ∀ ty, (Instr.next (.pointer (some ⟨w.heap.size, 0, none⟩)) true ty).run Tryd.prog wr = _ := fun ty => Lib.run_next_any_at wr w.heap.size badS pos ty hit hps
      obtain ⟨hd1, hd2⟩ := bad_dec ⟨pos, hps⟩
      simp only at hd1 hd2
      rw [hd2] at hnx
      have hit2 := Lib.iterAt_heap wr w.heap.size badS pos (pos + 1) hit
      have HO2 : StU w (wr.iterAt w.heap.size badS (pos + 1)) := hid (by
        have hb : Below w.heap.size w wr := HO.out.to_below (fun _ h => h.elim) (Nat.le_refl _)
        exact Only.of_below (Lib.below_iterAt hb (k := w.heap.size) (Nat.le_refl _) badS (pos + 1)) _)
      generalize wr.iterAt w.heap.size badS (pos + 1) = W at *
      generalize (Utf8.decode badS pos).1 = R at *
      have hR : ((R : Int) == 65533) = false := by rw [beq_eq_false_iff_ne]; omega
      clear hit HO
      go_wp2_with fail
      go_roundg g'
      case measure => omega
      case rel => exact ⟨pos + 1, hit2, HO2, by omega⟩
    · have hnx : ∀ ty, (Instr.next (.pointer (some ⟨w.heap.size, 0, none⟩)) true ty).run Tryd.prog wr = _ := fun ty => Lib.run_next_end_at wr w.heap.size badS pos ty hit (by show ¬ pos < 9; exact hps)
      go_wp2_with fail
      go_ret
      exact ⟨rfl, HO⟩
set_option maxHeartbeats 1000000 in
theorem containsRune_any (z : Int) (w : World) (h0 : 32 < z) (hz : isZ z = true) :
    Calls Tryd.prog 60 #[.string badS, .int .i32 z] w fun e w' => e = .returned (.bool (badL.any fun b => decide (z = (b : Int)))) ∧ StU w w' := by
  by_cases h : z < 128
  · refine (Tryd.strings_ContainsRune_ascii badS z w (by omega) h).mono ?_
    rintro e w' ⟨rfl, rfl⟩
    have := bad_low ⟨z.toNat, by omega⟩
    rw [show ((z.toNat : Nat) : Int) = z by omega] at this
    exact ⟨ret_bool this, hid (Only.refl _ _)⟩
  · have HX : Hid (Calls Tryd.prog 74 #[.string badS, .int .i32 z] w fun e w' => e = .returned (.int .i64 (-1)) ∧ StU w w') := hid (by
      by_cases e : z = 65533
      · subst e; exact indexRune_bad w
      · exact indexRune_high z w (by omega) hz e)
    rw [bad_high (by omega)]
    clear hz
    go_enter Tryd.func60, Tryd.ntmps60
    go_wp2_with (go_at_call 74; refine HX.out.mono ?_; rintro e w1 ⟨rfl, HO⟩)
    go_ret
    exact ⟨rfl, HO⟩
set_option maxHeartbeats 1000000 in
theorem raw_any (z : Int) (w : World) :
    Calls Tryd.prog 36 #[.int .i64 z] w fun e w' => e = .returned (.bool (rawZ z)) ∧ StU w w' := by
  have HI := hid (is_any z)
  cases hz : isZ z with
  | false =>
    have HF : Hid (rawZ z = false) := hid (by unfold rawZ; rw [hz]; simp)
    rw [hz] at HI
    clear hz
    go_enter Tryd.func36, Tryd.ntmps36
    go_wp2_with (go_at_call 19; refine (HI.out _).mono ?_; rintro e w1 ⟨rfl, HO⟩)
    go_ret
    exact ⟨by rw [HF.out]; rfl, HO⟩
  | true =>
    rw [hz] at HI
    by_cases h : 32 < z
    · have HF : Hid (rawZ z = !(badL.any fun b => decide (z = (b : Int)))) := hid (by unfold rawZ; rw [hz, decide_eq_true h]; simp)
      obtain ⟨_, hsg⟩ := (isZ_iff z).1 hz
      have hr : z ≤ 1114111 := by unfold sgn at hsg; omega
      have hw : IntKind.i32.wrap z = z := by rw [IntKind.wrap_i32]; omega
      have HC := hid (fun W => containsRune_any z W h hz)
      clear hsg hz
      generalize (badL.any fun b => decide (z = (b : Int))) = q at *
      cases q with
      | true =>
        go_enter Tryd.func36, Tryd.ntmps36
        go_wp2_with (first
          | (go_at_call 19; refine (HI.out _).mono ?_; rintro e w1 ⟨rfl, HO⟩)
          | (go_at_call 60; refine (HC.out _).mono ?_; rintro e w2 ⟨rfl, HO2⟩))
        go_ret
        exact ⟨by rw [HF.out]; rfl, hid (HO.out.trans HO2.out)⟩
      | false =>
        go_enter Tryd.func36, Tryd.ntmps36
        go_wp2_with (first
          | (go_at_call 19; refine (HI.out _).mono ?_; rintro e w1 ⟨rfl, HO⟩)
          | (go_at_call 60; refine (HC.out _).mono ?_; rintro e w2 ⟨rfl, HO2⟩))
        go_ret
        exact ⟨by rw [HF.out]; rfl, hid (HO.out.trans HO2.out)⟩
    · have HF : Hid (rawZ z = false) := hid (by unfold rawZ; rw [decide_eq_false h]; simp)
      clear hz
      go_enter Tryd.func36, Tryd.ntmps36
      go_wp2_with (go_at_call 19; refine (HI.out _).mono ?_; rintro e w1 ⟨rfl, HO⟩)
      go_ret
      exact ⟨by rw [HF.out]; rfl, HO⟩
end Go.Proofs.YtbbclcllkpabkaaDoor
