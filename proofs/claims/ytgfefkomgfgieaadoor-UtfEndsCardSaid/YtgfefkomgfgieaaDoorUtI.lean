/- UtfEnds. -/
import Derived.Test.YtgfefkomgfgieaaDoorUtH
namespace Go.Proofs.YtgfefkomgfgieaaDoor
open Go.RowKit U G

theorem kc1 (W : World) (x : Int) : (convert 37 9 (.slice (some ⟨W.heap.size, 0, none⟩) 1 1)).run Tryd.prog (W.alloc (.cells #[.int .u8 x] 5)) = .ok (.string (strOfNums [x])) (W.alloc (.cells #[.int .u8 x] 5)) :=
  run_convert_bytes_arg (P := Tryd.prog) _ 37 5 Tryd.underlying37 Tryd.underlying5 _ 0 1 1 [x] rfl (fun i hi => by
    obtain rfl : i = 0 := by omega
    simp) 9 Tryd.underlying9
theorem kc2 (W : World) (x y : Int) : (convert 37 9 (.slice (some ⟨W.heap.size, 0, none⟩) 2 2)).run Tryd.prog (W.alloc (.cells #[.int .u8 x, .int .u8 y] 5)) = .ok (.string (strOfNums [x, y])) (W.alloc (.cells #[.int .u8 x, .int .u8 y] 5)) :=
  run_convert_bytes_arg (P := Tryd.prog) _ 37 5 Tryd.underlying37 Tryd.underlying5 _ 0 2 2 [x, y] rfl (fun i hi => by
    rcases (by omega : i = 0 ∨ i = 1) with rfl | rfl <;> simp) 9 Tryd.underlying9
theorem kc3 (W : World) (x y z : Int) : (convert 37 9 (.slice (some ⟨W.heap.size, 0, none⟩) 3 3)).run Tryd.prog (W.alloc (.cells #[.int .u8 x, .int .u8 y, .int .u8 z] 5)) = .ok (.string (strOfNums [x, y, z])) (W.alloc (.cells #[.int .u8 x, .int .u8 y, .int .u8 z] 5)) :=
  run_convert_bytes_arg (P := Tryd.prog) _ 37 5 Tryd.underlying37 Tryd.underlying5 _ 0 3 3 [x, y, z] rfl (fun i hi => by
    rcases (by omega : i = 0 ∨ i = 1 ∨ i = 2) with rfl | rfl | rfl <;> simp) 9 Tryd.underlying9
theorem kc4 (W : World) (x y z u : Int) : (convert 37 9 (.slice (some ⟨W.heap.size, 0, none⟩) 4 4)).run Tryd.prog (W.alloc (.cells #[.int .u8 x, .int .u8 y, .int .u8 z, .int .u8 u] 5)) = .ok (.string (strOfNums [x, y, z, u])) (W.alloc (.cells #[.int .u8 x, .int .u8 y, .int .u8 z, .int .u8 u] 5)) :=
  run_convert_bytes_arg (P := Tryd.prog) _ 37 5 Tryd.underlying37 Tryd.underlying5 _ 0 4 4 [x, y, z, u] rfl (fun i hi => by
    rcases (by omega : i = 0 ∨ i = 1 ∨ i = 2 ∨ i = 3) with rfl | rfl | rfl | rfl <;> simp) 9 Tryd.underlying9
theorem one_size {n : Nat} (h : sgn n) : ∃ p, (strB (encL (natZ [(n : Int)]))).size = p + 1 ∧ p ≤ 3 := by
  have e : encL (natZ [(n : Int)]) = encN n := by simp [natZ, encL]
  have := encN_len n
  exact ⟨(encN n).length - 1, by rw [← bl_len, e, bl_strB (encN_bys h)]; omega, by omega⟩
def endsZ : List Int := [-9223372036854775808, -1, 0, 0x20, 0x2D, 0x2E, 0x30, 0x3A, 0x41, 0x5A, 0x5F, 0x61, 0x7A, 0x7F, 0x80, 0xB7, 0xC0, 0xD6, 0xD8, 0xF6, 0xF8, 0x2FF, 0x300, 0x36F, 0x370, 0x37D, 0x37F, 0x7FF, 0x800, 0x1FFF, 0x200C, 0x200D, 0x203F, 0x2040, 0x2070, 0x218F, 0x2C00, 0x2FEF, 0x3001, 0xD7FF, 0xDFFF, 0xF900, 0xFDCF, 0xFDF0, 0xFFFD, 0xFFFF, 0x10000, 0xEFFFF, 0x10FFFF, 0x110000, 9223372036854775807]
set_option maxRecDepth 100000 in
set_option maxHeartbeats 8000000 in
theorem utfEnds_any {w : World} (hT : Tb w) :
    Calls Tryd.prog 5 #[] w fun e w' => e = .returned (.bool true) ∧ StU w w' := by
  have HTb := hid hT
  clear hT
  go_enter Tryd.func5, Tryd.ntmps5
  go_upto_region 1 with fail
  go_cut [1] from 1 to 12 (fun v1 wx => v1 = .slice (some ⟨w.heap.size, 0, none⟩) 51 51 ∧ Hid (StU w wx ∧ RdI wx (some ⟨w.heap.size, 0, none⟩) endsZ))
  case first =>
    go_wp2_with fail
    go_meet
    case rel => exact ⟨rfl, hid ⟨hid ((Only.refl _ w).alloc _), rdI_new w endsZ _ rfl⟩⟩
  case rest =>
  obtain ⟨rfl, HI1⟩ := hcut
  have HO1 := HI1.out.1
  have HI := hid HI1.out.2
  clear HI1
  generalize wc = w1 at *
  have hT : Tb w1 := HTb.out.stu HO1
  have HRd : Hid (∀ W s, StU w1 W → Calls Tryd.prog 3 #[.string s] W fun e w' => e = .returned (.bool true) ∧ StU w1 w') := hid fun W s hW => (utfReads_any (hT.stu hW)).mono fun e w' h => ⟨h.1, hid (hW.out.trans h.2.out)⟩
  have HRs : Hid (∀ W o s, s.size ≤ 900000 → StU w1 W → Calls Tryd.prog 24 #[.string s] (W.alloc o) fun e w' => e = .returned (.bool true) ∧ StU w1 w') := hid fun W o s hs hW => (reads_any (hT.stu (hid (hW.out.alloc o))) hs).mono fun e w' h => ⟨h.1, hid ((hW.out.alloc o).trans h.2.out)⟩
  have HRA : Hid (∀ W o s, StU w1 W → Calls Tryd.prog 3 #[.string s] (W.alloc o) fun e w' => e = .returned (.bool true) ∧ StU w1 w') := hid fun W o s hW => (utfReads_any (hT.stu (hid (hW.out.alloc o)))).mono fun e w' h => ⟨h.1, hid ((hW.out.alloc o).trans h.2.out)⟩
  have HW1 : Hid (∀ W z, StU w1 W → Calls Tryd.prog 4 #[.slice (some ⟨W.heap.size, 0, none⟩) 1 1] (W.alloc (.cells #[.int .i64 z] 3)) fun e w' => e = .returned (.bool true) ∧ StU w1 w') := hid fun W z hW =>
    (utfWrites_any (hT.stu (hid (hW.out.alloc _))) (rdI_new W [z] #[.int .i64 z] rfl) rfl (by intro h; cases h)).mono fun e w' h => ⟨h.1, hid ((hW.out.alloc _).trans h.2.out)⟩
  have HW3 : Hid (∀ W x y z, StU w1 W → Calls Tryd.prog 4 #[.slice (some ⟨W.heap.size, 0, none⟩) 3 3] (W.alloc (.cells #[.int .i64 x, .int .i64 y, .int .i64 z] 3)) fun e w' => e = .returned (.bool true) ∧ StU w1 w') := hid fun W x y z hW =>
    (utfWrites_any (hT.stu (hid (hW.out.alloc _))) (rdI_new W [x, y, z] #[.int .i64 x, .int .i64 y, .int .i64 z] rfl) rfl (by intro h; cases h)).mono fun e w' h => ⟨h.1, hid ((hW.out.alloc _).trans h.2.out)⟩
  have HTx : Hid (∀ W z, StU w1 W → Calls Tryd.prog 18 #[.slice (some ⟨W.heap.size, 0, none⟩) 1 1] (W.alloc (.cells #[.int .i64 z] 3)) fun e w' => e = (if allSg [z] then .returned (.tuple #[.string (strB (encL (natZ [z]))), .int .i64 0]) else .returned (.tuple #[.string ByteArray.empty, .int .i64 11])) ∧ StU w1 w') := hid fun W z hW =>
    (refText_any (rdI_new W [z] #[.int .i64 z] rfl) rfl (by show 1 ≤ 200000; decide)).mono fun e w' h => ⟨h.2, hid ((hW.out.alloc _).trans h.1.out)⟩
  have HAw : Hid (∀ W, StU w1 W → Calls Tryd.prog 8 #[] W fun e w' => e = .returned (.bool true) ∧ StU w1 w') := hid fun W hW => (awake_any (hT.stu hW)).mono fun e w' h => ⟨h.1, hid (hW.out.trans h.2.out)⟩
  have HZ : Hid (∀ W, StU w1 W → ∀ i, i < 51 → W.cell? ⟨w.heap.size, i, none⟩ = some (.int .i64 (endsZ.getD i 0))) := hid fun W hW i hi => by
    obtain ⟨b, off, e, h, hlt⟩ := HI.out.at (k := i) hi
    injection e with e
    injection e with q1 q2 _
    subst q1
    subst q2
    rw [Nat.zero_add] at h
    exact (hW.out.cell (p := ⟨w.heap.size, i, none⟩) hlt no_).trans h
  clear HI hT HTb
  have k1 := kc1
  have k2 := kc2
  have k3 := kc3
  have k4 := kc4
  go_upto_block 0 with fail
  go_cut [2] from 2 to 80 (fun _ wx => StU w1 wx)
  case first =>
    clear HRs HRA HAw k1 k2 k3 k4
    go_wp2_with fail
    go_loopw [2] (fun v wr => ∃ i : Nat, v = .int .i64 (i : Int) ∧ i ≤ 51 ∧ StU w1 wr) (fun v _ => 51 - (intOf v).toNat)
    case atStart => exact ⟨0, rfl, by omega, hid (Only.refl _ _)⟩
    case round =>
      obtain ⟨i, rfl, hi, HS⟩ := hrel
      obtain ⟨wi, rfl⟩ : ∃ wi : World, wi = wr := ⟨_, rfl⟩
      clear HO1
      by_cases hp : i < 51
      · have hp' : (i : Int) < 51 := by omega
        go_wp2_with fail
        go_loopw [3] (fun v wy => ∃ z : Int, v = .int .i64 z ∧ -1 ≤ z ∧ z ≤ 2 ∧ StU w1 wy) (fun v _ => (2 - intOf v).toNat)
        case atStart => exact ⟨-1, rfl, by omega, by omega, HS⟩
        case round =>
          obtain ⟨z, rfl, hz1, hz2, HO⟩ := hrel
          clear HS
          by_cases hz : z < 2
          · have d := HZ.out _ HO i hp
            have hz3 : IntKind.i64.wrap (z + 1) = z + 1 := by rw [IntKind.wrap_i64]; omega
            generalize endsZ.getD i 0 = x at d
            obtain ⟨y, hy⟩ : ∃ y, IntKind.i64.wrap (x + z) = y := ⟨_, rfl⟩
            have HTy := hid (fun W => HTx.out W y)
            cases hq : isZ y with
            | true =>
              obtain ⟨y0, hsg⟩ := (isZ_iff y).1 hq
              have hall : allSg [y] = true := by simp [allSg, hq]
              obtain ⟨p, hpz, hp3⟩ := one_size hsg
              rw [show ((y.toNat : Nat) : Int) = y by omega] at hpz
              rw [hall, if_pos rfl] at HTy
              generalize strB (encL (natZ [y])) = S at *
              have hpw : IntKind.i64.wrap ((S.size : Int) - 1) = (p : Int) := by rw [IntKind.wrap_i64]; omega
              have hpl : (p : Int) ≤ (S.size : Int) := by omega
              clear hq hall hsg y0
              go_wp2_with (first
                | (go_at_call 4; first
                  | ((with_reducible refine (HW1.out _ _ HO).mono ?_); rintro e w2 ⟨rfl, HO2⟩; clear HO; have HO := HO2; clear HO2)
                  | ((with_reducible refine (HW3.out _ _ _ _ HO).mono ?_); rintro e w2 ⟨rfl, HO2⟩; clear HO; have HO := HO2; clear HO2))
                | (go_at_call 18; refine (HTy.out _ HO).mono ?_; rintro e w2 ⟨rfl, HO2⟩; clear HO; have HO := HO2; clear HO2)
                | (go_at_call 3; refine (HRd.out _ _ HO).mono ?_; rintro e w2 ⟨rfl, HO2⟩; clear HO; have HO := HO2; clear HO2))
              go_roundw
              case rel => exact ⟨z + 1, rfl, by omega, by omega, HO⟩
              case measure => simp [intOf]; omega
            | false =>
              have hall : allSg [y] = false := by simp [allSg, hq]
              rw [hall, if_neg (by decide)] at HTy
              clear hq hall
              go_wp2_with (first
                | (go_at_call 4; first
                  | ((with_reducible refine (HW1.out _ _ HO).mono ?_); rintro e w2 ⟨rfl, HO2⟩; clear HO; have HO := HO2; clear HO2)
                  | ((with_reducible refine (HW3.out _ _ _ _ HO).mono ?_); rintro e w2 ⟨rfl, HO2⟩; clear HO; have HO := HO2; clear HO2))
                | (go_at_call 18; refine (HTy.out _ HO).mono ?_; rintro e w2 ⟨rfl, HO2⟩; clear HO; have HO := HO2; clear HO2))
              go_roundw
              case rel => exact ⟨z + 1, rfl, by omega, by omega, HO⟩
              case measure => simp [intOf]; omega
          · obtain rfl : z = 2 := by omega
            go_wp2_with fail
            go_roundw
            case rel => exact ⟨i + 1, by go_num, by omega, HO⟩
            case measure => simp [intOf]; omega
      · have hp' : ¬ (i : Int) < 51 := by omega
        go_wp2_with fail
        go_meet
        case rel => exact HS
  case rest =>
    clear HZ HTx HW3
    go_upto_block 4 with fail
    go_cut [7] from 7 to 136 (fun _ wx => StU w1 wx)
    case first =>
      clear HRd HRA HW1 HAw
      go_wp2_with fail
      go_loopw [7] (fun v wr => ∃ i : Nat, v = .int .i64 (i : Int) ∧ i ≤ 65536 ∧ StU w1 wr) (fun v _ => 65536 - (intOf v).toNat)
      case atStart => exact ⟨0, rfl, by omega, hcut⟩
      case round =>
        obtain ⟨i, rfl, hi, HO⟩ := hrel
        clear hcut
        by_cases hp : i < 65536
        · have hp' : (i : Int) < 65536 := by omega
          have hi1 : IntKind.i64.wrap ((i : Int) + 1) = ((i + 1 : Nat) : Int) := by rw [IntKind.wrap_i64]; omega
          go_upto_region 18 with fail
          generalize (i : Int) / 256 = a
          generalize (i : Int) % 256 = b
          by_cases ha : a < 128
          · by_cases hb : b < 128
            · by_cases h7 : 0 < (i : Int) % 7
              · go_wp2_with fail
                go_roundw
                case rel => exact ⟨i + 1, by go_num, by omega, HO⟩
                case measure => simp [intOf]; omega
              · go_wp2_with (go_at_call 24; (with_reducible refine (HRs.out _ _ _ (by rw [strOfNums_size]; simp) HO).mono ?_); rintro e w2 ⟨rfl, HO2⟩; clear HO; have HO := HO2; clear HO2)
                go_roundw
                case rel => exact ⟨i + 1, by go_num, by omega, HO⟩
                case measure => simp [intOf]; omega
            · go_wp2_with (go_at_call 24; (with_reducible refine (HRs.out _ _ _ (by rw [strOfNums_size]; simp) HO).mono ?_); rintro e w2 ⟨rfl, HO2⟩; clear HO; have HO := HO2; clear HO2)
              go_roundw
              case rel => exact ⟨i + 1, by go_num, by omega, HO⟩
              case measure => simp [intOf]; omega
          · go_wp2_with (go_at_call 24; (with_reducible refine (HRs.out _ _ _ (by rw [strOfNums_size]; simp) HO).mono ?_); rintro e w2 ⟨rfl, HO2⟩; clear HO; have HO := HO2; clear HO2)
            go_roundw
            case rel => exact ⟨i + 1, by go_num, by omega, HO⟩
            case measure => simp [intOf]; omega
        · have hp' : ¬ (i : Int) < 65536 := by omega
          go_wp2_with fail
          go_meet
          case rel => exact HO
    case rest =>
      clear HRs
      have HOr := hcut
      rename_i wb
      go_upto_block 6 with fail
      go_cut [10] from 10 to 179 (fun _ wx => StU w1 wx)
      case first =>
        clear HAw
        go_wp2_with fail
        go_loopw [10] (fun v wr => ∃ i : Nat, v = .int .i64 (i : Int) ∧ i ≤ 256 ∧ StU w1 wr) (fun v _ => 256 - (intOf v).toNat)
        case atStart => exact ⟨0, rfl, by omega, HOr⟩
        case round =>
          obtain ⟨i, rfl, hi, HO⟩ := hrel
          clear HOr
          by_cases hp : i < 256
          · have hp' : (i : Int) < 256 := by omega
            have hi1 : IntKind.i64.wrap ((i : Int) + 1) = ((i + 1 : Nat) : Int) := by rw [IntKind.wrap_i64]; omega
            go_wp2_with (first
              | (go_at_call 4; (with_reducible refine (HW1.out _ _ HO).mono ?_); rintro e w2 ⟨rfl, HO2⟩; clear HO; have HO := HO2; clear HO2)
              | (go_at_call 3; first
                | ((with_reducible refine (HRd.out _ _ HO).mono ?_); rintro e w2 ⟨rfl, HO2⟩; clear HO; have HO := HO2; clear HO2)
                | ((with_reducible refine (HRA.out _ _ _ HO).mono ?_); rintro e w2 ⟨rfl, HO2⟩; clear HO; have HO := HO2; clear HO2)))
            go_roundw
            case rel => exact ⟨i + 1, by go_num, by omega, HO⟩
            case measure => simp [intOf]; omega
          · have hp' : ¬ (i : Int) < 256 := by omega
            go_wp2_with fail
            go_meet
            case rel => exact HO
      case rest =>
        clear HOr
        rename_i wd
        have HO : StU w1 _ := hcut
        clear hcut
        go_wp2_with (first
          | (go_at_call 3; (with_reducible refine (HRd.out _ _ HO).mono ?_); rintro e w2 ⟨rfl, HO2⟩; clear HO; have HO := HO2; clear HO2)
          | (go_at_call 8; (with_reducible refine (HAw.out _ HO).mono ?_); rintro e w2 ⟨rfl, HO2⟩; clear HO; have HO := HO2; clear HO2))
        go_ret
        exact ⟨rfl, hid (HO1.out.trans HO.out)⟩
end Go.Proofs.YtgfefkomgfgieaaDoor
