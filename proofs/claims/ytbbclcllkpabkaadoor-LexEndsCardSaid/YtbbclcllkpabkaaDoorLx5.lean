/- The library's ParseUint of up to eight digits at base 16. -/
import Derived.Test.YtbbclcllkpabkaaDoorLx4
import Derived.Test.YtbbclcllkpabkaaDoorShelf
import Derived.Lib.ConvBytes
import Derived.Laws.BytesArg
import Derived.OwnWalk
namespace Go.Proofs.YtbbclcllkpabkaaDoor.X
open Go.RowKit U G

theorem xtoList_iff (s t : ByteArray) : s.toList = t.toList ↔ s = t := by
  rw [ByteArray.toList_eq, ByteArray.toList_eq]
  constructor
  · intro h
    cases s; cases t
    simp at h
    simp [h]
  · rintro rfl
    rfl
theorem xtoList_beq (s t : ByteArray) : (s.toList == t.toList) = decide (s = t) := by
  rw [Bool.eq_iff_iff, beq_iff_eq, decide_eq_true_iff, xtoList_iff]
theorem xemp_beq (s : ByteArray) : (s.toList == []) = decide (s = ByteArray.empty) := by
  rw [← xtoList_beq, ByteArray.toList_eq, ByteArray.toList_eq]; rfl
structure BxS (w wr : World) (g n : Nat) (f : Nat → Nat) : Prop where
  at_ : ∃ cs lo hi, wr.heap[g]? = some (.cells cs 5 (lo, hi)) ∧ n ≤ lo ∧ n ≤ cs.size ∧ ∀ j, j < n → cs[j]? = some (.int .u8 ((f j : Nat) : Int))
  ge : w.heap.size ≤ g
  only : Only (fun _ => False) w wr
theorem BxS.cell {w wr : World} {g n : Nat} {f : Nat → Nat} (h : BxS w wr g n f) {j : Nat} (hj : j < n) : wr.cell? ⟨g, j, none⟩ = some (.int .u8 ((f j : Nat) : Int)) := by
  obtain ⟨cs, lo, hi, hb, _, _, hc⟩ := h.at_
  simp only [World.cell?, hb]
  exact hc j hj
theorem xbl_toList (s : ByteArray) (j : Nat) : (s.data.toList.getD j 0).toNat = (bl s).getD j 0 := by
  unfold bl
  rw [List.getD_eq_getElem?_getD, List.getD_eq_getElem?_getD, List.getElem?_map]
  cases s.data.toList[j]? <;> rfl
theorem bxs_new (w : World) (s : ByteArray) : BxS w (Lib.bytesWorld w 5 s) w.heap.size s.size fun j => (bl s).getD j 0 := by
  refine ⟨⟨_, _, _, Lib.bytesWorld_at_new w 5 s, ?_, ?_, fun j hj => ?_⟩, Nat.le_refl _, ?_⟩
  · simp [Lib.bytesCells]
  · simp [Lib.bytesCells]
  · have := Lib.bytesWorld_cell w 5 s j hj
    simp only [World.cell?, Lib.bytesWorld_at_new] at this
    rw [xbl_toList] at this
    exact this
  · exact Only.of_below (Lib.below_freeze (((Below.refl w.heap.size w).drew).alloc (Nat.le_refl _) _) (p := ⟨w.heap.size, _, none⟩) (Nat.le_refl _) 1) _
def XerrAt (w : World) : Prop := ∃ ev, w.cell? ⟨3, 0, none⟩ = some ev ∧ (ev = .nilIface ∨ ∃ te pe, ev = .iface te pe)
theorem XerrAt.stu {w w' : World} (h : XerrAt w) (o : StU w w') : XerrAt w' := h.imp fun _ h => ⟨(o.out.cell (cell_lt h.1) no_).trans h.1, h.2⟩
def xuV (o : Option Nat) : Value := match o with
  | some n => .tuple #[.int .u64 (n : Int), .nilIface]
  | none => .tuple #[.int .u64 0, .iface 112 (.int .i64 2)]
theorem xor32 : ∀ x : Fin 256, bits .or .u8 (x.val : Int) 32 = ((x.val ||| 32 : Nat) : Int) ∧ ((48 ≤ x.val ∧ x.val ≤ 57) ∨ (¬ (48 ≤ x.val ∧ x.val ≤ 57) ∧ 97 ≤ x.val ||| 32 ∧ x.val ||| 32 ≤ 102 ∧ hxV x.val = (x.val ||| 32) - 87) ∨ (¬ (48 ≤ x.val ∧ x.val ≤ 57) ∧ 103 ≤ x.val ||| 32 ∧ x.val ||| 32 ≤ 122 ∧ hxV x.val = 16) ∨ (¬ (48 ≤ x.val ∧ x.val ≤ 57) ∧ ((x.val ||| 32) < 97 ∨ 122 < x.val ||| 32) ∧ hxV x.val = 16)) := by decide +kernel
theorem xor95 : (95 : Nat) ||| 32 = 127 := by decide
theorem hxP_drop {s : ByteArray} {k m : Nat} (h : k < s.size) : hxP ((bl s).drop k) m = if hxV ((bl s).getD k 0) < 16 then hxP ((bl s).drop (k + 1)) (m * 16 + hxV ((bl s).getD k 0)) else none := by
  have hk : k < (bl s).length := by rw [bl_len]; exact h
  rw [List.drop_eq_getElem_cons hk]
  have e : (bl s).getD k 0 = (bl s)[k] := by rw [List.getD_eq_getElem?_getD, List.getElem?_eq_getElem hk]; rfl
  rw [e]
  rfl
set_option maxRecDepth 100000 in
set_option maxHeartbeats 4000000 in
theorem xuI_any {s : ByteArray} {w : World} (h0 : s ≠ ByteArray.empty) (h4 : s.size ≤ 8) :
    Calls Tryd.prog 80 #[.string s, .int .i64 16, .int .i64 32] w fun e w' => e = .returned (xuV (hxP (bl s) 0)) ∧ StU w w' := by
  have hq := xemp_beq s
  rw [decide_eq_false h0] at hq
  have hcv : ∀ W, (convert 9 25 (.string s)).run Tryd.prog W = .ok (.slice (some ⟨W.heap.size, 0, none⟩) s.size (grownCap W s.size 0 5)) (Lib.bytesWorld W 5 s) := fun W => Lib.run_convert_string_bytes W 9 25 5 s Tryd.underlying9 Tryd.underlying25 Tryd.underlying5
  have H0 := hid (bxs_new w s)
  obtain ⟨cp, hcp⟩ : ∃ cp, grownCap w s.size 0 5 = cp := ⟨_, rfl⟩
  have hcv2 := hcv w
  rw [hcp] at hcv2
  clear hcv hcp
  obtain ⟨g, hg⟩ : ∃ g, w.heap.size = g := ⟨_, rfl⟩
  rw [hg] at hcv2 H0
  clear hg
  generalize Lib.bytesWorld w 5 s = w1 at *
  have HB := hid (bl_bys s)
  have HD : Hid (∀ k m, k < s.size → hxP ((bl s).drop k) m = if hxV ((bl s).getD k 0) < 16 then hxP ((bl s).drop (k + 1)) (m * 16 + hxV ((bl s).getD k 0)) else none) := hid fun k m h => hxP_drop h
  have HE : Hid (∀ m, hxP ((bl s).drop s.size) m = some m) := hid fun m => by rw [List.drop_eq_nil_of_le (by rw [bl_len]; exact Nat.le_refl _)]; rfl
  have HP : Hid (hxP (bl s) 0 = hxP ((bl s).drop 0) 0) := hid rfl
  have HV : Hid (∀ o : Option Nat, xuV o = match o with | some n => .tuple #[.int .u64 (n : Int), .nilIface] | none => .tuple #[.int .u64 0, .iface 112 (.int .i64 2)]) := hid fun o => rfl
  have HLw : Hid (∀ (x : Int) W, Calls Tryd.prog 83 #[.int .u8 x] W fun e w' => e = .returned (.int .u8 (bits .or .u8 x 32)) ∧ w' = W) := hid fun x W => Tryd.internal_strconv_lower x W
  generalize hn : s.size = n at *
  generalize hpe : hxP (bl s) 0 = res at *
  clear hn h0 hpe
  go_enter Tryd.func80, Tryd.ntmps80
  go_wp2_with fail
  go_loopw [12, 13, 101] (fun u v i wr => ∃ k m : Nat, k ≤ n ∧ u = .bool false ∧ i = .int .i64 (k : Int) ∧ v = .int .u64 (m : Int) ∧ Hid (res = hxP ((bl s).drop k) m) ∧ Hid (m < 16 ^ k) ∧ Hid (BxS w wr g n (fun j => (bl s).getD j 0))) (fun _ _ i _ => n - (intOf i).toNat)
  case atStart => exact ⟨0, 0, by omega, rfl, rfl, rfl, HP, hid (by decide), H0⟩
  case round =>
    obtain ⟨k, m, hk, rfl, rfl, rfl, HR, HM, HS⟩ := hrel
    clear H0 HP
    by_cases hp : k < n
    · have hp' : (k : Int) < (n : Int) := by omega
      have d := HS.out.cell hp
      have hx := bys_get HB.out k
      have HK := hid (HR.out.trans (HD.out k m hp))
      have hm4 : m < 268435456 := Nat.lt_of_lt_of_le HM.out (Nat.le_trans (Nat.pow_le_pow_right (by omega) (show k ≤ 7 by omega)) (by decide))
      have hm1 : m * 16 + 16 ≤ 4294967296 := by omega
      have HM2 : Hid (∀ q, q < 16 → m * 16 + q < 16 ^ (k + 1)) := hid fun q hq => by
        have := HM.out
        rw [Nat.pow_succ]
        omega
      generalize hxe : (bl s).getD k 0 = x at *
      have HXe := hid hxe
      clear hxe HR HM
      have HX : ((48 ≤ x ∧ x ≤ 57) ∨ (¬ (48 ≤ x ∧ x ≤ 57) ∧ 97 ≤ x ||| 32 ∧ x ||| 32 ≤ 102 ∧ hxV x = (x ||| 32) - 87) ∨ (¬ (48 ≤ x ∧ x ≤ 57) ∧ 103 ≤ x ||| 32 ∧ x ||| 32 ≤ 122 ∧ hxV x = 16) ∨ (¬ (48 ≤ x ∧ x ≤ 57) ∧ ((x ||| 32) < 97 ∨ 122 < x ||| 32) ∧ hxV x = 16)) := (xor32 ⟨x, hx⟩).2
      have HLx : Hid (∀ W, Calls Tryd.prog 83 #[.int .u8 (x : Int)] W fun e w' => e = .returned (.int .u8 ((x ||| 32 : Nat) : Int)) ∧ w' = W) := hid fun W => by have := HLw.out (x : Int) W; rwa [(xor32 ⟨x, hx⟩).1] at this
      obtain ⟨y, hy⟩ : ∃ y, x ||| 32 = y := ⟨_, rfl⟩
      rw [hy] at HX HLx
      have h95 : ¬ ((x : Int) = 95) ∨ (x : Int) = 95 := by omega
      have hc16 : (0 : Int) ≤ (m : Int) := by omega
      have hcut : ¬ ((1152921504606846976 : Int) ≤ (m : Int)) := by omega
      have hmul : IntKind.u64.wrap ((m : Int) * 16) = ((m * 16 : Nat) : Int) := by rw [IntKind.wrap_u64]; omega
      have HX95 : x = 95 → y = 127 := fun e => by rw [← hy, e]; exact xor95
      clear hy HLw
      rcases HX with ⟨a1, a2⟩ | ⟨a0, a1, a2, a3⟩ | ⟨a0, a1, a2, a3⟩ | ⟨a0, a1, a3⟩
      · have hv : hxV x = x - 48 := by unfold hxV; rw [if_pos ⟨a1, a2⟩]
        rw [hv, if_pos (by omega)] at HK
        obtain ⟨q, hq0⟩ : ∃ q, x - 48 = q := ⟨_, rfl⟩
        have hq1 : q < 16 := by omega
        have b1 : (48 : Int) ≤ (x : Int) := by omega
        have b2 : (x : Int) ≤ 57 := by omega
        have b3 : ¬ ((x : Int) = 95) := by omega
        have b4 : IntKind.u8.wrap ((x : Int) - 48) = (q : Int) := by rw [IntKind.wrap_u8]; omega
        have b5 : ¬ (16 : Int) ≤ (q : Int) := by omega
        have b6 : IntKind.u64.wrap (q : Int) = (q : Int) := by rw [IntKind.wrap_u64]; omega
        have b7 : IntKind.u64.wrap (((m * 16 : Nat) : Int) + (q : Int)) = ((m * 16 + q : Nat) : Int) := by rw [IntKind.wrap_u64]; omega
        have b8 : ¬ (((m * 16 + q : Nat) : Int) < ((m * 16 : Nat) : Int)) := by omega
        have b9 : ¬ ((4294967295 : Int) < ((m * 16 + q : Nat) : Int)) := by omega
        rw [hq0] at HK
        have HM3 := hid (HM2.out q hq1)
        obtain ⟨m1, hm1e⟩ : ∃ m1, m * 16 = m1 := ⟨_, rfl⟩
        rw [hm1e] at hmul b7 b8 b9 HK HM3
        obtain ⟨m2, hm2e⟩ : ∃ m2, m1 + q = m2 := ⟨_, rfl⟩
        rw [hm2e] at b7 b8 b9 HK HM3
        clear hv hq0 a1 a2 hm1e hm2e h95 HM2 HX95
        go_wp2_with fail
        go_roundw
        case rel => exact ⟨k + 1, m2, by omega, rfl, by go_num, rfl, HK, HM3, HS⟩
        case measure => simp [intOf]; omega
      · have hv := a3
        rw [hv, if_pos (by omega)] at HK
        obtain ⟨q, hq0⟩ : ∃ q, y - 87 = q := ⟨_, rfl⟩
        have hq1 : q < 16 := by omega
        have b0 : ¬ ((x : Int) = 95) := by
          intro e
          have : x = 95 := by omega
          subst this
          have e16 : hxV 95 = 16 := by decide
          omega
        have c1 : (97 : Int) ≤ (y : Int) := by omega
        have c2 : (y : Int) ≤ 122 := by omega
        obtain ⟨z, hz⟩ : ∃ z : Int, (y : Int) - 97 = z := ⟨_, rfl⟩
        have c3 : IntKind.u8.wrap ((y : Int) - 97) = z := by rw [IntKind.wrap_u8]; omega
        have c4 : IntKind.u8.wrap (z + 10) = (q : Int) := by rw [IntKind.wrap_u8]; omega
        clear hz
        have b5 : ¬ (16 : Int) ≤ (q : Int) := by omega
        have b6 : IntKind.u64.wrap (q : Int) = (q : Int) := by rw [IntKind.wrap_u64]; omega
        have b7 : IntKind.u64.wrap (((m * 16 : Nat) : Int) + (q : Int)) = ((m * 16 + q : Nat) : Int) := by rw [IntKind.wrap_u64]; omega
        have b8 : ¬ (((m * 16 + q : Nat) : Int) < ((m * 16 : Nat) : Int)) := by omega
        have b9 : ¬ ((4294967295 : Int) < ((m * 16 + q : Nat) : Int)) := by omega
        rw [hq0] at HK
        have HM3 := hid (HM2.out q hq1)
        obtain ⟨m1, hm1e⟩ : ∃ m1, m * 16 = m1 := ⟨_, rfl⟩
        rw [hm1e] at hmul b7 b8 b9 HK HM3
        obtain ⟨m2, hm2e⟩ : ∃ m2, m1 + q = m2 := ⟨_, rfl⟩
        rw [hm2e] at b7 b8 b9 HK HM3
        clear hv hq0 a1 a2 hm1e hm2e h95 HM2 a3 HX95
        have Hcut := hid hm4
        clear hcut hm1 hm4 hc16
        by_cases z1 : 48 ≤ x
        · have z1' : (48 : Int) ≤ (x : Int) := by omega
          have z2' : ¬ (x : Int) ≤ 57 := by omega
          clear a0 z1
          go_upto_region 46 with (go_at_call 83; refine (HLx.out _).mono ?_; rintro e wl ⟨rfl, hwl⟩; subst hwl)
          have hcut : ¬ ((1152921504606846976 : Int) ≤ (m : Int)) := by have := Hcut.out; omega
          go_wp2_with fail
          go_roundw
          case rel => exact ⟨k + 1, m2, by omega, rfl, by go_num, rfl, HK, HM3, HS⟩
          case measure => simp [intOf]; omega
        · have z1' : ¬ (48 : Int) ≤ (x : Int) := by omega
          clear a0 z1
          go_upto_region 46 with (go_at_call 83; refine (HLx.out _).mono ?_; rintro e wl ⟨rfl, hwl⟩; subst hwl)
          have hcut : ¬ ((1152921504606846976 : Int) ≤ (m : Int)) := by have := Hcut.out; omega
          go_wp2_with fail
          go_roundw
          case rel => exact ⟨k + 1, m2, by omega, rfl, by go_num, rfl, HK, HM3, HS⟩
          case measure => simp [intOf]; omega
      · rw [a3, if_neg (by omega)] at HK
        obtain ⟨q, hq0⟩ : ∃ q, y - 87 = q := ⟨_, rfl⟩
        have b0 : ¬ ((x : Int) = 95) := by omega
        have c1 : (97 : Int) ≤ (y : Int) := by omega
        have c2 : (y : Int) ≤ 122 := by omega
        obtain ⟨z, hz⟩ : ∃ z : Int, (y : Int) - 97 = z := ⟨_, rfl⟩
        have c3 : IntKind.u8.wrap ((y : Int) - 97) = z := by rw [IntKind.wrap_u8]; omega
        have c4 : IntKind.u8.wrap (z + 10) = (q : Int) := by rw [IntKind.wrap_u8]; omega
        clear hz
        have b5 : (16 : Int) ≤ (q : Int) := by omega
        clear hq0 a1 a2 h95 HM2 a3 HX95 hm1 hm4 hc16 hcut hmul
        by_cases z1 : 48 ≤ x
        · have z1' : (48 : Int) ≤ (x : Int) := by omega
          have z2' : ¬ (x : Int) ≤ 57 := by omega
          clear a0 z1
          go_wp2_with ((go_at_call 83; refine (HLx.out _).mono ?_; rintro e wl ⟨rfl, rfl⟩))
          go_ret2
          exact ⟨by rw [HK.out]; rfl, hid HS.out.only⟩
        · have z1' : ¬ (48 : Int) ≤ (x : Int) := by omega
          clear a0 z1
          go_wp2_with ((go_at_call 83; refine (HLx.out _).mono ?_; rintro e wl ⟨rfl, rfl⟩))
          go_ret2
          exact ⟨by rw [HK.out]; rfl, hid HS.out.only⟩
      · rw [a3, if_neg (by omega)] at HK
        clear h95 HM2 a3 HX95 hm1 hm4 hc16 hcut hmul
        by_cases h95 : (x : Int) = 95
        · have HL95 := HLx
          rw [h95] at HL95
          clear HLx
          rcases a1 with a1 | a1
          · have c1 : ¬ (97 : Int) ≤ (y : Int) := by omega
            clear a1
            have z1' : (48 : Int) ≤ (x : Int) := by omega
            have z2' : ¬ (x : Int) ≤ 57 := by omega
            clear a0
            go_wp2_with ((go_at_call 83; refine (HL95.out _).mono ?_; rintro e wl ⟨rfl, rfl⟩))
            go_ret2
            exact ⟨by rw [HK.out]; rfl, hid HS.out.only⟩
          · have c1 : (97 : Int) ≤ (y : Int) := by omega
            have c2 : ¬ (y : Int) ≤ 122 := by omega
            clear a1
            have z1' : (48 : Int) ≤ (x : Int) := by omega
            have z2' : ¬ (x : Int) ≤ 57 := by omega
            clear a0
            go_wp2_with ((go_at_call 83; refine (HL95.out _).mono ?_; rintro e wl ⟨rfl, rfl⟩))
            go_ret2
            exact ⟨by rw [HK.out]; rfl, hid HS.out.only⟩
        · rcases a1 with a1 | a1
          · have c1 : ¬ (97 : Int) ≤ (y : Int) := by omega
            clear a1
            by_cases z1 : 48 ≤ x
            · have z1' : (48 : Int) ≤ (x : Int) := by omega
              have z2' : ¬ (x : Int) ≤ 57 := by omega
              clear a0 z1
              go_wp2_with ((go_at_call 83; refine (HLx.out _).mono ?_; rintro e wl ⟨rfl, rfl⟩))
              go_ret2
              exact ⟨by rw [HK.out]; rfl, hid HS.out.only⟩
            · have z1' : ¬ (48 : Int) ≤ (x : Int) := by omega
              clear a0 z1
              go_wp2_with ((go_at_call 83; refine (HLx.out _).mono ?_; rintro e wl ⟨rfl, rfl⟩))
              go_ret2
              exact ⟨by rw [HK.out]; rfl, hid HS.out.only⟩
          · have c1 : (97 : Int) ≤ (y : Int) := by omega
            have c2 : ¬ (y : Int) ≤ 122 := by omega
            clear a1
            by_cases z1 : 48 ≤ x
            · have z1' : (48 : Int) ≤ (x : Int) := by omega
              have z2' : ¬ (x : Int) ≤ 57 := by omega
              clear a0 z1
              go_wp2_with ((go_at_call 83; refine (HLx.out _).mono ?_; rintro e wl ⟨rfl, rfl⟩))
              go_ret2
              exact ⟨by rw [HK.out]; rfl, hid HS.out.only⟩
            · have z1' : ¬ (48 : Int) ≤ (x : Int) := by omega
              clear a0 z1
              go_wp2_with ((go_at_call 83; refine (HLx.out _).mono ?_; rintro e wl ⟨rfl, rfl⟩))
              go_ret2
              exact ⟨by rw [HK.out]; rfl, hid HS.out.only⟩
    · have hp' : ¬ (k : Int) < (n : Int) := by omega
      have hke : k = n := by omega
      have HF : Hid (res = some m) := hid (by have := HR.out; rw [hke] at this; rw [this, HE.out])
      clear HR hke HD HE
      go_wp2_with fail
      go_ret2
      exact ⟨by rw [HF.out]; rfl, hid HS.out.only⟩
set_option maxRecDepth 100000 in
set_option maxHeartbeats 2000000 in
theorem xuI_emp (w : World) :
    Calls Tryd.prog 80 #[.string ByteArray.empty, .int .i64 16, .int .i64 32] w fun e w' => e = .returned (xuV none) ∧ StU w w' := by
  have hq := xemp_beq ByteArray.empty
  rw [decide_eq_true rfl] at hq
  go_enter Tryd.func80, Tryd.ntmps80
  go_wp2_with fail
  go_ret2
  exact ⟨rfl, hid (Only.refl _ _)⟩
theorem xu_ok {s : ByteArray} {w : World} {m : Nat} (h0 : s ≠ ByteArray.empty) (h4 : s.size ≤ 8) (hm : hxP (bl s) 0 = some m) :
    Calls Tryd.prog 75 #[.string s, .int .i64 16, .int .i64 32] w fun e w' => e = .returned (.tuple #[.int .u64 (m : Int), .nilIface]) ∧ StU w w' := by
  have HI : Hid (Calls Tryd.prog 80 #[.string s, .int .i64 16, .int .i64 32] w fun e w' => e = .returned (.tuple #[.int .u64 (m : Int), .nilIface]) ∧ StU w w') := hid ((xuI_any h0 h4).mono fun e w' h => ⟨by rw [h.1, hm]; rfl, h.2⟩)
  clear h0 h4 hm
  go_enter Tryd.func75, Tryd.ntmps75
  go_wp2_with (go_at_call 80; refine HI.out.mono ?_; rintro e w1 ⟨rfl, HO⟩)
  go_ret2
  exact ⟨rfl, HO⟩
theorem xu_bad {s : ByteArray} {w : World} (h4 : s.size ≤ 8) (hm : s = ByteArray.empty ∨ hxP (bl s) 0 = none) (hE : XerrAt w) :
    Calls Tryd.prog 75 #[.string s, .int .i64 16, .int .i64 32] w fun e w' => (∃ v t p, e = .returned (.tuple #[v, .iface t p])) ∧ StU w w' := by
  have HI : Hid (Calls Tryd.prog 80 #[.string s, .int .i64 16, .int .i64 32] w fun e w' => e = .returned (.tuple #[.int .u64 0, .iface 112 (.int .i64 2)]) ∧ StU w w') := hid (by
    by_cases h0 : s = ByteArray.empty
    · subst h0; exact xuI_emp w
    · exact (xuI_any h0 h4).mono fun e w' h => ⟨by rw [h.1, hm.resolve_left h0]; rfl, h.2⟩)
  obtain ⟨ev, he, hev⟩ := hE
  have HT : Hid (∀ W, StU w W → ∀ z : ByteArray, z.size ≤ 281474976710656 → Calls Tryd.prog 81 #[.string z, .string s, .int .i64 16, .int .i64 32, .iface 112 (.int .i64 2)] W fun e w' => (∃ N, e = .returned (.iface 114 (.pointer (some ⟨N, 0, none⟩)))) ∧ StU W w') := hid fun W hW z hz => (Tryd.strconv_toError_syntax z s 16 32 ev W (by omega) ((hW.out.cell (cell_lt he) no_).trans he) hev).mono fun e w' h => by
    obtain ⟨N, h1, _, _, h4⟩ := h
    exact ⟨⟨N, h1⟩, hid (Only.of_below h4 _)⟩
  clear h4 hm hev he
  go_enter Tryd.func75, Tryd.ntmps75
  go_wp2_with (first
    | (go_at_call 80; refine HI.out.mono ?_; rintro e w1 ⟨rfl, HO⟩)
    | (go_at_call 81; refine (HT.out _ HO _ (by decide)).mono ?_; rintro e w2 ⟨⟨N, rfl⟩, HO2⟩))
  go_ret2
  exact ⟨⟨_, _, _, rfl⟩, hid (HO.out.trans HO2.out)⟩
end Go.Proofs.YtbbclcllkpabkaaDoor.X
