/- The law BitsBytes. -/
import Derived.Test.YtneipjocimcmnaaDoorKitB
import Derived.Test.YtneipjocimcmnaaDoorVecSet
namespace Go.Proofs.YtneipjocimcmnaaDoor
open Go.RowKit
open Fen

theorem RdB.only {S : Nat → Prop} {w w' : World} {A : Option Addr} {xs : List Bool} (h : RdB w A xs) (ho : Only S w w') (hS : ∀ b off, A = some ⟨b, off, none⟩ → b < w.heap.size → ¬ S b) : RdB w' A xs := by
  intro j hj
  obtain ⟨b, off, hA, hc⟩ := h j hj
  refine ⟨b, off, hA, fun i hi => ?_⟩
  have hci := hc i hi
  rw [ho.cell (cell_lt hci) (hS b off hA (cell_lt hci)), hci]

/-- The bytes of a vector, as a list. -/
def bytesL (n : Nat) (f : Nat → Bool) : List Nat := (List.range ((n + 7) / 8)).map (byteOf f)
theorem bytesL_len (n : Nat) (f : Nat → Bool) : (bytesL n f).length = (n + 7) / 8 := by simp [bytesL]
theorem bytesL_get (n : Nat) (f : Nat → Bool) (j : Nat) (h : j < (n + 7) / 8) : (bytesL n f).getD j 0 = byteOf f j := by
  simp [bytesL, List.getD, h]
theorem bytesL_rd {w w' : World} {n : Nat} {f : Nat → Bool} (h : BytR w w' ((n + 7) / 8) f ((n + 7) / 8)) : RdY w' (some ⟨w.heap.size, 0, none⟩) (bytesL n f) := by
  refine ⟨fun j => ?_, fun j hj => ⟨w.heap.size, 0, rfl, fun i hi => ?_⟩⟩
  · by_cases hj : j < (n + 7) / 8
    · rw [bytesL_get n f j hj]; exact byteOf_lt f j
    · rw [getDn_far _ _ (by rw [bytesL_len]; omega)]; omega
  · rw [bytesL_len] at hi
    have := h.2.1.cell hi
    rw [Nat.zero_add, this, if_pos hi, bytesL_get n f i hi]
theorem fB_bytesL {n : Nat} {f : Nat → Bool} (hf : ∀ i, n ≤ i → f i = false) : fB (bytesL n f) = f := by
  funext i
  unfold fB
  by_cases h : i / 8 < (n + 7) / 8
  · rw [bytesL_get n f _ h, testBit_byteOf, show 8 * (i / 8) + i % 8 = i by omega]
    have : i % 8 < 8 := by omega
    simp [this]
  · rw [getDn_far _ _ (by rw [bytesL_len]; omega), hf i (by omega)]; simp
theorem shape_bytesL {n : Nat} {f : Nat → Bool} (hf : ∀ i, n ≤ i → f i = false) : shapeOk n (bytesL n f) := by
  refine ⟨bytesL_len n f, ?_⟩
  by_cases hm : n % 8 = 0
  · exact .inl hm
  · right
    rw [bytesL_len, bytesL_get n f _ (by omega)]
    apply Nat.div_eq_of_lt
    apply Nat.lt_pow_two_of_testBit
    intro i hi
    rw [testBit_byteOf]
    by_cases h8 : i < 8
    · rw [hf _ (by omega)]; simp
    · simp [h8]
/-- What bytes are read to has these bytes. -/
theorem bytesL_fB {n : Nat} {bs : List Nat} (hb : ∀ j, bs.getD j 0 < 256) (hs : shapeOk n bs) : bytesL n (fB bs) = bs := by
  apply List.ext_getElem
  · rw [bytesL_len, hs.1]
  · intro j h1 h2
    have h3 : j < (n + 7) / 8 := by rw [← hs.1]; exact h2
    have e1 : (bytesL n (fB bs))[j] = byteOf (fB bs) j := by simp [bytesL]
    have e2 : bs[j] = bs.getD j 0 := by simp [List.getD, h2]
    rw [e1, e2]
    apply Nat.eq_of_testBit_eq
    intro i
    rw [testBit_byteOf]
    unfold fB
    by_cases h8 : i < 8
    · rw [show (8 * j + i) / 8 = j by omega, show (8 * j + i) % 8 = i by omega]; simp [h8]
    · have h4 : bs.getD j 0 < 2 ^ i := by
        have := hb j
        have h5 : 2 ^ 8 ≤ 2 ^ i := Nat.pow_le_pow_right (by decide) (by omega)
        omega
      rw [Nat.testBit_lt_two_pow h4]; simp [h8]

set_option maxHeartbeats 1000000 in
theorem bitsBytes_long (A B : Option Addr) (n m c1 c2 : Nat) (z at_ : Int) (w : World) (hT : Tab w) (hn : n ≤ 2305843009213693951) (hm : m ≤ 2305843009213693951) (h : 3000 < n + m ∨ 24000 < z) :
    Calls Tryd.prog 7 #[.slice A n c1, .slice B m c2, .int .i64 z, .int .i64 at_] w fun e w' => e = .returned (.bool true) ∧ Hid (Below w.heap.size w w') := by
  have HT := hid hT
  clear hT
  by_cases h1 : 3000 < n + m
  · have h1' : (3000 : Int) < (n : Int) + (m : Int) := by omega
    clear h
    go_enter Tryd.func7, Tryd.ntmps7
    go_wp2_with fail
    refine (awake_any w HT.out).mono ?_
    rintro e w1 ⟨rfl, hb⟩
    go_wp2_with fail
    go_ret
    exact ⟨rfl, hb⟩
  · have h1' : ¬ (3000 : Int) < (n : Int) + (m : Int) := by omega
    have h2 : 24000 < z := by omega
    clear h h1
    go_enter Tryd.func7, Tryd.ntmps7
    go_wp2_with fail
    refine (awake_any w HT.out).mono ?_
    rintro e w1 ⟨rfl, hb⟩
    go_wp2_with fail
    go_ret
    exact ⟨rfl, hb⟩

/-- A step that turns nothing below a block that the call made. -/
theorem Below.only {B : Nat} {a b w : World} {S : Nat → Prop} (h : Below B a b) (o : Only S b w) (hS : ∀ k, S k → B ≤ k) (hB : B ≤ b.heap.size) : Below B a w := h.trans (o.to_below hS hB)
theorem read_bytes {w w4 w5 : World} {n : Nat} {f : Nat → Bool} (hn : n ≤ 16777216) (hf : ∀ i, n ≤ i → f i = false) (h : BytR w4 w5 ((n + 7) / 8) f ((n + 7) / 8)) (_u : w = w) :
    Calls Tryd.prog 18 #[.int .i64 (n : Int), .slice (some ⟨w4.heap.size, 0, none⟩) ((n + 7) / 8) ((n + 7) / 8)] w5 (Made w5 n f) := by
  have h1 := read_ok n ((n + 7) / 8) (some ⟨w4.heap.size, 0, none⟩) (bytesL n f) w5 (bytesL_rd h) hn (shape_bytesL hf)
  rw [bytesL_len, fB_bytesL hf] at h1
  exact h1
theorem sameBytes_two {a b w w1 w2 : World} {n : Nat} {f : Nat → Bool} (h1 : RdY w (some ⟨a.heap.size, 0, none⟩) (bytesL n f)) (h2 : RdY w (some ⟨b.heap.size, 0, none⟩) (bytesL n f)) (hn : n ≤ 16777216) (_u : w1 = w1) (_v : w2 = w2) :
    Calls Tryd.prog 31 #[.slice (some ⟨a.heap.size, 0, none⟩) ((n + 7) / 8) ((n + 7) / 8), .slice (some ⟨b.heap.size, 0, none⟩) ((n + 7) / 8) ((n + 7) / 8)] w fun e w' => e = .returned (.bool true) ∧ ∃ k, w' = w.drewN k :=
  sameBytes_eq _ _ _ _ _ (bytesL n f) w h1 h2 (bytesL_len n f).symm (by omega)
theorem RdI_one (w : World) (t : TypeId) (k : Int) : RdI (w.alloc (Obj.cells #[.int .i64 k] t)) (some ⟨w.heap.size, 0, none⟩) [k] := by
  intro _ _
  refine ⟨w.heap.size, 0, rfl, fun j hj => ?_⟩
  have hj0 : j = 0 := by simp at hj; omega
  subst hj0
  exact (World.rowIs_alloc w #[.int .i64 k] t (fun _ => .int .i64 k) (fun i hi => by
    match i, hi with
    | 0, _ => rfl
    | i + 1, hi => exact absurd (show i + 1 < 1 from hi) (by omega))).cell (i := 0) (by simp)

set_option maxHeartbeats 4000000 in
theorem bitsBytes_short (A B : Option Addr) (xs : List Bool) (bs : List Nat) (c1 c2 : Nat) (z at_ : Int) (w : World) (hT : Tab w) (hx : RdB w A xs) (hy : RdY w B bs) (hn : xs.length + bs.length ≤ 3000) (hz : z ≤ 24000) (ha1 : -9223372036854775808 ≤ at_) (ha2 : at_ ≤ 9223372036854775807) :
    Calls Tryd.prog 7 #[.slice A xs.length c1, .slice B bs.length c2, .int .i64 z, .int .i64 at_] w fun e w' => e = .returned (.bool true) ∧ Hid (Below w.heap.size w w') := by
  have HT := hid hT
  have HX := hid hx
  have HY := hid hy
  have HF := hid (fun i hi => getD_far xs i hi)
  obtain ⟨n, hnn⟩ : ∃ n, n = xs.length := ⟨_, rfl⟩
  obtain ⟨m, hmm⟩ : ∃ m, m = bs.length := ⟨_, rfl⟩
  rw [← hnn] at HF
  rw [← hnn, ← hmm] at hn ⊢
  have Hn := hid hnn
  have Hm := hid hmm
  clear hT hx hy hnn hmm
  have h1' : ¬ (3000 : Int) < (n : Int) + (m : Int) := by omega
  have h2' : ¬ 24000 < z := by omega
  go_enter Tryd.func7, Tryd.ntmps7
  go_wp2_with fail
  refine (awake_any w HT.out).mono ?_
  rintro e w1 ⟨rfl, HB1⟩
  have HY1 := hid (HY.out.only ((Only.of_below HB1.out (fun _ => False))) (fun _ _ _ => no_))
  go_wp2_with fail
  clear h1' h2'
  by_cases hz0 : z < 0
  · refine (read_badN z _ w1 (.inl hz0)).mono ?_
    rw [if_pos hz0]
    rintro e w3 ⟨rfl, rfl⟩
    have HB3 := HB1
    clear HB1 HY1 HY hz0
    go_wp2_with fail
    obtain ⟨v0, rfl⟩ : ∃ v0 : World, v0 = w1 := ⟨_, rfl⟩
    rw [Hn.out]
    refine (of_ok A c1 xs v0 (HX.out.below HB3.out) (by have := Hn.out; omega)).mono ?_
    rintro e v1 ⟨g1, gs1, gw1, rfl, hv, hg, hgs, hgw, hb2⟩
    rw [← Hn.out] at hv ⊢
    obtain ⟨f, hf⟩ : ∃ f : Nat → Bool, f = fun i => xs.getD i false := ⟨_, rfl⟩
    rw [← hf] at hv
    have HF1 : Hid (∀ i, n ≤ i → f i = false) := hid (by rw [hf]; exact HF.out)
    have Hf := hid hf
    have HV1 := hid hv
    have HB4 := hid (HB3.out.trans (hb2.mono HB3.out.size))
    have HL1 := hid (And.intro hv.self.lt (And.intro hv.sums.lt hv.words.lt))
    clear hv hb2 hg hgs hgw HB3 hf
    go_wp2_with fail
    refine (bytes_any HV1.out).mono ?_
    rintro e v2 ⟨rfl, hby⟩
    have HV2 := hid (HV1.out.same hby.out.2.2)
    have HB5 := hid (Below.only HB4.out hby.out.2.2 (fun _ h => h.elim) HB4.out.size)
    have HL2 := hid (And.intro HV2.out.self.lt (And.intro HV2.out.sums.lt HV2.out.words.lt))
    have HRd := hid (read_bytes (w := w) (n := n) (by omega) HF1.out hby.out rfl)
    clear hby HV1 HB4 HL1
    go_wp2_with fail
    refine HRd.out.mono ?_
    rintro e v3 ⟨g2, gs2, gw2, rfl, hv, hg, hgs, hgw, hb2⟩
    have HW3 := hid hv
    have HV3 := hid (HV2.out.below' hb2)
    have HB6 := hid (HB5.out.trans (hb2.mono HB5.out.size))
    have HD : Hid (w.heap.size ≤ g2 ∧ w.heap.size ≤ gs2 ∧ w.heap.size ≤ gw2 ∧ g1 < g2 ∧ g1 < gs2 ∧ g1 < gw2 ∧ gs1 < g2 ∧ gs1 < gs2 ∧ gs1 < gw2 ∧ gw1 < g2 ∧ gw1 < gs2 ∧ gw1 < gw2) := hid (by have h1 := HL2.out; have h2 := HB5.out.size; omega)
    clear hv hb2 hg hgs hgw HL2 HV2 HB5 HRd
    go_wp2_with fail
    refine (bytes_any HW3.out).mono ?_
    rintro e v4 ⟨rfl, hby⟩
    have HW4 := hid (HW3.out.same hby.out.2.2)
    have HV4 := hid (HV3.out.same hby.out.2.2)
    have HB7 := hid (Below.only HB6.out hby.out.2.2 (fun _ h => h.elim) HB6.out.size)
    have HY1 := hid (bytesL_rd hby.out)
    clear hby HW3 HV3 HB6
    go_wp2_with fail
    refine (bytes_any HV4.out).mono ?_
    rintro e v5 ⟨rfl, hby⟩
    have HW5 := hid (HW4.out.same hby.out.2.2)
    have HV5 := hid (HV4.out.same hby.out.2.2)
    have HB8 := hid (Below.only HB7.out hby.out.2.2 (fun _ h => h.elim) HB7.out.size)
    have HSm := hid (sameBytes_two (w1 := w) (w2 := w) (HY1.out.only hby.out.2.2 (fun _ _ _ => no_)) (bytesL_rd hby.out) (by omega) rfl rfl)
    clear hby HW4 HV4 HB7 HY1
    go_wp2_with fail
    refine HSm.out.mono ?_
    rintro e v6 ⟨rfl, ho⟩
    have HW6 := hid (HW5.out.same (quiet_only ho))
    have HV6 := hid (HV5.out.same (quiet_only ho))
    have HB9 := hid (Below.only HB8.out (quiet_only ho) (fun _ h => h.elim) HB8.out.size)
    clear ho HW5 HV5 HB8 HSm
    go_wp2_with fail
    refine (ones_any HW6.out).mono ?_
    rintro e v7 ⟨rfl, rfl⟩
    go_wp2_with fail
    refine (ones_any HV6.out).mono ?_
    rintro e v7 ⟨rfl, rfl⟩
    have hC0 := HV6.out.ones_le n
    obtain ⟨T, hT⟩ : ∃ T, T = C (cf f) n := ⟨_, rfl⟩
    rw [← hT] at hC0 ⊢
    have HTt := hid hT
    clear hT
    by_cases hn0 : n = 0
    · subst hn0
      go_wp2_with fail
      go_ret
      exact ⟨rfl, HB9⟩
    · have hn1 : ((n : Int) == 0) = false := by rw [beq_eq_false_iff_ne]; omega
      have hnp : 1 ≤ (n : Int) := by omega
      clear hn0
      go_wp2_with fail
      refine (pick_any at_ n _ hnp (by omega) ha1 ha2).mono ?_
      rintro e v7 ⟨k, rfl, hkn, rfl⟩
      clear hn1 hnp
      have hk : k < n := by omega
      obtain ⟨b, off, hAe, hcw⟩ := (HX.out.below HB9.out) k (by rw [← Hn.out]; exact hk)
      have hc := hcw k (by rw [← Hn.out]; exact hk)
      clear hcw
      subst hAe
      obtain ⟨v, hv⟩ : ∃ v, v = xs.getD k false := ⟨_, rfl⟩
      rw [← hv] at hc
      have Hfv : Hid (f k = v) := hid (by rw [Hf.out, hv])
      have Hgo : Hid (∀ b1, b1 = (!v) → Calls Tryd.prog 14 #[.pointer (some ⟨g2, 0, none⟩), .bool b1, .slice (some ⟨v6.heap.size, 0, none⟩) 1 1] (v6.alloc (Obj.cells #[.int .i64 (k : Int)] 3)) fun e w' => e = .returned (.int .i64 0) ∧ Hid (SetI v6 g2 gs2 gw2 n (flip f k) w')) := hid fun b1 hb1 => by
        have h1 := HW6.out.self.lt
        have h2 := HW6.out.sums.lt
        have h3 := HW6.out.words.lt
        have ho : Only (fun _ => False) v6 (v6.alloc (Obj.cells #[.int .i64 (k : Int)] 3)) := (Only.refl _ v6).alloc _
        have hs := set_ok (HW6.out.same ho) b1 (some ⟨v6.heap.size, 0, none⟩) 1 [(k : Int)] (RdI_one v6 _ _) (by simp) (by simp [bad]; omega) (fun b off e => by injection e with e; injection e with e; omega)
        refine hs.mono fun e w' ⟨he, hi⟩ => ⟨he, hid ?_⟩
        have hfs : fset f b1 [(k : Int)] = flip f k := by
          show setf f b1 ((k : Int)).toNat = flip f k
          rw [Int.toNat_natCast]
          exact setf_flip (by rw [Hfv.out, hb1]; cases v <;> simp)
        have h := hi.out
        rw [hfs] at h
        exact ⟨h.1, (ho.mono fun _ _ h => h.elim).trans h.2⟩
      obtain ⟨dz, hdz, hdc, _⟩ := flip_sums f k n hk
      rw [← HTt.out] at hdc
      rw [Hfv.out] at hdz
      have HC2 : Hid (∀ z : Int, z = dz → ((C (cf (flip f k)) n : Nat) : Int) = (T : Int) + z) := hid fun z hz => by rw [hz]; exact hdc.symm
      have Hdz := hid hdz
      clear hdz hdc hv
      have hT0 : dz = 1 ∨ dz = -1 := by have := Hdz.out; cases v <;> simp_all
      cases v
      all_goals
        go_wp2_with fail
        refine (Hgo.out _ rfl).mono ?_
        rintro e v8 ⟨rfl, hst⟩
        have HW7 := hid hst.out.1
        have HV7 := hid (HV6.out.only hst.out.2 (by have := HD.out; omega) (by have := HD.out; omega) (by have := HD.out; omega))
        have HB10 := hid (Below.only HB9.out hst.out.2 (fun k hk => by have := HD.out; omega) HB9.out.size)
        clear hst Hgo HB9
        go_wp2_with fail
        refine (ones_any HW7.out).mono ?_
        rintro e v9 ⟨rfl, rfl⟩
        rw [HC2.out _ (by have := Hdz.out; first | exact this.symm | simpa using this.symm)]
        go_wp2_with fail
        refine (ones_any HV7.out).mono ?_
        rintro e v9 ⟨rfl, rfl⟩
        rw [← HTt.out]
        go_wp2_with fail
        go_loop [17] (fun s => ∃ i : Nat, i ≤ n ∧ s = .int .i64 i) (fun s => n - (intOf s).toNat)
        case atStart => exact ⟨0, by omega, rfl⟩
        case round =>
          obtain ⟨i, hi, rfl⟩ := hrel
          by_cases hp : i < n
          · by_cases hik : i = k
            · subst hik
              have hb1 : flip f i i = !f i := by simp [flip]
              have hie : ((i : Int) == (i : Int)) = true := beq_self_eq_true _
              obtain ⟨b2, hb2⟩ : ∃ b2, b2 = f i := ⟨_, rfl⟩
              rw [← hb2] at hb1
              have HG1 := hid (get_nat HW7.out i (!b2) hb1)
              have HG2 := hid (get_nat HV7.out i b2 hb2.symm)
              clear hb1 hb2
              cases b2
              all_goals
                go_wp2_with fail
                refine HG1.out.mono ?_
                rintro e v9 ⟨rfl, rfl⟩
                go_wp2_with fail
                refine HG2.out.mono ?_
                rintro e v9 ⟨rfl, rfl⟩
                go_wp2_with fail
                go_round
                case rel => exact ⟨i + 1, by omega, by go_num⟩
                case measure => simp [intOf]; omega
            · have hb1 : flip f k i = f i := by simp [flip, hik]
              have hie : ((i : Int) == (k : Int)) = false := by rw [beq_eq_false_iff_ne]; omega
              obtain ⟨b2, hb2⟩ : ∃ b2, b2 = f i := ⟨_, rfl⟩
              rw [← hb2] at hb1
              have HG1 := hid (get_nat HW7.out i b2 hb1)
              have HG2 := hid (get_nat HV7.out i b2 hb2.symm)
              clear hb1 hb2 hik
              cases b2
              all_goals
                go_wp2_with fail
                refine HG1.out.mono ?_
                rintro e v9 ⟨rfl, rfl⟩
                go_wp2_with fail
                refine HG2.out.mono ?_
                rintro e v9 ⟨rfl, rfl⟩
                go_wp2_with fail
                go_round
                case rel => exact ⟨i + 1, by omega, by go_num⟩
                case measure => simp [intOf]; omega
          · obtain rfl : i = n := by omega
            go_wp2_with fail
            go_ret
            exact ⟨rfl, HB10⟩
  · obtain ⟨q, rfl⟩ := Int.eq_ofNat_of_zero_le (a := z) (by omega)
    by_cases hs : shapeOk q bs
    · rw [Hm.out]
      refine (read_ok q c2 B bs w1 HY1.out (by omega) hs).mono ?_
      rintro e w2 ⟨g, gs, gw, rfl, hv, hg, hgs, hgw, hb2⟩
      rw [← Hm.out]
      have HV := hid hv
      have HB2 := hid (HB1.out.trans (hb2.mono HB1.out.size))
      have Hs := hid hs
      have HY2 := hid (HY1.out.only ((Only.of_below hb2 (fun _ => False))) (fun _ _ _ => no_))
      clear hv hb2 hg hgs hgw hs HB1 HY1 HY
      go_wp2_with fail
      refine (bytes_any HV.out).mono ?_
      rintro e w3 ⟨rfl, hby⟩
      have HV3 := hid (HV.out.same hby.out.2.2)
      have HB3 := hid (Below.only HB2.out hby.out.2.2 (fun _ h => h.elim) HB2.out.size)
      have HS := hid (sameBytes_eq (some ⟨w2.heap.size, 0, none⟩) B ((q + 7) / 8) ((q + 7) / 8) c2 bs w3 (by
        have h := bytesL_rd hby.out
        rwa [bytesL_fB HY2.out.1 Hs.out] at h) (HY2.out.only hby.out.2.2 (fun _ _ _ => no_)) Hs.out.1.symm (by omega))
      have Hq := hid (Hm.out.trans Hs.out.1)
      clear hby HV HB2 HY2
      go_wp2_with fail
      rw [Hq.out]
      refine HS.out.mono ?_
      rintro e w4 ⟨rfl, ho⟩
      rw [← Hq.out]
      have HV4 := hid (HV3.out.same (quiet_only ho))
      have HB4 := hid (Below.only HB3.out (quiet_only ho) (fun _ h => h.elim) HB3.out.size)
      clear HV3 HB3 ho HS
      go_wp2_with fail
      refine (len_any HV4.out).mono ?_
      rintro e w5 ⟨rfl, rfl⟩
      have HB3 := HB4
      clear HB4 HV4 Hs Hq
      go_wp2_with fail
      obtain ⟨v0, rfl⟩ : ∃ v0 : World, v0 = w4 := ⟨_, rfl⟩
      rw [Hn.out]
      refine (of_ok A c1 xs v0 (HX.out.below HB3.out) (by have := Hn.out; omega)).mono ?_
      rintro e v1 ⟨g1, gs1, gw1, rfl, hv, hg, hgs, hgw, hb2⟩
      rw [← Hn.out] at hv ⊢
      obtain ⟨f, hf⟩ : ∃ f : Nat → Bool, f = fun i => xs.getD i false := ⟨_, rfl⟩
      rw [← hf] at hv
      have HF1 : Hid (∀ i, n ≤ i → f i = false) := hid (by rw [hf]; exact HF.out)
      have Hf := hid hf
      have HV1 := hid hv
      have HB4 := hid (HB3.out.trans (hb2.mono HB3.out.size))
      have HL1 := hid (And.intro hv.self.lt (And.intro hv.sums.lt hv.words.lt))
      clear hv hb2 hg hgs hgw HB3 hf
      go_wp2_with fail
      refine (bytes_any HV1.out).mono ?_
      rintro e v2 ⟨rfl, hby⟩
      have HV2 := hid (HV1.out.same hby.out.2.2)
      have HB5 := hid (Below.only HB4.out hby.out.2.2 (fun _ h => h.elim) HB4.out.size)
      have HL2 := hid (And.intro HV2.out.self.lt (And.intro HV2.out.sums.lt HV2.out.words.lt))
      have HRd := hid (read_bytes (w := w) (n := n) (by omega) HF1.out hby.out rfl)
      clear hby HV1 HB4 HL1
      go_wp2_with fail
      refine HRd.out.mono ?_
      rintro e v3 ⟨g2, gs2, gw2, rfl, hv, hg, hgs, hgw, hb2⟩
      have HW3 := hid hv
      have HV3 := hid (HV2.out.below' hb2)
      have HB6 := hid (HB5.out.trans (hb2.mono HB5.out.size))
      have HD : Hid (w.heap.size ≤ g2 ∧ w.heap.size ≤ gs2 ∧ w.heap.size ≤ gw2 ∧ g1 < g2 ∧ g1 < gs2 ∧ g1 < gw2 ∧ gs1 < g2 ∧ gs1 < gs2 ∧ gs1 < gw2 ∧ gw1 < g2 ∧ gw1 < gs2 ∧ gw1 < gw2) := hid (by have h1 := HL2.out; have h2 := HB5.out.size; omega)
      clear hv hb2 hg hgs hgw HL2 HV2 HB5 HRd
      go_wp2_with fail
      refine (bytes_any HW3.out).mono ?_
      rintro e v4 ⟨rfl, hby⟩
      have HW4 := hid (HW3.out.same hby.out.2.2)
      have HV4 := hid (HV3.out.same hby.out.2.2)
      have HB7 := hid (Below.only HB6.out hby.out.2.2 (fun _ h => h.elim) HB6.out.size)
      have HY1 := hid (bytesL_rd hby.out)
      clear hby HW3 HV3 HB6
      go_wp2_with fail
      refine (bytes_any HV4.out).mono ?_
      rintro e v5 ⟨rfl, hby⟩
      have HW5 := hid (HW4.out.same hby.out.2.2)
      have HV5 := hid (HV4.out.same hby.out.2.2)
      have HB8 := hid (Below.only HB7.out hby.out.2.2 (fun _ h => h.elim) HB7.out.size)
      have HSm := hid (sameBytes_two (w1 := w) (w2 := w) (HY1.out.only hby.out.2.2 (fun _ _ _ => no_)) (bytesL_rd hby.out) (by omega) rfl rfl)
      clear hby HW4 HV4 HB7 HY1
      go_wp2_with fail
      refine HSm.out.mono ?_
      rintro e v6 ⟨rfl, ho⟩
      have HW6 := hid (HW5.out.same (quiet_only ho))
      have HV6 := hid (HV5.out.same (quiet_only ho))
      have HB9 := hid (Below.only HB8.out (quiet_only ho) (fun _ h => h.elim) HB8.out.size)
      clear ho HW5 HV5 HB8 HSm
      go_wp2_with fail
      refine (ones_any HW6.out).mono ?_
      rintro e v7 ⟨rfl, rfl⟩
      go_wp2_with fail
      refine (ones_any HV6.out).mono ?_
      rintro e v7 ⟨rfl, rfl⟩
      have hC0 := HV6.out.ones_le n
      obtain ⟨T, hT⟩ : ∃ T, T = C (cf f) n := ⟨_, rfl⟩
      rw [← hT] at hC0 ⊢
      have HTt := hid hT
      clear hT
      by_cases hn0 : n = 0
      · subst hn0
        go_wp2_with fail
        go_ret
        exact ⟨rfl, HB9⟩
      · have hn1 : ((n : Int) == 0) = false := by rw [beq_eq_false_iff_ne]; omega
        have hnp : 1 ≤ (n : Int) := by omega
        clear hn0
        go_wp2_with fail
        refine (pick_any at_ n _ hnp (by omega) ha1 ha2).mono ?_
        rintro e v7 ⟨k, rfl, hkn, rfl⟩
        clear hn1 hnp
        have hk : k < n := by omega
        obtain ⟨b, off, hAe, hcw⟩ := (HX.out.below HB9.out) k (by rw [← Hn.out]; exact hk)
        have hc := hcw k (by rw [← Hn.out]; exact hk)
        clear hcw
        subst hAe
        obtain ⟨v, hv⟩ : ∃ v, v = xs.getD k false := ⟨_, rfl⟩
        rw [← hv] at hc
        have Hfv : Hid (f k = v) := hid (by rw [Hf.out, hv])
        have Hgo : Hid (∀ b1, b1 = (!v) → Calls Tryd.prog 14 #[.pointer (some ⟨g2, 0, none⟩), .bool b1, .slice (some ⟨v6.heap.size, 0, none⟩) 1 1] (v6.alloc (Obj.cells #[.int .i64 (k : Int)] 3)) fun e w' => e = .returned (.int .i64 0) ∧ Hid (SetI v6 g2 gs2 gw2 n (flip f k) w')) := hid fun b1 hb1 => by
          have h1 := HW6.out.self.lt
          have h2 := HW6.out.sums.lt
          have h3 := HW6.out.words.lt
          have ho : Only (fun _ => False) v6 (v6.alloc (Obj.cells #[.int .i64 (k : Int)] 3)) := (Only.refl _ v6).alloc _
          have hs := set_ok (HW6.out.same ho) b1 (some ⟨v6.heap.size, 0, none⟩) 1 [(k : Int)] (RdI_one v6 _ _) (by simp) (by simp [bad]; omega) (fun b off e => by injection e with e; injection e with e; omega)
          refine hs.mono fun e w' ⟨he, hi⟩ => ⟨he, hid ?_⟩
          have hfs : fset f b1 [(k : Int)] = flip f k := by
            show setf f b1 ((k : Int)).toNat = flip f k
            rw [Int.toNat_natCast]
            exact setf_flip (by rw [Hfv.out, hb1]; cases v <;> simp)
          have h := hi.out
          rw [hfs] at h
          exact ⟨h.1, (ho.mono fun _ _ h => h.elim).trans h.2⟩
        obtain ⟨dz, hdz, hdc, _⟩ := flip_sums f k n hk
        rw [← HTt.out] at hdc
        rw [Hfv.out] at hdz
        have HC2 : Hid (∀ z : Int, z = dz → ((C (cf (flip f k)) n : Nat) : Int) = (T : Int) + z) := hid fun z hz => by rw [hz]; exact hdc.symm
        have Hdz := hid hdz
        clear hdz hdc hv
        have hT0 : dz = 1 ∨ dz = -1 := by have := Hdz.out; cases v <;> simp_all
        cases v
        all_goals
          go_wp2_with fail
          refine (Hgo.out _ rfl).mono ?_
          rintro e v8 ⟨rfl, hst⟩
          have HW7 := hid hst.out.1
          have HV7 := hid (HV6.out.only hst.out.2 (by have := HD.out; omega) (by have := HD.out; omega) (by have := HD.out; omega))
          have HB10 := hid (Below.only HB9.out hst.out.2 (fun k hk => by have := HD.out; omega) HB9.out.size)
          clear hst Hgo HB9
          go_wp2_with fail
          refine (ones_any HW7.out).mono ?_
          rintro e v9 ⟨rfl, rfl⟩
          rw [HC2.out _ (by have := Hdz.out; first | exact this.symm | simpa using this.symm)]
          go_wp2_with fail
          refine (ones_any HV7.out).mono ?_
          rintro e v9 ⟨rfl, rfl⟩
          rw [← HTt.out]
          go_wp2_with fail
          go_loop [17] (fun s => ∃ i : Nat, i ≤ n ∧ s = .int .i64 i) (fun s => n - (intOf s).toNat)
          case atStart => exact ⟨0, by omega, rfl⟩
          case round =>
            obtain ⟨i, hi, rfl⟩ := hrel
            by_cases hp : i < n
            · by_cases hik : i = k
              · subst hik
                have hb1 : flip f i i = !f i := by simp [flip]
                have hie : ((i : Int) == (i : Int)) = true := beq_self_eq_true _
                obtain ⟨b2, hb2⟩ : ∃ b2, b2 = f i := ⟨_, rfl⟩
                rw [← hb2] at hb1
                have HG1 := hid (get_nat HW7.out i (!b2) hb1)
                have HG2 := hid (get_nat HV7.out i b2 hb2.symm)
                clear hb1 hb2
                cases b2
                all_goals
                  go_wp2_with fail
                  refine HG1.out.mono ?_
                  rintro e v9 ⟨rfl, rfl⟩
                  go_wp2_with fail
                  refine HG2.out.mono ?_
                  rintro e v9 ⟨rfl, rfl⟩
                  go_wp2_with fail
                  go_round
                  case rel => exact ⟨i + 1, by omega, by go_num⟩
                  case measure => simp [intOf]; omega
              · have hb1 : flip f k i = f i := by simp [flip, hik]
                have hie : ((i : Int) == (k : Int)) = false := by rw [beq_eq_false_iff_ne]; omega
                obtain ⟨b2, hb2⟩ : ∃ b2, b2 = f i := ⟨_, rfl⟩
                rw [← hb2] at hb1
                have HG1 := hid (get_nat HW7.out i b2 hb1)
                have HG2 := hid (get_nat HV7.out i b2 hb2.symm)
                clear hb1 hb2 hik
                cases b2
                all_goals
                  go_wp2_with fail
                  refine HG1.out.mono ?_
                  rintro e v9 ⟨rfl, rfl⟩
                  go_wp2_with fail
                  refine HG2.out.mono ?_
                  rintro e v9 ⟨rfl, rfl⟩
                  go_wp2_with fail
                  go_round
                  case rel => exact ⟨i + 1, by omega, by go_num⟩
                  case measure => simp [intOf]; omega
            · obtain rfl : i = n := by omega
              go_wp2_with fail
              go_ret
              exact ⟨rfl, HB10⟩
    · rw [Hm.out]
      refine (read_bad q c2 B bs w1 HY1.out (by omega) hs (by have := Hm.out; omega)).mono ?_
      rintro e w3 ⟨rfl, rfl⟩
      rw [← Hm.out]
      have HB3 := HB1
      clear HB1 HY1 HY hs
      go_wp2_with fail
      obtain ⟨v0, rfl⟩ : ∃ v0 : World, v0 = w1 := ⟨_, rfl⟩
      rw [Hn.out]
      refine (of_ok A c1 xs v0 (HX.out.below HB3.out) (by have := Hn.out; omega)).mono ?_
      rintro e v1 ⟨g1, gs1, gw1, rfl, hv, hg, hgs, hgw, hb2⟩
      rw [← Hn.out] at hv ⊢
      obtain ⟨f, hf⟩ : ∃ f : Nat → Bool, f = fun i => xs.getD i false := ⟨_, rfl⟩
      rw [← hf] at hv
      have HF1 : Hid (∀ i, n ≤ i → f i = false) := hid (by rw [hf]; exact HF.out)
      have Hf := hid hf
      have HV1 := hid hv
      have HB4 := hid (HB3.out.trans (hb2.mono HB3.out.size))
      have HL1 := hid (And.intro hv.self.lt (And.intro hv.sums.lt hv.words.lt))
      clear hv hb2 hg hgs hgw HB3 hf
      go_wp2_with fail
      refine (bytes_any HV1.out).mono ?_
      rintro e v2 ⟨rfl, hby⟩
      have HV2 := hid (HV1.out.same hby.out.2.2)
      have HB5 := hid (Below.only HB4.out hby.out.2.2 (fun _ h => h.elim) HB4.out.size)
      have HL2 := hid (And.intro HV2.out.self.lt (And.intro HV2.out.sums.lt HV2.out.words.lt))
      have HRd := hid (read_bytes (w := w) (n := n) (by omega) HF1.out hby.out rfl)
      clear hby HV1 HB4 HL1
      go_wp2_with fail
      refine HRd.out.mono ?_
      rintro e v3 ⟨g2, gs2, gw2, rfl, hv, hg, hgs, hgw, hb2⟩
      have HW3 := hid hv
      have HV3 := hid (HV2.out.below' hb2)
      have HB6 := hid (HB5.out.trans (hb2.mono HB5.out.size))
      have HD : Hid (w.heap.size ≤ g2 ∧ w.heap.size ≤ gs2 ∧ w.heap.size ≤ gw2 ∧ g1 < g2 ∧ g1 < gs2 ∧ g1 < gw2 ∧ gs1 < g2 ∧ gs1 < gs2 ∧ gs1 < gw2 ∧ gw1 < g2 ∧ gw1 < gs2 ∧ gw1 < gw2) := hid (by have h1 := HL2.out; have h2 := HB5.out.size; omega)
      clear hv hb2 hg hgs hgw HL2 HV2 HB5 HRd
      go_wp2_with fail
      refine (bytes_any HW3.out).mono ?_
      rintro e v4 ⟨rfl, hby⟩
      have HW4 := hid (HW3.out.same hby.out.2.2)
      have HV4 := hid (HV3.out.same hby.out.2.2)
      have HB7 := hid (Below.only HB6.out hby.out.2.2 (fun _ h => h.elim) HB6.out.size)
      have HY1 := hid (bytesL_rd hby.out)
      clear hby HW3 HV3 HB6
      go_wp2_with fail
      refine (bytes_any HV4.out).mono ?_
      rintro e v5 ⟨rfl, hby⟩
      have HW5 := hid (HW4.out.same hby.out.2.2)
      have HV5 := hid (HV4.out.same hby.out.2.2)
      have HB8 := hid (Below.only HB7.out hby.out.2.2 (fun _ h => h.elim) HB7.out.size)
      have HSm := hid (sameBytes_two (w1 := w) (w2 := w) (HY1.out.only hby.out.2.2 (fun _ _ _ => no_)) (bytesL_rd hby.out) (by omega) rfl rfl)
      clear hby HW4 HV4 HB7 HY1
      go_wp2_with fail
      refine HSm.out.mono ?_
      rintro e v6 ⟨rfl, ho⟩
      have HW6 := hid (HW5.out.same (quiet_only ho))
      have HV6 := hid (HV5.out.same (quiet_only ho))
      have HB9 := hid (Below.only HB8.out (quiet_only ho) (fun _ h => h.elim) HB8.out.size)
      clear ho HW5 HV5 HB8 HSm
      go_wp2_with fail
      refine (ones_any HW6.out).mono ?_
      rintro e v7 ⟨rfl, rfl⟩
      go_wp2_with fail
      refine (ones_any HV6.out).mono ?_
      rintro e v7 ⟨rfl, rfl⟩
      have hC0 := HV6.out.ones_le n
      obtain ⟨T, hT⟩ : ∃ T, T = C (cf f) n := ⟨_, rfl⟩
      rw [← hT] at hC0 ⊢
      have HTt := hid hT
      clear hT
      by_cases hn0 : n = 0
      · subst hn0
        go_wp2_with fail
        go_ret
        exact ⟨rfl, HB9⟩
      · have hn1 : ((n : Int) == 0) = false := by rw [beq_eq_false_iff_ne]; omega
        have hnp : 1 ≤ (n : Int) := by omega
        clear hn0
        go_wp2_with fail
        refine (pick_any at_ n _ hnp (by omega) ha1 ha2).mono ?_
        rintro e v7 ⟨k, rfl, hkn, rfl⟩
        clear hn1 hnp
        have hk : k < n := by omega
        obtain ⟨b, off, hAe, hcw⟩ := (HX.out.below HB9.out) k (by rw [← Hn.out]; exact hk)
        have hc := hcw k (by rw [← Hn.out]; exact hk)
        clear hcw
        subst hAe
        obtain ⟨v, hv⟩ : ∃ v, v = xs.getD k false := ⟨_, rfl⟩
        rw [← hv] at hc
        have Hfv : Hid (f k = v) := hid (by rw [Hf.out, hv])
        have Hgo : Hid (∀ b1, b1 = (!v) → Calls Tryd.prog 14 #[.pointer (some ⟨g2, 0, none⟩), .bool b1, .slice (some ⟨v6.heap.size, 0, none⟩) 1 1] (v6.alloc (Obj.cells #[.int .i64 (k : Int)] 3)) fun e w' => e = .returned (.int .i64 0) ∧ Hid (SetI v6 g2 gs2 gw2 n (flip f k) w')) := hid fun b1 hb1 => by
          have h1 := HW6.out.self.lt
          have h2 := HW6.out.sums.lt
          have h3 := HW6.out.words.lt
          have ho : Only (fun _ => False) v6 (v6.alloc (Obj.cells #[.int .i64 (k : Int)] 3)) := (Only.refl _ v6).alloc _
          have hs := set_ok (HW6.out.same ho) b1 (some ⟨v6.heap.size, 0, none⟩) 1 [(k : Int)] (RdI_one v6 _ _) (by simp) (by simp [bad]; omega) (fun b off e => by injection e with e; injection e with e; omega)
          refine hs.mono fun e w' ⟨he, hi⟩ => ⟨he, hid ?_⟩
          have hfs : fset f b1 [(k : Int)] = flip f k := by
            show setf f b1 ((k : Int)).toNat = flip f k
            rw [Int.toNat_natCast]
            exact setf_flip (by rw [Hfv.out, hb1]; cases v <;> simp)
          have h := hi.out
          rw [hfs] at h
          exact ⟨h.1, (ho.mono fun _ _ h => h.elim).trans h.2⟩
        obtain ⟨dz, hdz, hdc, _⟩ := flip_sums f k n hk
        rw [← HTt.out] at hdc
        rw [Hfv.out] at hdz
        have HC2 : Hid (∀ z : Int, z = dz → ((C (cf (flip f k)) n : Nat) : Int) = (T : Int) + z) := hid fun z hz => by rw [hz]; exact hdc.symm
        have Hdz := hid hdz
        clear hdz hdc hv
        have hT0 : dz = 1 ∨ dz = -1 := by have := Hdz.out; cases v <;> simp_all
        cases v
        all_goals
          go_wp2_with fail
          refine (Hgo.out _ rfl).mono ?_
          rintro e v8 ⟨rfl, hst⟩
          have HW7 := hid hst.out.1
          have HV7 := hid (HV6.out.only hst.out.2 (by have := HD.out; omega) (by have := HD.out; omega) (by have := HD.out; omega))
          have HB10 := hid (Below.only HB9.out hst.out.2 (fun k hk => by have := HD.out; omega) HB9.out.size)
          clear hst Hgo HB9
          go_wp2_with fail
          refine (ones_any HW7.out).mono ?_
          rintro e v9 ⟨rfl, rfl⟩
          rw [HC2.out _ (by have := Hdz.out; first | exact this.symm | simpa using this.symm)]
          go_wp2_with fail
          refine (ones_any HV7.out).mono ?_
          rintro e v9 ⟨rfl, rfl⟩
          rw [← HTt.out]
          go_wp2_with fail
          go_loop [17] (fun s => ∃ i : Nat, i ≤ n ∧ s = .int .i64 i) (fun s => n - (intOf s).toNat)
          case atStart => exact ⟨0, by omega, rfl⟩
          case round =>
            obtain ⟨i, hi, rfl⟩ := hrel
            by_cases hp : i < n
            · by_cases hik : i = k
              · subst hik
                have hb1 : flip f i i = !f i := by simp [flip]
                have hie : ((i : Int) == (i : Int)) = true := beq_self_eq_true _
                obtain ⟨b2, hb2⟩ : ∃ b2, b2 = f i := ⟨_, rfl⟩
                rw [← hb2] at hb1
                have HG1 := hid (get_nat HW7.out i (!b2) hb1)
                have HG2 := hid (get_nat HV7.out i b2 hb2.symm)
                clear hb1 hb2
                cases b2
                all_goals
                  go_wp2_with fail
                  refine HG1.out.mono ?_
                  rintro e v9 ⟨rfl, rfl⟩
                  go_wp2_with fail
                  refine HG2.out.mono ?_
                  rintro e v9 ⟨rfl, rfl⟩
                  go_wp2_with fail
                  go_round
                  case rel => exact ⟨i + 1, by omega, by go_num⟩
                  case measure => simp [intOf]; omega
              · have hb1 : flip f k i = f i := by simp [flip, hik]
                have hie : ((i : Int) == (k : Int)) = false := by rw [beq_eq_false_iff_ne]; omega
                obtain ⟨b2, hb2⟩ : ∃ b2, b2 = f i := ⟨_, rfl⟩
                rw [← hb2] at hb1
                have HG1 := hid (get_nat HW7.out i b2 hb1)
                have HG2 := hid (get_nat HV7.out i b2 hb2.symm)
                clear hb1 hb2 hik
                cases b2
                all_goals
                  go_wp2_with fail
                  refine HG1.out.mono ?_
                  rintro e v9 ⟨rfl, rfl⟩
                  go_wp2_with fail
                  refine HG2.out.mono ?_
                  rintro e v9 ⟨rfl, rfl⟩
                  go_wp2_with fail
                  go_round
                  case rel => exact ⟨i + 1, by omega, by go_num⟩
                  case measure => simp [intOf]; omega
            · obtain rfl : i = n := by omega
              go_wp2_with fail
              go_ret
              exact ⟨rfl, HB10⟩
end Go.Proofs.YtneipjocimcmnaaDoor
