/- The document's Next, Text, Signs. -/
import Derived.Test.YtbbclcllkpabkaaDoorUtC
import Derived.Test.YtbbclcllkpabkaaDoorUtA
import Derived.Deep.Cut
import Derived.Deep.CutRange
import Derived.Deep.CutBlock
namespace Go.Proofs.YtbbclcllkpabkaaDoor
open Go.RowKit U G

/-- What is reckoned of so many bytes: the first's part, and six bits of each that follows. -/
def valN (l : List Nat) (v : Int) : Nat → Int
  | 0 => v
  | k + 1 => 64 * valN l v k + (l.getD (k + 1) 0 : Int) - 128
def headN (b : Nat) (long : Nat) : Int := if long = 2 then (b : Int) - 192 else if long = 3 then (b : Int) - 224 else if long = 4 then (b : Int) - 240 else (b : Int)
theorem valN_small {l : List Nat} (hb : Bys l) (long k : Nat) (hk : k ≤ 3) : -100000000 ≤ valN l (headN (l.getD 0 0) long) k ∧ valN l (headN (l.getD 0 0) long) k ≤ 100000000 := by
  have g0 := bys_get hb 0
  have g1 := bys_get hb 1
  have g2 := bys_get hb 2
  have g3 := bys_get hb 3
  have hv : -240 ≤ headN (l.getD 0 0) long ∧ headN (l.getD 0 0) long ≤ 255 := by
    unfold headN
    (repeat' split) <;> omega
  generalize headN (l.getD 0 0) long = v at *
  match k, hk with
  | 0, _ => exact ⟨by show _ ≤ v; omega, by show v ≤ _; omega⟩
  | 1, _ => simp only [valN, Nat.zero_add]; omega
  | 2, _ => simp only [valN, Nat.zero_add, Nat.reduceAdd]; omega
  | 3, _ => simp only [valN, Nat.zero_add, Nat.reduceAdd]; omega
theorem valN_hit {l : List Nat} (hb : Bys l) {m long : Nat} (h : nxt l = (m, long)) (h0 : long ≠ 0) : valN l (headN (l.getD 0 0) long) (long - 1) = (m : Int) := by
  obtain ⟨h1, h2, h3⟩ := nxt_of hb (by rw [h]; exact h0)
  rw [h] at h1 h2 h3
  simp only at h1 h2 h3
  unfold sgn at h1
  unfold encN at h2 h3
  by_cases c1 : m ≤ 127
  · rw [if_pos c1] at h2 h3
    have h2 : long = 1 := h2
    subst h2
    rw [h3]
    rfl
  · by_cases c2 : m ≤ 2047
    · rw [if_neg c1, if_pos c2] at h2 h3
      have h2 : long = 2 := h2
      subst h2
      rw [h3]
      simp [valN, headN]
      omega
    · by_cases c3 : m ≤ 65535
      · rw [if_neg c1, if_neg c2, if_pos c3] at h2 h3
        have h2 : long = 3 := h2
        subst h2
        rw [h3]
        simp [valN, headN]
        omega
      · rw [if_neg c1, if_neg c2, if_neg c3] at h2 h3
        have h2 : long = 4 := h2
        subst h2
        rw [h3]
        simp [valN, headN]
        omega
theorem nxt_take {l : List Nat} {m long : Nat} (hm : sgn m) (h : l.take long = encN m) (hl : long ≤ l.length) : nxt l = (m, long) := by
  have e : l = encN m ++ l.drop long := by rw [← h, List.take_append_drop]
  have hlen : long = (encN m).length := by rw [← h, List.length_take]; omega
  rw [e, nxt_enc hm, ← hlen]
theorem refNext_step : True := trivial
set_option maxHeartbeats 4000000 in
theorem refNext_any {s : ByteArray} {a : Nat} {w : World} (ha : a < s.size) (hs : s.size ≤ 900000) :
    Calls Tryd.prog 30 #[.string s, .int .i64 (a : Int)] w fun e w' => e = .returned (.tuple #[.int .i64 (((nxt ((bl s).drop a)).1 : Nat) : Int), .int .i64 (((nxt ((bl s).drop a)).2 : Nat) : Int)]) ∧ StU w w' := by
  have hb := bys_drop (bl_bys s) a
  have hle := nxt_le hb
  rw [List.length_drop, bl_len] at hle
  have hget : ∀ k, (h : a + k < s.size) → (((bl s).drop a).getD k 0) = (s[a + k]'h).toNat := fun k h => by
    rw [← bl_at h]
    simp [List.getD]
  have h4 : (nxt ((bl s).drop a)).2 ≤ 4 := by
    by_cases h : (nxt ((bl s).drop a)).2 = 0
    · omega
    · exact (nxt_num hb h).2.1
  have hz0 := nxt_zero (l := (bl s).drop a)
  have HIs := hid refIs_any
  have Hb := hid hb
  clear hb
  generalize hr : (bl s).drop a = r at *
  have Hr := hid hr
  clear hr
  go_enter Tryd.func30, Tryd.ntmps30
  go_wp2_with fail
  go_loopw [6] (fun v wr => ∃ long : Nat, v = .int .i64 (long : Int) ∧ 1 ≤ long ∧ long ≤ 5 ∧ a + long ≤ s.size + 1 ∧ StU w wr ∧ Hid ((nxt r).2 = 0 ∨ long ≤ (nxt r).2)) (fun v _ => 5 - (intOf v).toNat)
  case atStart => exact ⟨1, rfl, by omega, by omega, by omega, hid (Only.refl _ _), hid (by omega)⟩
  case round =>
    obtain ⟨long, rfl, l1, l5, l6, HO, HP⟩ := hrel
    have hw1 : IntKind.i64.wrap ((a : Int) + (long : Int)) = (a : Int) + (long : Int) := by rw [IntKind.wrap_i64]; omega
    by_cases hp : long ≤ 4 ∧ a + long ≤ s.size
    · have hp1 : (long : Int) ≤ 4 := by omega
      have hp2 : (a : Int) + (long : Int) ≤ (s.size : Int) := by omega
      have hx0 := hget 0 (by omega)
      obtain ⟨x0, hx⟩ : ∃ x0, s[a]'ha = x0 := ⟨_, rfl⟩
      have hx0 : (r.getD 0 0) = x0.toNat := by rw [hx0, ← hx]; rfl
      have hx8 := x0.toNat_lt
      have hwx : IntKind.i64.wrap ((x0.toNat : Nat) : Int) = ((x0.toNat : Nat) : Int) := by rw [IntKind.wrap_i64]; omega
      have hsm := valN_small Hb.out long
      rw [hx0] at hsm
      have Hsm := hid hsm
      have Hhit : Hid ((nxt r).2 = long → valN r (headN x0.toNat long) (long - 1) = ((nxt r).1 : Int)) := hid fun h => by
        have := valN_hit Hb.out (m := (nxt r).1) (long := long) (by rw [← h]) (by omega)
        rwa [hx0] at this
      clear hsm
      have hl4 : long = 1 ∨ long = 2 ∨ long = 3 ∨ long = 4 := by omega
      have hH1 : IntKind.i64.wrap ((x0.toNat : Int) - 192) = (x0.toNat : Int) - 192 := by rw [IntKind.wrap_i64]; omega
      have hH2 : IntKind.i64.wrap ((x0.toNat : Int) - 224) = (x0.toNat : Int) - 224 := by rw [IntKind.wrap_i64]; omega
      have hH3 : IntKind.i64.wrap ((x0.toNat : Int) - 240) = (x0.toNat : Int) - 240 := by rw [IntKind.wrap_i64]; omega
      have hhd : (long = 1 ∧ headN x0.toNat long = (x0.toNat : Int)) ∨ (long = 2 ∧ headN x0.toNat long = (x0.toNat : Int) - 192) ∨ (long = 3 ∧ headN x0.toNat long = (x0.toNat : Int) - 224) ∨ (long = 4 ∧ headN x0.toNat long = (x0.toNat : Int) - 240) := by
        rcases hl4 with h | h | h | h <;> subst h <;> simp [headN]
      generalize headN x0.toNat long = H at *
      have Hl : Hid (1 ≤ long ∧ long ≤ 4) := hid (by omega)
      go_upto_block 2 with fail
      go_cut [8] from 27 to 39 (fun v8 wx => v8 = .int .i64 H ∧ wx = wr)
      case first =>
        clear HO HP
        rcases hhd with ⟨hlg, hH⟩ | ⟨hlg, hH⟩ | ⟨hlg, hH⟩ | ⟨hlg, hH⟩
        · have q2 : ((long : Int) == 2) = false := by rw [beq_eq_false_iff_ne]; omega
          have q3 : ((long : Int) == 3) = false := by rw [beq_eq_false_iff_ne]; omega
          have q4 : ((long : Int) == 4) = false := by rw [beq_eq_false_iff_ne]; omega
          have HHv := hid hH
          clear hH hlg
          go_wp2_with fail
          go_meet
          case rel => exact ⟨by rw [HHv.out], rfl⟩
        · have q2 : ((long : Int) == 2) = true := by rw [beq_iff_eq]; omega
          have q3 : ((long : Int) == 3) = false := by rw [beq_eq_false_iff_ne]; omega
          have q4 : ((long : Int) == 4) = false := by rw [beq_eq_false_iff_ne]; omega
          have HHv := hid hH
          clear hH hlg
          go_wp2_with fail
          go_meet
          case rel => exact ⟨by rw [HHv.out], rfl⟩
        · have q2 : ((long : Int) == 2) = false := by rw [beq_eq_false_iff_ne]; omega
          have q3 : ((long : Int) == 3) = true := by rw [beq_iff_eq]; omega
          have q4 : ((long : Int) == 4) = false := by rw [beq_eq_false_iff_ne]; omega
          have HHv := hid hH
          clear hH hlg
          go_wp2_with fail
          go_meet
          case rel => exact ⟨by rw [HHv.out], rfl⟩
        · have q2 : ((long : Int) == 2) = false := by rw [beq_eq_false_iff_ne]; omega
          have q3 : ((long : Int) == 3) = false := by rw [beq_eq_false_iff_ne]; omega
          have q4 : ((long : Int) == 4) = true := by rw [beq_iff_eq]; omega
          have HHv := hid hH
          clear hH hlg
          go_wp2_with fail
          go_meet
          case rel => exact ⟨by rw [HHv.out], rfl⟩
      case rest =>
        obtain ⟨rfl, hwc⟩ := hcut
        have hwc' := hwc.symm
        subst hwc'
        clear hwc
        clear hhd hH1 hH2 hH3 hwx
        have HHe : Hid (valN r H 0 = H) := hid rfl
        go_wp2_with fail
        go_loopw [8, 9] (fun v8 v9 wr' => ∃ k : Nat, v9 = .int .i64 ((k + 1 : Nat) : Int) ∧ k + 1 ≤ long ∧ v8 = .int .i64 (valN r H k) ∧ wr' = wr) (fun _ v9 _ => long - (intOf v9).toNat)
        case atStart => exact ⟨0, rfl, l1, by rw [HHe.out], rfl⟩
        case round =>
          obtain ⟨k, rfl, hk, rfl, rfl⟩ := hrel
          clear HHe
          obtain ⟨j, hj⟩ : ∃ j : Nat, j = k + 1 := ⟨_, rfl⟩
          rw [← hj] at hk ⊢
          by_cases hjl : j < long
          · have hjl' : (j : Int) < (long : Int) := by omega
            have hin : a + j < s.size := by omega
            have hg := hget j hin
            obtain ⟨x, hx⟩ : ∃ x, s[a + j]'hin = x := ⟨_, rfl⟩
            rw [hx] at hg
            have hx9 := x.toNat_lt
            have hsm := Hsm.out k (by have := Hl.out; omega)
            have hval : valN r H j = 64 * valN r H k + ((x.toNat : Nat) : Int) - 128 := by rw [hj, ← hg, hj]; rfl
            have Hval := hid hval
            have Hj := hid hj
            generalize valN r H k = V at *
            have haj : IntKind.i64.wrap ((a : Int) + (j : Int)) = ((a + j : Nat) : Int) := by rw [IntKind.wrap_i64]; omega
            have u1 : IntKind.i64.wrap (64 * V) = 64 * V := by rw [IntKind.wrap_i64]; omega
            have u2 : IntKind.i64.wrap ((x.toNat : Nat) : Int) = ((x.toNat : Nat) : Int) := by rw [IntKind.wrap_i64]; omega
            have u3 : IntKind.i64.wrap (64 * V + ((x.toNat : Nat) : Int)) = 64 * V + ((x.toNat : Nat) : Int) := by rw [IntKind.wrap_i64]; omega
            have u4 : IntKind.i64.wrap (64 * V + ((x.toNat : Nat) : Int) - 128) = 64 * V + ((x.toNat : Nat) : Int) - 128 := by rw [IntKind.wrap_i64]; omega
            have u5 : IntKind.i64.wrap ((j : Int) + 1) = ((j + 1 : Nat) : Int) := by rw [IntKind.wrap_i64]; omega
            clear hval hj hg hsm
            go_wp2_with fail
            go_roundw
            case rel => exact ⟨j, by go_num, by omega, by rw [Hval.out], (by first | rfl | trivial)⟩
            case measure => simp [intOf]; omega
          · have hjl' : ¬ (j : Int) < (long : Int) := by omega
            have HV : Hid (valN r H k = valN r H (long - 1)) := hid (by congr 1; omega)
            clear hj
            cases hz : isZ (valN r H k) with
            | false =>
              have HIf : Hid (∀ W, Calls Tryd.prog 47 #[.int .i64 (valN r H k)] W fun e w' => e = .returned (.bool false) ∧ W = w') := hid fun W => by
                have := HIs.out (valN r H k) W
                rwa [hz] at this
              have HP2 : Hid ((nxt r).2 = 0 ∨ long + 1 ≤ (nxt r).2) := hid (by
                rcases HP.out with h | h
                · exact .inl h
                · by_cases e : (nxt r).2 = long
                  · have h2 := Hhit.out e
                    rw [← HV.out] at h2
                    have h3 := nxt_of Hb.out (show (nxt r).2 ≠ 0 by omega)
                    have h4 : isZ (valN r H k) = true := (isZ_iff _).2 ⟨by rw [h2]; omega, by rw [h2]; simpa using h3.1⟩
                    rw [hz] at h4
                    cases h4
                  · right; omega)
              clear hz
              generalize valN r H k = V at *
              go_wp2_with fail
              go_quiet ((go_at_call 47; exact quiet_left (HIf.out _)))
              have HO2 : StU w (wr.drewN nq) := hid (HO.out.drewN _)
              generalize wr.drewN nq = w2 at HO2 ⊢
              clear HO
              go_wp2_with fail
              go_roundw
              case rel => exact ⟨long + 1, by go_num, by omega, by omega, by omega, HO2, HP2⟩
              case measure => simp [intOf]; omega
            | true =>
              obtain ⟨hV0, hVs⟩ := (isZ_iff (valN r H k)).1 hz
              obtain ⟨m, hm⟩ : ∃ m : Nat, valN r H k = (m : Int) := ⟨(valN r H k).toNat, by omega⟩
              rw [hm] at hVs hz HV ⊢
              rw [Int.toNat_natCast] at hVs
              have HIf : Hid (∀ W, Calls Tryd.prog 47 #[.int .i64 (m : Int)] W fun e w' => e = .returned (.bool true) ∧ W = w') := hid fun W => by
                have := HIs.out (m : Int) W
                rwa [hz] at this
              have HBy := hid (fun W => refBytes_any hVs W)
              have hbe := encN_bys hVs
              have htk : bl (s.extract a (a + long)) = r.take long := by rw [bl_extract, ← Hr.out, List.drop_take]; congr 1; omega
              have Hlen : Hid ((encN m).length ≤ 4) := hid (encN_len m).2
              have hal : a ≤ a + long := by omega
              have hal2 : a + long ≤ s.size := by omega
              by_cases hS : strB (encN m) = s.extract a (a + long)
              · have hN : nxt r = (m, long) := nxt_take hVs (by rw [← htk, ← hS, bl_strB hbe]) (by rw [← Hr.out, List.length_drop, bl_len]; omega)
                have HN := hid hN
                have heq : ((strB (encN m)).toList == (s.extract a (a + long)).toList) = true := by rw [hS]; simp
                have Hcv : Hid (∀ u g, u.rowIs g 5 (encN m).length (vY (encN m)) → (convert 25 9 (.slice (some ⟨g, 0, none⟩) (encN m).length (encN m).length)).run Tryd.prog u = .ok (.string (strB (encN m))) u) := hid fun u g hu => run_convert_bytes_arg (P := Tryd.prog) u 25 5 Tryd.underlying25 Tryd.underlying5 g 0 (encN m).length (encN m).length ((encN m).map fun n : Nat => (n : Int)) (by simp) (fun i hi => by rw [Nat.zero_add, hu.cell hi]; simp [vY, List.getD, hi]) 9 Tryd.underlying9
                have hsl : ∀ W, (Instr.slice 9 (.string s) (some (.int .i64 (a : Int))) (some (.int .i64 ((a : Int) + (long : Int)))) none).run Tryd.prog W = .ok (.string (s.extract a (a + long))) W := fun W => by
                  have := run_slice_string (P := Tryd.prog) W 9 s .i64 .i64 (a : Int) ((a : Int) + (long : Int)) Tryd.underlying9 (by omega) (by omega) (by omega)
                  rw [this]
                  congr 3
                clear hS hN htk hbe hz hVs hm HV
                generalize strB (encN m) = S1 at *
                generalize s.extract a (a + long) = S2 at *
                go_wp2_with fail
                refine wp_region_noPanic ?_
                refine wp_region_held_drew (S := fun u => True ∧ StU wr u) (by kernel_rfl) (by first | exact ⟨trivial, hid (Only.refl _ _).drew⟩ | exact ⟨trivial, hid ((Only.refl _ _).drewN _)⟩) (fun hHeld => ?_)
                refine wpAnyH_take (i := 0) (oi := { dst := some 55, op := Op.move (Operand.tmp 8), type := 3, pos := "ref.go:62", after := #[], guard := none }) (v := ?v0) rfl (by kernel_rfl) (by kernel_rfl) (by kernel_rfl) (fun _ _ _ h => h) (Or.inl ⟨by rfl, ?h0⟩) (by assumption) ?r0
                case h0 => (intro w' hSw; first | (go_simp; done) | (go_simp; with_reducible rfl))
                (try simp only [Act.put, List.setIfInBounds_toArray, List.set_cons_zero, List.set_cons_succ])
                refine wpAnyH_ready (rs := [1]) (by kernel_rfl) (by simp) ?_
                refine AllReadyH.cons (o := { dst := some 56, op := Op.call { callee := Callee.value (Operand.func 47), args := #[Operand.tmp 55], argTypes := #[3] }, type := 4, pos := "ref.go:62", after := #[{ on := 0, ground := Ground.data }], guard := none }) rfl (fun K hK => ?_) AllReadyH.nil
                go_simp
                (refine (HIf.out _).mono ?_)
                rintro e w1 ⟨rfl, rfl⟩
                go_wp2_with fail
                refine hK.out _ _ (by assumption) (fun hHeld => ?_)
                clear hK K
                (try simp only [Act.put, List.setIfInBounds_toArray, List.set_cons_zero, List.set_cons_succ])
                refine wpAnyH_take (i := 2) (oi := { dst := some 57, op := Op.move (Operand.tmp 56), type := 4, pos := "ref.go:62", after := #[{ on := 1, ground := Ground.data }, { on := 1, ground := Ground.chain }], guard := none }) (v := ?v2) rfl (by kernel_rfl) (by kernel_rfl) (by kernel_rfl) (fun _ _ _ h => h) (Or.inl ⟨by rfl, ?h2⟩) (by assumption) ?r2
                case h2 => (intro w' hSw; first | (go_simp; done) | (go_simp; with_reducible rfl))
                (try simp only [Act.put, List.setIfInBounds_toArray, List.set_cons_zero, List.set_cons_succ])
                refine wpAnyH_take (i := 3) (oi := { dst := some 58, op := Op.move (Operand.tmp 8), type := 3, pos := "ref.go:62", after := #[{ on := 2, ground := Ground.guard }], guard := some (2, true) }) (v := ?v3) rfl (by kernel_rfl) (by kernel_rfl) (by kernel_rfl) (fun _ _ _ h => h) (Or.inl ⟨by rfl, ?h3⟩) (by assumption) ?r3
                case h3 => (intro w' hSw; first | (go_simp; done) | (go_simp; with_reducible rfl))
                (try simp only [Act.put, List.setIfInBounds_toArray, List.set_cons_zero, List.set_cons_succ])
                refine wpAnyH_take (i := 6) (oi := { dst := some 61, op := Op.move (Operand.tmp 0), type := 9, pos := "ref.go:62", after := #[{ on := 2, ground := Ground.guard }], guard := some (2, true) }) (v := ?v6) rfl (by kernel_rfl) (by kernel_rfl) (by kernel_rfl) (fun _ _ _ h => h) (Or.inl ⟨by rfl, ?h6⟩) (by assumption) ?r6
                case h6 => (intro w' hSw; first | (go_simp; done) | (go_simp; with_reducible rfl))
                (try simp only [Act.put, List.setIfInBounds_toArray, List.set_cons_zero, List.set_cons_succ])
                refine wpAnyH_take (i := 7) (oi := { dst := some 62, op := Op.move (Operand.tmp 1), type := 3, pos := "ref.go:62", after := #[{ on := 2, ground := Ground.guard }], guard := some (2, true) }) (v := ?v7) rfl (by kernel_rfl) (by kernel_rfl) (by kernel_rfl) (fun _ _ _ h => h) (Or.inl ⟨by rfl, ?h7⟩) (by assumption) ?r7
                case h7 => (intro w' hSw; first | (go_simp; done) | (go_simp; with_reducible rfl))
                (try simp only [Act.put, List.setIfInBounds_toArray, List.set_cons_zero, List.set_cons_succ])
                refine wpAnyH_take (i := 8) (oi := { dst := some 63, op := Op.move (Operand.tmp 1), type := 3, pos := "ref.go:62", after := #[{ on := 2, ground := Ground.guard }], guard := some (2, true) }) (v := ?v8) rfl (by kernel_rfl) (by kernel_rfl) (by kernel_rfl) (fun _ _ _ h => h) (Or.inl ⟨by rfl, ?h8⟩) (by assumption) ?r8
                case h8 => (intro w' hSw; first | (go_simp; done) | (go_simp; with_reducible rfl))
                (try simp only [Act.put, List.setIfInBounds_toArray, List.set_cons_zero, List.set_cons_succ])
                refine wpAnyH_take (i := 9) (oi := { dst := some 64, op := Op.move (Operand.tmp 6), type := 3, pos := "ref.go:62", after := #[{ on := 2, ground := Ground.guard }], guard := some (2, true) }) (v := ?v9) rfl (by kernel_rfl) (by kernel_rfl) (by kernel_rfl) (fun _ _ _ h => h) (Or.inl ⟨by rfl, ?h9⟩) (by assumption) ?r9
                case h9 => (intro w' hSw; first | (go_simp; done) | (go_simp; with_reducible rfl))
                (try simp only [Act.put, List.setIfInBounds_toArray, List.set_cons_zero, List.set_cons_succ])
                refine wpAnyH_take (i := 10) (oi := { dst := some 65, op := Op.binOp BinOp.add 3 (Operand.tmp 63) (Operand.tmp 64) 3, type := 3, pos := "ref.go:62", after := #[{ on := 8, ground := Ground.data }, { on := 9, ground := Ground.data }, { on := 2, ground := Ground.guard }], guard := some (2, true) }) (v := ?v10) rfl (by kernel_rfl) (by kernel_rfl) (by kernel_rfl) (fun _ _ _ h => h) (Or.inl ⟨by rfl, ?h10⟩) (by assumption) ?r10
                case h10 => (intro w' hSw; first | (go_simp; done) | (go_simp; with_reducible rfl))
                (try simp only [Act.put, List.setIfInBounds_toArray, List.set_cons_zero, List.set_cons_succ])
                refine wpAnyH_take (i := 11) (oi := { dst := some 66, op := Op.slice 9 (Operand.tmp 61) (some (Operand.tmp 62)) (some (Operand.tmp 65)) none, type := 9, pos := "ref.go:62", after := #[{ on := 6, ground := Ground.data }, { on := 7, ground := Ground.data }, { on := 10, ground := Ground.data }, { on := 2, ground := Ground.guard }], guard := some (2, true) }) (v := ?v11) rfl (by kernel_rfl) (by kernel_rfl) (by kernel_rfl) (fun _ _ _ h => h) (Or.inl ⟨by rfl, ?h11⟩) (by assumption) ?r11
                case h11 => (intro w' hSw; first | (go_simp; done) | (go_simp; with_reducible rfl))
                (try simp only [Act.put, List.setIfInBounds_toArray, List.set_cons_zero, List.set_cons_succ])
                refine wpAnyH_ready (rs := [4]) (by kernel_rfl) (by simp) ?_
                refine AllReadyH.cons (o := { dst := some 59, op := Op.call { callee := Callee.value (Operand.func 48), args := #[Operand.tmp 58], argTypes := #[3] }, type := 25, pos := "ref.go:62", after := #[{ on := 3, ground := Ground.data }, { on := 2, ground := Ground.chain }, { on := 2, ground := Ground.guard }], guard := some (2, true) }) rfl (fun K hK => ?_) AllReadyH.nil
                go_simp
                (refine (HBy.out _).mono ?_)
                rintro e w2 ⟨g, rfl, HB⟩
                have hcv := Hcv.out w2 g HB.out.1
                go_wp2_with fail
                refine hK.out _ _ (⟨trivial, hid ((Only.refl _ _).drew.trans HB.out.2.1)⟩) (fun hHeld => ?_)
                clear hK K
                (try simp only [Act.put, List.setIfInBounds_toArray, List.set_cons_zero, List.set_cons_succ])
                refine wpAnyH_ready (rs := [5]) (by kernel_rfl) (by simp) ?_
                refine AllReadyH.cons (o := { dst := some 60, op := Op.convert 25 9 (Operand.tmp 59), type := 9, pos := "ref.go:62", after := #[{ on := 4, ground := Ground.data }, { on := 2, ground := Ground.guard }], guard := some (2, true) }) rfl (fun K hK => ?_) AllReadyH.nil
                go_simp
                refine hK.out _ _ (⟨trivial, hid ((Only.refl _ _).drew.trans HB.out.2.1)⟩) (fun hHeld => ?_)
                clear hK K
                (try simp only [Act.put, List.setIfInBounds_toArray, List.set_cons_zero, List.set_cons_succ])
                refine wpAnyH_take (i := 12) (oi := { dst := some 67, op := Op.binOp BinOp.eql 9 (Operand.tmp 60) (Operand.tmp 66) 9, type := 4, pos := "ref.go:62", after := #[{ on := 5, ground := Ground.data }, { on := 11, ground := Ground.data }, { on := 2, ground := Ground.guard }], guard := some (2, true) }) (v := ?v12) rfl (by kernel_rfl) (by kernel_rfl) (by kernel_rfl) (fun _ _ _ h => h) (Or.inl ⟨by rfl, ?h12⟩) (by assumption) ?r12
                case h12 => (intro w' hSw; first | (go_simp; done) | (go_simp; with_reducible rfl))
                (try simp only [Act.put, List.setIfInBounds_toArray, List.set_cons_zero, List.set_cons_succ])
                refine wpAnyH_take (i := 13) (oi := { dst := some 68, op := Op.pick (Operand.tmp 57) (Operand.tmp 67) (Operand.const (Value.bool false)), type := 4, pos := "ref.go:62", after := #[{ on := 2, ground := Ground.data }, { on := 12, ground := Ground.data }], guard := none }) (v := ?v13) rfl (by kernel_rfl) (by kernel_rfl) (by kernel_rfl) (fun _ _ _ h => h) (Or.inl ⟨by rfl, ?h13⟩) (by assumption) ?r13
                case h13 => (intro w' hSw; first | (go_simp; done) | (go_simp; with_reducible rfl))
                (try simp only [Act.put, List.setIfInBounds_toArray, List.set_cons_zero, List.set_cons_succ])
                refine wpAnyH_done (by kernel_rfl) ?_ _
                refine NoPanic.normal ?_
                go_wp2_with fail
                go_ret2
                exact ⟨by rw [HN.out]; rfl, hid ((HO.out.drew).trans HB.out.2.1)⟩
              · have HP2 : Hid ((nxt r).2 = 0 ∨ long + 1 ≤ (nxt r).2) := hid (by
                  rcases HP.out with h | h
                  · exact .inl h
                  · by_cases e : (nxt r).2 = long
                    · have h2 := Hhit.out e
                      rw [← HV.out] at h2
                      have h2 : m = (nxt r).1 := by omega
                      obtain ⟨_, g2, g3⟩ := nxt_of Hb.out (show (nxt r).2 ≠ 0 by omega)
                      refine absurd ?_ hS
                      apply bl_inj
                      rw [bl_strB hbe, htk, h2, ← e]
                      generalize nxt r = p at *
                      conv => rhs; rw [g3]
                      rw [g2, List.take_left]
                    · right; omega)
                have heq : ((strB (encN m)).toList == (s.extract a (a + long)).toList) = false := by
                  rw [beq_eq_false_iff_ne]
                  intro e
                  rw [ByteArray.toList_eq, ByteArray.toList_eq] at e
                  exact hS (bl_inj (by unfold bl; rw [e]))
                have Hcv : Hid (∀ u g, u.rowIs g 5 (encN m).length (vY (encN m)) → (convert 25 9 (.slice (some ⟨g, 0, none⟩) (encN m).length (encN m).length)).run Tryd.prog u = .ok (.string (strB (encN m))) u) := hid fun u g hu => run_convert_bytes_arg (P := Tryd.prog) u 25 5 Tryd.underlying25 Tryd.underlying5 g 0 (encN m).length (encN m).length ((encN m).map fun n : Nat => (n : Int)) (by simp) (fun i hi => by rw [Nat.zero_add, hu.cell hi]; simp [vY, List.getD, hi]) 9 Tryd.underlying9
                have hsl : ∀ W, (Instr.slice 9 (.string s) (some (.int .i64 (a : Int))) (some (.int .i64 ((a : Int) + (long : Int)))) none).run Tryd.prog W = .ok (.string (s.extract a (a + long))) W := fun W => by
                  have := run_slice_string (P := Tryd.prog) W 9 s .i64 .i64 (a : Int) ((a : Int) + (long : Int)) Tryd.underlying9 (by omega) (by omega) (by omega)
                  rw [this]
                  congr 3
                clear hS htk hbe hz hVs hm HV
                generalize strB (encN m) = S1 at *
                generalize s.extract a (a + long) = S2 at *
                go_wp2_with fail
                refine wp_region_noPanic ?_
                refine wp_region_held_drew (S := fun u => True ∧ StU wr u) (by kernel_rfl) (by first | exact ⟨trivial, hid (Only.refl _ _).drew⟩ | exact ⟨trivial, hid ((Only.refl _ _).drewN _)⟩) (fun hHeld => ?_)
                refine wpAnyH_take (i := 0) (oi := { dst := some 55, op := Op.move (Operand.tmp 8), type := 3, pos := "ref.go:62", after := #[], guard := none }) (v := ?vb0) rfl (by kernel_rfl) (by kernel_rfl) (by kernel_rfl) (fun _ _ _ h => h) (Or.inl ⟨by rfl, ?hb0⟩) (by assumption) ?rb0
                case hb0 => (intro w' hSw; first | (go_simp; done) | (go_simp; with_reducible rfl))
                (try simp only [Act.put, List.setIfInBounds_toArray, List.set_cons_zero, List.set_cons_succ])
                refine wpAnyH_ready (rs := [1]) (by kernel_rfl) (by simp) ?_
                refine AllReadyH.cons (o := { dst := some 56, op := Op.call { callee := Callee.value (Operand.func 47), args := #[Operand.tmp 55], argTypes := #[3] }, type := 4, pos := "ref.go:62", after := #[{ on := 0, ground := Ground.data }], guard := none }) rfl (fun K hK => ?_) AllReadyH.nil
                go_simp
                (refine (HIf.out _).mono ?_)
                rintro e w1 ⟨rfl, rfl⟩
                go_wp2_with fail
                refine hK.out _ _ (by assumption) (fun hHeld => ?_)
                clear hK K
                (try simp only [Act.put, List.setIfInBounds_toArray, List.set_cons_zero, List.set_cons_succ])
                refine wpAnyH_take (i := 2) (oi := { dst := some 57, op := Op.move (Operand.tmp 56), type := 4, pos := "ref.go:62", after := #[{ on := 1, ground := Ground.data }, { on := 1, ground := Ground.chain }], guard := none }) (v := ?vb2) rfl (by kernel_rfl) (by kernel_rfl) (by kernel_rfl) (fun _ _ _ h => h) (Or.inl ⟨by rfl, ?hb2⟩) (by assumption) ?rb2
                case hb2 => (intro w' hSw; first | (go_simp; done) | (go_simp; with_reducible rfl))
                (try simp only [Act.put, List.setIfInBounds_toArray, List.set_cons_zero, List.set_cons_succ])
                refine wpAnyH_take (i := 3) (oi := { dst := some 58, op := Op.move (Operand.tmp 8), type := 3, pos := "ref.go:62", after := #[{ on := 2, ground := Ground.guard }], guard := some (2, true) }) (v := ?vb3) rfl (by kernel_rfl) (by kernel_rfl) (by kernel_rfl) (fun _ _ _ h => h) (Or.inl ⟨by rfl, ?hb3⟩) (by assumption) ?rb3
                case hb3 => (intro w' hSw; first | (go_simp; done) | (go_simp; with_reducible rfl))
                (try simp only [Act.put, List.setIfInBounds_toArray, List.set_cons_zero, List.set_cons_succ])
                refine wpAnyH_take (i := 6) (oi := { dst := some 61, op := Op.move (Operand.tmp 0), type := 9, pos := "ref.go:62", after := #[{ on := 2, ground := Ground.guard }], guard := some (2, true) }) (v := ?vb6) rfl (by kernel_rfl) (by kernel_rfl) (by kernel_rfl) (fun _ _ _ h => h) (Or.inl ⟨by rfl, ?hb6⟩) (by assumption) ?rb6
                case hb6 => (intro w' hSw; first | (go_simp; done) | (go_simp; with_reducible rfl))
                (try simp only [Act.put, List.setIfInBounds_toArray, List.set_cons_zero, List.set_cons_succ])
                refine wpAnyH_take (i := 7) (oi := { dst := some 62, op := Op.move (Operand.tmp 1), type := 3, pos := "ref.go:62", after := #[{ on := 2, ground := Ground.guard }], guard := some (2, true) }) (v := ?vb7) rfl (by kernel_rfl) (by kernel_rfl) (by kernel_rfl) (fun _ _ _ h => h) (Or.inl ⟨by rfl, ?hb7⟩) (by assumption) ?rb7
                case hb7 => (intro w' hSw; first | (go_simp; done) | (go_simp; with_reducible rfl))
                (try simp only [Act.put, List.setIfInBounds_toArray, List.set_cons_zero, List.set_cons_succ])
                refine wpAnyH_take (i := 8) (oi := { dst := some 63, op := Op.move (Operand.tmp 1), type := 3, pos := "ref.go:62", after := #[{ on := 2, ground := Ground.guard }], guard := some (2, true) }) (v := ?vb8) rfl (by kernel_rfl) (by kernel_rfl) (by kernel_rfl) (fun _ _ _ h => h) (Or.inl ⟨by rfl, ?hb8⟩) (by assumption) ?rb8
                case hb8 => (intro w' hSw; first | (go_simp; done) | (go_simp; with_reducible rfl))
                (try simp only [Act.put, List.setIfInBounds_toArray, List.set_cons_zero, List.set_cons_succ])
                refine wpAnyH_take (i := 9) (oi := { dst := some 64, op := Op.move (Operand.tmp 6), type := 3, pos := "ref.go:62", after := #[{ on := 2, ground := Ground.guard }], guard := some (2, true) }) (v := ?vb9) rfl (by kernel_rfl) (by kernel_rfl) (by kernel_rfl) (fun _ _ _ h => h) (Or.inl ⟨by rfl, ?hb9⟩) (by assumption) ?rb9
                case hb9 => (intro w' hSw; first | (go_simp; done) | (go_simp; with_reducible rfl))
                (try simp only [Act.put, List.setIfInBounds_toArray, List.set_cons_zero, List.set_cons_succ])
                refine wpAnyH_take (i := 10) (oi := { dst := some 65, op := Op.binOp BinOp.add 3 (Operand.tmp 63) (Operand.tmp 64) 3, type := 3, pos := "ref.go:62", after := #[{ on := 8, ground := Ground.data }, { on := 9, ground := Ground.data }, { on := 2, ground := Ground.guard }], guard := some (2, true) }) (v := ?vb10) rfl (by kernel_rfl) (by kernel_rfl) (by kernel_rfl) (fun _ _ _ h => h) (Or.inl ⟨by rfl, ?hb10⟩) (by assumption) ?rb10
                case hb10 => (intro w' hSw; first | (go_simp; done) | (go_simp; with_reducible rfl))
                (try simp only [Act.put, List.setIfInBounds_toArray, List.set_cons_zero, List.set_cons_succ])
                refine wpAnyH_take (i := 11) (oi := { dst := some 66, op := Op.slice 9 (Operand.tmp 61) (some (Operand.tmp 62)) (some (Operand.tmp 65)) none, type := 9, pos := "ref.go:62", after := #[{ on := 6, ground := Ground.data }, { on := 7, ground := Ground.data }, { on := 10, ground := Ground.data }, { on := 2, ground := Ground.guard }], guard := some (2, true) }) (v := ?vb11) rfl (by kernel_rfl) (by kernel_rfl) (by kernel_rfl) (fun _ _ _ h => h) (Or.inl ⟨by rfl, ?hb11⟩) (by assumption) ?rb11
                case hb11 => (intro w' hSw; first | (go_simp; done) | (go_simp; with_reducible rfl))
                (try simp only [Act.put, List.setIfInBounds_toArray, List.set_cons_zero, List.set_cons_succ])
                refine wpAnyH_ready (rs := [4]) (by kernel_rfl) (by simp) ?_
                refine AllReadyH.cons (o := { dst := some 59, op := Op.call { callee := Callee.value (Operand.func 48), args := #[Operand.tmp 58], argTypes := #[3] }, type := 25, pos := "ref.go:62", after := #[{ on := 3, ground := Ground.data }, { on := 2, ground := Ground.chain }, { on := 2, ground := Ground.guard }], guard := some (2, true) }) rfl (fun K hK => ?_) AllReadyH.nil
                go_simp
                (refine (HBy.out _).mono ?_)
                rintro e w2 ⟨g, rfl, HB⟩
                have hcv := Hcv.out w2 g HB.out.1
                go_wp2_with fail
                refine hK.out _ _ (⟨trivial, hid ((Only.refl _ _).drew.trans HB.out.2.1)⟩) (fun hHeld => ?_)
                clear hK K
                (try simp only [Act.put, List.setIfInBounds_toArray, List.set_cons_zero, List.set_cons_succ])
                refine wpAnyH_ready (rs := [5]) (by kernel_rfl) (by simp) ?_
                refine AllReadyH.cons (o := { dst := some 60, op := Op.convert 25 9 (Operand.tmp 59), type := 9, pos := "ref.go:62", after := #[{ on := 4, ground := Ground.data }, { on := 2, ground := Ground.guard }], guard := some (2, true) }) rfl (fun K hK => ?_) AllReadyH.nil
                go_simp
                refine hK.out _ _ (⟨trivial, hid ((Only.refl _ _).drew.trans HB.out.2.1)⟩) (fun hHeld => ?_)
                clear hK K
                (try simp only [Act.put, List.setIfInBounds_toArray, List.set_cons_zero, List.set_cons_succ])
                refine wpAnyH_take (i := 12) (oi := { dst := some 67, op := Op.binOp BinOp.eql 9 (Operand.tmp 60) (Operand.tmp 66) 9, type := 4, pos := "ref.go:62", after := #[{ on := 5, ground := Ground.data }, { on := 11, ground := Ground.data }, { on := 2, ground := Ground.guard }], guard := some (2, true) }) (v := ?vb12) rfl (by kernel_rfl) (by kernel_rfl) (by kernel_rfl) (fun _ _ _ h => h) (Or.inl ⟨by rfl, ?hb12⟩) (by assumption) ?rb12
                case hb12 => (intro w' hSw; first | (go_simp; done) | (go_simp; with_reducible rfl))
                (try simp only [Act.put, List.setIfInBounds_toArray, List.set_cons_zero, List.set_cons_succ])
                refine wpAnyH_take (i := 13) (oi := { dst := some 68, op := Op.pick (Operand.tmp 57) (Operand.tmp 67) (Operand.const (Value.bool false)), type := 4, pos := "ref.go:62", after := #[{ on := 2, ground := Ground.data }, { on := 12, ground := Ground.data }], guard := none }) (v := ?vb13) rfl (by kernel_rfl) (by kernel_rfl) (by kernel_rfl) (fun _ _ _ h => h) (Or.inl ⟨by rfl, ?hb13⟩) (by assumption) ?rb13
                case hb13 => (intro w' hSw; first | (go_simp; done) | (go_simp; with_reducible rfl))
                (try simp only [Act.put, List.setIfInBounds_toArray, List.set_cons_zero, List.set_cons_succ])
                refine wpAnyH_done (by kernel_rfl) ?_ _
                refine NoPanic.normal ?_
                go_wp2_with fail
                have HO2 : StU w w2 := hid ((HO.out.drew).trans HB.out.2.1)
                clear HO HB
                go_roundw
                case rel => exact ⟨long + 1, by go_num, by omega, by omega, by omega, HO2, HP2⟩
                case measure => simp [intOf]; omega
    · have hF : (nxt r).2 = 0 := by
        rcases HP.out with h | h
        · exact h
        · omega
      have hz := hz0 hF
      have HF := hid hz
      clear hF hz HP hz0 h4 hle
      by_cases hp4 : long ≤ 4
      · have hp1 : (long : Int) ≤ 4 := by omega
        have hp2 : ¬ (a : Int) + (long : Int) ≤ (s.size : Int) := by omega
        go_wp2_with fail
        go_ret2
        exact ⟨by rw [HF.out]; rfl, HO⟩
      · have hp1 : ¬ (long : Int) ≤ 4 := by omega
        go_wp2_with fail
        go_ret2
        exact ⟨by rw [HF.out]; rfl, HO⟩
end Go.Proofs.YtbbclcllkpabkaaDoor
