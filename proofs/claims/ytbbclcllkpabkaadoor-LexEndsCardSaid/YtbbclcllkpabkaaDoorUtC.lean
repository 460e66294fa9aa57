/- The document's answers: Is, Raw, Bytes, in, first, letter, alpha, digit. -/
import Derived.Test.YtbbclcllkpabkaaDoorUt8
namespace Go.Proofs.YtbbclcllkpabkaaDoor
open Go.RowKit U G

theorem isZ_cases (z : Int) : isZ z = (decide (0 ≤ z) && (decide (z ≤ 1114111) && (decide (z < 55296) || decide (57343 < z)))) := by
  rw [Bool.eq_iff_iff]
  unfold isZ
  simp only [inZ_cons, inZ_nil, Bool.or_eq_true, Bool.and_eq_true, decide_eq_true_eq, Bool.false_eq_true, or_false]
  omega
set_option maxHeartbeats 1000000 in
theorem refIs_any (z : Int) (w : World) : Calls Tryd.prog 47 #[.int .i64 z] w fun e w' => e = .returned (.bool (isZ z)) ∧ w = w' := by
  have hz := isZ_cases z
  by_cases h1 : 0 ≤ z
  · by_cases h2 : z ≤ 1114111
    · by_cases h3 : z < 55296
      · have HF : Hid (isZ z = true) := hid (by rw [hz]; simp [h1, h2, h3])
        clear hz
        go_enter Tryd.func47, Tryd.ntmps47
        go_wp2
        go_ret
        exact ⟨by rw [HF.out]; rfl, rfl⟩
      · by_cases h4 : 57343 < z
        · have HF : Hid (isZ z = true) := hid (by rw [hz]; simp [h1, h2, h4])
          clear hz
          go_enter Tryd.func47, Tryd.ntmps47
          go_wp2
          go_ret
          exact ⟨by rw [HF.out]; first | rfl | (apply ret_bool; simp [h4]), rfl⟩
        · have HF : Hid (isZ z = false) := hid (by rw [hz, decide_eq_false h3, decide_eq_false h4]; simp)
          clear hz
          go_enter Tryd.func47, Tryd.ntmps47
          go_wp2
          go_ret
          exact ⟨by rw [HF.out]; first | rfl | (apply ret_bool; simp; omega), rfl⟩
    · have HF : Hid (isZ z = false) := hid (by rw [hz, decide_eq_false h2]; simp)
      clear hz
      go_enter Tryd.func47, Tryd.ntmps47
      go_wp2
      go_ret
      exact ⟨by rw [HF.out]; first | rfl | (apply ret_bool; simp; omega), rfl⟩
  · have HF : Hid (isZ z = false) := hid (by rw [hz, decide_eq_false h1]; simp)
    clear hz
    go_enter Tryd.func47, Tryd.ntmps47
    go_wp2
    go_ret
    exact ⟨by rw [HF.out]; first | rfl | (apply ret_bool; simp; omega), rfl⟩
theorem bad_get : ∀ k : Fin 9, ((badS[k.val]'k.isLt).toNat : Int) = ((badL.getD k.val 0 : Nat) : Int) := by decide
theorem badAny_drop (z : Int) {k : Nat} (h : k < 9) : (badL.drop k).any (fun b => decide (z = (b : Int))) = (decide (z = ((badL.getD k 0 : Nat) : Int)) || (badL.drop (k + 1)).any fun b => decide (z = (b : Int))) := by
  have h' : k < badL.length := h
  have e : badL.getD k 0 = badL[k] := by simp [List.getD, h']
  rw [e, ← List.any_cons (f := fun b => decide (z = ((b : Nat) : Int))), ← List.drop_eq_getElem_cons h']
set_option maxHeartbeats 1000000 in
theorem refRaw_any (z : Int) (w : World) : Calls Tryd.prog 50 #[.int .i64 z] w fun e w' => e = .returned (.bool (rawZ z)) ∧ StU w w' := by
  have HI := hid (refIs_any z)
  go_enter Tryd.func50, Tryd.ntmps50
  go_wp2_with fail
  go_loopw [4] (fun s wr => ∃ k : Nat, k ≤ 9 ∧ s = .int .i64 (k : Int) ∧ StU w wr ∧ Hid ((badL.any fun b => decide (z = (b : Int))) = (badL.drop k).any fun b => decide (z = (b : Int)))) (fun s _ => 9 - (intOf s).toNat)
  case atStart => exact ⟨0, by omega, rfl, hid (Only.refl _ _), hid rfl⟩
  case round =>
    obtain ⟨k, hk, rfl, HO, HB⟩ := hrel
    by_cases hp : k < 9
    · have hp' : (k : Int) < 9 := by omega
      have hb9 : badS.size = 9 := rfl
      have hks : k < badS.size := hp
      obtain ⟨x, hx⟩ : ∃ x, badS[k]'hks = x := ⟨_, rfl⟩
      have hxv := bad_get ⟨k, hp⟩
      simp only at hxv
      have hx2 : (badS[k]'hp) = x := hx
      rw [hx2] at hxv
      have hst := badAny_drop z hp
      rw [← hxv] at hst
      have hx8 := x.toNat_lt
      have hw : IntKind.i64.wrap ((x.toNat : Nat) : Int) = ((x.toNat : Nat) : Int) := by rw [IntKind.wrap_i64]; omega
      by_cases he : z = ((x.toNat : Nat) : Int)
      · have HF : Hid (rawZ z = false) := hid (by unfold rawZ; rw [HB.out, hst, decide_eq_true he]; simp)
        have he2 : (z == ((x.toNat : Nat) : Int)) = true := by rw [beq_iff_eq]; exact he
        clear hst hxv hx2 HB
        go_wp2_with fail
        go_ret
        exact ⟨by rw [HF.out]; rfl, HO⟩
      · have HB2 : Hid ((badL.any fun b => decide (z = (b : Int))) = (badL.drop (k + 1)).any fun b => decide (z = (b : Int))) := hid (by rw [HB.out, hst, decide_eq_false he]; simp)
        have he2 : (z == ((x.toNat : Nat) : Int)) = false := by rw [beq_eq_false_iff_ne]; exact he
        clear hst hxv hx2 HB
        go_wp2_with fail
        go_roundw
        case rel => exact ⟨k + 1, by omega, by go_num, HO, HB2⟩
        case measure => simp [intOf]; omega
    · obtain rfl : k = 9 := by omega
      have HF : Hid (rawZ z = (isZ z && decide (32 < z))) := hid (by unfold rawZ; rw [HB.out]; rfl)
      clear HB
      have hz : isZ z = true ∨ isZ z = false := by cases isZ z <;> simp
      rcases hz with hz | hz
      · rw [hz] at HI HF
        by_cases h : 32 < z
        · go_wp2_with (go_at_call 47; refine (HI.out _).mono ?_; rintro e w2 ⟨rfl, rfl⟩)
          go_ret
          exact ⟨by rw [HF.out]; first | rfl | (apply ret_bool; simp [h]), HO⟩
        · go_wp2_with (go_at_call 47; refine (HI.out _).mono ?_; rintro e w2 ⟨rfl, rfl⟩)
          go_ret
          exact ⟨by rw [HF.out]; first | rfl | (apply ret_bool; simp; omega) | (apply ret_bool; simp [h]), HO⟩
      · rw [hz] at HI HF
        go_wp2_with (go_at_call 47; refine (HI.out _).mono ?_; rintro e w2 ⟨rfl, rfl⟩)
        go_ret
        exact ⟨by rw [HF.out]; rfl, HO⟩
/-- A new row of a sign's bytes. -/
def BytesE (w : World) (l : List Nat) (e : Ending) (w' : World) : Prop := ∃ g, e = .returned (.slice (some ⟨g, 0, none⟩) l.length l.length) ∧ Hid (w'.rowIs g 5 l.length (vY l) ∧ Only (fun _ => False) w w' ∧ w.heap.size ≤ g)
theorem rows_new (w : World) (l : List Nat) : (w.alloc (.cells (l.map fun n : Nat => Value.int .u8 (n : Int)).toArray 5)).rowIs w.heap.size 5 l.length (vY l) := by
  have := World.rowIs_alloc w (l.map fun n : Nat => Value.int .u8 (n : Int)).toArray 5 (vY l) (fun i hi => by
    have h : i < l.length := by simpa using hi
    simp [vY, List.getD, h])
  simpa using this
theorem u8w (x : Nat) (h : x < 256) : IntKind.u8.wrap (x : Int) = (x : Int) := by rw [IntKind.wrap_u8]; omega
set_option maxHeartbeats 2000000 in
theorem refBytes_any {n : Nat} (h : sgn n) (w : World) : Calls Tryd.prog 48 #[.int .i64 (n : Int)] w (BytesE w (encN n)) := by
  have hn : n ≤ 1114111 := by unfold sgn at h; omega
  have HR := hid (rows_new w (encN n))
  have HE : Hid (encN n = if n ≤ 127 then [n] else if n ≤ 2047 then [192 + n / 64, 128 + n % 64] else if n ≤ 65535 then [224 + n / 4096, 128 + n / 64 % 64, 128 + n % 64] else [240 + n / 262144, 128 + n / 4096 % 64, 128 + n / 64 % 64, 128 + n % 64]) := hid rfl
  clear h
  by_cases h1 : n ≤ 127
  · rw [if_pos h1] at HE
    rw [HE.out] at HR ⊢
    have h1' : (n : Int) ≤ 127 := by omega
    have a1 : IntKind.u8.wrap (n : Int) = (n : Int) := u8w n (by omega)
    clear HE
    go_enter Tryd.func48, Tryd.ntmps48
    go_wp2
    go_ret
    exact ⟨w.heap.size, rfl, hid ⟨HR.out, (Only.refl _ w).alloc _, Nat.le_refl _⟩⟩
  · have h1' : ¬ (n : Int) ≤ 127 := by omega
    rw [if_neg h1] at HE
    by_cases h2 : n ≤ 2047
    · rw [if_pos h2] at HE
      rw [HE.out] at HR ⊢
      have h2' : (n : Int) ≤ 2047 := by omega
      clear HE
      go_enter Tryd.func48, Tryd.ntmps48
      go_wp2
      go_ret
      exact ⟨w.heap.size, rfl, hid ⟨by simpa using HR.out, (Only.refl _ w).alloc _, Nat.le_refl _⟩⟩
    · have h2' : ¬ (n : Int) ≤ 2047 := by omega
      rw [if_neg h2] at HE
      by_cases h3 : n ≤ 65535
      · rw [if_pos h3] at HE
        rw [HE.out] at HR ⊢
        have h3' : (n : Int) ≤ 65535 := by omega
        clear HE
        go_enter Tryd.func48, Tryd.ntmps48
        go_wp2
        go_ret
        exact ⟨w.heap.size, rfl, hid ⟨by simpa using HR.out, (Only.refl _ w).alloc _, Nat.le_refl _⟩⟩
      · rw [if_neg h3] at HE
        rw [HE.out] at HR ⊢
        have h3' : ¬ (n : Int) ≤ 65535 := by omega
        clear HE
        go_enter Tryd.func48, Tryd.ntmps48
        go_wp2
        go_ret
        exact ⟨w.heap.size, rfl, hid ⟨by simpa using HR.out, (Only.refl _ w).alloc _, Nat.le_refl _⟩⟩
/-- A slice of numbers that reads as ranges, two by two. -/
def flatI (rs : List (Int × Int)) : List Int := rs.flatMap fun r => [r.1, r.2]
theorem flatI_len : ∀ rs : List (Int × Int), (flatI rs).length = rs.length * 2
  | [] => rfl
  | r :: rs => by
    have := flatI_len rs
    have e : flatI (r :: rs) = r.1 :: r.2 :: flatI rs := by simp [flatI]
    rw [e, List.length_cons, List.length_cons, List.length_cons]
    omega
theorem flatI_get : ∀ (rs : List (Int × Int)) (j : Nat), j < rs.length → (flatI rs).getD (j * 2) 0 = (rs.getD j (0, 0)).1 ∧ (flatI rs).getD (j * 2 + 1) 0 = (rs.getD j (0, 0)).2
  | [], _, h => absurd h (Nat.not_lt_zero _)
  | r :: rs, 0, _ => by simp [flatI]
  | r :: rs, j + 1, h => by
    have := flatI_get rs j (by simpa using h)
    have e : flatI (r :: rs) = r.1 :: r.2 :: flatI rs := by simp [flatI]
    rw [e, show (j + 1) * 2 = j * 2 + 1 + 1 by omega]
    simpa using this
theorem rdI_new (w : World) (zs : List Int) (cs : Array Value) (h : cs.toList = zs.map fun z => Value.int .i64 z) : RdI (w.alloc (.cells cs 3)) (some ⟨w.heap.size, 0, none⟩) zs := by
  have hl : cs.size = zs.length := by rw [← Array.length_toList, h]; simp
  have hr := World.rowIs_alloc w cs 3 (vI zs) (fun i hi => by
    have h2 : i < zs.length := by rw [← hl]; exact hi
    have h3 : cs.toList[i]? = (zs.map fun z => Value.int .i64 z)[i]? := by rw [h]
    have h4 : cs[i]? = (zs.map fun z => Value.int .i64 z)[i]? := by rw [← h3, Array.getElem?_toList]
    rw [h4]
    simp [vI, List.getD, h2])
  rw [hl] at hr
  exact RdV.of_row hr
set_option maxHeartbeats 1000000 in
theorem refIn_any {A : Option Addr} {n c : Nat} {rs : List (Int × Int)} {z : Int} {w : World} (hr : RdI w A (flatI rs)) (hn : n = rs.length * 2) (hl : n ≤ 1000) :
    Calls Tryd.prog 52 #[.int .i64 z, .slice A n c] w fun e w' => e = .returned (.bool (inZ rs z)) ∧ w = w' := by
  have HR : Hid (∀ k, k < rs.length → ∃ b off, A = some ⟨b, off, none⟩ ∧ w.cell? ⟨b, off + k * 2, none⟩ = some (.int .i64 (rs.getD k (0, 0)).1) ∧ w.cell? ⟨b, off + (k * 2 + 1), none⟩ = some (.int .i64 (rs.getD k (0, 0)).2)) := hid fun k hk => by
    obtain ⟨g1, g2⟩ := flatI_get rs k hk
    obtain ⟨b, off, e, h1, _⟩ := hr.at (k := k * 2) (by rw [flatI_len]; omega)
    obtain ⟨b2, off2, e2, h2, _⟩ := hr.at (k := k * 2 + 1) (by rw [flatI_len]; omega)
    rw [e] at e2
    injection e2 with e2
    injection e2 with q1 q2 _
    subst q1
    subst q2
    exact ⟨b, off, e, by rw [h1, vI, g1], by rw [h2, vI, g2]⟩
  have HS : Hid (∀ k, k < rs.length → inZ (rs.drop k) z = ((decide ((rs.getD k (0, 0)).1 ≤ z) && decide (z ≤ (rs.getD k (0, 0)).2)) || inZ (rs.drop (k + 1)) z)) := hid fun k hk => inZ_drop z hk
  have HE : Hid (inZ (rs.drop rs.length) z = false) := hid (by rw [List.drop_length]; rfl)
  have Hn := hid hn
  clear hr hn
  go_enter Tryd.func52, Tryd.ntmps52
  go_wp2_with fail
  go_loopw [5] (fun s wr => ∃ (k i : Nat), k ≤ rs.length ∧ Hid (i = k * 2) ∧ s = .int .i64 (i : Int) ∧ wr = w ∧ Hid (inZ rs z = inZ (rs.drop k) z)) (fun s _ => n - (intOf s).toNat)
  case atStart => exact ⟨0, 0, by omega, hid rfl, rfl, rfl, hid rfl⟩
  case round =>
    obtain ⟨k, i, hk, Hi, rfl, rfl, HC⟩ := hrel
    have hi4 : IntKind.i64.wrap ((i : Int) + 1) = (i : Int) + 1 := by rw [IntKind.wrap_i64]; have := Hi.out; have := Hn.out; omega
    by_cases hp : k < rs.length
    · obtain ⟨b, off, rfl, d1, d2⟩ := HR.out k hp
      have hst := HS.out k hp
      rw [← Hi.out] at d1 d2
      have hi1 : i < n := by have := Hi.out; have := Hn.out; omega
      have hi2 : i + 1 < n := by have := Hi.out; have := Hn.out; omega
      have hi3 : (i : Int) + 1 < (n : Int) := by omega
      have hi5 : IntKind.i64.wrap ((i : Int) + 2) = (i : Int) + 2 := by rw [IntKind.wrap_i64]; omega
      have hi6 : (i : Int) < (n : Int) := by omega
      have Hi2 : Hid (i + 2 = (k + 1) * 2) := hid (by have := Hi.out; omega)
      generalize (rs.getD k (0, 0)).1 = x at *
      generalize (rs.getD k (0, 0)).2 = y at *
      by_cases hx : x ≤ z
      · by_cases hy : z ≤ y
        · have HC2 : Hid (inZ rs z = true) := hid (by rw [HC.out, hst, decide_eq_true hx, decide_eq_true hy]; rfl)
          clear hst HC
          go_wp2_with fail
          go_ret
          exact ⟨by rw [HC2.out]; rfl, rfl⟩
        · have HC2 : Hid (inZ rs z = inZ (rs.drop (k + 1)) z) := hid (by rw [HC.out, hst, decide_eq_false hy]; simp)
          clear hst HC
          go_wp2_with fail
          go_roundw
          case rel => exact ⟨k + 1, i + 2, by omega, Hi2, by go_num, (by first | rfl | trivial), HC2⟩
          case measure => simp [intOf]; omega
      · have HC2 : Hid (inZ rs z = inZ (rs.drop (k + 1)) z) := hid (by rw [HC.out, hst, decide_eq_false hx]; simp)
        clear hst HC
        go_wp2_with fail
        go_roundw
        case rel => exact ⟨k + 1, i + 2, by omega, Hi2, by go_num, (by first | rfl | trivial), HC2⟩
        case measure => simp [intOf]; omega
    · have hi7 : ¬ (i : Int) + 1 < (n : Int) := by have := Hi.out; have := Hn.out; omega
      have HC2 : Hid (inZ rs z = false) := hid (by rw [HC.out, show k = rs.length by omega]; exact HE.out)
      clear HC
      go_wp2_with fail
      go_ret
      exact ⟨by rw [HC2.out]; rfl, rfl⟩
def firR : List (Int × Int) := (65, 90) :: (97, 122) :: opnR
def firZ (z : Int) : Bool := inZ firR z
theorem refFirst_any (z : Int) (w : World) : Calls Tryd.prog 51 #[.int .i64 z] w fun e w' => e = .returned (.bool (firZ z)) ∧ StU w w' := by
  go_enter Tryd.func51, Tryd.ntmps51
  go_wp2_with (go_at_call 52; refine (refIn_any (rs := firR) ?hr rfl (by decide)).mono ?_; (case hr => exact rdI_new _ _ _ rfl); rintro e w9 ⟨rfl, rfl⟩)
  go_ret
  exact ⟨rfl, hid ((Only.refl _ w).alloc _)⟩
theorem opn_first (z : Int) : opnZ z = (firZ z || inZ [(95, 95), (58, 58), (48, 57)] z) := by
  rw [Bool.eq_iff_iff]
  unfold opnZ ldZ latZ firZ firR opnR
  simp only [inZ_cons, inZ_nil, Bool.or_eq_true, Bool.and_eq_true, decide_eq_true_eq, Bool.false_eq_true, or_false]
  omega
theorem let_first (z : Int) : letZ z = (firZ z || inZ [(95, 95), (58, 58), (45, 45), (48, 57), (183, 183), (768, 879), (8255, 8256)] z) := by
  rw [Bool.eq_iff_iff]
  unfold letZ opnZ ldZ latZ firZ firR opnR
  simp only [inZ_cons, inZ_nil, Bool.or_eq_true, Bool.and_eq_true, decide_eq_true_eq, Bool.false_eq_true, or_false]
  omega
set_option maxHeartbeats 1000000 in
theorem refLetter_any (z : Int) (w : World) : Calls Tryd.prog 53 #[.int .i64 z] w fun e w' => e = .returned (.bool (letZ z)) ∧ StU w w' := by
  have HF := hid (refFirst_any z)
  have hl := let_first z
  cases hq : firZ z with
  | true =>
    rw [hq] at HF hl
    have HL : Hid (letZ z = true) := hid hl
    clear hl hq
    go_enter Tryd.func53, Tryd.ntmps53
    go_wp2_with (go_at_call 51; refine (HF.out _).mono ?_; rintro e w2 ⟨rfl, HO⟩)
    go_ret
    exact ⟨by rw [HL.out]; rfl, HO⟩
  | false =>
    rw [hq, Bool.false_or] at hl
    rw [hq] at HF
    have HL := hid hl
    clear hl hq
    go_enter Tryd.func53, Tryd.ntmps53
    go_wp2_with (first
      | (go_at_call 51; refine (HF.out _).mono ?_; rintro e w2 ⟨rfl, HO⟩)
      | (go_at_call 52; refine (refIn_any (rs := [(95, 95), (58, 58), (45, 45), (48, 57), (183, 183), (768, 879), (8255, 8256)]) ?hr rfl (by decide)).mono ?_; (case hr => exact rdI_new _ _ _ rfl); rintro e w9 ⟨rfl, rfl⟩))
    go_ret
    exact ⟨by rw [HL.out]; rfl, hid (HO.out.alloc _)⟩
set_option maxHeartbeats 1000000 in
theorem refAlpha_any (b : Nat) (w : World) : Calls Tryd.prog 54 #[.int .u8 (b : Int)] w fun e w' => e = .returned (.bool (latZ (b : Int))) ∧ w = w' := by
  have hl : latZ (b : Int) = ((decide (65 ≤ (b : Int)) && decide ((b : Int) ≤ 90)) || (decide (97 ≤ (b : Int)) && decide ((b : Int) ≤ 122))) := by simp [latZ, inZ_cons, inZ_nil]
  by_cases h1 : 65 ≤ (b : Int)
  · by_cases h2 : (b : Int) ≤ 90
    · have HL : Hid (latZ (b : Int) = true) := hid (by rw [hl, decide_eq_true h1, decide_eq_true h2]; rfl)
      clear hl
      go_enter Tryd.func54, Tryd.ntmps54
      go_wp2
      go_ret
      exact ⟨by rw [HL.out]; first | rfl | (apply ret_bool; simp [h1, h2]), rfl⟩
    · by_cases h3 : 97 ≤ (b : Int)
      · have HL : Hid (latZ (b : Int) = decide ((b : Int) ≤ 122)) := hid (by rw [hl, decide_eq_false h2, decide_eq_true h3]; simp)
        clear hl
        go_enter Tryd.func54, Tryd.ntmps54
        go_wp2
        go_ret
        exact ⟨by rw [HL.out]; first | rfl | (apply ret_bool; simp [h1, h2, h3]), rfl⟩
      · have HL : Hid (latZ (b : Int) = false) := hid (by rw [hl, decide_eq_false h2, decide_eq_false h3]; simp)
        clear hl
        go_enter Tryd.func54, Tryd.ntmps54
        go_wp2
        go_ret
        exact ⟨by rw [HL.out]; first | rfl | (apply ret_bool; simp [h1, h2, h3]) | (apply ret_bool; simp; omega), rfl⟩
  · have HL : Hid (latZ (b : Int) = false) := hid (by rw [hl, decide_eq_false h1, decide_eq_false (show ¬ (97 : Int) ≤ (b : Int) by omega)]; simp)
    clear hl
    go_enter Tryd.func54, Tryd.ntmps54
    go_wp2
    go_ret
    exact ⟨by rw [HL.out]; first | rfl | (apply ret_bool; simp; omega), rfl⟩
set_option maxHeartbeats 1000000 in
theorem refDigit_any (b : Nat) (w : World) : Calls Tryd.prog 55 #[.int .u8 (b : Int)] w fun e w' => e = .returned (.bool (inZ [(48, 57)] (b : Int))) ∧ w = w' := by
  have hl : inZ [(48, 57)] (b : Int) = (decide (48 ≤ (b : Int)) && decide ((b : Int) ≤ 57)) := by simp [inZ_cons, inZ_nil]
  by_cases h1 : 48 ≤ (b : Int)
  · have HL : Hid (inZ [(48, 57)] (b : Int) = decide ((b : Int) ≤ 57)) := hid (by rw [hl, decide_eq_true h1]; simp)
    clear hl
    go_enter Tryd.func55, Tryd.ntmps55
    go_wp2
    go_ret
    exact ⟨by rw [HL.out]; first | rfl | (apply ret_bool; simp [h1]), rfl⟩
  · have HL : Hid (inZ [(48, 57)] (b : Int) = false) := hid (by rw [hl, decide_eq_false h1]; simp)
    clear hl
    go_enter Tryd.func55, Tryd.ntmps55
    go_wp2
    go_ret
    exact ⟨by rw [HL.out]; first | rfl | (apply ret_bool; simp; omega), rfl⟩
end Go.Proofs.YtbbclcllkpabkaaDoor
