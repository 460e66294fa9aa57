/- The document's hex and escape. -/
import Derived.Test.YtbbclcllkpabkaaDoorLxD
namespace Go.Proofs.YtbbclcllkpabkaaDoor.X
open Go.RowKit U G

def hxZ (c : Nat) : Int := if hxV c < 16 then (hxV c : Int) else -1
set_option maxHeartbeats 2000000 in
theorem refHex_any {c : Nat} (hc : c < 256) (w : World) : Calls Tryd.prog 72 #[.int .u8 (c : Int)] w fun e w' => e = .returned (.int .i64 (hxZ c)) ∧ w = w' := by
  have HZ : Hid (hxZ c = if 48 ≤ c ∧ c ≤ 57 then (c : Int) - 48 else if 65 ≤ c ∧ c ≤ 70 then (c : Int) - 55 else if 97 ≤ c ∧ c ≤ 102 then (c : Int) - 87 else -1) := hid (by
    unfold hxZ hxV
    (repeat' split) <;> omega)
  rcases (by omega : (c < 48) ∨ (48 ≤ c ∧ c ≤ 57) ∨ (57 < c ∧ c < 65) ∨ (65 ≤ c ∧ c ≤ 70) ∨ (70 < c ∧ c < 97) ∨ (97 ≤ c ∧ c ≤ 102) ∨ 102 < c) with h | h | h | h | h | h | h
  · skip
    have t0 : ¬ (48 : Int) ≤ (c : Int) := by omega
    have t2 : ¬ (65 : Int) ≤ (c : Int) := by omega
    have t4 : ¬ (97 : Int) ≤ (c : Int) := by omega
    have HF : Hid (hxZ c = -1) := hid (by rw [HZ.out]; repeat' rw [if_neg (by omega)])
    clear HZ h
    go_enter Tryd.func72, Tryd.ntmps72
    go_wp2_with fail
    go_ret
    exact ⟨by rw [HF.out]; rfl, rfl⟩
  · skip
    have t0 : (48 : Int) ≤ (c : Int) := by omega
    have t1 : (c : Int) ≤ 57 := by omega
    have HF : Hid (hxZ c = (c : Int) - 48) := hid (by rw [HZ.out]; rw [if_pos (by omega)])
    have hw1 : IntKind.u8.wrap ((c : Int) - 48) = (c : Int) - 48 := by rw [IntKind.wrap_u8]; omega
    have hw2 : IntKind.i64.wrap ((c : Int) - 48) = (c : Int) - 48 := by rw [IntKind.wrap_i64]; omega
    clear HZ h
    go_enter Tryd.func72, Tryd.ntmps72
    go_wp2_with fail
    go_ret
    exact ⟨by rw [HF.out]; rfl, rfl⟩
  · skip
    have t0 : (48 : Int) ≤ (c : Int) := by omega
    have t1 : ¬ (c : Int) ≤ 57 := by omega
    have t2 : ¬ (65 : Int) ≤ (c : Int) := by omega
    have t4 : ¬ (97 : Int) ≤ (c : Int) := by omega
    have HF : Hid (hxZ c = -1) := hid (by rw [HZ.out]; repeat' rw [if_neg (by omega)])
    clear HZ h
    go_enter Tryd.func72, Tryd.ntmps72
    go_wp2_with fail
    go_ret
    exact ⟨by rw [HF.out]; rfl, rfl⟩
  · skip
    have t0 : (48 : Int) ≤ (c : Int) := by omega
    have t1 : ¬ (c : Int) ≤ 57 := by omega
    have t2 : (65 : Int) ≤ (c : Int) := by omega
    have t3 : (c : Int) ≤ 70 := by omega
    have HF : Hid (hxZ c = (c : Int) - 55) := hid (by rw [HZ.out]; rw [if_neg (by omega)]; rw [if_pos (by omega)])
    have hw1 : IntKind.u8.wrap ((c : Int) - 65) = (c : Int) - 65 := by rw [IntKind.wrap_u8]; omega
    have hw2 : IntKind.i64.wrap ((c : Int) - 65) = (c : Int) - 65 := by rw [IntKind.wrap_i64]; omega
    have hw3 : IntKind.i64.wrap ((c : Int) - 65 + 10) = (c : Int) - 55 := by rw [IntKind.wrap_i64]; omega
    clear HZ h
    go_enter Tryd.func72, Tryd.ntmps72
    go_wp2_with fail
    go_ret
    exact ⟨by rw [HF.out]; rfl, rfl⟩
  · skip
    have t0 : (48 : Int) ≤ (c : Int) := by omega
    have t1 : ¬ (c : Int) ≤ 57 := by omega
    have t2 : (65 : Int) ≤ (c : Int) := by omega
    have t3 : ¬ (c : Int) ≤ 70 := by omega
    have t4 : ¬ (97 : Int) ≤ (c : Int) := by omega
    have HF : Hid (hxZ c = -1) := hid (by rw [HZ.out]; repeat' rw [if_neg (by omega)])
    clear HZ h
    go_enter Tryd.func72, Tryd.ntmps72
    go_wp2_with fail
    go_ret
    exact ⟨by rw [HF.out]; rfl, rfl⟩
  · skip
    have t0 : (48 : Int) ≤ (c : Int) := by omega
    have t1 : ¬ (c : Int) ≤ 57 := by omega
    have t2 : (65 : Int) ≤ (c : Int) := by omega
    have t3 : ¬ (c : Int) ≤ 70 := by omega
    have t4 : (97 : Int) ≤ (c : Int) := by omega
    have t5 : (c : Int) ≤ 102 := by omega
    have HF : Hid (hxZ c = (c : Int) - 87) := hid (by rw [HZ.out]; rw [if_neg (by omega)]; rw [if_neg (by omega)]; rw [if_pos (by omega)])
    have hw1 : IntKind.u8.wrap ((c : Int) - 97) = (c : Int) - 97 := by rw [IntKind.wrap_u8]; omega
    have hw2 : IntKind.i64.wrap ((c : Int) - 97) = (c : Int) - 97 := by rw [IntKind.wrap_i64]; omega
    have hw3 : IntKind.i64.wrap ((c : Int) - 97 + 10) = (c : Int) - 87 := by rw [IntKind.wrap_i64]; omega
    clear HZ h
    go_enter Tryd.func72, Tryd.ntmps72
    go_wp2_with fail
    go_ret
    exact ⟨by rw [HF.out]; rfl, rfl⟩
  · skip
    have t0 : (48 : Int) ≤ (c : Int) := by omega
    have t1 : ¬ (c : Int) ≤ 57 := by omega
    have t2 : (65 : Int) ≤ (c : Int) := by omega
    have t3 : ¬ (c : Int) ≤ 70 := by omega
    have t4 : (97 : Int) ≤ (c : Int) := by omega
    have t5 : ¬ (c : Int) ≤ 102 := by omega
    have HF : Hid (hxZ c = -1) := hid (by rw [HZ.out]; repeat' rw [if_neg (by omega)])
    clear HZ h
    go_enter Tryd.func72, Tryd.ntmps72
    go_wp2_with fail
    go_ret
    exact ⟨by rw [HF.out]; rfl, rfl⟩
/-- An escape's sign, and how many bytes it has, with its \. -/
def escD (lit : Bool) (l : List Nat) : Nat × Nat :=
  if l.getD 0 0 = 92 then (match esc lit (l.drop 1) with | some q => if sgn q.1 then (q.1, 1 + q.2) else (0, 0) | none => (0, 0)) else (0, 0)
abbrev fromB : ByteArray := { data := #[116, 98, 110, 114, 102, 34, 39, 92] }
abbrev toB : ByteArray := { data := #[9, 8, 10, 13, 12, 34, 39, 92] }
def fromL : List Nat := [116, 98, 110, 114, 102, 34, 39, 92]
def toL : List Nat := [9, 8, 10, 13, 12, 34, 39, 92]
theorem from_get : ∀ k : Fin 8, (fromB[k.val]'k.isLt).toNat = fromL.getD k.val 0 ∧ (toB[k.val]'k.isLt).toNat = toL.getD k.val 0 ∧ lzC (fromL.getD k.val 0) = some (toL.getD k.val 0) ∧ toL.getD k.val 0 < 128 ∧ fromL.getD k.val 0 ≠ 117 ∧ fromL.getD k.val 0 ≠ 85 := by decide
theorem lz_none {c : Nat} (h : ∀ j, j < 8 → c ≠ fromL.getD j 0) : lzC c = none := by
  have h0 := h 0 (by omega)
  have h1 := h 1 (by omega)
  have h2 := h 2 (by omega)
  have h3 := h 3 (by omega)
  have h4 := h 4 (by omega)
  have h5 := h 5 (by omega)
  have h6 := h 6 (by omega)
  have h7 := h 7 (by omega)
  simp [fromL] at h0 h1 h2 h3 h4 h5 h6 h7
  unfold lzC
  rw [if_neg h0, if_neg h1, if_neg h2, if_neg h3, if_neg h4, if_neg (by omega)]
theorem hxP_get {R : List Nat} {i m : Nat} (h : i < R.length) : hxP (R.drop i) m = if hxV (R.getD i 0) < 16 then hxP (R.drop (i + 1)) (m * 16 + hxV (R.getD i 0)) else none := by
  rw [List.drop_eq_getElem_cons h]
  have e : R.getD i 0 = R[i] := by rw [List.getD_eq_getElem?_getD, List.getElem?_eq_getElem h]; rfl
  rw [e]
  rfl
/-- The digits of an escape of so many. -/
theorem esc_num {lit : Bool} {l : List Nat} {m c : Nat} (h92 : l.getD 0 0 = 92) (hc : l.getD 1 0 = c) (hm : (c = 117 ∧ m = 4) ∨ (c = 85 ∧ m = 8)) : escD lit l = match hxN m (l.drop 2) with | some n => if sgn n then (n, 2 + m) else (0, 0) | none => (0, 0) := by
  obtain ⟨r, rfl⟩ := cons_of h92 (by decide)
  obtain ⟨r2, rfl⟩ := cons_of (l := r) (c := c) (by simpa using hc) (by omega)
  unfold escD
  rw [if_pos h92]
  show (match esc lit (c :: r2) with | some q => _ | none => _) = match hxN m r2 with | some n => _ | none => _
  rw [esc_cons]
  rcases hm with ⟨rfl, rfl⟩ | ⟨rfl, rfl⟩
  · rw [if_pos rfl]
    cases hxN 4 r2 with
    | none => rfl
    | some n => rfl
  · rw [if_neg (by decide), if_pos rfl]
    cases hxN 8 r2 with
    | none => rfl
    | some n => rfl
theorem esc_oth {lit : Bool} {l : List Nat} {c : Nat} (h92 : l.getD 0 0 = 92) (hc : l.getD 1 0 = c) (hl : 2 ≤ l.length) (h1 : c ≠ 117) (h2 : c ≠ 85) : escD lit l = match oth lit c with | some n => (n, 2) | none => (0, 0) := by
  obtain ⟨r, rfl⟩ := cons_of h92 (by decide)
  cases r with
  | nil => simp at hl
  | cons x r =>
    have : x = c := by simpa using hc
    subst this
    unfold escD
    rw [if_pos h92]
    show (match esc lit (x :: r) with | some q => _ | none => _) = _
    rw [esc_cons, if_neg h1, if_neg h2]
    cases ho : oth lit x with
    | none => rfl
    | some n =>
      have := (oth_lt ho).2
      show (if sgn n then (n, 1 + 1) else (0, 0)) = (n, 2)
      rw [if_pos (by unfold sgn; omega)]
theorem esc_zero {lit : Bool} {l : List Nat} (h : l.getD 0 0 ≠ 92 ∨ l.length < 2) : escD lit l = (0, 0) := by
  unfold escD
  by_cases h92 : l.getD 0 0 = 92
  · rw [if_pos h92]
    obtain ⟨r, rfl⟩ := cons_of h92 (by decide)
    rcases h with h | h
    · exact absurd h92 h
    · have : r = [] := List.length_eq_zero_iff.1 (by simp at h; omega)
      subst this
      rfl
  · rw [if_neg h92]
/-- What escape answers. -/
def EsD (lit : Bool) (w : World) (s : ByteArray) (a : Nat) (e : Ending) (w' : World) : Prop := e = .returned (.tuple #[.int .i64 ((escD lit ((bl s).drop a)).1 : Int), .int .i64 ((escD lit ((bl s).drop a)).2 : Int)]) ∧ StU w w'
theorem drop_getD (s : ByteArray) (a j : Nat) : ((bl s).drop a).getD j 0 = (bl s).getD (a + j) 0 := by simp [List.getD, List.getElem?_drop]
set_option maxHeartbeats 2000000 in
theorem refEsc_zero {s : ByteArray} {a : Nat} {lit : Bool} {w : World} (ha : a < s.size) (hs : s.size ≤ 900000) (h : s.size ≤ a + 1 ∨ (bl s).getD a 0 ≠ 92) :
    Calls Tryd.prog 49 #[.string s, .int .i64 (a : Int), .bool lit] w (EsD lit w s a) := by
  have HZ : Hid (escD lit ((bl s).drop a) = (0, 0)) := hid (esc_zero (by
    rcases h with h | h
    · right; rw [List.length_drop, bl_len]; omega
    · left; rw [drop_getD]; exact h))
  have hw : IntKind.i64.wrap ((a : Int) + 1) = ((a + 1 : Nat) : Int) := by rw [IntKind.wrap_i64]; omega
  by_cases h1 : s.size ≤ a + 1
  · have h1' : (s.size : Int) ≤ ((a + 1 : Nat) : Int) := by omega
    clear h ha hs h1
    unfold EsD
    rw [HZ.out]
    go_enter Tryd.func49, Tryd.ntmps49
    go_wp2_with fail
    go_ret2
    exact ⟨rfl, hid (Only.refl _ _)⟩
  · have h1' : ¬ (s.size : Int) ≤ ((a + 1 : Nat) : Int) := by omega
    have h2 := h.resolve_left h1
    rw [bl_at ha] at h2
    obtain ⟨x, hx⟩ : ∃ x, s[a]'ha = x := ⟨_, rfl⟩
    rw [hx] at h2
    have hne : ((x.toNat : Nat) : Int) ≠ 92 := by omega
    have hb : ((x.toNat : Int) != 92) = true := bne_iff_ne.2 hne
    clear h hs h1 h2 hne
    unfold EsD
    rw [HZ.out]
    go_enter Tryd.func49, Tryd.ntmps49
    go_wp2_with fail
    go_ret2
    exact ⟨rfl, hid (Only.refl _ _)⟩
set_option maxHeartbeats 8000000 in
set_option maxRecDepth 100000 in
theorem refEsc_iri {s : ByteArray} {a : Nat} {w : World} (ha : a < s.size) (hs : s.size ≤ 900000) (hlt : ¬ s.size ≤ a + 1) (h92 : (bl s).getD a 0 = 92) :
    Calls Tryd.prog 49 #[.string s, .int .i64 (a : Int), .bool false] w (EsD false w s a) := by
  have ha1 : a + 1 < s.size := by omega
  have hw : IntKind.i64.wrap ((a : Int) + 1) = ((a + 1 : Nat) : Int) := by rw [IntKind.wrap_i64]; omega
  have h1' : ¬ (s.size : Int) ≤ ((a + 1 : Nat) : Int) := by omega
  obtain ⟨x, hx⟩ : ∃ x, s[a]'ha = x := ⟨_, rfl⟩
  obtain ⟨x1, hx1⟩ : ∃ x1, s[a + 1]'ha1 = x1 := ⟨_, rfl⟩
  rw [bl_at ha, hx] at h92
  have hb : ((x.toNat : Int) != 92) = false := by rw [bne_eq_false_iff_eq]; omega
  have hx1l := x1.toNat_lt
  obtain ⟨lit, hlit⟩ : ∃ lit, lit = false := ⟨_, rfl⟩
  have hno : oth lit x1.toNat = none := by rw [hlit]; rfl
  have HD : Hid (EsD false w s a = EsD lit w s a) := hid (by rw [hlit])
  rw [HD.out]
  have HS0 : StU w w := hid (Only.refl _ _)
  clear HD hlit
  go_enter Tryd.func49, Tryd.ntmps49
  by_cases c1 : x1.toNat = 117
  · have k1 : ((x1.toNat : Int) == 117) = true := by rw [beq_iff_eq]; omega
    have k2 : ((x1.toNat : Int) == 85) = false := by rw [beq_eq_false_iff_ne]; omega
    have hm4 : IntKind.i64.wrap ((a : Int) + 2) = ((a + 2 : Nat) : Int) := by rw [IntKind.wrap_i64]; omega
    have hm5 : IntKind.i64.wrap (((a + 2 : Nat) : Int) + 4) = ((a + 2 + 4 : Nat) : Int) := by rw [IntKind.wrap_i64]; omega
    have hnum := esc_num (lit := lit) (l := (bl s).drop a) (m := 4) (by rw [drop_getD, Nat.add_zero, bl_at ha, hx]; exact h92) (c := x1.toNat) (by rw [drop_getD, bl_at ha1, hx1]) (by omega)
    rw [List.drop_drop] at hnum
    by_cases hbig : s.size < a + 2 + 4
    · have hbig' : (s.size : Int) < ((a + 2 + 4 : Nat) : Int) := by omega
      have HF : Hid (escD lit ((bl s).drop a) = (0, 0)) := hid (by rw [hnum]; unfold hxN; rw [if_pos (show ((bl s).drop (a + 2)).length < 4 from Nat.lt_of_le_of_lt (Nat.le_of_eq (List.length_drop ..)) (by rw [bl_len]; omega))])
      clear hnum hbig
      go_wp2_with fail
      go_ret2
      unfold EsD
      rw [HF.out]
      exact ⟨rfl, HS0⟩
    · have hbig' : ¬ (s.size : Int) < ((a + 2 + 4 : Nat) : Int) := by omega
      have hR : hxN 4 ((bl s).drop (a + 2)) = hxP (((bl s).drop (a + 2)).take 4) 0 := by unfold hxN; rw [if_neg (by rw [List.length_drop, bl_len]; omega)]
      have hRl : (((bl s).drop (a + 2)).take 4).length = 4 := by rw [List.length_take, List.length_drop, bl_len]; omega
      have hRg : ∀ i, i < 4 → (((bl s).drop (a + 2)).take 4).getD i 0 = (bl s).getD (a + 2 + i) 0 := fun i hi => by
        rw [List.getD_eq_getElem?_getD, List.getElem?_take_of_lt hi, List.getElem?_drop, ← List.getD_eq_getElem?_getD]
      rw [hR] at hnum
      generalize ((bl s).drop (a + 2)).take 4 = R at *
      have HNum := hid hnum
      have HRl := hid hRl
      have HRg := hid hRg
      clear hnum hR hRl hRg
      go_wp2_with fail
      go_loopw [12, 13] (fun nv iv wr => StU w wr ∧ ∃ i n : Nat, i ≤ 4 ∧ nv = .int .i64 (n : Int) ∧ iv = .int .i64 (i : Int) ∧ Hid (hxP R 0 = hxP (R.drop i) n) ∧ Hid (n < 16 ^ i)) (fun _ iv _ => 4 - (intOf iv).toNat)
      case atStart => exact ⟨HS0, 0, 0, by omega, rfl, rfl, hid (by simp), hid (by decide)⟩
      case round =>
        obtain ⟨HS, i, n, hi, rfl, rfl, HP, HM⟩ := hrel
        have hnb : n < 4294967296 := Nat.lt_of_lt_of_le HM.out (Nat.le_trans (Nat.pow_le_pow_right (by omega) (show i ≤ 8 by omega)) (by decide))
        by_cases hp : i < 4
        · have hp' : (i : Int) < 4 := by omega
          have hai : a + 2 + i < s.size := by omega
          have hw6 : IntKind.i64.wrap (((a + 2 : Nat) : Int) + (i : Int)) = ((a + 2 + i : Nat) : Int) := by rw [IntKind.wrap_i64]; omega
          have hw7 : IntKind.i64.wrap ((i : Int) + 1) = ((i + 1 : Nat) : Int) := by rw [IntKind.wrap_i64]; omega
          obtain ⟨y, hy⟩ : ∃ y, s[a + 2 + i]'hai = y := ⟨_, rfl⟩
          have hyl := y.toNat_lt
          have hst := hxP_get (R := R) (m := n) (by rw [HRl.out]; exact hp)
          rw [HRg.out i hp, bl_at hai, hy] at hst
          have HX := hid (fun W => refHex_any hyl W)
          have hps : n < 268435456 := Nat.lt_of_lt_of_le HM.out (Nat.le_trans (Nat.pow_le_pow_right (by omega) (show i ≤ 7 by omega)) (by decide))
          by_cases hv : hxV y.toNat < 16
          · have hz : hxZ y.toNat = (hxV y.toNat : Int) := by unfold hxZ; rw [if_pos hv]
            rw [if_pos hv] at hst
            have hd0 : ¬ ((hxV y.toNat : Nat) : Int) < 0 := by omega
            have HM2 : Hid (n * 16 + hxV y.toNat < 16 ^ (i + 1)) := hid (by
              have := HM.out
              rw [Nat.pow_succ]
              omega)
            rw [hz] at HX
            generalize hxV y.toNat = d at *
            have hw8 : IntKind.i64.wrap (16 * (n : Int)) = ((16 * n : Nat) : Int) := by rw [IntKind.wrap_i64]; omega
            have hw9 : IntKind.i64.wrap (16 * (n : Int) + (d : Int)) = ((n * 16 + d : Nat) : Int) := by rw [IntKind.wrap_i64]; omega
            have HP2 : Hid (hxP R 0 = hxP (R.drop (i + 1)) (n * 16 + d)) := hid (by rw [HP.out, hst])
            clear hst hz hv HP hnb hps HM hyl
            go_wp2_with (go_at_call 72; refine (HX.out _).mono ?_; rintro e w2 ⟨rfl, rfl⟩)
            go_roundw
            case rel => exact ⟨HS, i + 1, n * 16 + d, by omega, by go_num, by go_num, HP2, HM2⟩
            case measure => simp [intOf]; omega
          · have hz : hxZ y.toNat = -1 := by unfold hxZ; rw [if_neg hv]
            rw [if_neg hv] at hst
            rw [hz] at HX
            have HF : Hid (escD lit ((bl s).drop a) = (0, 0)) := hid (by rw [HNum.out, HP.out, hst])
            clear hst hz hv HP hnb hps HM hyl
            go_wp2_with (go_at_call 72; refine (HX.out _).mono ?_; rintro e w2 ⟨rfl, rfl⟩)
            go_ret2
            unfold EsD
            rw [HF.out]
            exact ⟨rfl, HS⟩
        · have hp' : ¬ (i : Int) < 4 := by omega
          obtain rfl : i = 4 := by omega
          have hPe : hxP R 0 = some n := by rw [HP.out, List.drop_eq_nil_of_le (by rw [HRl.out]; omega)]; rfl
          have HI := hid (fun W => refIs_any (n : Int) W)
          by_cases hsg : sgn n
          · have hz : isZ (n : Int) = true := (isZ_iff _).2 ⟨by omega, by simpa using hsg⟩
            rw [hz] at HI
            have HF : Hid (escD lit ((bl s).drop a) = (n, 2 + 4)) := hid (by rw [HNum.out, hPe]; simp only; rw [if_pos hsg])
            clear hPe hsg hz HP hnb HM
            go_wp2_with (go_at_call 47; refine (HI.out _).mono ?_; rintro e w2 ⟨rfl, rfl⟩)
            go_ret2
            unfold EsD
            rw [HF.out]
            exact ⟨rfl, HS⟩
          · have hz : isZ (n : Int) = false := by
              cases hq : isZ (n : Int) with
              | false => rfl
              | true => exact absurd (by simpa using ((isZ_iff _).1 hq).2) hsg
            rw [hz] at HI
            have HF : Hid (escD lit ((bl s).drop a) = (0, 0)) := hid (by rw [HNum.out, hPe]; simp only; rw [if_neg hsg])
            clear hPe hsg hz HP hnb HM
            go_wp2_with (go_at_call 47; refine (HI.out _).mono ?_; rintro e w2 ⟨rfl, rfl⟩)
            go_ret2
            unfold EsD
            rw [HF.out]
            exact ⟨rfl, HS⟩
  · by_cases c1 : x1.toNat = 85
    · have k1 : ((x1.toNat : Int) == 117) = false := by rw [beq_eq_false_iff_ne]; omega
      have k2 : ((x1.toNat : Int) == 85) = true := by rw [beq_iff_eq]; omega
      have hm4 : IntKind.i64.wrap ((a : Int) + 2) = ((a + 2 : Nat) : Int) := by rw [IntKind.wrap_i64]; omega
      have hm5 : IntKind.i64.wrap (((a + 2 : Nat) : Int) + 8) = ((a + 2 + 8 : Nat) : Int) := by rw [IntKind.wrap_i64]; omega
      have hnum := esc_num (lit := lit) (l := (bl s).drop a) (m := 8) (by rw [drop_getD, Nat.add_zero, bl_at ha, hx]; exact h92) (c := x1.toNat) (by rw [drop_getD, bl_at ha1, hx1]) (by omega)
      rw [List.drop_drop] at hnum
      by_cases hbig : s.size < a + 2 + 8
      · have hbig' : (s.size : Int) < ((a + 2 + 8 : Nat) : Int) := by omega
        have HF : Hid (escD lit ((bl s).drop a) = (0, 0)) := hid (by rw [hnum]; unfold hxN; rw [if_pos (show ((bl s).drop (a + 2)).length < 8 from Nat.lt_of_le_of_lt (Nat.le_of_eq (List.length_drop ..)) (by rw [bl_len]; omega))])
        clear hnum hbig
        go_wp2_with fail
        go_ret2
        unfold EsD
        rw [HF.out]
        exact ⟨rfl, HS0⟩
      · have hbig' : ¬ (s.size : Int) < ((a + 2 + 8 : Nat) : Int) := by omega
        have hR : hxN 8 ((bl s).drop (a + 2)) = hxP (((bl s).drop (a + 2)).take 8) 0 := by unfold hxN; rw [if_neg (by rw [List.length_drop, bl_len]; omega)]
        have hRl : (((bl s).drop (a + 2)).take 8).length = 8 := by rw [List.length_take, List.length_drop, bl_len]; omega
        have hRg : ∀ i, i < 8 → (((bl s).drop (a + 2)).take 8).getD i 0 = (bl s).getD (a + 2 + i) 0 := fun i hi => by
          rw [List.getD_eq_getElem?_getD, List.getElem?_take_of_lt hi, List.getElem?_drop, ← List.getD_eq_getElem?_getD]
        rw [hR] at hnum
        generalize ((bl s).drop (a + 2)).take 8 = R at *
        have HNum := hid hnum
        have HRl := hid hRl
        have HRg := hid hRg
        clear hnum hR hRl hRg
        go_wp2_with fail
        go_loopw [12, 13] (fun nv iv wr => StU w wr ∧ ∃ i n : Nat, i ≤ 8 ∧ nv = .int .i64 (n : Int) ∧ iv = .int .i64 (i : Int) ∧ Hid (hxP R 0 = hxP (R.drop i) n) ∧ Hid (n < 16 ^ i)) (fun _ iv _ => 8 - (intOf iv).toNat)
        case atStart => exact ⟨HS0, 0, 0, by omega, rfl, rfl, hid (by simp), hid (by decide)⟩
        case round =>
          obtain ⟨HS, i, n, hi, rfl, rfl, HP, HM⟩ := hrel
          have hnb : n < 4294967296 := Nat.lt_of_lt_of_le HM.out (Nat.le_trans (Nat.pow_le_pow_right (by omega) (show i ≤ 8 by omega)) (by decide))
          by_cases hp : i < 8
          · have hp' : (i : Int) < 8 := by omega
            have hai : a + 2 + i < s.size := by omega
            have hw6 : IntKind.i64.wrap (((a + 2 : Nat) : Int) + (i : Int)) = ((a + 2 + i : Nat) : Int) := by rw [IntKind.wrap_i64]; omega
            have hw7 : IntKind.i64.wrap ((i : Int) + 1) = ((i + 1 : Nat) : Int) := by rw [IntKind.wrap_i64]; omega
            obtain ⟨y, hy⟩ : ∃ y, s[a + 2 + i]'hai = y := ⟨_, rfl⟩
            have hyl := y.toNat_lt
            have hst := hxP_get (R := R) (m := n) (by rw [HRl.out]; exact hp)
            rw [HRg.out i hp, bl_at hai, hy] at hst
            have HX := hid (fun W => refHex_any hyl W)
            have hps : n < 268435456 := Nat.lt_of_lt_of_le HM.out (Nat.le_trans (Nat.pow_le_pow_right (by omega) (show i ≤ 7 by omega)) (by decide))
            by_cases hv : hxV y.toNat < 16
            · have hz : hxZ y.toNat = (hxV y.toNat : Int) := by unfold hxZ; rw [if_pos hv]
              rw [if_pos hv] at hst
              have hd0 : ¬ ((hxV y.toNat : Nat) : Int) < 0 := by omega
              have HM2 : Hid (n * 16 + hxV y.toNat < 16 ^ (i + 1)) := hid (by
                have := HM.out
                rw [Nat.pow_succ]
                omega)
              rw [hz] at HX
              generalize hxV y.toNat = d at *
              have hw8 : IntKind.i64.wrap (16 * (n : Int)) = ((16 * n : Nat) : Int) := by rw [IntKind.wrap_i64]; omega
              have hw9 : IntKind.i64.wrap (16 * (n : Int) + (d : Int)) = ((n * 16 + d : Nat) : Int) := by rw [IntKind.wrap_i64]; omega
              have HP2 : Hid (hxP R 0 = hxP (R.drop (i + 1)) (n * 16 + d)) := hid (by rw [HP.out, hst])
              clear hst hz hv HP hnb hps HM hyl
              go_wp2_with (go_at_call 72; refine (HX.out _).mono ?_; rintro e w2 ⟨rfl, rfl⟩)
              go_roundw
              case rel => exact ⟨HS, i + 1, n * 16 + d, by omega, by go_num, by go_num, HP2, HM2⟩
              case measure => simp [intOf]; omega
            · have hz : hxZ y.toNat = -1 := by unfold hxZ; rw [if_neg hv]
              rw [if_neg hv] at hst
              rw [hz] at HX
              have HF : Hid (escD lit ((bl s).drop a) = (0, 0)) := hid (by rw [HNum.out, HP.out, hst])
              clear hst hz hv HP hnb hps HM hyl
              go_wp2_with (go_at_call 72; refine (HX.out _).mono ?_; rintro e w2 ⟨rfl, rfl⟩)
              go_ret2
              unfold EsD
              rw [HF.out]
              exact ⟨rfl, HS⟩
          · have hp' : ¬ (i : Int) < 8 := by omega
            obtain rfl : i = 8 := by omega
            have hPe : hxP R 0 = some n := by rw [HP.out, List.drop_eq_nil_of_le (by rw [HRl.out]; omega)]; rfl
            have HI := hid (fun W => refIs_any (n : Int) W)
            by_cases hsg : sgn n
            · have hz : isZ (n : Int) = true := (isZ_iff _).2 ⟨by omega, by simpa using hsg⟩
              rw [hz] at HI
              have HF : Hid (escD lit ((bl s).drop a) = (n, 2 + 8)) := hid (by rw [HNum.out, hPe]; simp only; rw [if_pos hsg])
              clear hPe hsg hz HP hnb HM
              go_wp2_with (go_at_call 47; refine (HI.out _).mono ?_; rintro e w2 ⟨rfl, rfl⟩)
              go_ret2
              unfold EsD
              rw [HF.out]
              exact ⟨rfl, HS⟩
            · have hz : isZ (n : Int) = false := by
                cases hq : isZ (n : Int) with
                | false => rfl
                | true => exact absurd (by simpa using ((isZ_iff _).1 hq).2) hsg
              rw [hz] at HI
              have HF : Hid (escD lit ((bl s).drop a) = (0, 0)) := hid (by rw [HNum.out, hPe]; simp only; rw [if_neg hsg])
              clear hPe hsg hz HP hnb HM
              go_wp2_with (go_at_call 47; refine (HI.out _).mono ?_; rintro e w2 ⟨rfl, rfl⟩)
              go_ret2
              unfold EsD
              rw [HF.out]
              exact ⟨rfl, HS⟩
    · rename_i c0
      have k1 : ((x1.toNat : Int) == 117) = false := by rw [beq_eq_false_iff_ne]; omega
      have k2 : ((x1.toNat : Int) == 85) = false := by rw [beq_eq_false_iff_ne]; omega
      have hoth := esc_oth (lit := lit) (l := (bl s).drop a) (by rw [drop_getD, Nat.add_zero, bl_at ha, hx]; exact h92) (by rw [drop_getD, bl_at ha1, hx1]) (by rw [List.length_drop, bl_len]; omega) c0 c1
      have HF : Hid (escD lit ((bl s).drop a) = (0, 0)) := hid (by rw [hoth, hno])
      clear hoth c0 c1 h92 hs
      go_wp2_with fail
      go_ret2
      unfold EsD
      rw [HF.out]
      exact ⟨rfl, HS0⟩
set_option maxHeartbeats 8000000 in
set_option maxRecDepth 100000 in
theorem refEsc_lit {s : ByteArray} {a : Nat} {w : World} (ha : a < s.size) (hs : s.size ≤ 900000) (hlt : ¬ s.size ≤ a + 1) (h92 : (bl s).getD a 0 = 92) :
    Calls Tryd.prog 49 #[.string s, .int .i64 (a : Int), .bool true] w (EsD true w s a) := by
  have ha1 : a + 1 < s.size := by omega
  have hw : IntKind.i64.wrap ((a : Int) + 1) = ((a + 1 : Nat) : Int) := by rw [IntKind.wrap_i64]; omega
  have h1' : ¬ (s.size : Int) ≤ ((a + 1 : Nat) : Int) := by omega
  obtain ⟨x, hx⟩ : ∃ x, s[a]'ha = x := ⟨_, rfl⟩
  obtain ⟨x1, hx1⟩ : ∃ x1, s[a + 1]'ha1 = x1 := ⟨_, rfl⟩
  rw [bl_at ha, hx] at h92
  have hb : ((x.toNat : Int) != 92) = false := by rw [bne_eq_false_iff_eq]; omega
  have hx1l := x1.toNat_lt
  obtain ⟨lit, hlit⟩ : ∃ lit, lit = true := ⟨_, rfl⟩
  have Hlz : Hid (oth lit x1.toNat = lzC x1.toNat) := hid (by rw [hlit]; rfl)
  have HD : Hid (EsD true w s a = EsD lit w s a) := hid (by rw [hlit])
  rw [HD.out]
  have ha10 : (0 : Int) ≤ ((a + 1 : Nat) : Int) := by omega
  clear HD hlit
  go_enter Tryd.func49, Tryd.ntmps49
  go_wp2_with fail
  go_loopw [10] (fun iv wr => StU w wr ∧ ∃ k : Nat, k ≤ 8 ∧ iv = .int .i64 (k : Int) ∧ Hid (∀ j, j < k → x1.toNat ≠ fromL.getD j 0)) (fun iv _ => 8 - (intOf iv).toNat)
  case atStart => exact ⟨hid (Only.refl _ _), 0, by omega, rfl, hid fun j hj => absurd hj (by omega)⟩
  case round =>
    obtain ⟨HS0, k, hk, rfl, HNo⟩ := hrel
    by_cases hp : k < 8
    · have hp' : (k : Int) < 8 := by omega
      have hkf : k < fromB.size := hp
      have hkt : k < toB.size := hp
      obtain ⟨fk, hfk⟩ : ∃ fk, fromB[k]'hkf = fk := ⟨_, rfl⟩
      obtain ⟨tk, htk⟩ : ∃ tk, toB[k]'hkt = tk := ⟨_, rfl⟩
      obtain ⟨g1, g2, g3, g4, g5, g6⟩ := from_get ⟨k, hp⟩
      simp only at g1 g2 g3 g4 g5 g6
      have g1' : fk.toNat = fromL.getD k 0 := by rw [← hfk]; exact g1
      have g2' : tk.toNat = toL.getD k 0 := by rw [← htk]; exact g2
      have hw8 : IntKind.i64.wrap ((tk.toNat : Nat) : Int) = ((tk.toNat : Nat) : Int) := by have := tk.toNat_lt; rw [IntKind.wrap_i64]; omega
      have hw7 : IntKind.i64.wrap ((k : Int) + 1) = ((k + 1 : Nat) : Int) := by rw [IntKind.wrap_i64]; omega
      by_cases he : x1.toNat = fk.toNat
      · have he2 : ((x1.toNat : Int) == (fk.toNat : Int)) = true := by rw [he]; simp
        have hoth := esc_oth (lit := lit) (l := (bl s).drop a) (c := x1.toNat) (by rw [drop_getD, Nat.add_zero, bl_at ha, hx]; exact h92) (by rw [drop_getD, bl_at ha1, hx1]) (by rw [List.length_drop, bl_len]; omega) (by rw [he, g1']; exact g5) (by rw [he, g1']; exact g6)
        rw [Hlz.out, he, g1', g3, ← g2'] at hoth
        have HF : Hid (escD lit ((bl s).drop a) = (tk.toNat, 2)) := hid hoth
        clear hoth he g1 g2 g3 g4 g5 g6 g1' g2' HNo h92 hs
        go_wp2_with fail
        go_quiet (fail)
        go_wp2_with fail
        go_ret2
        unfold EsD
        rw [HF.out]
        exact ⟨rfl, hid (HS0.out.drewN _)⟩
      · have he2 : ((x1.toNat : Int) == (fk.toNat : Int)) = false := by rw [beq_eq_false_iff_ne]; omega
        have HNo2 : Hid (∀ j, j < k + 1 → x1.toNat ≠ fromL.getD j 0) := hid fun j hj => by
          by_cases e : j = k
          · subst e; rw [← g1']; exact he
          · exact HNo.out j (by omega)
        clear he g1 g2 g3 g4 g5 g6 g1' g2' HNo h92 hs
        go_wp2_with fail
        go_quiet (fail)
        go_wp2_with fail
        go_roundw
        case rel => exact ⟨hid (HS0.out.drewN _), k + 1, by omega, rfl, HNo2⟩
        case measure => simp [intOf]; omega
    · obtain rfl : k = 8 := by omega
      have hno : oth lit x1.toNat = none := by rw [Hlz.out]; exact lz_none HNo.out
      clear HNo Hlz
      by_cases c1 : x1.toNat = 117
      · have k1 : ((x1.toNat : Int) == 117) = true := by rw [beq_iff_eq]; omega
        have k2 : ((x1.toNat : Int) == 85) = false := by rw [beq_eq_false_iff_ne]; omega
        have hm4 : IntKind.i64.wrap ((a : Int) + 2) = ((a + 2 : Nat) : Int) := by rw [IntKind.wrap_i64]; omega
        have hm5 : IntKind.i64.wrap (((a + 2 : Nat) : Int) + 4) = ((a + 2 + 4 : Nat) : Int) := by rw [IntKind.wrap_i64]; omega
        have hnum := esc_num (lit := lit) (l := (bl s).drop a) (m := 4) (by rw [drop_getD, Nat.add_zero, bl_at ha, hx]; exact h92) (c := x1.toNat) (by rw [drop_getD, bl_at ha1, hx1]) (by omega)
        rw [List.drop_drop] at hnum
        by_cases hbig : s.size < a + 2 + 4
        · have hbig' : (s.size : Int) < ((a + 2 + 4 : Nat) : Int) := by omega
          have HF : Hid (escD lit ((bl s).drop a) = (0, 0)) := hid (by rw [hnum]; unfold hxN; rw [if_pos (show ((bl s).drop (a + 2)).length < 4 from Nat.lt_of_le_of_lt (Nat.le_of_eq (List.length_drop ..)) (by rw [bl_len]; omega))])
          clear hnum hbig
          go_wp2_with fail
          go_ret2
          unfold EsD
          rw [HF.out]
          exact ⟨rfl, HS0⟩
        · have hbig' : ¬ (s.size : Int) < ((a + 2 + 4 : Nat) : Int) := by omega
          have hR : hxN 4 ((bl s).drop (a + 2)) = hxP (((bl s).drop (a + 2)).take 4) 0 := by unfold hxN; rw [if_neg (by rw [List.length_drop, bl_len]; omega)]
          have hRl : (((bl s).drop (a + 2)).take 4).length = 4 := by rw [List.length_take, List.length_drop, bl_len]; omega
          have hRg : ∀ i, i < 4 → (((bl s).drop (a + 2)).take 4).getD i 0 = (bl s).getD (a + 2 + i) 0 := fun i hi => by
            rw [List.getD_eq_getElem?_getD, List.getElem?_take_of_lt hi, List.getElem?_drop, ← List.getD_eq_getElem?_getD]
          rw [hR] at hnum
          generalize ((bl s).drop (a + 2)).take 4 = R at *
          have HNum := hid hnum
          have HRl := hid hRl
          have HRg := hid hRg
          clear hnum hR hRl hRg
          go_wp2_with fail
          go_loopw [12, 13] (fun nv iv wr => StU w wr ∧ ∃ i n : Nat, i ≤ 4 ∧ nv = .int .i64 (n : Int) ∧ iv = .int .i64 (i : Int) ∧ Hid (hxP R 0 = hxP (R.drop i) n) ∧ Hid (n < 16 ^ i)) (fun _ iv _ => 4 - (intOf iv).toNat)
          case atStart => exact ⟨HS0, 0, 0, by omega, rfl, rfl, hid (by simp), hid (by decide)⟩
          case round =>
            obtain ⟨HS, i, n, hi, rfl, rfl, HP, HM⟩ := hrel
            have hnb : n < 4294967296 := Nat.lt_of_lt_of_le HM.out (Nat.le_trans (Nat.pow_le_pow_right (by omega) (show i ≤ 8 by omega)) (by decide))
            by_cases hp : i < 4
            · have hp' : (i : Int) < 4 := by omega
              have hai : a + 2 + i < s.size := by omega
              have hw6 : IntKind.i64.wrap (((a + 2 : Nat) : Int) + (i : Int)) = ((a + 2 + i : Nat) : Int) := by rw [IntKind.wrap_i64]; omega
              have hw7 : IntKind.i64.wrap ((i : Int) + 1) = ((i + 1 : Nat) : Int) := by rw [IntKind.wrap_i64]; omega
              obtain ⟨y, hy⟩ : ∃ y, s[a + 2 + i]'hai = y := ⟨_, rfl⟩
              have hyl := y.toNat_lt
              have hst := hxP_get (R := R) (m := n) (by rw [HRl.out]; exact hp)
              rw [HRg.out i hp, bl_at hai, hy] at hst
              have HX := hid (fun W => refHex_any hyl W)
              have hps : n < 268435456 := Nat.lt_of_lt_of_le HM.out (Nat.le_trans (Nat.pow_le_pow_right (by omega) (show i ≤ 7 by omega)) (by decide))
              by_cases hv : hxV y.toNat < 16
              · have hz : hxZ y.toNat = (hxV y.toNat : Int) := by unfold hxZ; rw [if_pos hv]
                rw [if_pos hv] at hst
                have hd0 : ¬ ((hxV y.toNat : Nat) : Int) < 0 := by omega
                have HM2 : Hid (n * 16 + hxV y.toNat < 16 ^ (i + 1)) := hid (by
                  have := HM.out
                  rw [Nat.pow_succ]
                  omega)
                rw [hz] at HX
                generalize hxV y.toNat = d at *
                have hw8 : IntKind.i64.wrap (16 * (n : Int)) = ((16 * n : Nat) : Int) := by rw [IntKind.wrap_i64]; omega
                have hw9 : IntKind.i64.wrap (16 * (n : Int) + (d : Int)) = ((n * 16 + d : Nat) : Int) := by rw [IntKind.wrap_i64]; omega
                have HP2 : Hid (hxP R 0 = hxP (R.drop (i + 1)) (n * 16 + d)) := hid (by rw [HP.out, hst])
                clear hst hz hv HP hnb hps HM hyl
                go_wp2_with (go_at_call 72; refine (HX.out _).mono ?_; rintro e w2 ⟨rfl, rfl⟩)
                go_roundw
                case rel => exact ⟨HS, i + 1, n * 16 + d, by omega, by go_num, by go_num, HP2, HM2⟩
                case measure => simp [intOf]; omega
              · have hz : hxZ y.toNat = -1 := by unfold hxZ; rw [if_neg hv]
                rw [if_neg hv] at hst
                rw [hz] at HX
                have HF : Hid (escD lit ((bl s).drop a) = (0, 0)) := hid (by rw [HNum.out, HP.out, hst])
                clear hst hz hv HP hnb hps HM hyl
                go_wp2_with (go_at_call 72; refine (HX.out _).mono ?_; rintro e w2 ⟨rfl, rfl⟩)
                go_ret2
                unfold EsD
                rw [HF.out]
                exact ⟨rfl, HS⟩
            · have hp' : ¬ (i : Int) < 4 := by omega
              obtain rfl : i = 4 := by omega
              have hPe : hxP R 0 = some n := by rw [HP.out, List.drop_eq_nil_of_le (by rw [HRl.out]; omega)]; rfl
              have HI := hid (fun W => refIs_any (n : Int) W)
              by_cases hsg : sgn n
              · have hz : isZ (n : Int) = true := (isZ_iff _).2 ⟨by omega, by simpa using hsg⟩
                rw [hz] at HI
                have HF : Hid (escD lit ((bl s).drop a) = (n, 2 + 4)) := hid (by rw [HNum.out, hPe]; simp only; rw [if_pos hsg])
                clear hPe hsg hz HP hnb HM
                go_wp2_with (go_at_call 47; refine (HI.out _).mono ?_; rintro e w2 ⟨rfl, rfl⟩)
                go_ret2
                unfold EsD
                rw [HF.out]
                exact ⟨rfl, HS⟩
              · have hz : isZ (n : Int) = false := by
                  cases hq : isZ (n : Int) with
                  | false => rfl
                  | true => exact absurd (by simpa using ((isZ_iff _).1 hq).2) hsg
                rw [hz] at HI
                have HF : Hid (escD lit ((bl s).drop a) = (0, 0)) := hid (by rw [HNum.out, hPe]; simp only; rw [if_neg hsg])
                clear hPe hsg hz HP hnb HM
                go_wp2_with (go_at_call 47; refine (HI.out _).mono ?_; rintro e w2 ⟨rfl, rfl⟩)
                go_ret2
                unfold EsD
                rw [HF.out]
                exact ⟨rfl, HS⟩
      · by_cases c1 : x1.toNat = 85
        · have k1 : ((x1.toNat : Int) == 117) = false := by rw [beq_eq_false_iff_ne]; omega
          have k2 : ((x1.toNat : Int) == 85) = true := by rw [beq_iff_eq]; omega
          have hm4 : IntKind.i64.wrap ((a : Int) + 2) = ((a + 2 : Nat) : Int) := by rw [IntKind.wrap_i64]; omega
          have hm5 : IntKind.i64.wrap (((a + 2 : Nat) : Int) + 8) = ((a + 2 + 8 : Nat) : Int) := by rw [IntKind.wrap_i64]; omega
          have hnum := esc_num (lit := lit) (l := (bl s).drop a) (m := 8) (by rw [drop_getD, Nat.add_zero, bl_at ha, hx]; exact h92) (c := x1.toNat) (by rw [drop_getD, bl_at ha1, hx1]) (by omega)
          rw [List.drop_drop] at hnum
          by_cases hbig : s.size < a + 2 + 8
          · have hbig' : (s.size : Int) < ((a + 2 + 8 : Nat) : Int) := by omega
            have HF : Hid (escD lit ((bl s).drop a) = (0, 0)) := hid (by rw [hnum]; unfold hxN; rw [if_pos (show ((bl s).drop (a + 2)).length < 8 from Nat.lt_of_le_of_lt (Nat.le_of_eq (List.length_drop ..)) (by rw [bl_len]; omega))])
            clear hnum hbig
            go_wp2_with fail
            go_ret2
            unfold EsD
            rw [HF.out]
            exact ⟨rfl, HS0⟩
          · have hbig' : ¬ (s.size : Int) < ((a + 2 + 8 : Nat) : Int) := by omega
            have hR : hxN 8 ((bl s).drop (a + 2)) = hxP (((bl s).drop (a + 2)).take 8) 0 := by unfold hxN; rw [if_neg (by rw [List.length_drop, bl_len]; omega)]
            have hRl : (((bl s).drop (a + 2)).take 8).length = 8 := by rw [List.length_take, List.length_drop, bl_len]; omega
            have hRg : ∀ i, i < 8 → (((bl s).drop (a + 2)).take 8).getD i 0 = (bl s).getD (a + 2 + i) 0 := fun i hi => by
              rw [List.getD_eq_getElem?_getD, List.getElem?_take_of_lt hi, List.getElem?_drop, ← List.getD_eq_getElem?_getD]
            rw [hR] at hnum
            generalize ((bl s).drop (a + 2)).take 8 = R at *
            have HNum := hid hnum
            have HRl := hid hRl
            have HRg := hid hRg
            clear hnum hR hRl hRg
            go_wp2_with fail
            go_loopw [12, 13] (fun nv iv wr => StU w wr ∧ ∃ i n : Nat, i ≤ 8 ∧ nv = .int .i64 (n : Int) ∧ iv = .int .i64 (i : Int) ∧ Hid (hxP R 0 = hxP (R.drop i) n) ∧ Hid (n < 16 ^ i)) (fun _ iv _ => 8 - (intOf iv).toNat)
            case atStart => exact ⟨HS0, 0, 0, by omega, rfl, rfl, hid (by simp), hid (by decide)⟩
            case round =>
              obtain ⟨HS, i, n, hi, rfl, rfl, HP, HM⟩ := hrel
              have hnb : n < 4294967296 := Nat.lt_of_lt_of_le HM.out (Nat.le_trans (Nat.pow_le_pow_right (by omega) (show i ≤ 8 by omega)) (by decide))
              by_cases hp : i < 8
              · have hp' : (i : Int) < 8 := by omega
                have hai : a + 2 + i < s.size := by omega
                have hw6 : IntKind.i64.wrap (((a + 2 : Nat) : Int) + (i : Int)) = ((a + 2 + i : Nat) : Int) := by rw [IntKind.wrap_i64]; omega
                have hw7 : IntKind.i64.wrap ((i : Int) + 1) = ((i + 1 : Nat) : Int) := by rw [IntKind.wrap_i64]; omega
                obtain ⟨y, hy⟩ : ∃ y, s[a + 2 + i]'hai = y := ⟨_, rfl⟩
                have hyl := y.toNat_lt
                have hst := hxP_get (R := R) (m := n) (by rw [HRl.out]; exact hp)
                rw [HRg.out i hp, bl_at hai, hy] at hst
                have HX := hid (fun W => refHex_any hyl W)
                have hps : n < 268435456 := Nat.lt_of_lt_of_le HM.out (Nat.le_trans (Nat.pow_le_pow_right (by omega) (show i ≤ 7 by omega)) (by decide))
                by_cases hv : hxV y.toNat < 16
                · have hz : hxZ y.toNat = (hxV y.toNat : Int) := by unfold hxZ; rw [if_pos hv]
                  rw [if_pos hv] at hst
                  have hd0 : ¬ ((hxV y.toNat : Nat) : Int) < 0 := by omega
                  have HM2 : Hid (n * 16 + hxV y.toNat < 16 ^ (i + 1)) := hid (by
                    have := HM.out
                    rw [Nat.pow_succ]
                    omega)
                  rw [hz] at HX
                  generalize hxV y.toNat = d at *
                  have hw8 : IntKind.i64.wrap (16 * (n : Int)) = ((16 * n : Nat) : Int) := by rw [IntKind.wrap_i64]; omega
                  have hw9 : IntKind.i64.wrap (16 * (n : Int) + (d : Int)) = ((n * 16 + d : Nat) : Int) := by rw [IntKind.wrap_i64]; omega
                  have HP2 : Hid (hxP R 0 = hxP (R.drop (i + 1)) (n * 16 + d)) := hid (by rw [HP.out, hst])
                  clear hst hz hv HP hnb hps HM hyl
                  go_wp2_with (go_at_call 72; refine (HX.out _).mono ?_; rintro e w2 ⟨rfl, rfl⟩)
                  go_roundw
                  case rel => exact ⟨HS, i + 1, n * 16 + d, by omega, by go_num, by go_num, HP2, HM2⟩
                  case measure => simp [intOf]; omega
                · have hz : hxZ y.toNat = -1 := by unfold hxZ; rw [if_neg hv]
                  rw [if_neg hv] at hst
                  rw [hz] at HX
                  have HF : Hid (escD lit ((bl s).drop a) = (0, 0)) := hid (by rw [HNum.out, HP.out, hst])
                  clear hst hz hv HP hnb hps HM hyl
                  go_wp2_with (go_at_call 72; refine (HX.out _).mono ?_; rintro e w2 ⟨rfl, rfl⟩)
                  go_ret2
                  unfold EsD
                  rw [HF.out]
                  exact ⟨rfl, HS⟩
              · have hp' : ¬ (i : Int) < 8 := by omega
                obtain rfl : i = 8 := by omega
                have hPe : hxP R 0 = some n := by rw [HP.out, List.drop_eq_nil_of_le (by rw [HRl.out]; omega)]; rfl
                have HI := hid (fun W => refIs_any (n : Int) W)
                by_cases hsg : sgn n
                · have hz : isZ (n : Int) = true := (isZ_iff _).2 ⟨by omega, by simpa using hsg⟩
                  rw [hz] at HI
                  have HF : Hid (escD lit ((bl s).drop a) = (n, 2 + 8)) := hid (by rw [HNum.out, hPe]; simp only; rw [if_pos hsg])
                  clear hPe hsg hz HP hnb HM
                  go_wp2_with (go_at_call 47; refine (HI.out _).mono ?_; rintro e w2 ⟨rfl, rfl⟩)
                  go_ret2
                  unfold EsD
                  rw [HF.out]
                  exact ⟨rfl, HS⟩
                · have hz : isZ (n : Int) = false := by
                    cases hq : isZ (n : Int) with
                    | false => rfl
                    | true => exact absurd (by simpa using ((isZ_iff _).1 hq).2) hsg
                  rw [hz] at HI
                  have HF : Hid (escD lit ((bl s).drop a) = (0, 0)) := hid (by rw [HNum.out, hPe]; simp only; rw [if_neg hsg])
                  clear hPe hsg hz HP hnb HM
                  go_wp2_with (go_at_call 47; refine (HI.out _).mono ?_; rintro e w2 ⟨rfl, rfl⟩)
                  go_ret2
                  unfold EsD
                  rw [HF.out]
                  exact ⟨rfl, HS⟩
        · rename_i c0
          have k1 : ((x1.toNat : Int) == 117) = false := by rw [beq_eq_false_iff_ne]; omega
          have k2 : ((x1.toNat : Int) == 85) = false := by rw [beq_eq_false_iff_ne]; omega
          have hoth := esc_oth (lit := lit) (l := (bl s).drop a) (by rw [drop_getD, Nat.add_zero, bl_at ha, hx]; exact h92) (by rw [drop_getD, bl_at ha1, hx1]) (by rw [List.length_drop, bl_len]; omega) c0 c1
          have HF : Hid (escD lit ((bl s).drop a) = (0, 0)) := hid (by rw [hoth, hno])
          clear hoth c0 c1 h92 hs
          go_wp2_with fail
          go_ret2
          unfold EsD
          rw [HF.out]
          exact ⟨rfl, HS0⟩
theorem refEsc_any {s : ByteArray} {a : Nat} {lit : Bool} {w : World} (ha : a < s.size) (hs : s.size ≤ 900000) :
    Calls Tryd.prog 49 #[.string s, .int .i64 (a : Int), .bool lit] w (EsD lit w s a) := by
  by_cases h : s.size ≤ a + 1 ∨ (bl s).getD a 0 ≠ 92
  · exact refEsc_zero ha hs h
  · have h1 : ¬ s.size ≤ a + 1 := fun hh => h (.inl hh)
    have h2 : (bl s).getD a 0 = 92 := Classical.byContradiction fun hh => h (.inr hh)
    cases lit with
    | false => exact refEsc_iri ha hs h1 h2
    | true => exact refEsc_lit ha hs h1 h2
end Go.Proofs.YtbbclcllkpabkaaDoor.X
