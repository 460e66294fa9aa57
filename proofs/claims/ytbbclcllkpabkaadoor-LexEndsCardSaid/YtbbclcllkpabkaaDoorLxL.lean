/- The document's Line; what the law asks of each line. -/
import Derived.Test.YtbbclcllkpabkaaDoorLxJ
import Derived.Deep.CutBlock
namespace Go.Proofs.YtbbclcllkpabkaaDoor.X
open Go.RowKit U G

theorem tokInfoR : (Tryd.prog.info? 43).map (fun i => (i.zero, i.size, i.bytes)) = some (some (.agg #[.int .i64 0, .string ByteArray.empty, .int .i64 0]), 3, 32) := by kernel_rfl
structure LrS (w wr : World) (s : ByteArray) (b : Nat) (v : Value) (ts : List Tk) : Prop where
  own : OwK 43 w wr v ts
  only : Only (fun _ => False) w wr
  val : Val ((bl s).drop b)
  eq : lin (bl s) 0 = (ts ++ (lin ((bl s).drop b) b).1, (lin ((bl s).drop b) b).2)
theorem refLine_char {s : ByteArray} {w : World} (hs : s.size ≤ 100000) (h : (sgsL (bl s)).2 < s.size) :
    Calls Tryd.prog 14 #[.string s] w (LineE w s) := by
  have HS : Hid (Calls Tryd.prog 20 #[.string s] w fun e w' => StU w w' ∧ e = .returned (.tuple #[.slice none 0 0, .int .i64 (((sgsL (bl s)).2 : Nat) : Int), .int .i64 11])) := hid ((refSigns_any (by omega)).mono fun e w' hh => ⟨hh.1, by
    rcases hh.2 with ⟨h1, _⟩ | ⟨_, h1⟩
    · omega
    · exact h1⟩)
  have HF : Hid (∀ w', StU w w' → LineE w s (.returned (.tuple #[.slice none 0 0, .int .i64 (((sgsL (bl s)).2 : Nat) : Int), .int .i64 11])) w') := hid fun w' h1 => ⟨h1, .inl ⟨h, rfl⟩⟩
  clear hs h
  generalize (sgsL (bl s)).2 = n at *
  go_enter Tryd.func14, Tryd.ntmps14
  go_wp2_with (go_at_call 20; refine HS.out.mono ?_; rintro e w1 ⟨HO, rfl⟩)
  go_ret3
  exact HF.out _ HO
set_option maxHeartbeats 4000000 in
set_option maxRecDepth 100000 in
theorem refLine_ok {s : ByteArray} {w : World} (hs : s.size ≤ 100000) (h : (sgsL (bl s)).2 = s.size) :
    Calls Tryd.prog 14 #[.string s] w (LineE w s) := by
  have hv : Val (bl s) := val_of (bl_bys s) (by rw [h, bl_len])
  have HS : Hid (Calls Tryd.prog 20 #[.string s] w fun e w' => StU w w' ∧ ∃ A n cap, e = .returned (.tuple #[.slice A n cap, .int .i64 0, .int .i64 0])) := hid ((refSigns_any (by omega)).mono fun e w' hh => ⟨hh.1, by
    rcases hh.2 with ⟨_, A, cap, h1, _⟩ | ⟨h1, _⟩
    · exact ⟨A, _, cap, h1⟩
    · omega⟩)
  have HI : Hid (∀ w1, StU w w1 → LrS w w1 s 0 (.slice none 0 0) []) := hid fun w1 h1 => ⟨OwK.nil h1.out.size, h1.out, by simpa using hv, by simp⟩
  have HH := hid h
  clear hv h
  go_enter Tryd.func14, Tryd.ntmps14
  go_wp2_with (go_at_call 20; refine HS.out.mono ?_; rintro e w1 ⟨HO, A, n, cap, rfl⟩)
  have HI1 := hid (HI.out w1 HO)
  clear HS HI HO
  go_loopw [8, 9] (fun v iv wr => ∃ (b : Nat) (ts : List Tk) (v0 : Value), v0 = v ∧ iv = .int .i64 (b : Int) ∧ b ≤ s.size ∧ ts.length ≤ b ∧ Hid (LrS w wr s b v0 ts)) (fun _ iv _ => s.size - (intOf iv).toNat)
  case atStart => exact ⟨0, [], _, rfl, rfl, by omega, by simp, HI1⟩
  case round =>
    obtain ⟨b, ts, v0, rfl, rfl, hb, hts, HL⟩ := hrel
    clear HI1
    have hb0 : (0 : Int) ≤ (b : Int) := by omega
    have hend : Hid (∀ wr', LrS w wr' s b v0 ts → (lin ((bl s).drop b) b).1 = [] → (lin ((bl s).drop b) b).2 < 2 → ∃ A2 cap2, v0 = .slice A2 ts.length cap2 ∧ LineE w s (.returned (.tuple #[.slice A2 ts.length cap2, .int .i64 0, .int .i64 0])) wr') := hid fun wr' h1 h2 h3 => by
      obtain ⟨A3, cap3, hv3, hr3, h4, h5⟩ := h1.own.done
      have he := h1.eq
      rw [h2, List.append_nil] at he
      refine ⟨A3, cap3, hv3, hid h1.only, .inr (.inr ⟨HH.out, by rw [he]; exact h3, A3, ts.length, cap3, rfl, hid ?_⟩)⟩
      rw [he]
      exact ⟨rfl, hr3, h5, h4⟩
    by_cases hlt : b < s.size
    · have hlt' : (b : Int) < (s.size : Int) := by omega
      obtain ⟨x, hx⟩ : ∃ x, s[b]'hlt = x := ⟨_, rfl⟩
      have hgd : ((bl s).drop b).getD 0 0 = x.toNat := by rw [drop_getD, Nat.add_zero, bl_at hlt, hx]
      have hlen : ((bl s).drop b).length = s.size - b := by rw [List.length_drop, bl_len]
      have hcons : ∃ t, (bl s).drop b = x.toNat :: t := by
        cases hq : (bl s).drop b with
        | nil => rw [hq] at hlen; simp at hlen; omega
        | cons y t => rw [hq] at hgd; exact ⟨t, by simp at hgd; rw [hgd]⟩
      obtain ⟨tl, htl⟩ := hcons
      have hd1 : (bl s).drop (b + 1) = tl := by rw [← List.drop_drop, htl]; rfl
      by_cases h35 : x.toNat = 35
      · have k35 : ((x.toNat : Int) == 35) = true := by rw [beq_iff_eq]; omega
        rw [h35] at htl
        obtain ⟨A2, cap2, hv0, hF⟩ := hend.out wr HL.out (by rw [htl, lin_rem]) (by rw [htl, lin_rem]; decide)
        have HF := hid hF
        subst hv0
        clear hend hgd hlen htl hd1 hF HL h35
        go_wp2_with fail
        go_ret3
        exact HF.out
      · have k35 : ((x.toNat : Int) == 35) = false := by rw [beq_eq_false_iff_ne]; omega
        by_cases hbk : x.toNat = 32 ∨ x.toNat = 9
        · have hw1 : IntKind.i64.wrap ((b : Int) + 1) = ((b + 1 : Nat) : Int) := by rw [IntKind.wrap_i64]; omega
          have HL2 : Hid (LrS w wr s (b + 1) v0 ts) := hid ⟨HL.out.own, HL.out.only, by
              have := HL.out.val
              rw [htl] at this
              rw [hd1]
              exact asc_left (blank_lt hbk) this, by
              have := HL.out.eq
              rw [htl, lin_blank hbk] at this
              rw [hd1]
              exact this⟩
          rcases hbk with h32 | h9
          · have k32 : ((x.toNat : Int) == 32) = true := by rw [beq_iff_eq]; omega
            clear hend hgd hlen htl hd1 HL h35 h32
            go_wp2_with fail
            go_roundw
            case rel => exact ⟨b + 1, ts, _, rfl, by go_num, by omega, by omega, HL2⟩
            case measure => simp [intOf]; omega
          · have k32 : ((x.toNat : Int) == 32) = false := by rw [beq_eq_false_iff_ne]; omega
            have k9 : ((x.toNat : Int) == 9) = true := by rw [beq_iff_eq]; omega
            clear hend hgd hlen htl hd1 HL h35 h9
            go_wp2_with fail
            go_roundw
            case rel => exact ⟨b + 1, ts, _, rfl, by go_num, by omega, by omega, HL2⟩
            case measure => simp [intOf]; omega
        · have k32 : ((x.toNat : Int) == 32) = false := by rw [beq_eq_false_iff_ne]; omega
          have k9 : ((x.toNat : Int) == 9) = false := by rw [beq_eq_false_iff_ne]; omega
          have HTk := hid (fun W => refTok_any (w := W) hlt hs HL.out.val)
          cases ht : tok ((bl s).drop b) with
          | none =>
            rw [ht] at HTk
            have l3 := lin_none htl h35 hbk ht b
            have heq := HL.out.eq
            rw [l3] at heq
            have HF : Hid (∀ w3, Only (fun _ => False) w w3 → LineE w s (.returned (.tuple #[.slice none 0 0, .int .i64 (b : Int), .int .i64 10])) w3) := hid fun w3 h3 => ⟨hid h3, .inr (.inl ⟨HH.out, b, by rw [heq], rfl⟩)⟩
            have HO := hid HL.out.only
            clear hend hgd hlen htl hd1 HL h35 hbk ht l3 heq
            go_wp2_with (go_at_call 21; refine (HTk.out _).mono ?_; rintro e w2 ⟨⟨k2, x2, rfl⟩, HO2⟩)
            go_ret3
            exact HF.out _ ((HO.out.trans HO2.out).alloc _)
          | some q =>
            obtain ⟨k, xl, m⟩ := q
            rw [ht] at HTk
            obtain ⟨z1, z2, _⟩ := tok_size HL.out.val.bys ht
            rw [List.length_drop, bl_len] at z2
            have l3 := lin_tok ht b
            rw [List.drop_drop] at l3
            have heq := HL.out.eq
            rw [l3] at heq
            have hvt := HL.out.val.tail ht
            rw [List.drop_drop] at hvt
            obtain ⟨xs, hxs⟩ : ∃ xs, strB xl = xs := ⟨_, rfl⟩
            have HTk2 : Hid (∀ W, Calls Tryd.prog 21 #[.string s, .int .i64 (b : Int)] W fun e w' => e = .returned (.tuple #[.agg #[.int .i64 (k : Int), .string xs, .int .i64 (b : Int)], .int .i64 (m : Int)]) ∧ StU W w') := hid fun W => by rw [← hxs]; exact HTk.out W
            have Hxs : Hid (strB (k, xl, b).2.1 = xs) := hid hxs
            have HKp : Hid (∀ W, Only (fun _ => False) wr W → OwK 43 w W v0 ts) := hid fun W hW => HL.out.own.fr (T := Tr) (B := 0) (FrT.of_only hW) (by decide)
            have HOn := hid HL.out.only
            have HEnd : Hid (∀ w5 v5, Only (fun _ => False) w w5 → OwK 43 w w5 v5 (ts ++ [(k, xl, b)]) → LrS w w5 s (b + m) v5 (ts ++ [(k, xl, b)])) := hid fun w5 v5 h1 h2 => ⟨h2, h1, hvt, by rw [heq, List.append_assoc]; rfl⟩
            have hm0 : ((m : Int) == 0) = false := by rw [beq_eq_false_iff_ne]; omega
            have hw1 : IntKind.i64.wrap ((b : Int) + (m : Int)) = ((b + m : Nat) : Int) := by rw [IntKind.wrap_i64]; omega
            clear hend hgd hlen htl hd1 HL h35 hbk ht l3 heq HTk hvt hxs
            go_wp2_with (first
              | (go_at_call 21; refine (HTk2.out _).mono ?_; rintro e w4 ⟨rfl, HO4⟩)
              | (at_builtin; refine wpList_addT w _ 39 43 (.agg #[.int .i64 0, .string ByteArray.empty, .int .i64 0]) Tryd.underlying39 tokInfoR rfl rfl _ _ rfl _ ts rfl (hid (HKp.out _ ((HO4.out.alloc _).alloc _))) (k, xl, b) _ _ rfl (by omega) _ (by simp) xs Hxs rfl ?_; intro v5 w5 Hown Hfr))
            have HL5 : Hid (LrS w w5 s (b + m) v5 (ts ++ [(k, xl, b)])) := hid (HEnd.out _ _ (frx_only ((((HOn.out.trans HO4.out).alloc _).alloc _)) Hfr.out) Hown.out)
            clear HKp HTk2 HEnd Hown Hfr
            go_roundw
            case rel => exact ⟨b + m, ts ++ [(k, xl, b)], _, rfl, by go_num, by omega, by rw [List.length_append, List.length_singleton]; omega, HL5⟩
            case measure => simp [intOf]; omega
    · have hlt' : ¬ (b : Int) < (s.size : Int) := by omega
      have hnil : (bl s).drop b = [] := List.drop_eq_nil_of_le (by rw [bl_len]; omega)
      obtain ⟨A2, cap2, hv0, hF⟩ := hend.out wr HL.out (by rw [hnil]; rfl) (by rw [hnil]; simp [lin_nil])
      have HF := hid hF
      subst hv0
      clear hend hnil hF HL
      go_wp2_with fail
      go_ret3
      exact HF.out
theorem refLine_any {s : ByteArray} {w : World} (hs : s.size ≤ 100000) : Calls Tryd.prog 14 #[.string s] w (LineE w s) := by
  have h := sgsL_le (bl_bys s)
  rw [bl_len] at h
  rcases Nat.lt_or_ge (sgsL (bl s)).2 s.size with h1 | h1
  · exact refLine_char hs h1
  · exact refLine_ok hs (by omega)
end Go.Proofs.YtbbclcllkpabkaaDoor.X
