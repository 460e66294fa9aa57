/- Text, Raw. -/
import Derived.Test.YtbbclcllkpabkaaDoorUt5
import Derived.Test.YtbbclcllkpabkaaDoorRowI
import Derived.Shelf.Strings.Runes
import Derived.Shelf.Utf8.AppendRunePlain
import Derived.Laws.BytesArg
import Derived.Laws.Runes
import Derived.Lib.OthersKept
import Derived.Deep.LoopGhost
namespace Go.Proofs.YtbbclcllkpabkaaDoor
open Go.RowKit U G

theorem rune_enc {n : Nat} (h : sgn n) : Lib.encodeRuneZ (n : Int) = (encN n).map fun x : Nat => (x : Int) := by
  unfold sgn at h
  unfold encN
  by_cases h1 : n ≤ 127
  · rw [Lib.encodeRuneZ_one (by omega) (by omega), if_pos h1]; rfl
  · by_cases h2 : n ≤ 2047
    · rw [if_neg h1, if_pos h2, show Lib.encodeRuneZ (n : Int) = [192 + (n : Int) / 64, 128 + (n : Int) % 64] from Lib.encodeRuneZ_two (by omega) (by omega)]
      simp
    · by_cases h3 : n ≤ 65535
      · rw [if_neg h1, if_neg h2, if_pos h3, show Lib.encodeRuneZ (n : Int) = [224 + (n : Int) / 4096, 128 + (n : Int) / 64 % 64, 128 + (n : Int) % 64] from Lib.encodeRuneZ_three (by omega)]
        simp
      · rw [if_neg h1, if_neg h2, if_neg h3, show Lib.encodeRuneZ (n : Int) = [240 + (n : Int) / 262144, 128 + (n : Int) / 4096 % 64, 128 + (n : Int) / 64 % 64, 128 + (n : Int) % 64] from Lib.encodeRuneZ_four (by omega) (by omega)]
        simp
def yvs (l : List Nat) : List Value := l.map fun n : Nat => Value.int .u8 (n : Int)
theorem yvs_len (l : List Nat) : (yvs l).length = l.length := by simp [yvs]
theorem rune_cells {n : Nat} (h : sgn n) : Lib.runeCells (n : Int) = yvs (encN n) := by
  unfold Lib.runeCells yvs
  rw [rune_enc h, List.map_map]
  rfl
/-- The text of bytes. -/
def strB (l : List Nat) : ByteArray := strOfNums (l.map fun n : Nat => (n : Int))
theorem bl_strB {l : List Nat} (h : Bys l) : bl (strB l) = l := by
  unfold bl strB
  rw [strOfNums_data, List.map_map, List.map_map]
  refine (List.map_congr_left fun x hx => ?_).trans (List.map_id l)
  have := h x hx
  simp
  omega
theorem strB_bl (s : ByteArray) : strB (bl s) = s := bl_inj (bl_strB (bl_bys s))
def natZ (zs : List Int) : List Nat := zs.map Int.toNat
def allSg (zs : List Int) : Bool := zs.all isZ
theorem encL_app (a b : List Nat) : encL (a ++ b) = encL a ++ encL b := by simp [encL]
theorem encL_len (a : List Nat) : (encL a).length ≤ 4 * a.length := by
  induction a with
  | nil => simp [encL]
  | cons n a ih =>
    have e : encL (n :: a) = encN n ++ encL a := by simp [encL]
    have := (encN_len n).2
    rw [e, List.length_append, List.length_cons]
    omega
theorem encL_bys {ns : List Nat} (h : ∀ n ∈ ns, sgn n) : Bys (encL ns) := fun x hx => by
  obtain ⟨n, hn, hx⟩ := List.mem_flatMap.1 hx
  exact encN_bys (h n hn) x hx
/-- What Text answers. -/
def TextE (w : World) (zs : List Int) (e : Ending) (w' : World) : Prop :=
  StU w w' ∧ e = (if allSg zs then .returned (.tuple #[.string (strB (encL (natZ zs))), .int .i64 0]) else .returned (.tuple #[.string ByteArray.empty, .int .i64 11]))
/-- Bytes so far. -/
structure TxS (w wr : World) (v : Value) (l : List Nat) : Prop where
  own : OwG 5 w wr v (yvs l)
  only : Only (fun _ => False) w wr
theorem own_only {w w1 w2 : World} {o : Obj} {e : TypeId} {v : Value} {xs : List Value} (h : Only (fun _ => False) w w1) (hown : OwG e w w1 v xs) (hg : (w1.alloc o).grownBy w2 v.ownBlock) : Only (fun _ => False) w w2 := by
  refine (h.alloc o).grown hg fun k hk => .inr ?_
  exact (own_block hown.own hk).1
set_option maxRecDepth 100000 in
set_option maxHeartbeats 2000000 in
theorem text_any {A : Option Addr} {n c : Nat} {zs : List Int} {w : World} (hz : RdI w A zs) (hn : n = zs.length) (hl : n ≤ 200000) :
    Calls Tryd.prog 27 #[.slice A n c] w (TextE w zs) := by
  have HZ : Hid (∀ W, Only (fun _ => False) w W → ∀ k, k < n → ∃ b off, A = some ⟨b, off, none⟩ ∧ W.cell? ⟨b, off + k, none⟩ = some (.int .i64 (zs.getD k 0))) := hid fun W hW k hk => by
    obtain ⟨b, off, e, h, hlt⟩ := hz.at (k := k) (by omega)
    exact ⟨b, off, e, (hW.cell (p := ⟨b, off + k, none⟩) hlt no_).trans h⟩
  have HI : Hid (TxS w w (.slice none 0 0) (encL (natZ (zs.take 0)))) := hid ⟨by simpa [natZ, encL, yvs] using OwG.nil (Nat.le_refl _), Only.refl _ w⟩
  have HT : Hid (∀ k, k < n → zs.take (k + 1) = zs.take k ++ [zs.getD k 0]) := hid fun k hk => take_getD (by omega)
  have HAl : Hid (zs.take n = zs) := hid (by rw [hn, List.take_length])
  have HBad : Hid (∀ k, k < n → isZ (zs.getD k 0) = false → allSg zs = false) := hid fun k hk h => by
    unfold allSg
    rw [List.all_eq_false]
    exact ⟨_, getD_mem (k := k) (by omega), by rw [h]; decide⟩
  have HIs := hid is_any
  clear hz hn
  go_enter Tryd.func27, Tryd.ntmps27
  go_wp2_with fail
  go_loopw [4, 9] (fun v i wr => ∃ (k : Nat) (v0 : Value), v0 = v ∧ i = .int .i64 (k : Int) ∧ k ≤ n ∧ Hid (TxS w wr v0 (encL (natZ (zs.take k)))) ∧ Hid (allSg (zs.take k) = true)) (fun _ i _ => n - (intOf i).toNat)
  case atStart => exact ⟨0, _, rfl, rfl, by omega, HI, hid (by simp [allSg])⟩
  case round =>
    obtain ⟨k, v0, rfl, rfl, hk, HS, HA⟩ := hrel
    clear HI
    by_cases hp : k < n
    · have hp' : (k : Int) < (n : Int) := by omega
      obtain ⟨b, off, rfl, d⟩ := HZ.out wr HS.out.only k hp
      have hT := HT.out k hp
      have HBk := hid (HBad.out k hp)
      have HIk := hid (HIs.out (zs.getD k 0))
      generalize zs.getD k 0 = z at *
      cases hz : isZ z with
      | false =>
        have HF := hid (HBk.out hz)
        rw [hz] at HIk
        have HO := hid HS.out.only
        clear hT HBk hz HS HA
        go_wp2_with (go_at_call 19; refine (HIk.out _).mono ?_; rintro e w2 ⟨rfl, HO2⟩)
        go_ret2
        exact ⟨hid (HO.out.trans HO2.out), by rw [HF.out]; rfl⟩
      | true =>
        rw [hz] at HIk
        obtain ⟨h0, hsg⟩ := (isZ_iff z).1 hz
        have hr : z ≤ 1114111 := by unfold sgn at hsg; omega
        have hw32 : IntKind.i32.wrap z = z := by rw [IntKind.wrap_i32]; omega
        have Hc : Hid (Lib.runeCells z = yvs (encN z.toNat)) := hid (by have := rune_cells hsg; rwa [show ((z.toNat : Nat) : Int) = z by omega] at this)
        have Hle : Hid ((encL (natZ (zs.take k))).length ≤ 4 * k) := hid (by
          have h1 := encL_len (natZ (zs.take k))
          have h2 : (natZ (zs.take k)).length ≤ k := by simp [natZ]; omega
          omega)
        have Hnew : Hid (encL (natZ (zs.take (k + 1))) = encL (natZ (zs.take k)) ++ encN z.toNat ∧ allSg (zs.take (k + 1)) = true) := hid (by
          rw [hT]
          refine ⟨by simp [natZ, encL], ?_⟩
          have := HA.out
          unfold allSg at this ⊢
          rw [List.all_append, this]
          simp [hz])
        generalize encL (natZ (zs.take k)) = l at *
        generalize hl' : encL (natZ (zs.take (k + 1))) = l' at *
        have Hl' := hid hl'
        clear hl'
        have HAp : Hid (∀ W, TxS w W v0 l → Calls Tryd.prog 43 #[v0, .int .i32 z] W fun e w' => ∃ v', e = .returned v' ∧ TxS w w' v' l') := hid fun W hW => by
          have h1 := hW.own.own
          have hlen : (yvs l).length ≤ 800000 := by have := Hle.out; rw [yvs_len]; omega
          refine (Tryd.utf8_AppendRune_plain w.heap.size v0 (yvs l).length (yvs l) z (by omega) (by omega) W h1 (by omega) hW.own.ge).mono ?_
          rintro e w' ⟨v', rfl, h2, o, h3⟩
          refine ⟨v', rfl, ⟨?_, ?_⟩, own_only hW.only hW.own h3⟩
          · rw [Hnew.out.1]
            have e1 : yvs (l ++ encN z.toNat) = yvs l ++ Lib.runeCells z := by rw [Hc.out]; simp [yvs]
            rw [e1, List.length_append]
            exact h2
          · exact Nat.le_trans (Nat.le_trans hW.own.ge ((Only.refl (fun _ => False) W).alloc o).size) h3.size
        have HN := hid Hnew.out.2
        clear hT HBk hz HA Hc Hle Hnew hsg
        go_wp2_with (first
          | (go_at_call 19; refine (HIk.out _).mono ?_; rintro e w2 ⟨rfl, HO2⟩; have HS2 : Hid (TxS w w2 v0 l) := hid ⟨HS.out.own.same HO2.out, HS.out.only.trans HO2.out⟩; clear HS HO2)
          | (go_at_call 43; refine (HAp.out _ HS2.out).mono ?_; rintro e w3 ⟨v3, rfl, HS3⟩; have HS4 := hid HS3; clear HS3))
        go_roundw
        case rel => exact ⟨k + 1, _, rfl, by go_num, by omega, by rw [Hl'.out]; exact HS4, HN⟩
        case measure => simp [intOf]; omega
    · obtain rfl : k = n := by omega
      have HF : Hid (allSg zs = true) := hid (by have := HA.out; rwa [HAl.out] at this)
      rw [HAl.out] at HS
      have HO := hid HS.out.only
      obtain ⟨A2, cap, hv, hrd, hnil, _⟩ := HS.out.own.rd
      have hg : ∀ (b off : Nat), A2 = some ⟨b, off, none⟩ → True := fun _ _ _ => trivial
      by_cases h0 : (yvs (encL (natZ zs))).length = 0
      · have hemp : encL (natZ zs) = [] := by rw [yvs_len] at h0; exact List.length_eq_zero_iff.1 h0
        have HE : Hid (strB (encL (natZ zs)) = ByteArray.empty) := hid (by rw [hemp]; rfl)
        rw [h0] at hv
        have hcv : ∀ dst, Tryd.prog.underlying dst = some .string → (convert 25 dst v0).run Tryd.prog wr = .ok (.string ByteArray.empty) wr := fun dst hd => by
          rw [hv]
          cases A2 with
          | none => exact run_convert_bytes_nil (P := Tryd.prog) wr 25 5 Tryd.underlying25 Tryd.underlying5 0 cap dst hd
          | some ad =>
            obtain ⟨b, off, sp⟩ := ad
            have := HS.out.own.own.2
            rcases this with ⟨h, _⟩ | ⟨g, cp, cur, h, _⟩
            · rw [hv] at h; cases h
            · rw [hv] at h
              injection h with h _ _
              injection h with h
              injection h with e1 e2 e3
              subst e1; subst e2; subst e3
              have := run_convert_bytes_arg (P := Tryd.prog) wr 25 5 Tryd.underlying25 Tryd.underlying5 b 0 0 cap [] rfl (fun i hi => absurd hi (by omega)) dst hd
              exact this
        have hcv2 := hcv 9 Tryd.underlying9
        clear hcv hv hrd hnil hg h0 hemp HS HA HZ HT HBad hp hl
        go_wp2_with fail
        go_ret2
        exact ⟨HO, by rw [HF.out, HE.out]; rfl⟩
      · have hS : ∃ b off, A2 = some ⟨b, off, none⟩ ∧ ∀ j, j < (yvs (encL (natZ zs))).length → wr.cell? ⟨b, off + j, none⟩ = some ((yvs (encL (natZ zs))).getD j undef) := hrd (by omega)
        obtain ⟨b, off, rfl, hcell⟩ := hS
        have hcv := run_convert_bytes_arg (P := Tryd.prog) wr 25 5 Tryd.underlying25 Tryd.underlying5 b off (yvs (encL (natZ zs))).length cap ((encL (natZ zs)).map fun n : Nat => (n : Int)) (by simp [yvs]) (fun i hi => by
          rw [hcell i hi]
          simp [yvs, List.getD, show i < (encL (natZ zs)).length by rw [yvs_len] at hi; exact hi]) 9 Tryd.underlying9
        rw [show strOfNums ((encL (natZ zs)).map fun n : Nat => (n : Int)) = strB (encL (natZ zs)) from rfl, ← hv] at hcv
        generalize hSe : strB (encL (natZ zs)) = S at *
        have HSe := hid hSe
        clear hSe hcell hv hrd hnil hg h0 HS HA HZ HT HBad hp hl
        go_wp2_with fail
        go_ret2
        exact ⟨HO, by rw [HF.out, HSe.out]; rfl⟩
end Go.Proofs.YtbbclcllkpabkaaDoor
