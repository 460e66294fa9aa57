/- TuckerTells. -/
import Derived.Test.YthfnpgmjbfbocaaTkJ
namespace Go.Proofs.Ythfnpgmjbfbocaa
open Go.RowKit

set_option maxRecDepth 100000 in
set_option maxHeartbeats 2000000 in
theorem refLen_any {A : Option Addr} {cap : Nat} {zs : List Int} {w : World} (hz : RdI w A zs) (hl : zs.length ≤ 9223372036854775807) :
    Calls Try.prog 40 #[.slice A zs.length cap] w (LenE w zs) := by
  have HA := hid (refW_any (cap := cap) hz hl)
  cases hw : isW zs with
  | false =>
    rw [hw] at HA
    have HE : Hid (∀ w', StO w w' → LenE w zs (.returned (.tuple #[.slice none 0 0, .int .i64 2])) w') := hid fun w' ho => ⟨none, 0, 0, by rw [hw]; rfl, hid (by rw [hw]; rfl), hid rfl, hid (by rw [hw]; exact RdV.nil _), hid fun _ => rfl, hid fun h => absurd rfl h, ho⟩
    clear hz
    generalize zs.length = N at *
    go_enter Try.func40, Try.ntmps40
    go_wp2_with (go_at_call 76; refine HA.out.mono ?_; rintro e w' ⟨rfl, rfl⟩)
    go_ret2
    exact HE.out _ (hid (Only.refl _ w))
  | true =>
    have ⟨h1, h2, h3⟩ := isW_of hw
    by_cases hone : zs.length = 1
    · rw [hw] at HA
      have HE : Hid (∀ w' g, w.heap.size ≤ g → StO w w' → w'.rowIs g 3 1 (vI [1]) → LenE w zs (.returned (.tuple #[.slice (some ⟨g, 0, none⟩) 1 1, .int .i64 0])) w') := hid fun w' g hg ho hr => by
        have hb : bestL zs = [1] := by unfold bestL; rw [if_pos hone]
        refine ⟨some ⟨g, 0, none⟩, 1, 1, by rw [hw]; rfl, hid (by rw [hw, if_pos rfl, hb]; rfl), hid rfl, hid (by rw [hw, if_pos rfl, hb]; exact RdV.of_row hr), hid (fun h => by cases h), hid fun _ => ⟨g, rfl, hg, _, hr⟩, ho⟩
      clear hz h3
      generalize zs.length = N at *
      subst hone
      go_enter Try.func40, Try.ntmps40
      go_wp2_with (go_at_call 76; refine HA.out.mono ?_; rintro e w' ⟨rfl, rfl⟩)
      go_ret2
      exact HE.out _ _ (Nat.le_refl _) (hid ((Only.refl _ w).alloc _)) (World.rowIs_alloc w #[.int .i64 1] 3 (vI [1]) (fun i hi => by
        match i, hi with
        | 0, _ => rfl
        | i + 1, hi => exact absurd (show i + 1 < 1 from hi) (by omega)))
    · exact refLen_main hz hw (by omega)

set_option maxHeartbeats 1000000 in
theorem overInts_gen {g c : Nat} {w : World} (hr : AnyRow w 3 g c) (hn : c ≤ 3000000) :
    Calls Try.prog 17 #[.slice (some ⟨g, 0, none⟩) c c] w fun e w' => e = .returned (.tuple #[]) ∧ Hid (OverS w w' 3 g c) := by
  have HS : Hid (OverS w w 3 g c) := hid ⟨hr, Only.refl _ w⟩
  clear hr
  have hmin : min (c : Int) ((c : Int) + 12) = (c : Int) := by omega
  go_enter Try.func17, Try.ntmps17
  go_wp2
  clear hmin
  go_loopw [3] (fun s wr => ∃ k : Nat, k ≤ c ∧ s = .int .i64 k ∧ Hid (OverS w wr 3 g c)) (fun s _ => c - (intOf s).toNat)
  case atStart => exact ⟨0, by omega, rfl, HS⟩
  case round =>
    obtain ⟨k, hk, rfl, HR⟩ := hrel
    clear HS
    by_cases hp : k < c
    · obtain ⟨F, hF⟩ := HR.out.1
      have ck := hF.cell (i := k) (by omega)
      have fz := hF.frozen k
      have hlt := hF.lt
      have HN : Hid (∀ x : Value, OverS w (wr.setCell ⟨g, k, none⟩ x) 3 g c) := hid fun x => ⟨⟨_, hF.set k _⟩, HR.out.2.setCell (.inl rfl) _⟩
      clear HR hF
      go_wp2_with (go_at_call 49; refine (mark_any 2 k _ (by omega) (by omega)).mono ?_; rintro e w2 ⟨rfl, rfl⟩)
      go_roundw
      case rel => exact ⟨k + 1, by omega, by go_num, HN.out _⟩
      case measure => simp [intOf]; omega
    · obtain rfl : k = c := by omega
      go_wp2_with fail
      go_end0
      exact ⟨rfl, HR⟩
set_option maxHeartbeats 1000000 in
theorem overInts_nil {A : Option Addr} {w : World} :
    Calls Try.prog 17 #[.slice A 0 0] w fun e w' => e = .returned (.tuple #[]) ∧ w = w' := by
  go_enter Try.func17, Try.ntmps17
  go_wp2
  go_loopw [3] (fun s wr => s = .int .i64 0 ∧ w = wr) (fun _ _ => 0)
  case atStart => exact ⟨rfl, rfl⟩
  case round =>
    obtain ⟨rfl, rfl⟩ := hrel
    go_wp2_with fail
    go_end0
    exact ⟨rfl, rfl⟩
/-- Lengths are written over. -/
theorem over_len {w1 w2 u : World} {A : Option Addr} {n : Nat} (hx : n ≠ 0 → ∃ g, A = some ⟨g, 0, none⟩ ∧ w1.heap.size ≤ g ∧ AnyRow w2 3 g n) (hn : n ≤ 1000) (h2 : StO w2 u) (h1 : StO w1 u) :
    Calls Try.prog 17 #[.slice A n n] u fun e w' => e = .returned (.tuple #[]) ∧ StO w1 w' := by
  by_cases h0 : n = 0
  · subst h0
    exact overInts_nil.mono fun e w' ⟨he, hw⟩ => ⟨he, hw ▸ h1⟩
  · obtain ⟨g, rfl, hg, F, hF⟩ := hx h0
    refine (overInts_gen (c := n) ⟨F, h2.out.row hF no_⟩ (by omega)).mono fun e w' ⟨he, ho⟩ => ⟨he, hid ?_⟩
    have h3 := h1.out
    have h4 := ho.out.2
    exact ⟨h4.os.trans h3.os, h4.tape.trans h3.tape, h4.output.trans h3.output, Nat.le_trans h3.size h4.size, fun k hk hf => (h4.block k (Nat.lt_of_lt_of_le hk h3.size) (fun e => by have e' : k = g := e; omega)).trans (h3.block k hk hf)⟩

set_option maxRecDepth 100000 in
set_option maxHeartbeats 4000000 in
theorem tuckerTells_any {A : Option Addr} {c1 : Nat} {zs : List Int} {w : World} (hz : RdI w A zs) (_hzi : InI zs) (hA : A = none → zs.length = 0 ∧ c1 = 0) (hl : zs.length ≤ 9223372036854775807) :
    Calls Try.prog 8 #[.slice A zs.length c1] w fun e w' => e = .returned (.bool true) ∧ Hid (Below w.heap.size w w') := by
  have HAw := hid fun u => tkAwake u
  by_cases hshort : zs.length ≤ 300 ∧ (zs.length ≤ 70 ∨ 258 ≤ zs.length)
  · obtain ⟨hn, hm⟩ := hshort
    have hn' : ¬ (300 : Int) < (zs.length : Int) := by omega
    have HLn : Hid (∀ u, StO w u → Calls Try.prog 13 #[.slice A zs.length c1] u fun e w' => ∃ g : Nat, e = .returned (.slice (some ⟨g, 0, none⟩) zs.length (zs.length + 12)) ∧ Hid (LentI w' g zs) ∧ Hid (u.heap.size ≤ g) ∧ StO u w') := hid fun u hu => lent_of (hz.st hu) hA rfl (by omega)
    have HLe : Hid (∀ u g, LentI u g zs → Calls Try.prog 10 #[.slice (some ⟨g, 0, none⟩) zs.length (zs.length + 12)] u (LenE u zs)) := hid fun u g hg => Lengths_any hg.rd hl
    have HRe : Hid (∀ u, StO w u → Calls Try.prog 40 #[.slice A zs.length c1] u (LenE u zs)) := hid fun u hu => refLen_any (hz.st hu) hl
    have HKp : Hid (∀ u g, StO w u → LentI u g zs → Calls Try.prog 16 #[.slice (some ⟨g, 0, none⟩) zs.length (zs.length + 12), .slice A zs.length c1] u fun e w' => e = .returned (.bool true) ∧ StO u w') := hid fun u g hu hk => kept_of (hz.st hu) hk rfl (by omega)
    obtain ⟨L, hL⟩ : ∃ L, L = (if isW zs = true then bestL zs else []) := ⟨_, rfl⟩
    obtain ⟨er, her⟩ : ∃ er : Int, er = (if isW zs = true then 0 else 2) := ⟨_, rfl⟩
    have HLe2 : Hid (∀ u e w', LenE u zs e w' → ∃ (A : Option Addr), e = .returned (.tuple #[.slice A L.length L.length, .int .i64 er]) ∧ Hid (RdI w' A L) ∧ Hid (L.length ≠ 0 → ∃ g, A = some ⟨g, 0, none⟩ ∧ u.heap.size ≤ g ∧ AnyRow w' 3 g L.length) ∧ StO u w') := hid fun u e w' h => by
      obtain ⟨A, n, c, he, hn, hc, hr, _, hx, ho⟩ := h
      have hn := hn.out
      have hc := hc.out
      subst hc
      rw [← hL] at hn hr
      rw [← her] at he
      subst hn
      exact ⟨A, he, hr, hx, ho⟩
    have hLl : L.length ≤ 1000 := by
      rw [hL]
      split
      · rw [bestL_len]; omega
      · simp
    clear hz hA hL her hl
    generalize hLL : L.length = ll at *
    have HLL := hid hLL
    clear hLL
    generalize zs.length = N at *
    go_enter Try.func8, Try.ntmps8
    have hcond : (¬ (70 : Int) < (N : Int)) ∨ ((70 : Int) < (N : Int) ∧ ¬ (N : Int) < 258) := by omega
    rcases hcond with hc70 | ⟨hc70, hc258⟩
    all_goals
      go_wp2_with fail
      refine (HLn.out _ (hid (Only.refl _ _))).mono ?_
      rintro e w1 ⟨g1, rfl, HI1, _, HO1⟩
      go_wp2_with fail
      refine (HLe.out _ _ HI1.out).mono ?_
      intro e w2 hE2
      obtain ⟨A2, rfl, HR2, HX2, HO2⟩ := HLe2.out _ _ _ hE2
      have HO02 : StO w w2 := hid (HO1.out.trans HO2.out)
      clear hE2
      go_wp2_with fail
      refine (HRe.out _ HO02).mono ?_
      intro e w3 hE3
      obtain ⟨A3, rfl, HR3, _, HO3⟩ := HLe2.out _ _ _ hE3
      have HO03 : StO w w3 := hid (HO02.out.trans HO3.out)
      have HO13 : StO w1 w3 := hid (HO2.out.trans HO3.out)
      have HR23 := hid (HR2.out.st HO3)
      clear hE3
      go_wp2_with fail
      refine (same_rd' (n := ll) HLL.out (by omega) A2 A3 _ HR23.out HR3.out).mono ?_
      rintro e w4 ⟨rfl, HO4⟩
      have HO04 : StO w w4 := hid (HO03.out.trans HO4.out)
      have HO14 : StO w1 w4 := hid (HO13.out.trans HO4.out)
      have HO24 : StO w2 w4 := hid (HO3.out.trans HO4.out)
      clear HR23 HR3 HR2 HO3 HO4 HO13 HO03 HLe2 HRe HLe HLn
      go_wp2_with fail
      refine (HKp.out _ _ HO04 (HI1.out.st HO14)).mono ?_
      rintro e w5 ⟨rfl, HO5⟩
      have HO15 : StO w1 w5 := hid (HO14.out.trans HO5.out)
      have HO25 : StO w2 w5 := hid (HO24.out.trans HO5.out)
      clear HO04 HO14 HO24 HO5
      go_wp2_with fail
      refine (over_len HX2.out hLl HO25 HO15).mono ?_
      rintro e w6 ⟨rfl, HO16⟩
      have HO06 : StO w w6 := hid (HO1.out.trans HO16.out)
      clear HX2 HO25 HO15
      go_wp2_with fail
      refine (HKp.out _ _ HO06 (HI1.out.st HO16)).mono ?_
      rintro e w7 ⟨rfl, HO7⟩
      have HO07 : StO w w7 := hid (HO06.out.trans HO7.out)
      clear HKp HI1 HO16 HO06 HO7
      go_wp2_with fail
      refine (HAw.out _).mono ?_
      rintro e w8 ⟨rfl, HO8⟩
      have HO08 : StO w w8 := hid (HO07.out.trans HO8.out)
      clear HO07 HO8 HAw
      go_wp2_with fail
      go_ret
      exact ⟨rfl, hid (HO08.out.to_below (fun _ h => h.elim) (Nat.le_refl _))⟩
  · clear hz hA
    generalize zs.length = N at *
    by_cases hN : 300 < N
    · have hN' : (300 : Int) < (N : Int) := by omega
      have hN2 : (70 : Int) < (N : Int) := by omega
      have hN3 : ¬ (N : Int) < 258 := by omega
      clear hshort
      go_enter Try.func8, Try.ntmps8
      go_wp2_with fail
      refine (HAw.out _).mono ?_
      rintro e w1 ⟨rfl, HO1⟩
      go_wp2_with fail
      go_ret
      exact ⟨rfl, hid (HO1.out.to_below (fun _ h => h.elim) (Nat.le_refl _))⟩
    · have hN2 : (70 : Int) < (N : Int) := by omega
      have hN3 : (N : Int) < 258 := by omega
      clear hshort
      go_enter Try.func8, Try.ntmps8
      go_wp2_with fail
      refine (HAw.out _).mono ?_
      rintro e w1 ⟨rfl, HO1⟩
      go_wp2_with fail
      go_ret
      exact ⟨rfl, hid (HO1.out.to_below (fun _ h => h.elim) (Nat.le_refl _))⟩
end Go.Proofs.Ythfnpgmjbfbocaa
