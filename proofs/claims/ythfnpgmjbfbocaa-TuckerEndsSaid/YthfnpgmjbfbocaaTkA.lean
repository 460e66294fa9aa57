/- awake: the chapter's examples. -/
import Derived.Test.YthfnpgmjbfbocaaTk9
import Derived.Test.YthfnpgmjbfbocaaKt
namespace Go.Proofs.Ythfnpgmjbfbocaa
open Go.RowKit

theorem rd_cells (w : World) (zs : List Int) (arr : Array Value) (h : arr = (zs.map iv).toArray) : RdI (w.alloc (.cells arr 3)) (some ⟨w.heap.size, 0, none⟩) zs := by
  subst h
  have hr := World.rowIs_alloc w (zs.map iv).toArray 3 (vI zs) (fun i hi => by
    have hi' : i < zs.length := by simpa using hi
    simp [vI, iv, List.getD, hi'])
  have e : (zs.map iv).toArray.size = zs.length := by simp
  rw [e] at hr
  exact RdV.of_row hr
theorem RdI.st {w w' : World} {A : Option Addr} {zs : List Int} (h : RdI w A zs) (ho : StO w w') : RdI w' A zs := RdV.only h ho.out fun _ _ _ => no_
theorem same_rd {A B : Option Addr} {c1 c2 : Nat} {zs : List Int} {u : World} (ha : RdI u A zs) (hb : RdI u B zs) (hl : zs.length ≤ 9223372036854775807) :
    Calls Try.prog 39 #[.slice A zs.length c1, .slice B zs.length c2] u fun e w' => e = .returned (.bool true) ∧ StO u w' :=
  (sameInts_eq (y := fun j => zs.getD j 0) ha hb hl).mono fun _ _ ⟨he, hk⟩ => ⟨he, hid (quiet_only hk)⟩

theorem same_rd' {zs : List Int} {n : Nat} (hn : zs.length = n) (h1 : n ≤ 1000000) (A B : Option Addr) (u : World) (ha : RdI u A zs) (hb : RdI u B zs) :
    Calls Try.prog 39 #[.slice A n n, .slice B n n] u fun e w' => e = .returned (.bool true) ∧ StO u w' := by
  subst hn
  exact same_rd ha hb (by omega)
theorem best1 : bestL [1, 2, 3] = [2, 2, 1] := by decide +kernel
theorem best2 : bestL [5, 1, 1, 5] = [1, 3, 3, 2] := by decide +kernel
theorem cost3 : costE [5, 1, 1, 5] [2, 3, 3, 1] = .tuple #[.int .i64 21, .int .i64 0] := by
  have ht : Tr 0 [2, 3, 3, 1] := by
    have h1 : Tr 2 [3, 3] := Tr.two (l := [3]) (.one 3) (.one 3)
    have h2 : Tr 1 [2, 3, 3] := Tr.two (l := [2]) (.one 2) h1
    exact Tr.two (l := [2, 3, 3]) h2 (.one 1)
  have hf : fitB [2, 3, 3, 1] = true := fitB_true.2 (.inr ⟨by simp, by simp, ht⟩)
  have hok : okC [5, 1, 1, 5] [2, 3, 3, 1] = true := by
    unfold okC
    rw [hf]
    decide +kernel
  unfold costE
  rw [if_pos hok]
  have : costL [5, 1, 1, 5] [2, 3, 3, 1] = 21 := by decide +kernel
  rw [this]
theorem len_case {zs ls : List Int} {n : Nat} (hw : isW zs = true) (hb : bestL zs = ls) (hn : zs.length = n) (hn2 : n ≤ 1000) :
    ∀ u A c, RdI u A zs → Calls Try.prog 10 #[.slice A n c] u fun e w' => ∃ B, e = .returned (.tuple #[.slice B n n, .int .i64 0]) ∧ Hid (RdI w' B ls) ∧ StO u w' := by
  intro u A c h
  subst hn
  refine (Lengths_any (cap := c) h (by omega)).mono ?_
  rintro e w' ⟨B, n, c2, he, hn, hc, hr, _, _, ho⟩
  have hn := hn.out
  have hc := hc.out
  have hr := hr.out
  rw [hw, if_pos rfl] at hn hr
  rw [hw, if_pos rfl] at he
  rw [bestL_len] at hn
  subst hc
  subst hn
  rw [hb] at hr
  exact ⟨B, he, hid hr, ho⟩

set_option maxHeartbeats 1000000 in
theorem tkAwake (w : World) : Calls Try.prog 11 #[] w fun e w' => e = .returned (.bool true) ∧ StO w w' := by
  have H1 := hid (len_case (zs := [1, 2, 3]) (ls := [2, 2, 1]) (n := 3) (by decide +kernel) best1 rfl (by omega))
  have H2 := hid (len_case (zs := [5, 1, 1, 5]) (ls := [1, 3, 3, 2]) (n := 4) (by decide +kernel) best2 rfl (by omega))
  have H3 : Hid (∀ u A B, RdI u A [5, 1, 1, 5] → RdI u B [2, 3, 3, 1] → Calls Try.prog 41 #[.slice A 4 4, .slice B 4 4] u fun e w' => e = .returned (.tuple #[.int .i64 21, .int .i64 0]) ∧ StO u w') := hid fun u A B ha hb => by
    have := cost_any (c1 := 4) (c2 := 4) ha hb (by intro z hz; simp at hz; omega) (by simp) (by simp)
    rw [cost3] at this
    exact this
  have H4 : Hid (∀ u A B, RdI u A [2, 2, 1] → RdI u B [2, 2, 1] → Calls Try.prog 39 #[.slice A 3 3, .slice B 3 3] u fun e w' => e = .returned (.bool true) ∧ StO u w') := hid fun u A B ha hb => same_rd' (zs := [2, 2, 1]) (n := 3) rfl (by omega) A B u ha hb
  have H5 : Hid (∀ u A B, RdI u A [1, 3, 3, 2] → RdI u B [1, 3, 3, 2] → Calls Try.prog 39 #[.slice A 4 4, .slice B 4 4] u fun e w' => e = .returned (.bool true) ∧ StO u w') := hid fun u A B ha hb => same_rd' (zs := [1, 3, 3, 2]) (n := 4) rfl (by omega) A B u ha hb
  go_enter Try.func11, Try.ntmps11
  go_wp2_with fail
  refine (H1.out _ _ _ (rd_cells w [1, 2, 3] #[.int .i64 1, .int .i64 2, .int .i64 3] rfl)).mono ?_
  rintro e w1 ⟨B1, rfl, HB1, HO1⟩
  have HO1' : StO w w1 := hid (((Only.refl _ w).alloc _).trans HO1.out)
  clear HO1
  go_wp2_with fail
  refine (H2.out _ _ _ (rd_cells w1 [5, 1, 1, 5] #[.int .i64 5, .int .i64 1, .int .i64 1, .int .i64 5] rfl)).mono ?_
  rintro e w2 ⟨B2, rfl, HB2, HO2⟩
  have HO12 : StO w1 w2 := hid (((Only.refl _ w1).alloc _).trans HO2.out)
  clear HO2
  go_wp2_with fail
  refine (H3.out _ _ _ (RdI.st (rd_cells w2 [5, 1, 1, 5] #[.int .i64 5, .int .i64 1, .int .i64 1, .int .i64 5] rfl) (hid ((Only.refl _ _).alloc _))) (by
    have := rd_cells (w2.alloc (.cells #[.int .i64 5, .int .i64 1, .int .i64 1, .int .i64 5] 3)) [2, 3, 3, 1] #[.int .i64 2, .int .i64 3, .int .i64 3, .int .i64 1] rfl
    simpa using this)).mono ?_
  rintro e w3 ⟨rfl, HO3⟩
  have HO23 : StO w2 w3 := hid ((((Only.refl _ w2).alloc _).alloc _).trans HO3.out)
  clear HO3
  go_wp2_with fail
  refine (H4.out _ _ _ ((HB1.out.st (hid (HO12.out.trans HO23.out))).st (hid ((Only.refl _ _).alloc _))) (rd_cells w3 [2, 2, 1] #[.int .i64 2, .int .i64 2, .int .i64 1] rfl)).mono ?_
  rintro e w4 ⟨rfl, HO4⟩
  have HO34 : StO w3 w4 := hid (((Only.refl _ w3).alloc _).trans HO4.out)
  clear HO4
  go_wp2_with fail
  refine (H5.out _ _ _ ((HB2.out.st (hid (HO23.out.trans HO34.out))).st (hid ((Only.refl _ _).alloc _))) (rd_cells w4 [1, 3, 3, 2] #[.int .i64 1, .int .i64 3, .int .i64 3, .int .i64 2] rfl)).mono ?_
  rintro e w5 ⟨rfl, HO5⟩
  have HO45 : StO w4 w5 := hid (((Only.refl _ w4).alloc _).trans HO5.out)
  clear HO5
  go_wp2_with fail
  go_ret
  exact ⟨rfl, hid ((((HO1'.out.trans HO12.out).trans HO23.out).trans HO34.out).trans HO45.out)⟩
end Go.Proofs.Ythfnpgmjbfbocaa
