/- TuckerFits. -/
import Derived.Test.YthfnpgmjbfbocaaTkG
namespace Go.Proofs.Ythfnpgmjbfbocaa
open Go.RowKit

/-- Ints that were lent, and are as they were. -/
def LentI (w : World) (g : Nat) (zs : List Int) : Prop := w.rowIs g 3 (zs.length + 12) (lentV zs.length (vI zs) mI)
theorem LentI.st {w w' : World} {g : Nat} {zs : List Int} (h : LentI w g zs) (ho : StO w w') : LentI w' g zs := ho.out.row h no_
theorem LentI.rd {w : World} {g : Nat} {zs : List Int} (h : LentI w g zs) : RdI w (some ⟨g, 0, none⟩) zs :=
  ((RdV.of_row h).take (by omega)).congr fun j hj => by unfold lentV; rw [if_pos hj]
theorem vI_one (zs : List Int) : ∀ j, (vI zs j).oneCell' = true := fun _ => rfl
theorem lent_of {A : Option Addr} {c n : Nat} {zs : List Int} {u : World} (hz : RdI u A zs) (hA : A = none → n = 0 ∧ c = 0) (hn : n = zs.length) (h : n ≤ 1000000) :
    Calls Try.prog 13 #[.slice A n c] u fun e w' => ∃ g : Nat, e = .returned (.slice (some ⟨g, 0, none⟩) n (n + 12)) ∧ Hid (LentI w' g zs) ∧ Hid (u.heap.size ≤ g) ∧ StO u w' := by
  subst hn
  refine (lentInts_any hz (vI_one zs) hA (by omega)).mono ?_
  rintro e w' ⟨g, he, hx⟩
  exact ⟨g, he, hid hx.out.2.1, hid hx.out.1, hid (Only.of_below hx.out.2.2 _)⟩
theorem kept_of {A : Option Addr} {c g n : Nat} {zs : List Int} {u : World} (hz : RdI u A zs) (hg : LentI u g zs) (hn : n = zs.length) (h : n ≤ 1000000) :
    Calls Try.prog 16 #[.slice (some ⟨g, 0, none⟩) n (n + 12), .slice A n c] u fun e w' => e = .returned (.bool true) ∧ StO u w' := by
  subst hn
  exact (keptInts_any (x := fun j => zs.getD j 0) (by omega) hz hg).mono fun _ _ ⟨he, hk⟩ => ⟨he, hid (quiet_only hk)⟩
theorem costE_shape (ws ls : List Int) : ∃ x y, costE ws ls = .tuple #[.int .i64 x, .int .i64 y] := by
  unfold costE
  split
  · exact ⟨_, _, rfl⟩
  · exact ⟨_, _, rfl⟩

set_option maxRecDepth 100000 in
set_option maxHeartbeats 4000000 in
theorem tuckerFits_any {A B : Option Addr} {c1 c2 : Nat} {ws ls : List Int} {w : World} (hw : RdI w A ws) (_hwi : InI ws) (hA : A = none → ws.length = 0 ∧ c1 = 0) (hl : RdI w B ls) (hli : InI ls) (hB : B = none → ls.length = 0 ∧ c2 = 0) (h1 : ws.length ≤ 9223372036854775807) (h2 : ls.length ≤ 9223372036854775807) :
    Calls Try.prog 9 #[.slice A ws.length c1, .slice B ls.length c2] w fun e w' => e = .returned (.bool true) ∧ Hid (Below w.heap.size w w') := by
  have HAw := hid fun u => tkAwake u
  by_cases hshort : ws.length ≤ 300 ∧ ls.length ≤ 300
  · obtain ⟨hn, hm⟩ := hshort
    have hn' : ¬ (300 : Int) < (ws.length : Int) := by omega
    have hm' : ¬ (300 : Int) < (ls.length : Int) := by omega
    obtain ⟨x, y, hxy⟩ := costE_shape ws ls
    have HLw : Hid (∀ u, StO w u → Calls Try.prog 13 #[.slice A ws.length c1] u fun e w' => ∃ g : Nat, e = .returned (.slice (some ⟨g, 0, none⟩) ws.length (ws.length + 12)) ∧ Hid (LentI w' g ws) ∧ Hid (u.heap.size ≤ g) ∧ StO u w') := hid fun u hu => lent_of (hw.st hu) hA rfl (by omega)
    have HLl : Hid (∀ u, StO w u → Calls Try.prog 13 #[.slice B ls.length c2] u fun e w' => ∃ g : Nat, e = .returned (.slice (some ⟨g, 0, none⟩) ls.length (ls.length + 12)) ∧ Hid (LentI w' g ls) ∧ Hid (u.heap.size ≤ g) ∧ StO u w') := hid fun u hu => lent_of (hl.st hu) hB rfl (by omega)
    have HCo : Hid (∀ u g1 g2, LentI u g1 ws → LentI u g2 ls → Calls Try.prog 41 #[.slice (some ⟨g1, 0, none⟩) ws.length (ws.length + 12), .slice (some ⟨g2, 0, none⟩) ls.length (ls.length + 12)] u fun e w' => e = .returned (.tuple #[.int .i64 x, .int .i64 y]) ∧ StO u w') := hid fun u g1 g2 k1 k2 => by
      have := cost_of (c1 := ws.length + 12) (c2 := ls.length + 12) k1.rd k2.rd hli rfl rfl (by omega) (by omega)
      rw [hxy] at this
      exact this
    have HRf : Hid (∀ u, StO w u → Calls Try.prog 44 #[.slice B ls.length c2] u fun e w' => e = .returned (.bool (fitB ls)) ∧ StO u w') := hid fun u hu => refFits_any (hl.st hu) hli hB h2
    have HRc : Hid (∀ u, StO w u → Calls Try.prog 42 #[.slice A ws.length c1, .slice B ls.length c2] u fun e w' => e = .returned (.tuple #[.int .i64 x, .int .i64 y]) ∧ StO u w') := hid fun u hu => by
      have := refCost_any (c1 := c1) (hw.st hu) (hl.st hu) (hid (HRf.out u hu)) h1 h2
      rw [hxy] at this
      exact this
    have HFi : Hid (∀ u g2, LentI u g2 ls → Calls Try.prog 43 #[.slice (some ⟨g2, 0, none⟩) ls.length (ls.length + 12)] u fun e w' => e = .returned (.bool (fitB ls)) ∧ StO u w') := hid fun u g2 k2 => fits_of k2.rd hli rfl (by omega)
    have HKw : Hid (∀ u g, StO w u → LentI u g ws → Calls Try.prog 16 #[.slice (some ⟨g, 0, none⟩) ws.length (ws.length + 12), .slice A ws.length c1] u fun e w' => e = .returned (.bool true) ∧ StO u w') := hid fun u g hu hk => kept_of (hw.st hu) hk rfl (by omega)
    have HKl : Hid (∀ u g, StO w u → LentI u g ls → Calls Try.prog 16 #[.slice (some ⟨g, 0, none⟩) ls.length (ls.length + 12), .slice B ls.length c2] u fun e w' => e = .returned (.bool true) ∧ StO u w') := hid fun u g hu hk => kept_of (hl.st hu) hk rfl (by omega)
    clear hw hl hli hA hB hxy h1 h2
    generalize fitB ls = fb at *
    generalize ws.length = N at *
    generalize ls.length = M at *
    go_enter Try.func9, Try.ntmps9
    go_wp2_with fail
    refine (HLw.out _ (hid (Only.refl _ _))).mono ?_
    rintro e w1 ⟨g1, rfl, HI1, _, HO1⟩
    go_wp2_with fail
    refine (HLl.out _ HO1).mono ?_
    rintro e w2 ⟨g2, rfl, HJ2, _, HO2⟩
    have HO02 : StO w w2 := hid (HO1.out.trans HO2.out)
    have HI2 := hid (HI1.out.st HO2)
    clear HI1 HO1 HO2 HLw HLl
    go_wp2_with fail
    refine (HCo.out _ _ _ HI2.out HJ2.out).mono ?_
    rintro e w3 ⟨rfl, HO3⟩
    have HO03 : StO w w3 := hid (HO02.out.trans HO3.out)
    have HI3 := hid (HI2.out.st HO3)
    have HJ3 := hid (HJ2.out.st HO3)
    clear HI2 HJ2 HO02 HO3 HCo
    go_wp2_with fail
    refine (HRc.out _ HO03).mono ?_
    rintro e w4 ⟨rfl, HO4⟩
    have HO04 : StO w w4 := hid (HO03.out.trans HO4.out)
    have HI4 := hid (HI3.out.st HO4)
    have HJ4 := hid (HJ3.out.st HO4)
    clear HI3 HJ3 HO03 HO4 HRc
    go_wp2_with fail
    refine (HFi.out _ _ HJ4.out).mono ?_
    rintro e w5 ⟨rfl, HO5⟩
    have HO05 : StO w w5 := hid (HO04.out.trans HO5.out)
    have HI5 := hid (HI4.out.st HO5)
    have HJ5 := hid (HJ4.out.st HO5)
    clear HI4 HJ4 HO04 HO5 HFi
    go_wp2_with fail
    refine (HRf.out _ HO05).mono ?_
    rintro e w6 ⟨rfl, HO6⟩
    have HO06 : StO w w6 := hid (HO05.out.trans HO6.out)
    have HI6 := hid (HI5.out.st HO6)
    have HJ6 := hid (HJ5.out.st HO6)
    clear HI5 HJ5 HO05 HO6 HRf
    go_wp2_with fail
    refine (HKw.out _ _ HO06 HI6.out).mono ?_
    rintro e w7 ⟨rfl, HO7⟩
    have HO07 : StO w w7 := hid (HO06.out.trans HO7.out)
    have HJ7 := hid (HJ6.out.st HO7)
    clear HI6 HJ6 HO06 HO7 HKw
    go_wp2_with fail
    refine (HKl.out _ _ HO07 HJ7.out).mono ?_
    rintro e w8 ⟨rfl, HO8⟩
    have HO08 : StO w w8 := hid (HO07.out.trans HO8.out)
    clear HJ7 HO07 HO8 HKl
    go_wp2_with fail
    refine (HAw.out _).mono ?_
    rintro e w9 ⟨rfl, HO9⟩
    have HO09 : StO w w9 := hid (HO08.out.trans HO9.out)
    clear HO08 HO9 HAw
    go_wp2_with fail
    go_ret
    exact ⟨rfl, hid (HO09.out.to_below (fun _ h => h.elim) (Nat.le_refl _))⟩
  · clear hw hl hli hA hB
    generalize ws.length = N at *
    generalize ls.length = M at *
    by_cases hN : 300 < N
    · have hN' : (300 : Int) < (N : Int) := by omega
      clear hshort
      go_enter Try.func9, Try.ntmps9
      go_wp2_with fail
      refine (HAw.out _).mono ?_
      rintro e w1 ⟨rfl, HO1⟩
      go_wp2_with fail
      go_ret
      exact ⟨rfl, hid (HO1.out.to_below (fun _ h => h.elim) (Nat.le_refl _))⟩
    · have hN' : ¬ (300 : Int) < (N : Int) := by omega
      have hM' : (300 : Int) < (M : Int) := by omega
      clear hshort
      go_enter Try.func9, Try.ntmps9
      go_wp2_with fail
      refine (HAw.out _).mono ?_
      rintro e w1 ⟨rfl, HO1⟩
      go_wp2_with fail
      go_ret
      exact ⟨rfl, hid (HO1.out.to_below (fun _ h => h.elim) (Nat.le_refl _))⟩
end Go.Proofs.Ythfnpgmjbfbocaa
