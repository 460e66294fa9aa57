/- UtfWrites. -/
import Derived.Test.YtgfefkomgfgieaaDoorUtG
import Derived.Test.YtgfefkomgfgieaaDoorKtI
namespace Go.Proofs.YtgfefkomgfgieaaDoor
open Go.RowKit U G

theorem utfWrites_far {A : Option Addr} {n c : Nat} {w : World} (hT : Tb w) (hn : 2000 < n) :
    Calls Tryd.prog 4 #[.slice A n c] w fun e w' => e = .returned (.bool true) ∧ StU w w' := by
  have HAw := hid (awake_any hT)
  have hsz : (2000 : Int) < (n : Int) := by omega
  clear hT
  go_enter Tryd.func4, Tryd.ntmps4
  go_wp2_with (go_at_call 8; refine HAw.out.mono ?_; rintro e w8 ⟨rfl, HO8⟩)
  go_ret
  exact ⟨rfl, HO8⟩
set_option maxHeartbeats 4000000 in
theorem utfWrites_near {A : Option Addr} {n c : Nat} {zs : List Int} {w : World} (hT : Tb w) (hr : RdI w A zs) (hn : n = zs.length) (hA : A = none → n = 0 ∧ c = 0) (hs : n ≤ 2000) :
    Calls Tryd.prog 4 #[.slice A n c] w fun e w' => e = .returned (.bool true) ∧ StU w w' := by
  have hrV : RdV w A n (vI zs) := by unfold RdI at hr; rwa [← hn] at hr
  have HLe := hid (lentInts_any (cap := c) hrV (fun j => rfl) hA (by omega))
  have hsz : ¬ (2000 : Int) < (n : Int) := by omega
  obtain ⟨TS, TE, hTE⟩ : ∃ (S : ByteArray) (E : Int), (if allSg zs then Ending.returned (.tuple #[.string (strB (encL (natZ zs))), .int .i64 0]) else .returned (.tuple #[.string ByteArray.empty, .int .i64 11])) = .returned (.tuple #[.string S, .int .i64 E]) := by
    cases allSg zs
    · exact ⟨_, _, rfl⟩
    · exact ⟨_, _, rfl⟩
  have HTx : Hid (∀ W g, StU w W → Hid (W.rowIs g 3 (n + 12) (lentV n (vI zs) mI)) → Calls Tryd.prog 17 #[.slice (some ⟨g, 0, none⟩) n (n + 12)] W fun e w' => e = .returned (.tuple #[.string TS, .int .i64 TE]) ∧ Hid (StU w w' ∧ w'.rowIs g 3 (n + 12) (lentV n (vI zs) mI))) := hid fun W g hW hg => by
    have h1 : RdI W (some ⟨g, 0, none⟩) zs := by
      unfold RdI
      rw [← hn]
      refine ((RdV.of_row hg.out).take (by omega)).congr fun j hj => ?_
      unfold lentV
      rw [if_pos hj]
    refine (text_any h1 hn (by omega)).mono ?_
    rintro e w' ⟨h2, h3⟩
    rw [hTE] at h3
    exact ⟨h3, hid ⟨hid (hW.out.trans h2.out), h2.out.row hg.out no_⟩⟩
  have HTr : Hid (∀ W, StU w W → Calls Tryd.prog 18 #[.slice A n c] W fun e w' => e = .returned (.tuple #[.string TS, .int .i64 TE]) ∧ StU W w') := hid fun W hW => (refText_any (hr.only hW.out fun _ _ _ => no_) hn (by omega)).mono fun e w' h => ⟨by rw [h.2, hTE], h.1⟩
  have HAw : Hid (∀ W, StU w W → Calls Tryd.prog 8 #[] W fun e w' => e = .returned (.bool true) ∧ StU w w') := hid fun W hW => (awake_any (hT.stu hW)).mono fun e w' h => ⟨h.1, hid (hW.out.trans h.2.out)⟩
  have HZ : Hid (∀ W, StU w W → ∀ k, k < n → ∃ b off, A = some ⟨b, off, none⟩ ∧ W.cell? ⟨b, off + k, none⟩ = some (.int .i64 (zs.getD k 0))) := hid fun W hW k hk => by
    obtain ⟨b, off, e, h, hlt⟩ := hr.at (k := k) (by omega)
    exact ⟨b, off, e, (hW.out.cell (p := ⟨b, off + k, none⟩) hlt no_).trans h⟩
  have HKp : Hid (∀ W g, StU w W → Hid (W.rowIs g 3 (n + 12) (lentV n (vI zs) mI)) → Calls Tryd.prog 23 #[.slice (some ⟨g, 0, none⟩) n (n + 12), .slice A n c] W fun e w' => e = .returned (.bool true) ∧ StU w w') := hid fun W g hW hg =>
    (keptInts_any (x := fun j => zs.getD j 0) (by omega) (hrV.only hW.out fun _ _ _ => no_) hg.out).mono fun e w' h => ⟨h.1, hid (hW.out.trans (quiet_only h.2))⟩
  have HIs := hid is_any
  have HIr := hid refIs_any
  have HRa := hid raw_any
  have HRr := hid refRaw_any
  clear hT hr hrV hn hTE hA
  go_enter Tryd.func4, Tryd.ntmps4
  go_wp2_with (first
    | (go_at_call 16; refine HLe.out.mono ?_; rintro e w1 ⟨g, rfl, HG⟩; have HO1 : StU w w1 := hid (Only.of_below HG.out.2.2 _); have HG1 : Hid (w1.rowIs g 3 (n + 12) (lentV n (vI zs) mI)) := hid HG.out.2.1; clear HG)
    | (go_at_call 17; refine (HTx.out _ _ HO1 HG1).mono ?_; rintro e w2 ⟨rfl, HO2⟩)
    | (go_at_call 18; refine (HTr.out _ HO2.out.1).mono ?_; rintro e w3 ⟨rfl, HO3⟩; have HO4 : Hid (StU w w3 ∧ w3.rowIs g 3 (n + 12) (lentV n (vI zs) mI)) := hid ⟨hid (HO2.out.1.out.trans HO3.out), HO3.out.row HO2.out.2 no_⟩; clear HO2 HO3))
  clear HTx HTr HLe HG1 HO1
  go_loopw [8] (fun i wr => ∃ k : Nat, i = .int .i64 (k : Int) ∧ k ≤ n ∧ Hid (StU w wr ∧ wr.rowIs g 3 (n + 12) (lentV n (vI zs) mI))) (fun i _ => n - (intOf i).toNat)
  case atStart => exact ⟨0, rfl, by omega, HO4⟩
  case round =>
    obtain ⟨k, rfl, hk, HS⟩ := hrel
    clear HO4
    by_cases hp : k < n
    · have hp' : (k : Int) < (n : Int) := by omega
      obtain ⟨b, off, rfl, d⟩ := HZ.out wr HS.out.1 k hp
      have HZk : Hid (∀ W, StU wr W → W.cell? ⟨b, off + k, none⟩ = some (.int .i64 (zs.getD k 0))) := hid fun W hW => by
        obtain ⟨b', off', e', h⟩ := HZ.out W (hid (HS.out.1.out.trans hW.out)) k hp
        injection e' with e'
        injection e' with q1 q2 _
        subst q1
        subst q2
        exact h
      have HIk := hid (HIs.out (zs.getD k 0))
      have HIrk := hid (HIr.out (zs.getD k 0))
      have HRk := hid (HRa.out (zs.getD k 0))
      have HRrk := hid (HRr.out (zs.getD k 0))
      generalize zs.getD k 0 = z at *
      generalize isZ z = q1 at *
      generalize rawZ z = q2 at *
      have hq1 : (q1 != q1) = false := by simp
      have hq2 : (q2 != q2) = false := by simp
      clear HIs HIr HRa HRr HZ
      go_wp2_with fail
      go_region_held3 (fun u => u.cell? ⟨b, off + k, none⟩ = some (.int .i64 z) ∧ StU wr u)
        (first | with_reducible assumption | exact ⟨d, hid (Only.refl _ _)⟩ | exact ⟨d, hid (Only.refl _ _).drew⟩ | exact ⟨HZk.out _ (hid (Only.refl _ _).drew), hid (Only.refl _ _).drew⟩ | exact ⟨HZk.out _ (hid (((Only.refl _ wr).drew).trans HOa.out)), hid (((Only.refl _ wr).drew).trans HOa.out)⟩ | exact ⟨HZk.out _ (hid ((((Only.refl _ wr).drew).trans HOa.out).trans HOb.out)), hid ((((Only.refl _ wr).drew).trans HOa.out).trans HOb.out)⟩ | exact ⟨HZk.out _ (hid (((((Only.refl _ wr).drew).trans HOa.out).trans HOb.out).trans HOc.out)), hid (((((Only.refl _ wr).drew).trans HOa.out).trans HOb.out).trans HOc.out)⟩)
        (first
          | (go_at_call 19; refine (HIk.out _).mono ?_; rintro e wa ⟨rfl, HOa⟩)
          | (go_at_call 20; refine (HIrk.out _).mono ?_; rintro e wx ⟨rfl, rfl⟩)
          | (go_at_call 21; refine (HRk.out _).mono ?_; rintro e wb ⟨rfl, HOb⟩)
          | (go_at_call 22; refine (HRrk.out _).mono ?_; rintro e wc ⟨rfl, HOc⟩))
      have HOw := hid (((((Only.refl (fun _ => False) wr).drew).trans HOa.out).trans HOb.out).trans HOc.out)
      have HS2 : Hid (StU w wc ∧ wc.rowIs g 3 (n + 12) (lentV n (vI zs) mI)) := hid ⟨hid (HS.out.1.out.trans HOw.out), HOw.out.row HS.out.2 no_⟩
      clear HS HOw HOa HOb HOc d HZk
      go_wp2_with fail
      go_roundw
      case rel => exact ⟨k + 1, by go_num, by omega, HS2⟩
      case measure => simp [intOf]; omega
    · obtain rfl : k = n := by omega
      have HKp2 := hid (HKp.out wr g HS.out.1 (hid HS.out.2))
      clear HKp HS
      go_wp2_with (first
        | (go_at_call 23; refine HKp2.out.mono ?_; rintro e w5 ⟨rfl, HO5⟩)
        | (go_at_call 8; refine (HAw.out _ HO5).mono ?_; rintro e w6 ⟨rfl, HO6⟩))
      go_ret
      exact ⟨ret_bool (by first | rfl | simp), HO6⟩
theorem utfWrites_any {A : Option Addr} {n c : Nat} {zs : List Int} {w : World} (hT : Tb w) (hr : RdI w A zs) (hn : n = zs.length) (hA : A = none → n = 0 ∧ c = 0) :
    Calls Tryd.prog 4 #[.slice A n c] w fun e w' => e = .returned (.bool true) ∧ StU w w' := by
  by_cases h : n ≤ 2000
  · exact utfWrites_near hT hr hn hA h
  · exact utfWrites_far hT (by omega)
end Go.Proofs.YtgfefkomgfgieaaDoor
