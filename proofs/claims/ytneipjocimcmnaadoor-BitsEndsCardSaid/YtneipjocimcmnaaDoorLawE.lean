/- BitsDo. -/
import Derived.Test.YtneipjocimcmnaaDoorDoS
namespace Go.Proofs.YtneipjocimcmnaaDoor
open Go.RowKit
open Fen

theorem of_n (A : Option Addr) (cap n : Nat) (xs : List Bool) (w : World) (hx : RdB w A xs) (hL : n = xs.length) (hn : n ≤ 16777216) :
    Calls Tryd.prog 10 #[.slice A n cap] w (Made w n (fun i => xs.getD i false)) := by
  subst hL
  exact of_ok A cap xs w hx hn
theorem OwnB.rdb {w w' : World} {g cap : Nat} {xs : List Bool} (h : OwnB w w' g cap xs) : RdB w' (some ⟨g, 0, none⟩) xs := by
  obtain ⟨F, h1, h2⟩ := h.row
  refine fun j hj => ⟨g, 0, rfl, fun i hi => ?_⟩
  have := h.le
  rw [Nat.zero_add, h1.cell (i := i) (by omega), h2 i hi]
/-- The call's own copy, turned. -/
def FlipR (a w : World) (g cap n : Nat) : Prop := Only (fun k => k = g) a w ∧ n ≤ cap ∧ ∃ F, w.rowIs g 4 cap F ∧ ∀ j, j < n → ∃ b, F j = .bool b
theorem FlipR.step {a w : World} {g cap n k : Nat} (h : FlipR a w g cap n) (b : Bool) : FlipR a (w.setCell ⟨g, k, none⟩ (.bool b)) g cap n := by
  obtain ⟨h1, h2, F, h3, h4⟩ := h
  refine ⟨h1.setCell (.inl rfl) _, h2, _, h3.set k _, fun j hj => ?_⟩
  by_cases e : j = k
  · exact ⟨b, by rw [if_pos e]⟩
  · rw [if_neg e]; exact h4 j hj
/-- Between deeds. -/
def DoL (w W : World) (g gs gw n r gl rc : Nat) : Prop := ∃ f, IsVec W g gs gw n f ∧ IsRef W r gl n rc f ∧ Below w.heap.size w W
def Dist0 (B g gs gw r gl : Nat) : Prop := B ≤ g ∧ B ≤ gs ∧ B ≤ gw ∧ B ≤ r ∧ B ≤ gl ∧ r ≠ g ∧ r ≠ gs ∧ r ≠ gw ∧ gl ≠ g ∧ gl ≠ gs ∧ gl ≠ gw ∧ r ≠ gl
theorem DoS.begin {w W W' : World} {g gs gw n r gl rc : Nat} {zs : List Int} {f : Nat → Bool} (hv : IsVec W g gs gw n f) (hr : IsRef W r gl n rc f) (hb : Below w.heap.size w W) (hl : LentR W W' 3 (intsV zs) marksI) (hd : Dist0 w.heap.size g gs gw r gl) : DoS w W' g gs gw n r gl rc W.heap.size zs f f := by
  have h := hl.1
  rw [intsV_len] at h
  refine ⟨hv.same hl.2, hr.same hl.2, hb.trans (hl.2.to_below (fun _ h => h.elim) hb.size), h, ?_⟩
  have h1 := hv.self.lt
  have h2 := hv.sums.lt
  have h3 := hv.words.lt
  have h4 := hr.lt
  have h5 := hb.size
  unfold Dist0 at hd
  unfold Dist
  omega
theorem DoS.ends {w W : World} {g gs gw n r gl rc gi : Nat} {zs : List Int} {f : Nat → Bool} (h : DoS w W g gs gw n r gl rc gi zs f f) : DoL w W g gs gw n r gl rc := ⟨f, h.vec, h.ref, h.bel⟩

set_option maxRecDepth 100000 in
set_option maxHeartbeats 8000000 in
theorem bitsDo_any (A B : Option Addr) (n N cap c2 : Nat) (xs : List Bool) (one : Nat → Bool) (pa : Nat → Option Addr) (pc : Nat → Nat) (pz : Nat → List Int) (at' : Int) (w : World) (hx : RdB w A xs) (hA : A = none → n = 0 ∧ cap = 0) (hL : n = xs.length)
    (hd : DeedsIn w B N one pa pc pz) (hT : Tab w) (hn : n ≤ 140737488355328) (hN : N ≤ 140737488355328) :
    Calls Tryd.prog 3 #[.slice A n cap, .slice B N c2, .int .i64 at'] w fun e w' => e = .returned (.bool true) ∧ Hid (Below w.heap.size w w') := by
  have HX := hid hx
  have HA := hid hA
  have HL := hid hL
  have HD := hid hd
  have HT := hid hT
  clear hx hA hL hd hT
  go_enter Tryd.func3, Tryd.ntmps3
  go_wp2_with fail
  refine (size_any B N c2 one pa pc pz w HD.out hN).mono ?_
  rintro e w1 ⟨s, rfl, rfl, hs, hsz⟩
  have HS := hid hsz
  clear hsz
  by_cases h3 : 3000 < n + s
  · have h3' : (3000 : Int) < (n : Int) + (s : Int) := by omega
    go_wp2_with fail
    refine (awake_any w HT.out).mono ?_
    rintro e w1 ⟨rfl, hb⟩
    go_wp2_with fail
    go_ret
    exact ⟨rfl, hb⟩
  · have h3' : ¬ (3000 : Int) < (n : Int) + (s : Int) := by omega
    have hn3 : n ≤ 3000 := by omega
    have HS2 := hid (HS.out (by omega))
    have hN3 : N ≤ 3000 := HS2.out.1
    go_wp2_with (at_builtin; refine wpList_append_bools _ rfl (.tmp 25) (.tmp 26) rfl rfl A n cap xs rfl HL HA HX (by omega) ?_; intro g0 cap0 w2 HO)
    clear h3' HS hs h3 hn hN
    refine (of_n (some ⟨g0, 0, none⟩) cap0 n xs w2 HO.out.rdb HL.out (by omega)).mono ?_
    rintro e w3 ⟨g, gs, gw, rfl, hv, hg, hgs, hgw, hb⟩
    obtain ⟨f, hf⟩ : ∃ f : Nat → Bool, f = fun i => xs.getD i false := ⟨_, rfl⟩
    rw [← hf] at hv
    have Hf := hid hf
    have HV3 := hid hv
    have hg0 := HO.out.ge
    have hg0' : g0 < w2.heap.size := by obtain ⟨F, h1, _⟩ := HO.out.row; exact h1.lt
    have HD3 : Hid (w.heap.size ≤ g0 ∧ g0 < g ∧ g0 < gs ∧ g0 < gw) := hid (by omega)
    have HX3 : Hid (RdB w3 A xs) := hid ((HX.out.below (HO.out.only.to_below (fun _ h => h.elim) (Nat.le_refl _))).below hb)
    have HB3 : Hid (Below w.heap.size w w3) := hid ((HO.out.only.to_below (B := w.heap.size) (fun _ h => h.elim) (Nat.le_refl _)).trans (hb.mono HO.out.only.size))
    have HP3 : Hid (FlipR w3 w3 g0 cap0 n) := hid ⟨Only.refl _ _, by have := HO.out.le; rw [HL.out]; exact this, by
      obtain ⟨F, h1, h2⟩ := HO.out.row
      exact ⟨F, rowIs_below' h1 hb, fun j hj => ⟨_, h2 j (by rw [← HL.out]; exact hj)⟩⟩⟩
    clear hv hg hgs hgw hb hf hg0 hg0' HO
    go_wp2_with fail
    refine (refOf_any A cap n xs w3 HX3.out HA.out HL.out (by omega)).mono ?_
    rintro e w4 ⟨r, gl, rc, rfl, hr, hg, hgl, hne, hb⟩
    rw [← Hf.out] at hr
    have HF4 := hid hr
    have HV4 := hid (HV3.out.below' hb)
    have HD4 : Hid (Dist0 w.heap.size g gs gw r gl ∧ r ≠ g0 ∧ gl ≠ g0 ∧ g ≠ g0 ∧ gs ≠ g0 ∧ gw ≠ g0 ∧ w.heap.size ≤ g0) := hid (by
      have h1 := HV3.out.self.lt
      have h2 := HV3.out.sums.lt
      have h4 := HV3.out.words.lt
      have h5 := HD3.out
      have h6 := HB3.out.size
      unfold Dist0
      omega)
    have HB4 : Hid (Below w.heap.size w w4) := hid (HB3.out.trans (hb.mono HB3.out.size))
    have HP4 : Hid (FlipR w4 w4 g0 cap0 n) := hid ⟨Only.refl _ _, HP3.out.2.1, by
      obtain ⟨F, h1, h2⟩ := HP3.out.2.2
      exact ⟨F, rowIs_below' h1 hb, h2⟩⟩
    clear hr hg hgl hne hb HV3 HD3 HX3 HB3 HP3 Hf HX HA HL
    go_wp2_with fail
    go_loopw [12] (fun s wr => ∃ k : Nat, k ≤ n ∧ s = .int .i64 k ∧ Hid (FlipR w4 wr g0 cap0 n)) (fun s _ => n - (intOf s).toNat)
    case atStart => exact ⟨0, by omega, rfl, HP4⟩
    case round =>
      obtain ⟨k, hk, rfl, HK⟩ := hrel
      clear HP4
      by_cases hp : k < n
      · obtain ⟨F, hF, hFb⟩ := HK.out.2.2
        obtain ⟨b, hb⟩ := hFb k hp
        have hcap := HK.out.2.1
        have ck := hF.cell (i := k) (by omega)
        have fz := hF.frozen k
        rw [hb] at ck
        have HN := hid (HK.out.step (k := k) (!b))
        clear HK hF hFb hb
        go_wp2
        go_roundw
        case rel => exact ⟨k + 1, by omega, by go_num, HN⟩
        case measure => simp [intOf]; omega
      · obtain rfl : k = n := by omega
        obtain ⟨v5, rfl⟩ : ∃ v5 : World, v5 = wr := ⟨_, rfl⟩
        have HV5 := hid (HV4.out.only HK.out.1 (by have := HD4.out; omega) (by have := HD4.out; omega) (by have := HD4.out; omega))
        have HF5 := hid (HF4.out.only HK.out.1 (by have := HD4.out; omega) (by have := HD4.out; omega))
        have HB5 := hid (HB4.out.trans (HK.out.1.to_below (B := w.heap.size) (fun k hk => by have := HD4.out; omega) HB4.out.size))
        have HD5 := hid HD4.out.1
        clear HK HV4 HF4 HB4 HD4 hp hk
        go_wp2_with fail
        refine (same_any at' HV5.out HF5.out (HT.out.only (Only.of_below HB5.out (fun _ => False)) no_)).mono ?_
        rintro e v6 ⟨rfl, ho⟩
        have HK6 : Hid (DoL w v6 g gs gw k r gl rc) := hid ⟨f, HV5.out.same ho.out, HF5.out.same ho.out, HB5.out.trans (ho.out.to_below (fun _ h => h.elim) HB5.out.size)⟩
        clear ho HV5 HF5 HB5
        go_wp2_with fail
        go_loopw [13] (fun s wr => ∃ j : Nat, j ≤ N ∧ s = .int .i64 j ∧ Hid (DoL w wr g gs gw k r gl rc)) (fun s _ => N - (intOf s).toNat)
        case atStart => exact ⟨0, by omega, rfl, HK6⟩
        case round =>
          obtain ⟨j, hj, rfl, HK⟩ := hrel
          clear HK6
          by_cases hp : j < N
          · obtain ⟨b, off, hBe, hc1, hc2⟩ := HD.out.row j hp
            have hI := HD.out.ints j hp
            have hnl := HD.out.nil j hp
            have hl0 := HS2.out.2 j hp
            generalize pz j = zs at hc2 hI hnl hl0
            generalize pa j = P at hc2 hI hnl
            generalize pc j = pcap at hc2 hnl
            generalize one j = ob at hc1
            obtain ⟨m, hm⟩ : ∃ m, m = zs.length := ⟨_, rfl⟩
            rw [← hm] at hc2 hnl hl0
            have Hm := hid hm
            have HI := hid hI
            have HNl := hid hnl
            subst hBe
            have Hc1 := hid hc1
            have Hc2 := hid hc2
            obtain ⟨ff, hv, hr, hb⟩ := HK.out
            have c2r := (hb.cell (cell_lt hc2)).trans hc2
            have HIr := hid (HI.out.below hb)
            have HBg := hid (fun (W' : World) (hl : LentR wr W' 3 (intsV zs) marksI) => DoS.begin hv hr hb hl HD5.out)
            clear hm hI hnl hc1 hc2 hv hr hb HK
            have hjN : (j : Int) < (N : Int) := by omega
            go_wp2_with fail
            refine (lentInts_any P pcap m (intsV zs) wr HIr.out.vals (intsV_one zs) (by rw [intsV_len]; exact Hm.out.symm) HNl.out (by omega)).mono ?_
            rintro e w7 ⟨rfl, hle⟩
            have HS7 := hid (HBg.out w7 hle.out)
            clear hle HBg HIr c2r
            generalize wr.heap.size = gi at HS7 ⊢
            have c1w := HS7.out.cell Hc1.out
            have c2w := HS7.out.cell Hc2.out
            go_wp2_with fail
            go_region_held3 (fun w' => w'.cell? ⟨b, off + j * 2, none⟩ = some (.bool ob) ∧ w'.cell? ⟨b, off + j * 2 + 1, none⟩ = some (.slice P m pcap))
              (first | assumption | exact ⟨HS8.out.cell Hc1.out, HS8.out.cell Hc2.out⟩ | exact ⟨HS7.out.drew.cell Hc1.out, HS7.out.drew.cell Hc2.out⟩)
              (first
                | (go_at_call 14; refine (setStep (hid HS7.out.drew) ob Hm hl0).mono ?_; rintro e wa ⟨rfl, HS8⟩)
                | (go_at_call 15; refine (refStep HS8 ob Hm hl0 HI).mono ?_; rintro e wb ⟨rfl, HS8⟩)
                | (go_at_call 12; refine (sameStep HS8 at' HT).mono ?_; rintro e wc ⟨rfl, HS8⟩)
                | (go_at_call 16; refine (keptStep HS8 Hm hl0 HI).mono ?_; rintro e wd ⟨rfl, HS8⟩))
            have HE : Hid (DoL w _ g gs gw k r gl rc) := hid HS8.out.ends
            clear HS7 HS8 c1w c2w
            go_wp2_with fail
            go_roundw
            case rel => exact ⟨j + 1, by omega, by go_num, HE⟩
            case measure => simp [intOf]; omega
          · obtain rfl : j = N := by omega
            obtain ⟨ff, hv, hr, hb⟩ := HK.out
            obtain ⟨v7, rfl⟩ : ∃ v7 : World, v7 = wr := ⟨_, rfl⟩
            have HV7 := hid hv
            have HF7 := hid hr
            have HB7 := hid hb
            have HO7 := hid hv.out
            clear hv hr hb HK HS2 HD
            go_wp2_with fail
            refine (bytes_any HV7.out).mono ?_
            rintro e v8 ⟨rfl, hby⟩
            have HV8 := hid (HV7.out.same hby.out.2.2)
            have HF8 := hid (HF7.out.same hby.out.2.2)
            have HB8 := hid (Below.only HB7.out hby.out.2.2 (fun _ h => h.elim) HB7.out.size)
            have HRd := hid (read_bytes (w := w) (n := k) (by omega) HO7.out hby.out rfl)
            have HY8 := hid hby.out.2.1
            have HL8 : Hid (r < v7.heap.size ∧ gl < v7.heap.size ∧ w.heap.size ≤ v7.heap.size ∧ v7.heap.size < v8.heap.size) := hid ⟨HF7.out.lt.1, HF7.out.lt.2, HB7.out.size, by have := hby.out.1; omega⟩
            clear hby HV7 HF7 HB7
            go_wp2_with fail
            refine (len_any HV8.out).mono ?_
            rintro e w' ⟨rfl, rfl⟩
            go_wp2_with fail
            refine HRd.out.mono ?_
            rintro e v9 ⟨g2, gs2, gw2, rfl, hv, hg, hgs, hgw, hb⟩
            have HV9 := hid hv
            have HF9 := hid (HF8.out.only (Only.of_below hb (fun _ => False)) no_ no_)
            have HB9 := hid (HB8.out.trans (hb.mono HB8.out.size))
            have HY9 := hid (rowIs_below' HY8.out hb)
            have HL9 : Hid (v7.heap.size < g2 ∧ v7.heap.size < gs2 ∧ v7.heap.size < gw2) := hid (by have := HL8.out; omega)
            clear hv hg hgs hgw hb HRd HV8 HF8 HB8 HY8
            go_wp2_with fail
            refine (overBytes_any v7.heap.size ((k + 7) / 8) ((k + 7) / 8) v9 ⟨_, HY9.out⟩ (Nat.le_refl _) (by omega)).mono ?_
            rintro e va ⟨rfl, ho⟩
            have HVa := hid (HV9.out.only ho.out.2 (by have := HL9.out; omega) (by have := HL9.out; omega) (by have := HL9.out; omega))
            have HFa := hid (HF9.out.only ho.out.2 (by have := HL8.out; omega) (by have := HL8.out; omega))
            have HBa := hid (Below.only HB9.out ho.out.2 (fun k hk => by have := HL8.out; omega) HB9.out.size)
            clear ho HV9 HF9 HB9 HY9 HL9 HL8
            go_wp2_with fail
            refine (same_any at' HVa.out HFa.out (HT.out.only (Only.of_below HBa.out (fun _ => False)) no_)).mono ?_
            rintro e vb ⟨rfl, ho⟩
            have HBb := hid (Below.only HBa.out ho.out (fun _ h => h.elim) HBa.out.size)
            clear ho HVa HFa HBa
            go_wp2_with fail
            refine (awake_any vb (HT.out.only (Only.of_below HBb.out (fun _ => False)) no_)).mono ?_
            rintro e vc ⟨rfl, hb⟩
            have HBc := hid (HBb.out.trans (hb.out.mono HBb.out.size))
            clear hb HBb
            go_wp2_with fail
            go_ret
            exact ⟨rfl, HBc⟩
end Go.Proofs.YtneipjocimcmnaaDoor
