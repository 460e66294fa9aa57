/- SumTells, walked. -/
import Derived.Test.YthfelifcikiogaaDoorSu7
import Derived.Maps.AppendAt
namespace Go.Proofs.YthfelifcikiogaaDoor
open Go.RowKit
open Cr

def YesB (w : World) (e : Ending) (w' : World) : Prop := e = .returned (.bool true) ∧ Hid (Below w.heap.size w w')
theorem only_below {w w' : World} (h : Only (fun _ => False) w w') : Below w.heap.size w w' := h.to_below (fun _ h => h.elim) (Nat.le_refl _)
theorem below_two {w a b : World} (h : Below w.heap.size w a) (k : Only (fun _ => False) a b) : Below w.heap.size w b := h.trans ((only_below k).mono h.size)
theorem InS.steps {w wr : World} {z : Value} {L : List (List Nat)} {g : Nat → Nat} {k : Nat} (h : InS w wr z L g k) :
    Hid (∀ w1 g0, w1.rowIs g0 5 ((L.getD k []).length + 12) (lentV (L.getD k []).length (vY (L.getD k [])) mY) → Below wr.heap.size wr w1 → ∀ o v2 w2, w2.ownsRow w.heap.size 23 1 v2 (k + 1) (valsL (inV L g) k ++ [.slice (some ⟨g0, 0, none⟩) (L.getD k []).length ((L.getD k []).length + 12)]) → (w1.alloc o).grownBy w2 z.ownBlock → ∃ g, InS w w2 v2 L g (k + 1)) :=
  hid fun _ _ h1 h2 _ _ _ h3 h4 => ⟨_, h.step h1 h2 h3 h4⟩
set_option maxHeartbeats 2000000 in
theorem sumTells_long {A A1 : Option Addr} {cap cap1 n : Nat} {L : List (List Nat)} {aF : Nat → Option Addr} {cF : Nat → Nat} {w : World} (hr : RdR w A L aF cF) (hL : L.length ≤ 281474976710656) (hl : ∀ j, (L.getD j []).length ≤ 281474976710656) (hn : n ≤ 281474976710656) (h : ¬ tot L + n ≤ 3000) (hT : TabS w) :
    Calls Tryd.prog 3 #[.slice A L.length cap, .slice A1 n cap1] w (YesB w) := by
  have HS := hid (size_any (cap := cap) hr hL hl)
  have HA := hid (awake_any w hT)
  clear hr hL hl hT
  generalize L.length = l at HS
  go_enter Tryd.func3, Tryd.ntmps3
  go_wp2_with fail
  refine HS.out.mono ?_
  rintro e w1 ⟨N, rfl, hN1, hN2, hN3, rfl⟩
  have hq : (3000 : Int) < (N : Int) + (n : Int) := by
    by_cases h2 : tot L ≤ 3000
    · have := hN1 h2; omega
    · have := hN2 h2; omega
  clear hN1 hN2
  go_wp2_with fail
  refine HA.out.mono ?_
  rintro e w1 ⟨rfl, HO⟩
  go_wp2_with fail
  go_ret
  exact ⟨rfl, hid (only_below HO.out)⟩

theorem opened_len (bs : List Nat) : (opened bs).2.length ≤ bs.length := by
  unfold opened
  split
  · simp
  · split <;> simp
theorem opened_lt {bs : List Nat} (h : ∀ b ∈ bs, b < 256) : ∀ b ∈ (opened bs).2, b < 256 := by
  intro b hb
  unfold opened at hb
  split at hb
  · cases hb
  · split at hb
    · exact h b (List.mem_of_mem_take hb)
    · cases hb
/-- How it stands between two calls: what was lent, what came. -/
structure TlS (w W : World) (A : Option Addr) (L : List (List Nat)) (aF : Nat → Option Addr) (cF : Nat → Nat) (Ai : Option Addr) (g : Nat → Nat) (A1 : Option Addr) (bs : List Nat) (gr : Nat) : Prop where
  inn : RdR W Ai L (fun j => some ⟨g j, 0, none⟩) (fun j => (L.getD j []).length + 12)
  rows : ∀ j, j < L.length → W.rowIs (g j) 5 ((L.getD j []).length + 12) (lentV (L.getD j []).length (vY (L.getD j [])) mY)
  raw : W.rowIs gr 5 (bs.length + 12) (lentV bs.length (vY bs) mY)
  old : RdR W A L aF cF
  oldb : RdY W A1 bs
  tab : TabS W
  bel : Below w.heap.size w W
section
variable {w W W' : World} {A : Option Addr} {L : List (List Nat)} {aF : Nat → Option Addr} {cF : Nat → Nat} {Ai : Option Addr} {g : Nat → Nat} {A1 : Option Addr} {bs : List Nat} {gr : Nat}
theorem TlS.step (h : TlS w W A L aF cF Ai g A1 bs gr) (hb : Below W.heap.size W W') : TlS w W' A L aF cF Ai g A1 bs gr :=
  ⟨h.inn.below hb, fun j hj => rowIs_below' (h.rows j hj) hb, rowIs_below' h.raw hb, h.old.below hb, h.oldb.below hb, h.tab.below hb, h.bel.trans (hb.mono h.bel.size)⟩
theorem TlS.own (h : TlS w W A L aF cF Ai g A1 bs gr) (ho : Only (fun _ => False) W W') : TlS w W' A L aF cF Ai g A1 bs gr := h.step (only_below ho)
theorem TlS.inb (h : TlS w W A L aF cF Ai g A1 bs gr) : RdY W (some ⟨gr, 0, none⟩) bs := ((RdV.of_row h.raw).take (by omega)).congr fun i hi => by unfold lentV; rw [if_pos hi]
theorem TlS.kept (h : TlS w W A L aF cF Ai g A1 bs gr) (hl : ∀ j, (L.getD j []).length ≤ 3000) {k : Nat} (hk : k < L.length) (d : Nat) :
    Calls Tryd.prog 19 #[.slice (some ⟨g k, 0, none⟩) (L.getD k []).length ((L.getD k []).length + 12), .slice (aF k) (L.getD k []).length (cF k)] (W.drewN d) fun e w' => e = .returned (.bool true) ∧ ∃ m, w' = (W.drewN d).drewN m :=
  keptBytes_any (x := fun j => (((L.getD k []).getD j 0 : Nat) : Int)) (w := W.drewN d) (by have := hl k; omega) (h.old.row k hk) (h.rows k hk)
theorem TlS.keptb (h : TlS w W A L aF cF Ai g A1 bs gr) (hl : bs.length ≤ 3000) (c : Nat) :
    Calls Tryd.prog 19 #[.slice (some ⟨gr, 0, none⟩) bs.length (bs.length + 12), .slice A1 bs.length c] W fun e w' => e = .returned (.bool true) ∧ ∃ m, w' = W.drewN m :=
  keptBytes_any (x := fun j => ((bs.getD j 0 : Nat) : Int)) (by omega) h.oldb h.raw
end
theorem below_acc {u a b : World} (h : Below u.heap.size u a) (k : Below a.heap.size a b) : Below u.heap.size u b := h.trans (k.mono h.size)

set_option maxRecDepth 100000 in
set_option maxHeartbeats 4000000 in
theorem sumTells_short {A A1 : Option Addr} {cap cap1 : Nat} {L : List (List Nat)} {bs : List Nat} {aF : Nat → Option Addr} {cF : Nat → Nat} {w : World} (hr : RdR w A L aF cF) (hB : BtsR L) (h : tot L + bs.length ≤ 3000) (hrb : RdY w A1 bs) (hBb : ∀ b ∈ bs, b < 256) (hA1 : A1 = none → bs.length = 0 ∧ cap1 = 0) (hc1 : bs.length ≤ cap1) (hT : TabS w) :
    Calls Tryd.prog 3 #[.slice A L.length cap, .slice A1 bs.length cap1] w (YesB w) := by
  have hL0 : L.length ≤ 3000 := by unfold tot at h; omega
  have hf0 : L.flatten.length ≤ 3000 := by unfold tot at h; omega
  have hl0 : ∀ j, (L.getD j []).length ≤ 3000 := fun j => Nat.le_trans (row_len_le j) hf0
  obtain ⟨rI, hrI, hrz, hrs, hrb2⟩ := info_parts rowInfoY
  have HI := hid (And.intro hrI (And.intro hrz (And.intro hrs hrb2)))
  have HS := hid (size_any (cap := cap) hr (by omega) (fun j => by have := hl0 j; omega))
  have HT := hid hT
  have HR := hid hr
  have HRb := hid hrb
  have HBb := hid hBb
  have HBL := hid hB
  have HLl := hid hl0
  have HA1 := hid hA1
  have HBg := hid (fun g => InS.begin w L g)
  clear hr hB hrb hBb hA1 hT hrI hrz hrs hrb2 hl0
  go_enter Tryd.func3, Tryd.ntmps3
  go_wp2_with fail
  refine HS.out.mono ?_
  rintro e w1 ⟨N, rfl, hN1, hN2, hN3, rfl⟩
  have hq : ¬ (3000 : Int) < (N : Int) + (bs.length : Int) := by
    have := hN1 (by omega); omega
  clear hN1 hN2 HS h
  have HLn := hid hL0
  go_wp2_with fail
  go_loopw [5, 6] (fun z s wr => ∃ k : Nat, k ≤ L.length ∧ s = .int .i64 k ∧ Hid (∃ g, InS w wr z L g k)) (fun _ s _ => L.length - (intOf s).toNat)
  case atStart => exact ⟨0, by omega, rfl, hid ⟨fun _ => 0, HBg.out _⟩⟩
  case round =>
    obtain ⟨k, hk, rfl, HV⟩ := hrel
    clear HBg
    obtain ⟨g, hV⟩ := HV.out
    have HW := hid hV
    clear HV hV
    by_cases hp : k < L.length
    · have HRw : Hid (RdR wr A L aF cF) := hid (HR.out.only HW.out.only)
      obtain ⟨b, off, h1, d1, _⟩ := HRw.out.out.at hp
      have HLn1 := hid (lentBytes_any (cap := cF k) (HRw.out.row k hp) (vY_one _) (HRw.out.nil k hp) (by have := HLl.out k; omega))
      have HSt := HW.out.steps
      have HOn := hid HW.out.own
      have hs0 := HW.out.only.size
      subst h1
      clear HRw HW
      generalize (L.getD k []).length = n1 at HLn1 HSt d1
      generalize vY (L.getD k []) = V1 at HLn1 HSt
      generalize valsL (inV L g) k = vs at HSt HOn
      generalize aF k = ak at HLn1 d1
      generalize cF k = ck at HLn1 d1
      go_wp2_with fail
      refine HLn1.out.mono ?_
      rintro e w1 ⟨g0, rfl, hle⟩
      clear HLn1
      have HO1 := hid (own_below HOn.out hle.out.2.2)
      have HSt2 := hid (HSt.out w1 g0 hle.out.2.1 hle.out.2.2)
      have hls : w.heap.size ≤ w1.heap.size := Nat.le_trans hs0 hle.out.2.2.size
      clear HSt HOn hle
      go_wp2_with (at_builtin; refine wpList_append_own_at _ rfl (.tmp 28) (.tmp 34) _ rfl w.heap.size 23 rI (.slice none 0 0) 1 24 Tryd.underlying22 HI.out.1 HI.out.2.1 HI.out.2.2.1 HI.out.2.2.2 rfl (by omega) _ k vs rfl (HO1.out.alloc _) ⟨w1.heap.size, 0, none⟩ 1 1 [.slice (some ⟨g0, 0, none⟩) n1 (n1 + 12)] rfl rfl (cell_one_new _ _ _) (by intro u hu; simp at hu; subst hu; rfl) (by unfold maxLen; omega) (by omega) (by simp; omega) ?_; intro v2 w2 hown2 hg2 _ _)
      have HN := hid (HSt2.out _ _ _ hown2 hg2)
      clear hown2 hg2 HO1 HSt2
      go_roundw
      case rel => exact ⟨k + 1, by omega, by go_num, HN⟩
      case measure => simp [intOf]; omega
    · obtain rfl : k = L.length := by omega
      obtain ⟨Ai, capi, rfl, hRI⟩ := HW.out.shape
      have HRI := hid hRI
      have HLb := hid (lentBytes_any (cap := cap1) (HRb.out.only HW.out.only fun _ _ _ => no_) (vY_one _) HA1.out (by omega))
      clear hRI HI
      go_wp2_with fail
      refine HLb.out.mono ?_
      rintro e w1 ⟨gr, rfl, hle⟩
      have HS1 : Hid (TlS w w1 A L aF cF Ai g A1 bs gr) := hid ⟨HRI.out w1 hle.out.2.2, fun j hj => rowIs_below' (HW.out.row j hj) hle.out.2.2, hle.out.2.1, (HR.out.only HW.out.only).below hle.out.2.2, (HRb.out.only HW.out.only fun _ _ _ => no_).below hle.out.2.2, (HT.out.only HW.out.only).below hle.out.2.2, below_acc (only_below HW.out.only) hle.out.2.2⟩
      clear HLb hle HRI HR HRb HT HW HA1
      have HJn := hid (refJoin (cap := cap) HS1.out.old (by omega) (by omega))
      go_wp2_with fail
      refine HJn.out.mono ?_
      rintro e w2 ⟨vj, rfl, HJ⟩
      obtain ⟨Aj, capj, rfl, hcj⟩ := HJ.out.isSlice
      have HS2 := hid (HS1.out.own HJ.out.only)
      clear HS1 HJn
      have HSl := hid (seal_any (cap := capi) HS2.out.inn HBL.out (by omega) (by omega) HS2.out.tab)
      have HOfG := hid fun W (hb : Below w2.heap.size w2 W) => sumOf_any (cap := capi) (HS2.out.step hb).inn HBL.out (by omega) (fun j => by have := HLl.out j; omega) (HS2.out.step hb).tab
      have HRfG := hid fun W (hb : RdY W Aj L.flatten) => refSumOf (cap := capj) hb HBL.out.flat (by omega)
      have HRsG := hid fun W (hb : RdY W Aj L.flatten) => refSeal (cap := capj) hb HJ.out.nilA HBL.out.flat (by omega)
      have HOpG : Hid (∀ W, Below w2.heap.size w2 W → Calls Tryd.prog 12 #[.slice (some ⟨gr, 0, none⟩) bs.length (bs.length + 12)] W fun e w' => ∃ v, e = .returned (.tuple #[v, .int .i64 (opened bs).1]) ∧ Hid (OwY W w' v (opened bs).2)) := hid fun W hb => open_any (HS2.out.step hb).inb HBb.out (by omega) (by omega) (HS2.out.step hb).tab
      have HPpG : Hid (∀ W, Below w2.heap.size w2 W → Calls Tryd.prog 13 #[.slice A1 bs.length cap1] W fun e w' => ∃ v, e = .returned (.tuple #[v, .int .i64 (opened bs).1]) ∧ Hid (OwY W w' v (opened bs).2)) := hid fun W hb => refOpen_any (HS2.out.step hb).oldb HBb.out (by omega) hc1
      have HslB := hid (sealed_lt HBL.out.flat)
      have HolB := hid (opened_lt HBb.out)
      have hls : (sealed L.flatten).length ≤ 3004 := by rw [sealed_len]; omega
      have hlo : (opened bs).2.length ≤ 3000 := by have := opened_len bs; omega
      generalize (opened bs).1 = eo at HOpG HPpG
      generalize (opened bs).2 = ol at HOpG HPpG HolB hlo
      generalize sealed L.flatten = sl at HSl HRsG HslB hls
      generalize crc L.flatten = q at HOfG HRfG
      generalize L.flatten = fl at HJ HRfG HRsG hcj hf0 ⊢
      go_wp2_with fail
      refine HSl.out.mono ?_
      rintro e w3 ⟨vs, rfl, HSs⟩
      obtain ⟨As, caps, rfl, hcs⟩ := HSs.out.isSlice
      have HB3 := hid (only_below HSs.out.only)
      clear HSl
      go_wp2_with fail
      refine (HOpG.out _ HB3.out).mono ?_
      rintro e w4 ⟨vo, rfl, HOo⟩
      obtain ⟨Ao, capo, rfl, hco⟩ := HOo.out.isSlice
      have HB4 := hid (below_two HB3.out HOo.out.only)
      clear HOpG
      go_wp2_with fail
      refine (HPpG.out _ HB4.out).mono ?_
      rintro e w5 ⟨vp, rfl, HPo⟩
      obtain ⟨Ap, capp, rfl, hcp⟩ := HPo.out.isSlice
      have HB5 := hid (below_two HB4.out HPo.out.only)
      clear HPpG
      go_wp2_with fail
      refine (HOfG.out _ HB5.out).mono ?_
      rintro e w6 ⟨rfl, hb6⟩
      have HB6 := hid (below_acc HB5.out hb6.out)
      have HoJ := hid (((((HSs.out.only.trans HOo.out.only).trans HPo.out.only).trans (Only.of_below hb6.out _))))
      clear HOfG
      go_wp2_with fail
      refine (HRfG.out _ (HJ.out.rd HoJ.out).2).mono ?_
      rintro e w7 ⟨rfl, rfl⟩
      clear HRfG
      go_wp2_with fail
      refine (HRsG.out _ (HJ.out.rd HoJ.out).2).mono ?_
      rintro e w7 ⟨vt, rfl, HT7⟩
      obtain ⟨At, capt, rfl, hct⟩ := HT7.out.isSlice
      have HB7 := hid (below_two HB6.out HT7.out.only)
      clear HRsG HoJ
      have HoS := hid ((((HOo.out.only.trans HPo.out.only).trans (Only.of_below hb6.out _)).trans HT7.out.only))
      have HSm := hid (same_two (c1 := caps) (c2 := capt) HSs.out HT7.out HoS.out (Only.refl _ w7) HslB.out (by omega))
      go_wp2_with fail
      refine HSm.out.mono ?_
      rintro e w8 ⟨rfl, k8, rfl⟩
      have HB8 := hid (below_two HB7.out ((Only.refl _ w7).drewN k8))
      clear HSm
      have HoP := hid (((Only.of_below hb6.out (fun _ => False)).trans HT7.out.only).drewN k8)
      have HSo := hid (same_two (c1 := capo) (c2 := capp) HOo.out HPo.out (HPo.out.only.trans HoP.out) HoP.out HolB.out (by omega))
      have HoS8 := hid (HoS.out.drewN k8)
      clear HoS
      generalize w7.drewN k8 = w8 at HB8 HoP HSo HoS8 ⊢
      go_wp2_with fail
      refine HSo.out.mono ?_
      rintro e w9 ⟨rfl, k9, rfl⟩
      have HB9 := hid (below_two HB8.out ((Only.refl _ w8).drewN k9))
      have HAs := hid ((HSs.out.anyV (by omega)).own (HoS8.out.drewN k9))
      have HAo := hid ((HOo.out.anyV (by omega)).own ((HPo.out.only.trans HoP.out).drewN k9))
      clear HSo HoP HoS8
      generalize w8.drewN k9 = w9 at HB9 HAs HAo ⊢
      have HOv := hid (overBytes_own HAs.out)
      go_wp2_with fail
      refine HOv.out.mono ?_
      rintro e w10 ⟨rfl, HV10⟩
      have HB10 : Hid (Below w2.heap.size w2 w10) := hid (HB9.out.trans (HV10.out.1.to_below (fun k hk => hk) HB9.out.size))
      have HAo2 := hid (HV10.out.2 _ _ HAo.out)
      clear HAo HAs HOv HV10
      have HOv := hid (overBytes_own HAo2.out)
      go_wp2_with fail
      refine HOv.out.mono ?_
      rintro e w11 ⟨rfl, HV11⟩
      have HS11 : Hid (TlS w w11 A L aF cF Ai g A1 bs gr) := hid (HS2.out.step (HB10.out.trans (HV11.out.1.to_below (fun k hk => Nat.le_trans HB3.out.size hk) HB10.out.size)))
      clear HAo2 HOv HV11 HB3 HB4 HB5 HB6 HB7 HB8 HB9 HB10 HSs HOo HPo HT7 HJ HS2 hb6
      go_wp2_with fail
      go_loopw [14] (fun s wr => ∃ k : Nat, k ≤ L.length ∧ s = .int .i64 k ∧ Hid (∃ d, wr = w11.drewN d)) (fun s _ => L.length - (intOf s).toNat)
      case atStart => exact ⟨0, by omega, rfl, hid ⟨0, rfl⟩⟩
      case round =>
        obtain ⟨k, hk, rfl, HW⟩ := hrel
        have HSr : Hid (TlS w wr A L aF cF Ai g A1 bs gr) := hid (HS11.out.own (quiet_only HW.out))
        by_cases hp : k < L.length
        · obtain ⟨b, off, h1, d1, _⟩ := HSr.out.inn.out.at hp
          obtain ⟨b2, off2, h2, d2, _⟩ := HSr.out.old.out.at hp
          have HK := hid (HSr.out.kept HLl.out hp)
          subst h1
          subst h2
          clear HSr
          generalize (L.getD k []).length = n1 at HK d1 d2
          generalize aF k = ak at HK d2
          generalize cF k = ck at HK d2
          generalize g k = gk at HK d1
          go_wp2_with fail
          go_quiet ((go_at_call 19; exact quiet_more (HK.out _)))
          go_wp2_with fail
          go_roundw
          case rel => exact ⟨k + 1, by omega, by go_num, hid (quiet_step HW.out _)⟩
          case measure => simp [intOf]; omega
        · obtain rfl : k = L.length := by omega
          have HKb := hid (HSr.out.keptb (by omega) cap1)
          have hTr := hid HSr.out.tab
          have hBr := hid HSr.out.bel
          clear HSr HS11 HW
          go_wp2_with fail
          refine HKb.out.mono ?_
          rintro e w12 ⟨rfl, k12, rfl⟩
          have HAw := hid (awake_any (wr.drewN k12) (hTr.out.drewN k12))
          have HB12 := hid (below_two hBr.out ((Only.refl _ wr).drewN k12))
          generalize wr.drewN k12 = w12 at HAw HB12 ⊢
          go_wp2_with fail
          refine HAw.out.mono ?_
          rintro e w13 ⟨rfl, HO13⟩
          go_wp2_with fail
          go_ret
          exact ⟨rfl, hid (below_two HB12.out HO13.out)⟩
theorem sumTells_any {A A1 : Option Addr} {cap cap1 : Nat} {L : List (List Nat)} {bs : List Nat} {aF : Nat → Option Addr} {cF : Nat → Nat} {w : World} (hr : RdR w A L aF cF) (hL : L.length ≤ 281474976710656) (hl : ∀ j, (L.getD j []).length ≤ 281474976710656) (hn : bs.length ≤ 281474976710656) (hB : BtsR L) (hrb : RdY w A1 bs) (hBb : ∀ b ∈ bs, b < 256) (hA1 : A1 = none → bs.length = 0 ∧ cap1 = 0) (hc1 : bs.length ≤ cap1) (hT : TabS w) :
    Calls Tryd.prog 3 #[.slice A L.length cap, .slice A1 bs.length cap1] w (YesB w) := by
  by_cases h : tot L + bs.length ≤ 3000
  · exact sumTells_short hr hB h hrb hBb hA1 hc1 hT
  · exact sumTells_long hr hL hl hn h hT
end Go.Proofs.YthfelifcikiogaaDoor
