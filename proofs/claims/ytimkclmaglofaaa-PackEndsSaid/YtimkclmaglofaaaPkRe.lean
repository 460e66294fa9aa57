/- PackReads. -/
import Derived.Test.YtimkclmaglofaaaPkRd2
import Derived.Test.YtimkclmaglofaaaPkSm
import Derived.Test.YtimkclmaglofaaaPkLe
import Derived.Test.YtimkclmaglofaaaKtY
import Derived.Test.YtimkclmaglofaaaPkPu
import Derived.WalkSpells
namespace Go.Proofs.Ytimkclmaglofaaa
open Go.RowKit
open Bit

/-! The document's Read, where it refuses. -/
set_option maxRecDepth 100000 in
set_option maxHeartbeats 1000000 in
theorem refRead_bad (wd n : Int) (v : Value) (w : World) (h : wd < 1 ∨ 60 < wd ∨ n < 0) :
    Calls Try.prog 22 #[.int .i64 wd, .int .i64 n, v] w (Refused w 2) := by
  by_cases h1 : wd < 1
  · clear h
    go_enter Try.func22, Try.ntmps22
    go_wp2
    go_ret2
    exact ⟨rfl, Below.refl _ _⟩
  · by_cases h2 : 60 < wd
    · clear h
      go_enter Try.func22, Try.ntmps22
      go_wp2
      go_ret2
      exact ⟨rfl, Below.refl _ _⟩
    · have h3 : n < 0 := by omega
      clear h
      go_enter Try.func22, Try.ntmps22
      go_wp2
      go_ret2
      exact ⟨rfl, Below.refl _ _⟩
set_option maxRecDepth 100000 in
set_option maxHeartbeats 1000000 in
theorem refRead_long (wd n : Nat) (v : Value) (w : World) (h1 : 1 ≤ wd) (h2 : wd ≤ 60) (hm : 16777216 < wd * n) :
    Calls Try.prog 22 #[.int .i64 (wd : Int), .int .i64 (n : Int), v] w (Refused w 3) := by
  have hT : (16777216 : Int) / (wd : Int) < (n : Int) := Classical.byContradiction fun hh => by have := (many_iff h1).1 hh; omega
  clear hm
  go_enter Try.func22, Try.ntmps22
  go_wp2
  go_ret2
  exact ⟨rfl, Below.refl _ _⟩
set_option maxRecDepth 100000 in
set_option maxHeartbeats 1000000 in
theorem refRead_len (wd n L cap : Nat) (A : Option Addr) (w : World) (h1 : 1 ≤ wd) (h2 : wd ≤ 60) (hm : wd * n ≤ 16777216) (hs : L ≠ (wd * n + 7) / 8) :
    Calls Try.prog 22 #[.int .i64 (wd : Int), .int .i64 (n : Int), .slice A L cap] w (Refused w 4) := by
  have hT : ¬ (16777216 : Int) / (wd : Int) < (n : Int) := (many_iff h1).2 hm
  have hPe : (wd : Int) * (n : Int) = ((wd * n : Nat) : Int) := by simp
  generalize wd * n = P at hm hs hPe
  have hb2 : (((L : Nat) : Int) != ((P : Int) + 7) / 8) = true := by rw [bne_iff_ne]; omega
  clear hs
  go_enter Try.func22, Try.ntmps22
  go_wp2
  go_ret2
  exact ⟨rfl, Below.refl _ _⟩

theorem fS_congr {w k : Nat} {l l' : Nat → Nat} (h : ∀ j, j < k → l j = l' j) : fS w l k = fS w l' k := by
  funext i
  unfold fS
  by_cases hi : i < w * k
  · rw [h (i / w) (Nat.div_lt_of_lt_mul hi)]
  · simp [hi]
theorem zl_digL (f : Nat → Bool) (wd n : Nat) {j : Nat} (h : j < n) : zl (digL f wd n) j = dig f wd j := by unfold zl; rw [digL_at f wd n h]; simp
theorem fS_digL {f : Nat → Bool} {wd n : Nat} (hw : 1 ≤ wd) (hf : ∀ i, wd * n ≤ i → f i = false) : fS wd (zl (digL f wd n)) (digL f wd n).length = f := by
  rw [digL_len, fS_congr (fun j hj => zl_digL f wd n hj), fS_dig hw hf]
theorem OkNs.digL (f : Nat → Bool) (wd n : Nat) : OkNs wd (digL f wd n) := fun k hk => by
  rw [digL_len] at hk
  rw [zl_digL f wd n hk, digL_at f wd n hk]
  exact ⟨rfl, dig_lt f wd k⟩

/-- How it stands between two calls. -/
structure PutY (w W : World) (g : Nat) (A : Option Addr) (bs : List Nat) : Prop where
  row : W.rowIs g 5 (bs.length + 12) (lentV bs.length (vY bs) mY)
  rd : RdY W A bs
  bel : Below w.heap.size w W
  ge : w.heap.size ≤ g
theorem PutY.inn {w W : World} {g : Nat} {A : Option Addr} {bs : List Nat} (h : PutY w W g A bs) : RdY W (some ⟨g, 0, none⟩) bs :=
  ((RdV.of_row h.row).take (by omega)).congr fun j hj => by unfold lentV; rw [if_pos hj]
theorem PutY.step {w W W' : World} {g : Nat} {A : Option Addr} {bs : List Nat} (h : PutY w W g A bs) (hb : Below W.heap.size W W') : PutY w W' g A bs :=
  ⟨rowIs_below' h.row hb, h.rd.below hb, h.bel.trans (hb.mono h.bel.size), h.ge⟩
theorem PutY.over {w W W' : World} {g n : Nat} {A : Option Addr} {bs : List Nat} (h : PutY w W g A bs) (ho : OverS W W' 5 g n) : Below w.heap.size w W' :=
  h.bel.trans (ho.2.to_below (B := w.heap.size) (fun k hk => by subst hk; exact h.ge) h.bel.size)

set_option maxRecDepth 100000 in
set_option maxHeartbeats 1000000 in
theorem packReads_long (A : Option Addr) (L cap : Nat) (wd n i : Int) (W : World) (h : 2000 < L) :
    Calls Try.prog 4 #[.int .i64 wd, .int .i64 n, .slice A L cap, .int .i64 i] W (Yes W) := by
  go_enter Try.func4, Try.ntmps4
  go_wp2_with (go_at_call 9; refine (awake_any _).mono ?_; rintro e w1 ⟨rfl, HB⟩)
  go_ret
  exact ⟨rfl, HB⟩
set_option maxRecDepth 100000 in
set_option maxHeartbeats 1000000 in
theorem packReads_many (A : Option Addr) (L cap : Nat) (wd n i : Int) (W : World) (h : L ≤ 2000) (h1 : 1 ≤ wd) (h2 : wd ≤ 60) (h3 : 16000 / wd < n) (h4 : n ≤ 16777216 / wd) :
    Calls Try.prog 4 #[.int .i64 wd, .int .i64 n, .slice A L cap, .int .i64 i] W (Yes W) := by
  have h' : ¬ 2000 < (L : Int) := by omega
  go_enter Try.func4, Try.ntmps4
  go_wp2_with (go_at_call 9; refine (awake_any _).mono ?_; rintro e w1 ⟨rfl, HB⟩)
  go_ret
  exact ⟨rfl, HB⟩

set_option maxRecDepth 100000 in
set_option maxHeartbeats 8000000 in
theorem packReads_no (A : Option Addr) (cap : Nat) (wd n : Int) (bs : List Nat) (x i : Int) (w : World) (hl : bs.length ≤ 2000) (hz : RdY w A bs) (hA : A = none → bs.length = 0 ∧ cap = 0) (hx : x = 2 ∨ x = 3 ∨ x = 4)
    (hg : wd < 1 ∨ 60 < wd ∨ (1 ≤ wd ∧ wd ≤ 60 ∧ n ≤ 16000 / wd) ∨ (1 ≤ wd ∧ wd ≤ 60 ∧ 16000 / wd < n ∧ 16777216 / wd < n))
    (hN : ∀ (B : Option Addr) (c : Nat) (u : World), RdY u B bs → Calls Try.prog 21 #[.int .i64 wd, .int .i64 n, .slice B bs.length c] u (Refused u x))
    (hRN : ∀ (u : World), RdY u A bs → Calls Try.prog 22 #[.int .i64 wd, .int .i64 n, .slice A bs.length cap] u (Refused u x)) :
    Calls Try.prog 4 #[.int .i64 wd, .int .i64 n, .slice A bs.length cap, .int .i64 i] w (Yes w) := by
  have HZ := hid hz
  have HL := hid (lentBytes_any (cap := cap) hz (fun _ => rfl) hA (by omega))
  have HK := hid (fun (g : Nat) (u : World) (h1 : RdV u A bs.length fun j => .int .u8 ((bs.getD j 0 : Nat) : Int)) h2 => keptBytes_any (A := A) (cap := cap) (g := g) (n := bs.length) (x := fun j => ((bs.getD j 0 : Nat) : Int)) (w := u) (by omega) h1 h2)
  have HNn := hid hN
  have HRN := hid hRN
  have hxb : (x != 0) = true := by rcases hx with rfl | rfl | rfl <;> rfl
  clear hz hA hN hRN hx
  obtain ⟨N, hNe⟩ : ∃ N, N = bs.length := ⟨_, rfl⟩
  have HNe := hid hNe
  rw [← hNe] at hl HL HNn HRN HK
  rw [← hNe]
  have hl' : ¬ 2000 < (N : Int) := by omega
  clear hNe
  rcases hg with hg | hg | ⟨g1, g2, g3⟩ | ⟨g1, g2, g3, g4⟩
  all_goals
    go_enter Try.func4, Try.ntmps4
    go_wp2_with fail
    refine HL.out.mono ?_
    rintro e w1 ⟨g, rfl, hle⟩
    have HP : Hid (PutY w w1 g A bs) := hid ⟨by rw [← HNe.out]; exact hle.out.2.1, HZ.out.below hle.out.2.2, hle.out.2.2, hle.out.1⟩
    clear hle HZ HL
    go_wp2_with fail
    refine (HNn.out _ _ _ HP.out.inn).mono ?_
    rintro e w2 ⟨rfl, hb⟩
    have HP2 := hid (HP.out.step hb)
    clear hb HP HNn
    go_wp2_with fail
    refine (HRN.out _ HP2.out.rd).mono ?_
    rintro e w3 ⟨rfl, hb⟩
    have HP5 := hid (HP2.out.step hb)
    clear hb HP2 HRN
    go_wp2_with fail
    refine (HK.out _ _ (by have h := HP5.out.rd; rw [HNe.out]; exact h) (by have h := HP5.out.row; rw [HNe.out]; exact h)).mono ?_
    rintro e w6 ⟨rfl, k6, rfl⟩
    have HP6 := hid (HP5.out.step (below_drews _ k6))
    clear HP5 HK
    generalize w3.drewN k6 = w6 at HP6 ⊢
    go_wp2_with fail
    refine (overBytes_any (g := g) (n := N) ⟨_, by have h := HP6.out.row; rw [← HNe.out] at h; exact h⟩ (by omega)).mono ?_
    rintro e w7 ⟨rfl, ho⟩
    have HB7 := hid (HP6.out.over ho.out)
    clear ho HP6
    go_wp2_with fail
    refine (awake_any _).mono ?_
    rintro e w10 ⟨rfl, HBa⟩
    go_wp2_with fail
    go_ret
    exact ⟨rfl, hid (HB7.out.trans (HBa.out.mono HB7.out.size))⟩

set_option maxRecDepth 100000 in
set_option maxHeartbeats 8000000 in
theorem packReads_ok (A : Option Addr) (cap wd n : Nat) (bs : List Nat) (i : Int) (w : World) (hl : bs.length ≤ 2000) (hz : RdY w A bs) (hb : Byts bs) (hA : A = none → bs.length = 0 ∧ cap = 0) (h1 : 1 ≤ wd) (h2 : wd ≤ 60) (h3 : (n : Int) ≤ 16000 / (wd : Int)) (hm : wd * n ≤ 16777216) (hs : shapeOk (wd * n) bs) :
    Calls Try.prog 4 #[.int .i64 (wd : Int), .int .i64 (n : Int), .slice A bs.length cap, .int .i64 i] w (Yes w) := by
  have HZ := hid hz
  have HL := hid (lentBytes_any (cap := cap) hz (fun _ => rfl) hA (by omega))
  have HK := hid (fun (g : Nat) (u : World) (h1 : RdV u A bs.length fun j => .int .u8 ((bs.getD j 0 : Nat) : Int)) h2 => keptBytes_any (A := A) (cap := cap) (g := g) (n := bs.length) (x := fun j => ((bs.getD j 0 : Nat) : Int)) (w := u) (by omega) h1 h2)
  have HNn := hid (fun (B : Option Addr) (c : Nat) (u : World) (h : RdY u B bs) => read_ok wd n c B bs u h1 h2 hm h hb (decide_eq_true hs))
  have HRN : Hid (∀ u : World, RdY u A bs → Calls Try.prog 22 #[.int .i64 (wd : Int), .int .i64 (n : Int), .slice A bs.length cap] u (RMade u wd (digL (fB bs) wd n))) := hid fun u h => (refRead_fit wd n cap A bs u h1 h2 hm h hb hs.1).mono fun e w' hh => by
    rcases hh with ⟨_, hh⟩ | ⟨hno, _⟩
    · exact hh
    · exact absurd hs hno
  have HS1 : Hid (∀ (g gw r c : Nat) (B : Option Addr) (u : World), IsRow u g gw wd n (fB bs) → IsRef u r wd B c (digL (fB bs) wd n) → Calls Try.prog 19 #[.pointer (some ⟨g, 0, none⟩), .pointer (some ⟨r, 0, none⟩), .int .i64 i] u fun e w' => e = .returned (.bool true) ∧ St u w') :=
    hid fun g gw r c B u hv hr => same_any i (by rw [fS_digL h1 (fB_far hs), digL_len]; exact hv) hr (OkNs.digL _ _ _)
  clear hz hA hb hs
  obtain ⟨N, hNe⟩ : ∃ N, N = bs.length := ⟨_, rfl⟩
  have HNe := hid hNe
  rw [← hNe] at hl HL HNn HRN HK
  rw [← hNe]
  have hl' : ¬ 2000 < (N : Int) := by omega
  have h1' : (1 : Int) ≤ (wd : Int) := by omega
  have h2' : (wd : Int) ≤ 60 := by omega
  clear hNe hm
  go_enter Try.func4, Try.ntmps4
  go_wp2_with fail
  refine HL.out.mono ?_
  rintro e w1 ⟨g, rfl, hle⟩
  have HP : Hid (PutY w w1 g A bs) := hid ⟨by rw [← HNe.out]; exact hle.out.2.1, HZ.out.below hle.out.2.2, hle.out.2.2, hle.out.1⟩
  clear hle HZ HL
  go_wp2_with fail
  refine (HNn.out _ _ _ HP.out.inn).mono ?_
  rintro e w2 ⟨g1, gw1, rfl, hv, hg, hgw, hb⟩
  have HV := hid hv
  have HG : Hid (g < g1 ∧ g < gw1) := hid (by have := HP.out.row.lt; omega)
  have HP2 := hid (HP.out.step hb)
  clear hv hg hgw hb HP HNn
  go_wp2_with fail
  refine (HRN.out _ HP2.out.rd).mono ?_
  rintro e w3 ⟨r1, c1, A1, rfl, hq, ⟨hr, ha⟩, hb⟩
  have HQ := hid hq
  have HV2 := hid (HV.out.below hb)
  have HA1 : Hid (g < r1 ∧ ∀ ad, A1 = some ad → g < ad.block) := hid (by have := HP2.out.row.lt; exact ⟨by omega, fun ad had => by have := ha ad had; omega⟩)
  have HP5 := hid (HP2.out.step hb)
  clear hq hr ha hb HP2 HRN HV
  go_wp2_with fail
  refine (HK.out _ _ (by have h := HP5.out.rd; rw [HNe.out]; exact h) (by have h := HP5.out.row; rw [HNe.out]; exact h)).mono ?_
  rintro e w6 ⟨rfl, k6, rfl⟩
  have HP6 := hid (HP5.out.step (below_drews _ k6))
  have HQ4 := hid (HQ.out.drewN k6)
  have HV5 := hid (HV2.out.drewN k6)
  clear HP5 HK HQ HV2
  generalize w3.drewN k6 = w6 at HP6 HQ4 HV5 ⊢
  go_wp2_with fail
  refine (overBytes_any (g := g) (n := N) ⟨_, by have h := HP6.out.row; rw [← HNe.out] at h; exact h⟩ (by omega)).mono ?_
  rintro e w7 ⟨rfl, ho⟩
  have HB7 := hid (HP6.out.over ho.out)
  have HV6 := hid (HV5.out.only ho.out.2 (by have := HG.out; omega) (by have := HG.out; omega))
  have HQ5 := hid (HQ4.out.only ho.out.2 (by have := HA1.out; omega) (fun b off he => by have := HA1.out.2 _ he; show ¬ b = g; have h2 : g < b := this; omega))
  clear ho HP6 HV5 HQ4 HG HA1
  go_wp2_with fail
  refine (HS1.out _ _ _ _ _ _ HV6.out HQ5.out).mono ?_
  rintro e w8 ⟨rfl, ho⟩
  have HB8 := hid (HB7.out.trans (ho.out.to_below (B := w.heap.size) (fun _ h => h.elim) HB7.out.size))
  clear ho HV6 HQ5 HB7 HS1
  go_wp2_with fail
  refine (awake_any _).mono ?_
  rintro e w10 ⟨rfl, HBa⟩
  go_wp2_with fail
  go_ret
  exact ⟨rfl, hid (HB8.out.trans (HBa.out.mono HB8.out.size))⟩

theorem packReads_any (A : Option Addr) (cap : Nat) (wd n : Int) (bs : List Nat) (i : Int) (w : World) (hl : bs.length ≤ 2000) (hz : RdY w A bs) (hb : Byts bs) (hA : A = none → bs.length = 0 ∧ cap = 0) :
    Calls Try.prog 4 #[.int .i64 wd, .int .i64 n, .slice A bs.length cap, .int .i64 i] w (Yes w) := by
  by_cases h1 : wd < 1
  · exact packReads_no A cap wd n bs 2 i w hl hz hA (.inl rfl) (.inl h1) (fun B c u _ => read_badW wd n _ u (by unfold isWd; simp; omega)) (fun u _ => refRead_bad wd n _ u (.inl h1))
  · by_cases h2 : 60 < wd
    · exact packReads_no A cap wd n bs 2 i w hl hz hA (.inl rfl) (.inr (.inl h2)) (fun B c u _ => read_badW wd n _ u (by unfold isWd; simp; omega)) (fun u _ => refRead_bad wd n _ u (.inr (.inl h2)))
    · obtain ⟨d, rfl⟩ := Int.eq_ofNat_of_zero_le (a := wd) (by omega)
      have g1 : (1 : Int) ≤ (d : Int) := by omega
      have g2 : (d : Int) ≤ 60 := by omega
      have p0 : (0 : Int) ≤ 16000 / (d : Int) := Int.ediv_nonneg (by omega) (by omega)
      by_cases h3 : n < 0
      · exact packReads_no A cap _ n bs 2 i w hl hz hA (.inl rfl) (.inr (.inr (.inl ⟨g1, g2, by omega⟩))) (fun B c u _ => read_badN _ n _ u (isWd_iff.2 ⟨g1, g2⟩) h3) (fun u _ => refRead_bad _ n _ u (.inr (.inr h3)))
      · obtain ⟨k, rfl⟩ := Int.eq_ofNat_of_zero_le (a := n) (by omega)
        by_cases h4 : (16777216 : Int) / (d : Int) < (k : Int)
        · have hm : 16777216 < d * k := Classical.byContradiction fun hh => absurd h4 ((many_iff (by omega)).2 (by omega))
          have hq : (16000 : Int) / (d : Int) ≤ 16777216 / (d : Int) := Int.ediv_le_ediv (by omega) (by omega)
          exact packReads_no A cap _ _ bs 3 i w hl hz hA (.inr (.inl rfl)) (.inr (.inr (.inr ⟨g1, g2, by omega, h4⟩))) (fun B c u _ => read_long d k _ u (by omega) (by omega) hm) (fun u _ => refRead_long d k _ u (by omega) (by omega) hm)
        · by_cases h5 : (16000 : Int) / (d : Int) < (k : Int)
          · exact packReads_many A _ cap _ _ i w hl g1 g2 h5 (by omega)
          · have hm : d * k ≤ 16777216 := (many_iff (by omega)).1 h4
            by_cases hs : shapeOk (d * k) bs
            · exact packReads_ok A cap d k bs i w hl hz hb hA (by omega) (by omega) (by omega) hm hs
            · refine packReads_no A cap _ _ bs 4 i w hl hz hA (.inr (.inr rfl)) (.inr (.inr (.inl ⟨g1, g2, by omega⟩))) (fun B c u h => read_shape d k c B bs u (by omega) (by omega) hm h hb (decide_eq_false hs)) (fun u h => ?_)
              by_cases hle : bs.length = (d * k + 7) / 8
              · refine (refRead_fit d k cap A bs u (by omega) (by omega) hm h hb hle).mono fun e w' hh => ?_
                rcases hh with ⟨hy, _⟩ | ⟨_, hh⟩
                · exact absurd hy hs
                · exact hh
              · exact refRead_len d k _ cap A u (by omega) (by omega) hm hle
end Go.Proofs.Ytimkclmaglofaaa
