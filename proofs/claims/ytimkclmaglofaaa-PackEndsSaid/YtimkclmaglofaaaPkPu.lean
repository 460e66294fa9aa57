/- PackPuts. -/
import Derived.Test.YtimkclmaglofaaaPkSm
import Derived.Test.YtimkclmaglofaaaPkLe
import Derived.Test.YtimkclmaglofaaaKtI
import Derived.WalkSpells
namespace Go.Proofs.Ytimkclmaglofaaa
open Go.RowKit
open Bit

/-- How it stands between two calls: what was lent, what came, old memory. -/
structure PutS (w W : World) (g : Nat) (A : Option Addr) (zs : List Int) : Prop where
  row : W.rowIs g 3 (zs.length + 12) (lentV zs.length (vI zs) mI)
  rd : RdI W A zs
  bel : Below w.heap.size w W
  ge : w.heap.size ≤ g
theorem PutS.inn {w W : World} {g : Nat} {A : Option Addr} {zs : List Int} (h : PutS w W g A zs) : RdI W (some ⟨g, 0, none⟩) zs :=
  ((RdV.of_row h.row).take (by omega)).congr fun j hj => by unfold lentV; rw [if_pos hj]
theorem PutS.step {w W W' : World} {g : Nat} {A : Option Addr} {zs : List Int} (h : PutS w W g A zs) (hb : Below W.heap.size W W') : PutS w W' g A zs :=
  ⟨rowIs_below' h.row hb, h.rd.below hb, h.bel.trans (hb.mono h.bel.size), h.ge⟩
theorem PutS.over {w W W' : World} {g n : Nat} {A : Option Addr} {zs : List Int} (h : PutS w W g A zs) (ho : OverS W W' 3 g n) : Below w.heap.size w W' :=
  h.bel.trans (ho.2.to_below (B := w.heap.size) (fun k hk => by subst hk; exact h.ge) h.bel.size)
theorem below_drews (w : World) (k : Nat) : Below w.heap.size w (w.drewN k) := below_drewN (Below.refl _ _) k

/-- What the two Widths answer. -/
def Tells2 (u : World) (v x : Int) (e : Ending) (w' : World) : Prop := e = .returned (.tuple #[.int .i64 v, .int .i64 x]) ∧ u = w'

set_option maxRecDepth 100000 in
set_option maxHeartbeats 4000000 in
theorem packPuts_ok (A : Option Addr) (cap wd v2 : Nat) (zs : List Int) (v x i : Int) (w : World) (hl : zs.length ≤ 2000) (hz : RdI w A zs) (hA : A = none → zs.length = 0 ∧ cap = 0) (ok1 : OkNs wd zs) (ok2 : OkNs v2 zs)
    (hW : ∀ (B : Option Addr) (c : Nat) (u : World), RdI u B zs → Calls Try.prog 11 #[.slice B zs.length c] u (Tells2 u v x))
    (hRW : ∀ (u : World), RdI u A zs → Calls Try.prog 12 #[.slice A zs.length cap] u (Tells2 u v x))
    (hN : ∀ (B : Option Addr) (c : Nat) (u : World), RdI u B zs → Calls Try.prog 13 #[.int .i64 (wd : Int), .slice B zs.length c] u (Made u wd zs.length (fS wd (zl zs) zs.length)))
    (hRN : ∀ (u : World), RdI u A zs → Calls Try.prog 14 #[.int .i64 (wd : Int), .slice A zs.length cap] u (RMade u wd zs))
    (hO : ∀ (B : Option Addr) (c : Nat) (u : World), RdI u B zs → Calls Try.prog 15 #[.slice B zs.length c] u (Made u v2 zs.length (fS v2 (zl zs) zs.length)))
    (hRO : ∀ (u : World), RdI u A zs → Calls Try.prog 16 #[.slice A zs.length cap] u (RMade u v2 zs)) :
    Calls Try.prog 3 #[.int .i64 (wd : Int), .slice A zs.length cap, .int .i64 i] w (Yes w) := by
  have HZ := hid hz
  have HL := hid (lentInts_any (cap := cap) hz (fun _ => rfl) hA (by omega))
  have HK := hid (fun (g : Nat) (u : World) (h1 : RdV u A zs.length fun j => .int .i64 (zs.getD j 0)) h2 => keptInts_any (A := A) (cap := cap) (g := g) (n := zs.length) (x := fun j => zs.getD j 0) (w := u) (by omega) h1 h2)
  have HS1 := hid (fun (g gw r c : Nat) (B : Option Addr) (u : World) hv hr => same_any (g := g) (gw := gw) (wd := wd) (r := r) (cap := c) (A := B) (zs := zs) (w := u) i hv hr ok1)
  have HS2 := hid (fun (g gw r c : Nat) (B : Option Addr) (u : World) hv hr => same_any (g := g) (gw := gw) (wd := v2) (r := r) (cap := c) (A := B) (zs := zs) (w := u) i hv hr ok2)
  have HW := hid hW
  have HRW := hid hRW
  have HNn := hid hN
  have HRN := hid hRN
  have HO := hid hO
  have HRO := hid hRO
  clear hz hA ok1 ok2 hW hRW hN hRN hO hRO
  obtain ⟨N, hNe⟩ : ∃ N, N = zs.length := ⟨_, rfl⟩
  have HNe := hid hNe
  have HLe := hid hl
  rw [← hNe] at hl HL HW HRW HNn HRN HO HRO HK
  rw [← hNe]
  clear hNe
  go_enter Try.func3, Try.ntmps3
  go_wp2_with fail
  refine HL.out.mono ?_
  rintro e w1 ⟨g, rfl, hle⟩
  have HP : Hid (PutS w w1 g A zs) := hid ⟨by rw [← HNe.out]; exact hle.out.2.1, HZ.out.below hle.out.2.2, hle.out.2.2, hle.out.1⟩
  clear hle HZ HL
  go_wp2_with fail
  refine (HW.out _ _ _ HP.out.inn).mono ?_
  rintro e w2 ⟨rfl, rfl⟩
  go_wp2_with fail
  refine (HRW.out _ HP.out.rd).mono ?_
  rintro e w2 ⟨rfl, rfl⟩
  clear HW HRW
  go_wp2_with fail
  refine (HNn.out _ _ _ HP.out.inn).mono ?_
  rintro e w2 ⟨g1, gw1, rfl, hv, hg, hgw, hb⟩
  have HV := hid hv
  have HG : Hid (g < g1 ∧ g < gw1) := hid (by have := HP.out.row.lt; omega)
  have HP2 := hid (HP.out.step hb)
  clear hv hg hgw hb HP HNn
  go_wp2_with fail
  refine (HRN.out _ HP2.out.rd).mono ?_
  rintro e w3 ⟨r1, c1, A1, rfl, hq, ⟨hr, ha⟩, hb⟩
  have HQ := hid hq
  have HV2 := hid (HV.out.below hb)
  have HA1 : Hid (g < r1 ∧ ∀ ad, A1 = some ad → g < ad.block) := hid (by have := HP2.out.row.lt; exact ⟨by omega, fun ad had => by have := ha ad had; omega⟩)
  have HP3 := hid (HP2.out.step hb)
  clear hq hr ha hb HP2 HRN HV
  go_wp2_with fail
  refine (HO.out _ _ _ HP3.out.inn).mono ?_
  rintro e w4 ⟨g2, gw2, rfl, hv, hg, hgw, hb⟩
  have HU := hid hv
  have HG2 : Hid (g < g2 ∧ g < gw2) := hid (by have := HP3.out.row.lt; omega)
  have HQ2 := hid (HQ.out.below hb)
  have HV3 := hid (HV2.out.below hb)
  have HP4 := hid (HP3.out.step hb)
  clear hv hg hgw hb HP3 HO HQ HV2
  go_wp2_with fail
  refine (HRO.out _ HP4.out.rd).mono ?_
  rintro e w5 ⟨r2, c2, A2, rfl, hq, ⟨hr, ha⟩, hb⟩
  have HR := hid hq
  have HU2 := hid (HU.out.below hb)
  have HQ3 := hid (HQ2.out.below hb)
  have HV4 := hid (HV3.out.below hb)
  have HA2 : Hid (g < r2 ∧ ∀ ad, A2 = some ad → g < ad.block) := hid (by have := HP4.out.row.lt; exact ⟨by omega, fun ad had => by have := ha ad had; omega⟩)
  have HP5 := hid (HP4.out.step hb)
  clear hq hr ha hb HP4 HRO HU HQ2 HV3
  go_wp2_with fail
  refine (HK.out _ _ (by have h := HP5.out.rd; rw [HNe.out]; exact h) (by have h := HP5.out.row; rw [HNe.out]; exact h)).mono ?_
  rintro e w6 ⟨rfl, k6, rfl⟩
  have HP6 := hid (HP5.out.step (below_drews _ k6))
  have HU3 := hid (HU2.out.drewN k6)
  have HR2 := hid (HR.out.drewN k6)
  have HQ4 := hid (HQ3.out.drewN k6)
  have HV5 := hid (HV4.out.drewN k6)
  clear HP5 HU2 HR HQ3 HV4 HK
  generalize w5.drewN k6 = w6 at HP6 HU3 HR2 HQ4 HV5 ⊢
  go_wp2_with fail
  refine (overInts_any (g := g) (n := N) ⟨_, by have h := HP6.out.row; rw [← HNe.out] at h; exact h⟩ (by omega)).mono ?_
  rintro e w7 ⟨rfl, ho⟩
  have HB7 := hid (HP6.out.over ho.out)
  have HV6 := hid (HV5.out.only ho.out.2 (by have := HG.out; omega) (by have := HG.out; omega))
  have HU4 := hid (HU3.out.only ho.out.2 (by have := HG2.out; omega) (by have := HG2.out; omega))
  have HQ5 := hid (HQ4.out.only ho.out.2 (by have := HA1.out; omega) (fun b off he => by have := HA1.out.2 _ he; show ¬ b = g; have h2 : g < b := this; omega))
  have HR3 := hid (HR2.out.only ho.out.2 (by have := HA2.out; omega) (fun b off he => by have := HA2.out.2 _ he; show ¬ b = g; have h2 : g < b := this; omega))
  clear ho HP6 HV5 HU3 HQ4 HR2 HG HG2 HA1 HA2
  go_wp2_with fail
  refine (HS1.out _ _ _ _ _ _ (by have h := HV6.out; rw [HNe.out] at h; exact h) HQ5.out).mono ?_
  rintro e w8 ⟨rfl, ho⟩
  have HU5 := hid (HU4.out.only ho.out no_ no_)
  have HR4 := hid (HR3.out.same ho.out)
  have HB8 := hid (HB7.out.trans (ho.out.to_below (B := w.heap.size) (fun _ h => h.elim) HB7.out.size))
  clear ho HV6 HQ5 HU4 HR3 HB7 HS1
  go_wp2_with fail
  refine (HS2.out _ _ _ _ _ _ (by have h := HU5.out; rw [HNe.out] at h; exact h) HR4.out).mono ?_
  rintro e w9 ⟨rfl, ho⟩
  have HB9 := hid (HB8.out.trans (ho.out.to_below (B := w.heap.size) (fun _ h => h.elim) HB8.out.size))
  clear ho HU5 HR4 HB8 HS2
  go_wp2_with fail
  refine (awake_any _).mono ?_
  rintro e w10 ⟨rfl, HBa⟩
  go_wp2_with fail
  go_ret
  exact ⟨rfl, hid (HB9.out.trans (HBa.out.mono HB9.out.size))⟩

set_option maxRecDepth 100000 in
set_option maxHeartbeats 4000000 in
theorem packPuts_no (A : Option Addr) (cap : Nat) (wd : Int) (zs : List Int) (v x i : Int) (w : World) (hl : zs.length ≤ 2000) (hz : RdI w A zs) (hA : A = none → zs.length = 0 ∧ cap = 0)
    (hW : ∀ (B : Option Addr) (c : Nat) (u : World), RdI u B zs → Calls Try.prog 11 #[.slice B zs.length c] u (Tells2 u v x))
    (hRW : ∀ (u : World), RdI u A zs → Calls Try.prog 12 #[.slice A zs.length cap] u (Tells2 u v x))
    (hN : ∀ (B : Option Addr) (c : Nat) (u : World), RdI u B zs → Calls Try.prog 13 #[.int .i64 wd, .slice B zs.length c] u (Refused u 2))
    (hRN : ∀ (u : World), RdI u A zs → Calls Try.prog 14 #[.int .i64 wd, .slice A zs.length cap] u (Refused u 2))
    (hO : ∀ (B : Option Addr) (c : Nat) (u : World), RdI u B zs → Calls Try.prog 15 #[.slice B zs.length c] u (Refused u 2))
    (hRO : ∀ (u : World), RdI u A zs → Calls Try.prog 16 #[.slice A zs.length cap] u (Refused u 2)) :
    Calls Try.prog 3 #[.int .i64 wd, .slice A zs.length cap, .int .i64 i] w (Yes w) := by
  have HZ := hid hz
  have HL := hid (lentInts_any (cap := cap) hz (fun _ => rfl) hA (by omega))
  have HK := hid (fun (g : Nat) (u : World) (h1 : RdV u A zs.length fun j => .int .i64 (zs.getD j 0)) h2 => keptInts_any (A := A) (cap := cap) (g := g) (n := zs.length) (x := fun j => zs.getD j 0) (w := u) (by omega) h1 h2)
  have HW := hid hW
  have HRW := hid hRW
  have HNn := hid hN
  have HRN := hid hRN
  have HO := hid hO
  have HRO := hid hRO
  clear hz hA hW hRW hN hRN hO hRO
  obtain ⟨N, hNe⟩ : ∃ N, N = zs.length := ⟨_, rfl⟩
  have HNe := hid hNe
  have HLe := hid hl
  rw [← hNe] at hl HL HW HRW HNn HRN HO HRO HK
  rw [← hNe]
  clear hNe
  go_enter Try.func3, Try.ntmps3
  go_wp2_with fail
  refine HL.out.mono ?_
  rintro e w1 ⟨g, rfl, hle⟩
  have HP : Hid (PutS w w1 g A zs) := hid ⟨by rw [← HNe.out]; exact hle.out.2.1, HZ.out.below hle.out.2.2, hle.out.2.2, hle.out.1⟩
  clear hle HZ HL
  go_wp2_with fail
  refine (HW.out _ _ _ HP.out.inn).mono ?_
  rintro e w2 ⟨rfl, rfl⟩
  go_wp2_with fail
  refine (HRW.out _ HP.out.rd).mono ?_
  rintro e w2 ⟨rfl, rfl⟩
  clear HW HRW
  go_wp2_with fail
  refine (HNn.out _ _ _ HP.out.inn).mono ?_
  rintro e w2 ⟨rfl, hb⟩
  have HP2 := hid (HP.out.step hb)
  clear hb HP HNn
  go_wp2_with fail
  refine (HRN.out _ HP2.out.rd).mono ?_
  rintro e w3 ⟨rfl, hb⟩
  have HP3 := hid (HP2.out.step hb)
  clear hb HP2 HRN
  go_wp2_with fail
  refine (HO.out _ _ _ HP3.out.inn).mono ?_
  rintro e w4 ⟨rfl, hb⟩
  have HP4 := hid (HP3.out.step hb)
  clear hb HP3 HO
  go_wp2_with fail
  refine (HRO.out _ HP4.out.rd).mono ?_
  rintro e w5 ⟨rfl, hb⟩
  have HP5 := hid (HP4.out.step hb)
  clear hb HP4 HRO
  go_wp2_with fail
  refine (HK.out _ _ (by have h := HP5.out.rd; rw [HNe.out]; exact h) (by have h := HP5.out.row; rw [HNe.out]; exact h)).mono ?_
  rintro e w6 ⟨rfl, k6, rfl⟩
  have HP6 := hid (HP5.out.step (below_drews _ k6))
  clear HP5 HK
  generalize w5.drewN k6 = w6 at HP6 ⊢
  go_wp2_with fail
  refine (overInts_any (g := g) (n := N) ⟨_, by have h := HP6.out.row; rw [← HNe.out] at h; exact h⟩ (by omega)).mono ?_
  rintro e w7 ⟨rfl, ho⟩
  have HB7 := hid (HP6.out.over ho.out)
  clear ho HP6
  go_wp2_with fail
  refine (awake_any _).mono ?_
  rintro e w10 ⟨rfl, HBa⟩
  go_wp2_with fail
  go_ret
  exact ⟨rfl, hid (HB7.out.trans (HBa.out.mono HB7.out.size))⟩

set_option maxRecDepth 100000 in
set_option maxHeartbeats 4000000 in
theorem packPuts_of (A : Option Addr) (cap v2 : Nat) (wd : Int) (zs : List Int) (v x i : Int) (w : World) (hl : zs.length ≤ 2000) (hz : RdI w A zs) (hA : A = none → zs.length = 0 ∧ cap = 0) (ok2 : OkNs v2 zs)
    (hW : ∀ (B : Option Addr) (c : Nat) (u : World), RdI u B zs → Calls Try.prog 11 #[.slice B zs.length c] u (Tells2 u v x))
    (hRW : ∀ (u : World), RdI u A zs → Calls Try.prog 12 #[.slice A zs.length cap] u (Tells2 u v x))
    (hN : ∀ (B : Option Addr) (c : Nat) (u : World), RdI u B zs → Calls Try.prog 13 #[.int .i64 wd, .slice B zs.length c] u (Refused u 2))
    (hRN : ∀ (u : World), RdI u A zs → Calls Try.prog 14 #[.int .i64 wd, .slice A zs.length cap] u (Refused u 2))
    (hO : ∀ (B : Option Addr) (c : Nat) (u : World), RdI u B zs → Calls Try.prog 15 #[.slice B zs.length c] u (Made u v2 zs.length (fS v2 (zl zs) zs.length)))
    (hRO : ∀ (u : World), RdI u A zs → Calls Try.prog 16 #[.slice A zs.length cap] u (RMade u v2 zs)) :
    Calls Try.prog 3 #[.int .i64 wd, .slice A zs.length cap, .int .i64 i] w (Yes w) := by
  have HZ := hid hz
  have HL := hid (lentInts_any (cap := cap) hz (fun _ => rfl) hA (by omega))
  have HK := hid (fun (g : Nat) (u : World) (h1 : RdV u A zs.length fun j => .int .i64 (zs.getD j 0)) h2 => keptInts_any (A := A) (cap := cap) (g := g) (n := zs.length) (x := fun j => zs.getD j 0) (w := u) (by omega) h1 h2)
  have HS2 := hid (fun (g gw r c : Nat) (B : Option Addr) (u : World) hv hr => same_any (g := g) (gw := gw) (wd := v2) (r := r) (cap := c) (A := B) (zs := zs) (w := u) i hv hr ok2)
  have HW := hid hW
  have HRW := hid hRW
  have HNn := hid hN
  have HRN := hid hRN
  have HO := hid hO
  have HRO := hid hRO
  clear hz hA ok2 hW hRW hN hRN hO hRO
  obtain ⟨N, hNe⟩ : ∃ N, N = zs.length := ⟨_, rfl⟩
  have HNe := hid hNe
  have HLe := hid hl
  rw [← hNe] at hl HL HW HRW HNn HRN HO HRO HK
  rw [← hNe]
  clear hNe
  go_enter Try.func3, Try.ntmps3
  go_wp2_with fail
  refine HL.out.mono ?_
  rintro e w1 ⟨g, rfl, hle⟩
  have HP : Hid (PutS w w1 g A zs) := hid ⟨by rw [← HNe.out]; exact hle.out.2.1, HZ.out.below hle.out.2.2, hle.out.2.2, hle.out.1⟩
  clear hle HZ HL
  go_wp2_with fail
  refine (HW.out _ _ _ HP.out.inn).mono ?_
  rintro e w2 ⟨rfl, rfl⟩
  go_wp2_with fail
  refine (HRW.out _ HP.out.rd).mono ?_
  rintro e w2 ⟨rfl, rfl⟩
  clear HW HRW
  go_wp2_with fail
  refine (HNn.out _ _ _ HP.out.inn).mono ?_
  rintro e w2 ⟨rfl, hb⟩
  have HP2 := hid (HP.out.step hb)
  clear hb HP HNn
  go_wp2_with fail
  refine (HRN.out _ HP2.out.rd).mono ?_
  rintro e w3 ⟨rfl, hb⟩
  have HP3 := hid (HP2.out.step hb)
  clear hb HP2 HRN
  go_wp2_with fail
  refine (HO.out _ _ _ HP3.out.inn).mono ?_
  rintro e w4 ⟨g2, gw2, rfl, hv, hg, hgw, hb⟩
  have HU := hid hv
  have HG2 : Hid (g < g2 ∧ g < gw2) := hid (by have := HP3.out.row.lt; omega)
  have HP4 := hid (HP3.out.step hb)
  clear hv hg hgw hb HP3 HO
  go_wp2_with fail
  refine (HRO.out _ HP4.out.rd).mono ?_
  rintro e w5 ⟨r2, c2, A2, rfl, hq, ⟨hr, ha⟩, hb⟩
  have HR := hid hq
  have HU2 := hid (HU.out.below hb)
  have HA2 : Hid (g < r2 ∧ ∀ ad, A2 = some ad → g < ad.block) := hid (by have := HP4.out.row.lt; exact ⟨by omega, fun ad had => by have := ha ad had; omega⟩)
  have HP5 := hid (HP4.out.step hb)
  clear hq hr ha hb HP4 HRO HU
  go_wp2_with fail
  refine (HK.out _ _ (by have h := HP5.out.rd; rw [HNe.out]; exact h) (by have h := HP5.out.row; rw [HNe.out]; exact h)).mono ?_
  rintro e w6 ⟨rfl, k6, rfl⟩
  have HP6 := hid (HP5.out.step (below_drews _ k6))
  have HU3 := hid (HU2.out.drewN k6)
  have HR2 := hid (HR.out.drewN k6)
  clear HP5 HU2 HR HK
  generalize w5.drewN k6 = w6 at HP6 HU3 HR2 ⊢
  go_wp2_with fail
  refine (overInts_any (g := g) (n := N) ⟨_, by have h := HP6.out.row; rw [← HNe.out] at h; exact h⟩ (by omega)).mono ?_
  rintro e w7 ⟨rfl, ho⟩
  have HB7 := hid (HP6.out.over ho.out)
  have HU4 := hid (HU3.out.only ho.out.2 (by have := HG2.out; omega) (by have := HG2.out; omega))
  have HR3 := hid (HR2.out.only ho.out.2 (by have := HA2.out; omega) (fun b off he => by have := HA2.out.2 _ he; show ¬ b = g; have h2 : g < b := this; omega))
  clear ho HP6 HU3 HR2 HG2 HA2
  go_wp2_with fail
  refine (HS2.out _ _ _ _ _ _ (by have h := HU4.out; rw [HNe.out] at h; exact h) HR3.out).mono ?_
  rintro e w9 ⟨rfl, ho⟩
  have HB9 := hid (HB7.out.trans (ho.out.to_below (B := w.heap.size) (fun _ h => h.elim) HB7.out.size))
  clear ho HU4 HR3 HB7 HS2
  go_wp2_with fail
  refine (awake_any _).mono ?_
  rintro e w10 ⟨rfl, HBa⟩
  go_wp2_with fail
  go_ret
  exact ⟨rfl, hid (HB9.out.trans (HBa.out.mono HB9.out.size))⟩

set_option maxRecDepth 100000 in
set_option maxHeartbeats 1000000 in
theorem packPuts_long (A : Option Addr) (L cap : Nat) (wd i : Int) (W : World) (h : 2000 < L) :
    Calls Try.prog 3 #[.int .i64 wd, .slice A L cap, .int .i64 i] W (Yes W) := by
  go_enter Try.func3, Try.ntmps3
  go_wp2_with (go_at_call 9; refine (awake_any _).mono ?_; rintro e w1 ⟨rfl, HB⟩)
  go_ret
  exact ⟨rfl, HB⟩

theorem packPuts_any (A : Option Addr) (cap : Nat) (wd : Int) (zs : List Int) (i : Int) (w : World) (hl : zs.length ≤ 2000) (hz : RdI w A zs) (hA : A = none → zs.length = 0 ∧ cap = 0) (hi : Ints zs) :
    Calls Try.prog 3 #[.int .i64 wd, .slice A zs.length cap, .int .i64 i] w (Yes w) := by
  have hW := fun (B : Option Addr) (c : Nat) (u : World) (h : RdI u B zs) => widthOf_any c B zs u h (by omega) hi
  have hRW := fun (u : World) (h : RdI u A zs) => refWidth_any cap A zs u h (by omega) hi
  cases hb : allGood 60 zs with
  | false =>
    refine packPuts_no A cap wd zs (if allGood 60 zs = true then ((wid zs : Nat) : Int) else 0) (if allGood 60 zs = true then 0 else 2) i w hl hz hA hW hRW (fun B c u h => ?_) (fun u h => refNew_bad60 wd cap A zs u h (by omega) hi hb) (fun B c u h => of_bad c B zs u h (by omega) hi hb) (fun u h => refOf_bad cap A zs u h (by omega) hi hb)
    refine (new_any wd c B zs u h (by omega) hi).mono fun e w' hr => ?_
    have hno : ¬ (isWd wd = true ∧ allGood wd.toNat zs = true) := fun hh => by
      have h1 := isWd_iff.1 hh.1
      have : allGood 60 zs = true := allGood_iff.2 fun z hz => good_mono (by omega) (allGood_iff.1 hh.2 z hz)
      rw [hb] at this; cases this
    rcases hr with ⟨h1, h2, _⟩ | ⟨_, h⟩ | ⟨h1, _⟩
    · exact absurd ⟨h1, h2⟩ hno
    · exact h
    · exact absurd h1 hno
  | true =>
    have hg := allGood_iff.1 hb
    have hp := wid_pos zs
    have h60 : wid zs ≤ 60 := wid_le (by omega) (by omega) hg
    have hsm : wid zs * zs.length ≤ 16777216 := by have := Nat.mul_le_mul h60 hl; omega
    have ok2 : OkNs (wid zs) zs := OkNs.of (allGood_iff.2 ((wid_iff hp h60 hg).2 (Nat.le_refl _)))
    by_cases hok : isWd wd = true ∧ allGood wd.toNat zs = true
    · have h1 := isWd_iff.1 hok.1
      obtain ⟨n, rfl⟩ := Int.eq_ofNat_of_zero_le (a := wd) (by omega)
      rw [Int.toNat_natCast] at hok
      have hs1 : n * zs.length ≤ 16777216 := by have := Nat.mul_le_mul (show n ≤ 60 by omega) hl; omega
      exact packPuts_ok A cap n (wid zs) zs _ _ i w hl hz hA (OkNs.of hok.2) ok2 hW hRW
        (fun B c u h => new_ok n c B zs u (by omega) (by omega) h hi (by rw [allGood_bad, hok.2]; rfl) hs1) (fun u h => refNew_ok n cap A zs u h hA hi hb (by omega) (by omega) ((wid_iff (by omega) (by omega) hg).1 (allGood_iff.1 hok.2)) hs1)
        (fun B c u h => of_ok c B zs u h hi hb hsm) (fun u h => refOf_ok cap A zs u h hA hi hb hsm)
    · refine packPuts_of A cap (wid zs) wd zs _ _ i w hl hz hA ok2 hW hRW (fun B c u h => ?_) (fun u h => ?_) (fun B c u h => of_ok c B zs u h hi hb hsm) (fun u h => refOf_ok cap A zs u h hA hi hb hsm)
      · refine (new_any wd c B zs u h (by omega) hi).mono fun e w' hr => ?_
        rcases hr with ⟨h1, h2, _⟩ | ⟨_, h⟩ | ⟨h1, _⟩
        · exact absurd ⟨h1, h2⟩ hok
        · exact h
        · exact absurd h1 hok
      · refine (refNew_any wd cap A zs u h hA (by omega) hi).mono fun e w' hr => ?_
        rcases hr with ⟨h1, h2, _⟩ | ⟨_, h⟩ | ⟨h1, _⟩
        · exact absurd ⟨h1, h2⟩ hok
        · exact h
        · exact absurd h1 hok
end Go.Proofs.Ytimkclmaglofaaa
