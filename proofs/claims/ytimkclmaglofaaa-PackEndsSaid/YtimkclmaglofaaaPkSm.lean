/- Is a row the document's? -/
import Derived.Test.YtimkclmaglofaaaPkA
import Derived.Test.YtimkclmaglofaaaPkB
import Derived.Deep.Cut
import Derived.Deep.CutRange
namespace Go.Proofs.Ytimkclmaglofaaa
open Go.RowKit
open Bit

abbrev St (w W : World) : Prop := Hid (Only (fun _ => False) w W)
theorem IsRef.only {S : Nat → Prop} {w w' : World} {r wd cap : Nat} {A : Option Addr} {zs : List Int} (h : IsRef w r wd A cap zs) (ho : Only S w w') (h1 : ¬ S r) (h2 : ∀ b off, A = some ⟨b, off, none⟩ → ¬ S b) : IsRef w' r wd A cap zs :=
  ⟨ho.row h.self h1, h.rd.only ho h2⟩
theorem IsRef.same {w w' : World} {r wd cap : Nat} {A : Option Addr} {zs : List Int} (h : IsRef w r wd A cap zs) (ho : Only (fun _ => False) w w') : IsRef w' r wd A cap zs := h.only ho no_ fun _ _ _ => no_
theorem IsRef.c1 {w : World} {r wd cap : Nat} {A : Option Addr} {zs : List Int} (h : IsRef w r wd A cap zs) : w.cell? ⟨r, 1, none⟩ = some (.slice A zs.length cap) := h.self.cell (i := 1) (by omega)
theorem IsRef.c0 {w : World} {r wd cap : Nat} {A : Option Addr} {zs : List Int} (h : IsRef w r wd A cap zs) : w.cell? ⟨r, 0, none⟩ = some (.int .i64 (wd : Int)) := h.self.cell (i := 0) (by omega)

/-- Numbers that may be in a row of that width, each. -/
def OkNs (wd : Nat) (zs : List Int) : Prop := ∀ k, k < zs.length → zs.getD k 0 = ((zl zs k : Nat) : Int) ∧ zl zs k < 2 ^ wd
theorem OkNs.of {wd : Nat} {zs : List Int} (h : allGood wd zs = true) : OkNs wd zs := fun _ hk => good_zl (by rw [allGood_bad, h]; rfl) hk
theorem OkNs.dig {wd : Nat} {zs : List Int} (h : OkNs wd zs) {k : Nat} (hk : k < zs.length) : ((dig (fS wd (zl zs) zs.length) wd k : Nat) : Int) = zs.getD k 0 := by
  have := h k hk
  rw [dig_fS hk this.2, ← this.1]
theorem OkNs.nat {wd : Nat} {zs : List Int} (h : OkNs wd zs) (i : Int) : nAt (fS wd (zl zs) zs.length) wd zs.length i = nz zs i := by
  unfold nAt nz
  by_cases hi : 0 ≤ i ∧ i < (zs.length : Int)
  · rw [if_pos hi, if_pos hi, h.dig (by omega)]
  · rw [if_neg hi, if_neg hi]

section
variable {g gw wd r cap N : Nat} {f : Nat → Bool} {A : Option Addr} {zs : List Int} {w W : World} {P Q : Prop}
theorem lenS (h : Hid (IsRow w g gw wd N f)) (hs : P ∧ Q ∧ St w W) : Calls Try.prog 31 #[.pointer (some ⟨g, 0, none⟩)] W fun e w' => e = .returned (.int .i64 ((N : Nat) : Int)) ∧ W = w' := len_any (h.out.only hs.2.2.out no_ no_)
theorem widthS (h : Hid (IsRow w g gw wd N f)) (hs : P ∧ Q ∧ St w W) : Calls Try.prog 32 #[.pointer (some ⟨g, 0, none⟩)] W fun e w' => e = .returned (.int .i64 ((wd : Nat) : Int)) ∧ W = w' := width_any (h.out.only hs.2.2.out no_ no_)
def IRow (W : World) (b n : Nat) (f : Nat → Bool) (wd : Nat) : Prop := W.rowIs b 3 n (vDf f wd)
def YRow (W : World) (b n : Nat) (f : Nat → Bool) : Prop := W.rowIs b 5 n (vYf f)
theorem allS (h : Hid (IsRow w g gw wd N f)) (hs : P ∧ Q ∧ St w W) :
    Calls Try.prog 36 #[.pointer (some ⟨g, 0, none⟩)] W fun e w' => ∃ b, e = .returned (.slice (some ⟨b, 0, none⟩) N N) ∧ St w w' ∧ Hid (IRow w' b N f wd) :=
  (all_any (h.out.only hs.2.2.out no_ no_)).mono fun _ _ ⟨b, he, hb⟩ => ⟨b, he, hid (hs.2.2.out.trans (Only.of_below hb.out.2.2 _)), hid hb.out.2.1⟩
theorem sameIntsS {b : Nat} (hr : Hid (IsRef w r wd A cap zs)) (hN : Hid (N = zs.length)) (hl : N ≤ 16777216) (hok : Hid (OkNs wd zs)) (hb : Hid (IRow W b N (fS wd (zl zs) zs.length) wd)) (hs : P ∧ Q ∧ St w W) :
    Calls Try.prog 35 #[.slice (some ⟨b, 0, none⟩) N N, .slice A N cap] W fun e w' => e = .returned (.bool true) ∧ St w w' := by
  have h1 : RdV W (some ⟨b, 0, none⟩) N fun j => .int .i64 (zs.getD j 0) := (RdV.of_row hb.out).congr fun j hj => congrArg (Value.int .i64) (hok.out.dig (by rw [← hN.out]; exact hj))
  have h2 : RdV W A N fun j => .int .i64 (zs.getD j 0) := by have := (hr.out.same hs.2.2.out).rd; rw [hN.out]; exact this
  exact (sameInts_eq h1 h2 (by omega)).mono fun _ _ ⟨he, hk⟩ => ⟨he, hid (hs.2.2.out.trans (quiet_only hk))⟩
theorem bytesS (h : Hid (IsRow w g gw wd N f)) (hs : P ∧ Q ∧ St w W) :
    Calls Try.prog 30 #[.pointer (some ⟨g, 0, none⟩)] W fun e w' => ∃ b, e = .returned (.slice (some ⟨b, 0, none⟩) ((wd * N + 7) / 8) ((wd * N + 7) / 8)) ∧ St w w' ∧ Hid (YRow w' b ((wd * N + 7) / 8) f) :=
  (bytes_any (h.out.only hs.2.2.out no_ no_)).mono fun _ _ ⟨b, he, hb⟩ => ⟨b, he, hid (hs.2.2.out.trans (Only.of_below hb.out.2.2 _)), hid hb.out.2.1⟩
theorem refBytesS (hr : Hid (IsRef w r wd A cap zs)) (hN : Hid (N = zs.length)) (h1 : 1 ≤ wd) (h2 : wd ≤ 60) (hm : Hid (wd * N ≤ 16777216)) (hok : Hid (OkNs wd zs)) (hs : P ∧ Q ∧ St w W) :
    Calls Try.prog 27 #[.pointer (some ⟨r, 0, none⟩)] W fun e w' => ∃ b, e = .returned (.slice (some ⟨b, 0, none⟩) ((wd * N + 7) / 8) ((wd * N + 7) / 8)) ∧ St w w' ∧ Hid (YRow w' b ((wd * N + 7) / 8) (fS wd (zl zs) zs.length)) ∧ Hid (∀ c m f', YRow W c m f' → YRow w' c m f') := by
  obtain rfl := hN.out
  exact (refBytes_any (hr.out.same hs.2.2.out) h1 h2 hm.out hok.out).mono fun _ _ ⟨b, he, hb⟩ => ⟨b, he, hid (hs.2.2.out.trans (Only.of_below hb.out.2.2 _)), hid hb.out.2.1, hid fun _ _ _ hc => rowIs_below' hc hb.out.2.2⟩
theorem sameBytesS {b c M : Nat} (hM : M ≤ 16777216) (hb : Hid (YRow W b M f)) (hc : Hid (YRow W c M f)) (hs : P ∧ Q ∧ St w W) :
    Calls Try.prog 29 #[.slice (some ⟨b, 0, none⟩) M M, .slice (some ⟨c, 0, none⟩) M M] W fun e w' => e = .returned (.bool true) ∧ St w w' :=
  (sameBytes_eq (y := byt f) (byt_lt f) (RdV.of_row hb.out) (RdV.of_row hc.out) (by omega)).mono fun _ _ ⟨he, hk⟩ => ⟨he, hid (hs.2.2.out.trans (quiet_only hk))⟩
theorem atS {i : Int} (h : Hid (IsRow w g gw wd N (fS wd (zl zs) zs.length))) (hN : Hid (N = zs.length)) (hok : Hid (OkNs wd zs)) (hs : St w W) :
    Calls Try.prog 34 #[.pointer (some ⟨g, 0, none⟩), .int .i64 i] W fun e w' => e = .returned (.tuple #[.int .i64 (nz zs i), .bool (isAt N i)]) ∧ St w w' := by
  obtain rfl := hN.out
  refine (at_any (h.out.only hs.out no_ no_) i).mono fun _ _ ⟨he, hk⟩ => ⟨?_, hid (hs.out.trans (quiet_only hk))⟩
  rw [he, hok.out.nat]
theorem refAtS {i : Int} (hr : Hid (IsRef w r wd A cap zs)) (hN : Hid (N = zs.length)) (hs : St w W) :
    Calls Try.prog 47 #[.pointer (some ⟨r, 0, none⟩), .int .i64 i] W fun e w' => e = .returned (.tuple #[.int .i64 (nz zs i), .bool (isAt N i)]) ∧ W = w' := by
  obtain rfl := hN.out
  exact refAt_any (hr.out.same hs.out) i
end

set_option maxHeartbeats 4000000 in
theorem same_any {g gw wd r cap : Nat} {A : Option Addr} {zs : List Int} {w : World} (i : Int) (hv : IsRow w g gw wd zs.length (fS wd (zl zs) zs.length)) (hr : IsRef w r wd A cap zs) (hok : OkNs wd zs) :
    Calls Try.prog 19 #[.pointer (some ⟨g, 0, none⟩), .pointer (some ⟨r, 0, none⟩), .int .i64 i] w fun e w' => e = .returned (.bool true) ∧ St w w' := by
  have h1 := hv.one
  have h2 := hv.most
  have hl := hv.few
  have hm := hid hv.small
  have hM : (wd * zs.length + 7) / 8 ≤ 16777216 := by have := hm.out; omega
  have d1 := hr.c1
  have d0 := hr.c0
  have HV0 := hid hv
  have HR := hid hr
  have HOk := hid hok
  have HS : St w w := hid (Only.refl _ w)
  clear hv hr hok
  obtain ⟨N, hN⟩ : ∃ N, N = zs.length := ⟨_, rfl⟩
  have HN := hid hN
  have HV : Hid (IsRow w g gw wd N (fS wd (zl zs) zs.length)) := hid (by rw [hN]; exact HV0.out)
  rw [← hN] at hl hM d1 hm
  clear hN HV0
  obtain ⟨z, hz⟩ : ∃ z, z = nz zs i := ⟨_, rfl⟩
  have Hz := hid hz
  obtain ⟨bb, hb⟩ : ∃ bb, bb = isAt N i := ⟨_, rfl⟩
  have Hb := hid hb
  clear hz hb
  obtain ⟨M, hMe⟩ : ∃ M, M = (wd * N + 7) / 8 := ⟨_, rfl⟩
  rw [← hMe] at hM
  have HMe := hid hMe
  clear hMe
  go_enter Try.func19, Try.ntmps19
  go_upto_region 1 with fail
  go_region_held3 (fun w' => w'.cell? ⟨r, 1, none⟩ = some (.slice A N cap) ∧ w'.cell? ⟨r, 0, none⟩ = some (.int .i64 (wd : Int)) ∧ St w w')
    (first | assumption | exact ⟨d1, d0, HS⟩ | exact ⟨by assumption, by assumption, by assumption⟩ | exact ⟨by assumption, by assumption, hid HS.out.drew⟩ | exact ⟨d1, d0, hid HS.out.drew⟩ | exact ⟨by have := (HR.out.same HO.out).c1; rwa [← HN.out] at this, (HR.out.same HO.out).c0, HO⟩)
    (first
      | (go_at_call 31; refine (lenS HV (by assumption)).mono ?_; rintro e w' ⟨rfl, rfl⟩)
      | (go_at_call 32; refine (widthS HV (by assumption)).mono ?_; rintro e w' ⟨rfl, rfl⟩)
      | (go_at_call 36; refine (allS HV (by assumption)).mono ?_; rintro e wa ⟨ba, rfl, HO, Ya⟩)
      | (go_at_call 35; refine (sameIntsS HR HN hl HOk Ya (by assumption)).mono ?_; rintro e wb ⟨rfl, HO⟩)
      | (go_at_call 30; refine (bytesS HV (by assumption)).mono ?_; rintro e wc ⟨bv, rfl, HO, Yv⟩; rw [← HMe.out] at Yv; rw [← HMe.out])
      | (go_at_call 27; refine (refBytesS HR HN h1 h2 hm HOk (by assumption)).mono ?_; rintro e wd2 ⟨br, rfl, HO, Yr, Tr⟩; rw [← HMe.out] at Yr; rw [← HMe.out])
      | (go_at_call 29; refine (sameBytesS hM (hid (Tr.out _ _ _ Yv.out)) Yr (by assumption)).mono ?_; rintro e we ⟨rfl, HO⟩))
  clear HS Ya Yv Yr Tr d1 d0
  go_wp2_with fail
  refine (atS HV HN HOk HO).mono ?_
  rintro e w5 ⟨rfl, HO5⟩
  rw [← Hz.out, ← Hb.out]
  go_wp2_with fail
  refine (refAtS HR HN HO5).mono ?_
  rintro e w6 ⟨rfl, rfl⟩
  rw [← Hz.out, ← Hb.out]
  go_wp2_with fail
  go_ret
  exact ⟨rfl, HO5⟩
end Go.Proofs.Ytimkclmaglofaaa
