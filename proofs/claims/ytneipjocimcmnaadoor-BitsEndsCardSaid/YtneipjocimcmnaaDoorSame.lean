/- Is a vector the document's? -/
import Derived.Test.YtneipjocimcmnaaDoorRefC
import Derived.Test.YtneipjocimcmnaaDoorLawB
import Derived.Deep.RegionHeld3
import Derived.Deep.Cut
import Derived.Deep.CutRange
namespace Go.Proofs.YtneipjocimcmnaaDoor
open Go.RowKit
open Fen

abbrev St (w W : World) : Prop := Hid (Only (fun _ => False) w W)
/-- A block of just these bytes. -/
def YRow (W : World) (b n : Nat) (f : Nat → Bool) : Prop := W.rowIs b 5 ((n + 7) / 8) fun i => .int .u8 ((byteOf f i : Nat) : Int)
theorem YRow.rdy {W : World} {b n : Nat} {f : Nat → Bool} (h : YRow W b n f) : RdY W (some ⟨b, 0, none⟩) (bytesL n f) := by
  refine ⟨fun j => ?_, fun j hj => ⟨b, 0, rfl, fun i hi => ?_⟩⟩
  · rcases Nat.lt_or_ge j ((n + 7) / 8) with hj | hj
    · rw [bytesL_get n f j hj]; exact byteOf_lt f j
    · rw [getDn_far _ _ (by rw [bytesL_len]; omega)]; omega
  · rw [bytesL_len] at hi
    rw [Nat.zero_add, World.rowIs.cell h hi, bytesL_get n f i hi]

theorem bytesS {g gs gw n : Nat} {f : Nat → Bool} {w W : World} {A : Prop} (h : Hid (IsVec w g gs gw n f)) (hs : A ∧ St w W) :
    Calls Tryd.prog 17 #[.pointer (some ⟨g, 0, none⟩)] W fun e w' => ∃ b, e = .returned (.slice (some ⟨b, 0, none⟩) ((n + 7) / 8) ((n + 7) / 8)) ∧ St w w' ∧ Hid (YRow w' b n f) ∧ Hid (∀ c, YRow W c n f → YRow w' c n f) :=
  (bytes_any (h.out.same hs.2.out)).mono fun _ _ ⟨he, hb⟩ => ⟨_, he, hid (hs.2.out.trans hb.out.2.2), hid (hb.out.2.1.congr fun i hi => by rw [if_pos hi]), hid fun _ hc => hb.out.2.2.row hc no_⟩
theorem refBytesS {r gl n cap : Nat} {f : Nat → Bool} {w W : World} {A : Prop} (h : Hid (IsRef w r gl n cap f)) (hs : A ∧ St w W) :
    Calls Tryd.prog 36 #[.pointer (some ⟨r, 0, none⟩)] W fun e w' => ∃ b, e = .returned (.slice (some ⟨b, 0, none⟩) ((n + 7) / 8) ((n + 7) / 8)) ∧ St w w' ∧ Hid (YRow w' b n f) ∧ Hid (∀ c, YRow W c n f → YRow w' c n f) :=
  (refBytes_any (h.out.same hs.2.out)).mono fun _ _ ⟨he, hb⟩ => ⟨_, he, hid (hs.2.out.trans hb.out.2.2), hid (hb.out.2.1.congr fun i hi => by rw [if_pos hi]), hid fun _ hc => hb.out.2.2.row hc no_⟩
theorem sameS {b c n : Nat} {f : Nat → Bool} {w W : World} {A : Prop} (hn : n ≤ 16777216) (hb : Hid (YRow W b n f)) (hc : Hid (YRow W c n f)) (hs : A ∧ St w W) :
    Calls Tryd.prog 31 #[.slice (some ⟨b, 0, none⟩) ((n + 7) / 8) ((n + 7) / 8), .slice (some ⟨c, 0, none⟩) ((n + 7) / 8) ((n + 7) / 8)] W fun e w' => e = .returned (.bool true) ∧ St w w' :=
  (sameBytes_eq _ _ _ _ _ (bytesL n f) W hb.out.rdy hc.out.rdy (bytesL_len n f).symm (by omega)).mono fun _ _ ⟨he, hk⟩ => ⟨he, hid (hs.2.out.trans (quiet_only hk))⟩
theorem lenS {g gs gw n : Nat} {f : Nat → Bool} {w W : World} {A : Prop} (h : Hid (IsVec w g gs gw n f)) (hs : A ∧ St w W) :
    Calls Tryd.prog 19 #[.pointer (some ⟨g, 0, none⟩)] W fun e w' => e = .returned (.int .i64 ((n : Nat) : Int)) ∧ W = w' := len_any (h.out.same hs.2.out)
theorem onesS {g gs gw n : Nat} {f : Nat → Bool} {w W : World} {A : Prop} (h : Hid (IsVec w g gs gw n f)) (hs : A ∧ St w W) :
    Calls Tryd.prog 28 #[.pointer (some ⟨g, 0, none⟩)] W fun e w' => e = .returned (.int .i64 ((C (cf f) n : Nat) : Int)) ∧ W = w' := ones_any (h.out.same hs.2.out)
theorem refRankS {r gl n cap : Nat} {f : Nat → Bool} {w W : World} {A : Prop} (h : Hid (IsRef w r gl n cap f)) (hs : A ∧ St w W) :
    Calls Tryd.prog 37 #[.pointer (some ⟨r, 0, none⟩), .int .i64 (n : Int)] W fun e w' => e = .returned (.int .i64 ((C (cf f) n : Nat) : Int)) ∧ W = w' :=
  (refRank_any (h.out.same hs.2.out) (n : Int)).mono fun _ _ ⟨he, hw⟩ => ⟨he, hw⟩

/-- Fourteen numbers, and old memory as it was. -/
def Places (W : World) (b : Nat) : Prop := ∃ F : Nat → Int, W.rowIs b 3 14 fun i => .int .i64 (F i)
def SameR (w W : World) (b : Nat) : Prop := Only (fun _ => False) w W ∧ Places W b
theorem SameR.drewN {w W : World} {b : Nat} (h : SameR w W b) (d : Nat) : SameR w (W.drewN d) b := ⟨h.1.drewN d, h.2⟩
theorem places_made (w : World) (a0 a1 a2 a3 a4 a5 a6 a7 a8 a9 a10 a11 a12 a13 : Int) :
    Places (w.alloc (Obj.cells #[.int .i64 a0, .int .i64 a1, .int .i64 a2, .int .i64 a3, .int .i64 a4, .int .i64 a5, .int .i64 a6, .int .i64 a7, .int .i64 a8, .int .i64 a9, .int .i64 a10, .int .i64 a11, .int .i64 a12, .int .i64 a13] 3)).drew w.heap.size := by
  refine ⟨fun i => [a0, a1, a2, a3, a4, a5, a6, a7, a8, a9, a10, a11, a12, a13].getD i 0, ?_⟩
  exact World.rowIs_alloc w #[.int .i64 a0, .int .i64 a1, .int .i64 a2, .int .i64 a3, .int .i64 a4, .int .i64 a5, .int .i64 a6, .int .i64 a7, .int .i64 a8, .int .i64 a9, .int .i64 a10, .int .i64 a11, .int .i64 a12, .int .i64 a13] 3 _ (fun i hi => by
    match i, hi with
    | 0, _ => rfl
    | 1, _ => rfl
    | 2, _ => rfl
    | 3, _ => rfl
    | 4, _ => rfl
    | 5, _ => rfl
    | 6, _ => rfl
    | 7, _ => rfl
    | 8, _ => rfl
    | 9, _ => rfl
    | 10, _ => rfl
    | 11, _ => rfl
    | 12, _ => rfl
    | 13, _ => rfl
    | i + 14, hi => exact absurd (show i + 14 < 14 from hi) (by omega))
theorem selS {g gs gw n i : Nat} {b : Bool} {f : Nat → Bool} {x : Int} {w : World} (h : Hid (IsVec w g gs gw n f)) (hT : Hid (Tab w)) (hs : Hid (sel f n x = (i, b))) :
    Calls Tryd.prog 30 #[.pointer (some ⟨g, 0, none⟩), .int .i64 x] w fun e w' => e = .returned (.tuple #[.int .i64 (i : Int), .bool b]) ∧ w = w' := by
  have h1 := select_sel h.out hT.out x
  rw [hs.out] at h1
  exact h1
theorem refSelS {r gl n cap i : Nat} {b : Bool} {f : Nat → Bool} {x : Int} {w : World} (h : Hid (IsRef w r gl n cap f)) (hs : Hid (sel f n x = (i, b))) :
    Calls Tryd.prog 38 #[.pointer (some ⟨r, 0, none⟩), .int .i64 x] w fun e w' => e = .returned (.tuple #[.int .i64 (i : Int), .bool b]) ∧ w = w' := by
  have h1 := refSelect_any h.out x
  rw [hs.out] at h1
  exact h1
theorem getQ {g gs gw n : Nat} {b : Bool} {f : Nat → Bool} {x : Int} {w : World} (h : Hid (IsVec w g gs gw n f)) (hb : Hid (at_ f x = b)) (d : Nat) :
    Calls Tryd.prog 29 #[.pointer (some ⟨g, 0, none⟩), .int .i64 x] (w.drewN d) fun e w' => e = .returned (.bool b) ∧ ∃ m, w' = w.drewN m := by
  have h1 := get_any (h.out.same ((Only.refl _ w).drewN d)) x
  rw [hb.out] at h1
  exact quiet_left h1
theorem refGetQ {r gl n cap : Nat} {b : Bool} {f : Nat → Bool} {x : Int} {w : World} (h : Hid (IsRef w r gl n cap f)) (hb : Hid (at_ f x = b)) (d : Nat) :
    Calls Tryd.prog 39 #[.pointer (some ⟨r, 0, none⟩), .int .i64 x] (w.drewN d) fun e w' => e = .returned (.bool b) ∧ ∃ m, w' = w.drewN m := by
  have h1 := refGet_any (h.out.same ((Only.refl _ w).drewN d)) x
  rw [hb.out] at h1
  exact quiet_left h1
theorem rankQ {g gs gw n c : Nat} {f : Nat → Bool} {x : Int} {w : World} (h : Hid (IsVec w g gs gw n f)) (hc : Hid (C (cf f) x.toNat = c)) (d : Nat) :
    Calls Tryd.prog 26 #[.pointer (some ⟨g, 0, none⟩), .int .i64 x] (w.drewN d) fun e w' => e = .returned (.int .i64 (c : Int)) ∧ ∃ m, w' = w.drewN m :=
  quiet_more (rank_nat (h.out.same ((Only.refl _ w).drewN d)) x c hc.out)
theorem refRankQ {r gl n cap c : Nat} {f : Nat → Bool} {x : Int} {w : World} (h : Hid (IsRef w r gl n cap f)) (hc : Hid (C (cf f) x.toNat = c)) (d : Nat) :
    Calls Tryd.prog 37 #[.pointer (some ⟨r, 0, none⟩), .int .i64 x] (w.drewN d) fun e w' => e = .returned (.int .i64 (c : Int)) ∧ ∃ m, w' = w.drewN m := by
  have h1 := refRank_any (h.out.same ((Only.refl _ w).drewN d)) x
  rw [hc.out] at h1
  exact quiet_left h1

theorem cellAD {w : World} {a : Addr} {v : Value} {o : Obj} (h : w.cell? a = some v) : (w.alloc o).drew.cell? a = some v := by
  have := ((Only.refl (fun _ => False) w).alloc o).drew.cell (p := a) (cell_lt h) no_
  rw [this, h]

set_option maxRecDepth 4000 in
set_option maxHeartbeats 4000000 in
theorem same_any {g gs gw n r gl cap : Nat} {f : Nat → Bool} {w : World} (at' : Int) (hv : IsVec w g gs gw n f) (hr : IsRef w r gl n cap f) (hT : Tab w) :
    Calls Tryd.prog 12 #[.pointer (some ⟨g, 0, none⟩), .pointer (some ⟨r, 0, none⟩), .int .i64 at'] w fun e w' => e = .returned (.bool true) ∧ St w w' := by
  have hn := hv.small
  have HV := hid hv
  have HR := hid hr
  have HT := hid hT
  have c0 := hr.head
  have HS : St w w := hid (Only.refl _ w)
  clear hv hr hT
  go_enter Tryd.func12, Tryd.ntmps12
  go_upto_region 1 with fail
  go_region_held3 (fun w' => w'.cell? ⟨r, 0, none⟩ = some (.slice (some ⟨gl, 0, none⟩) n cap) ∧ St w w')
    (first | assumption | exact ⟨c0, HS⟩ | exact ⟨by assumption, by assumption⟩ | exact ⟨(HR.out.same HO.out).head, HO⟩ | exact ⟨by assumption, hid HS.out.drew⟩)
    (first
      | (go_at_call 19; refine (lenS HV (by assumption)).mono ?_; rintro e w' ⟨rfl, rfl⟩)
      | (go_at_call 17; refine (bytesS HV (by assumption)).mono ?_; rintro e wa ⟨bv, rfl, HO, Yv, Tv⟩)
      | (go_at_call 36; refine (refBytesS HR (by assumption)).mono ?_; rintro e wb ⟨br, rfl, HO, Yr, Tr⟩)
      | (go_at_call 31; refine (sameS (w := w) hn (by first | exact Yv | exact hid (Tr.out _ Yv.out)) (by first | exact Yr | exact hid (Tv.out _ Yr.out)) (by assumption)).mono ?_; rintro e wc ⟨rfl, HO⟩)
      | (go_at_call 28; refine (onesS HV (by assumption)).mono ?_; rintro e w' ⟨rfl, rfl⟩)
      | (go_at_call 37; refine (refRankS HR (by assumption)).mono ?_; rintro e w' ⟨rfl, rfl⟩))
  clear HS Yv Tv Yr Tr
  have cw := (HR.out.same HO.out).head
  have hnz : (n : Int) ≤ 16777216 := by omega
  go_wp2
  go_region_held3 (fun w' => w'.cell? ⟨r, 0, none⟩ = some (.slice (some ⟨gl, 0, none⟩) n cap)) (first | assumption | exact cellAD cw) (fail)
  go_wp2
  go_loopw [8] (fun s wr => ∃ k : Nat, k ≤ 14 ∧ s = .int .i64 k ∧ Hid (SameR w wr wc.heap.size)) (fun s _ => 14 - (intOf s).toNat)
  case atStart => exact ⟨0, by omega, rfl, hid ⟨(HO.out.alloc _).drew, places_made wc _ _ _ _ _ _ _ _ _ _ _ _ _ _⟩⟩
  case round =>
    obtain ⟨k, hk, rfl, HK⟩ := hrel
    clear c0 cw
    have HVr := hid (HV.out.same HK.out.1)
    have HRr := hid (HR.out.same HK.out.1)
    have HTr := hid (HT.out.only HK.out.1 no_)
    by_cases hp : k < 14
    · obtain ⟨F, hF⟩ := HK.out.2
      have ck := hF.cell hp
      clear hF
      generalize F k = x at ck
      obtain ⟨i, b, hs⟩ : ∃ i b, sel f n x = (i, b) := ⟨_, _, rfl⟩
      have Hs := hid hs
      obtain ⟨bb, hb⟩ : ∃ bb, at_ f x = bb := ⟨_, rfl⟩
      have Hb := hid hb
      obtain ⟨c, hc⟩ : ∃ c, C (cf f) x.toNat = c := ⟨_, rfl⟩
      have Hc := hid hc
      clear hs hb hc
      have hk14 : (k : Int) < 14 := by omega
      go_wp2_with (first | (go_at_call 30; refine (selS HVr HTr Hs).mono ?_; rintro e w' ⟨rfl, rfl⟩) | (go_at_call 38; refine (refSelS HRr Hs).mono ?_; rintro e w' ⟨rfl, rfl⟩))
      go_quiet (first | (go_at_call 29; exact getQ HVr Hb _) | (go_at_call 39; exact refGetQ HRr Hb _) | (go_at_call 26; exact rankQ HVr Hc _) | (go_at_call 37; exact refRankQ HRr Hc _))
      go_wp2
      go_roundw
      case rel => exact ⟨k + 1, by omega, by go_num, hid (HK.out.drewN _)⟩
      case measure => simp [intOf]; omega
    · obtain rfl : k = 14 := by omega
      have HD : St w wr := hid HK.out.1
      clear HK
      go_wp2
      go_ret
      exact ⟨rfl, HD⟩
end Go.Proofs.YtneipjocimcmnaaDoor
