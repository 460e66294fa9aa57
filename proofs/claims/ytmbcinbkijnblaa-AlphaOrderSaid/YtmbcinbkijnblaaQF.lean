/- Plain mathematics of bits read again, of the order of numbers and of gammas. No program. -/
import Derived.Test.YtmbcinbkijnblaaFl5
import Derived.Test.YtmbcinbkijnblaaVecS
import Derived.Laws.EntriesVeiled
import Derived.Test.YtmbcinbkijnblaaLawB
import Derived.Test.YtmbcinbkijnblaaFl1
import Derived.Deep.RegionWith
import Derived.Test.YtmbcinbkijnblaaKtL
import Derived.Test.YtmbcinbkijnblaaKt
import Derived.Deep.RegionHeld3
import Derived.Test.YtmbcinbkijnblaaKitB
namespace Go.Proofs.Ytmbcinbkijnblaa
open Go.RowKit

theorem putAll_adm (e : Int) (xs : List Bool) (ok : Bool) (ys : List Bool) (sz : Int) (hs : ok = true → sz = ((ys.length : Nat) : Int)) :
    (admE e xs ok sz ≠ 0 ∧ putAll (e, xs) ok ys = (admE e xs ok sz, xs)) ∨ (admE e xs ok sz = 0 ∧ putAll (e, xs) ok ys = (0, xs ++ ys) ∧ ok = true ∧ xs.length + ys.length ≤ 16777216 ∧ e = 0) := by
  unfold admE putAll
  by_cases he : e = 0
  · subst he
    cases ok with
    | false => left; simp
    | true =>
      have := hs rfl
      by_cases hl : 16777216 < (xs.length : Int) + sz
      · left
        have h2 : 16777216 < xs.length + ys.length := by omega
        simp [hl, h2]
      · right
        have h2 : ¬ 16777216 < xs.length + ys.length := by omega
        refine ⟨by simp [hl], by simp [h2], rfl, by omega, rfl⟩
  · left
    simp [he]
theorem one_row (w : World) (v : Value) (t : TypeId) : (w.alloc (.cells #[v] t)).rowIs w.heap.size t 1 (fun _ => v) := World.rowIs_alloc w #[v] t _ (fun i hi => by
  match i, hi with
  | 0, _ => rfl
  | i + 1, hi => exact absurd (show i + 1 < 1 from hi) (by omega))
/-- What is put is not the writer's own. -/
def ArgOk (w : World) (A : Option Addr) (B : Nat) : Prop := ∀ b off, A = some ⟨b, off, none⟩ → b < w.heap.size → b < B ∨ ¬ TyAt w b TW
def WrE (B : Nat) (w : World) (g : Nat) (s : WSt) (e' : Ending) (w' : World) : Prop := e' = .returned (.int .i64 s.1) ∧ Hid (IsWr B w' g s.1 s.2 ∧ FrT TW B w w')

set_option maxHeartbeats 1000000 in
theorem put_any {B g cap : Nat} {e : Int} {xs ys : List Bool} {A : Option Addr} {w : World} (h : IsWr B w g e xs) (hB : B ≤ w.heap.size) (hy : RdB w A ys) (hA : 0 < ys.length → ArgOk w A B) (hl : ys.length ≤ 3000000) :
    Calls Try.prog 62 #[.pointer (some ⟨g, 0, none⟩), .slice A ys.length cap] w (WrE B w g (putB (e, xs) ys)) := by
  obtain ⟨w1, hw1⟩ : ∃ w1, w1 = w.alloc (.cells #[.slice A ys.length cap] 29) := ⟨_, rfl⟩
  have ho : Only (fun _ => False) w w1 := by rw [hw1]; exact (Only.refl _ w).alloc _
  have hb : w1.rowIs w.heap.size 29 1 (fun _ => .slice A ys.length cap) := by rw [hw1]; exact one_row w _ _
  have HI := hid (h.same ho)
  have HB := hid (Nat.le_trans hB ho.size)
  have HO := hid ho
  have HY0 := hid hy
  have HA := hid hA
  have hbc := hb.cell (i := 0) (by omega)
  have HRow := hid hb
  have HAd := hid (admit_put w.heap.size true ((ys.length : Nat) : Int) HI.out (fun _ => by omega) (hid fun W o => may_put) (hid fun _ W o => size_put ((HRow.out.of_block (o.block _ HRow.out.lt no_)).cell (i := 0) (by omega))))
  have hcase := putAll_adm e xs true ys ((ys.length : Nat) : Int) (fun _ => rfl)
  unfold putB
  clear h hB hy ho hb hA
  rcases hcase with ⟨hr, hp⟩ | ⟨hr, hp, _, hsum, rfl⟩
  · rw [hp]
    generalize admE e xs true ((ys.length : Nat) : Int) = r at HAd hr ⊢
    have hr2 : (r != 0) = true := bne_iff_ne.2 hr
    clear hp
    go_enter Try.func62, Try.ntmps62
    go_wp2_with fail
    rw [← hw1]
    clear hw1
    refine HAd.out.mono ?_
    rintro e' w2 ⟨rfl, h2⟩
    go_wp2_with fail
    go_ret
    exact ⟨rfl, hid ⟨h2.out.1, (FrT.of_only HO.out).trans h2.out.2⟩⟩
  · rw [hp]
    rw [hr] at HAd
    have HS := hid hsum
    clear hp hr hsum
    obtain ⟨N, hN⟩ : ∃ N, N = ys.length := ⟨_, rfl⟩
    rw [← hN] at hw1 hbc hl HRow ⊢
    have HN := hid hN
    clear hN
    go_enter Try.func62, Try.ntmps62
    go_wp2_with fail
    rw [← hw1]
    clear hw1
    refine HAd.out.mono ?_
    rintro e' w2 ⟨rfl, h2⟩
    have hbc2 := (h2.out.2.row HRow.out (by unfold TW; decide)).cell (i := 0) (by omega)
    have HK : Hid (BitE B w1 g 0 (xs ++ ys.take 0) w2) := hid ⟨by simpa using h2.out.1, h2.out.2⟩
    clear h2 hbc
    go_wp2_with fail
    go_loopw [16] (fun s wr => ∃ k : Nat, k ≤ N ∧ s = .int .i64 k ∧ Hid (BitE B w1 g 0 (xs ++ ys.take k) wr)) (fun s _ => N - (intOf s).toNat)
    case atStart => exact ⟨0, by omega, rfl, HK⟩
    case round =>
      obtain ⟨k, hk, rfl, HI2⟩ := hrel
      clear HK hbc2
      by_cases hp : k < N
      · obtain ⟨b, off, hAe, hc, _⟩ := (((FrT.of_only HO.out).trans HI2.out.2).rdV' HY0.out (HA.out (by have := HN.out; omega))).at (k := k) (by rw [← HN.out]; exact hp)
        subst hAe
        unfold vB at hc
        have HT : Hid (ys.take (k + 1) = ys.take k ++ [ys.getD k false]) := hid (by
          have hlt : k < ys.length := by rw [← HN.out]; exact hp
          rw [List.take_succ_eq_append_getElem hlt]; simp [List.getD, hlt])
        have HL : Hid ((xs ++ ys.take k).length < 16777216) := hid (by
          have h1 := HS.out
          have h2 := HN.out
          rw [List.length_append, List.length_take]; omega)
        generalize ys.getD k false = z at hc HT
        go_wp2_with fail
        refine (bit_any HI2.out.1 (Nat.le_trans HB.out HI2.out.2.size) HL.out z).mono ?_
        rintro e' w3 ⟨rfl, h3⟩
        have HN2 : Hid (BitE B w1 g 0 (xs ++ ys.take (k + 1)) w3) := hid (by
          rw [HT.out, ← List.append_assoc]
          exact ⟨h3.out.1, HI2.out.2.trans h3.out.2⟩)
        clear h3 HI2 HL HT hc
        go_wp2_with fail
        go_roundw
        case rel => exact ⟨k + 1, by omega, by go_num, HN2⟩
        case measure => simp [intOf]; omega
      · obtain rfl : k = N := by omega
        have HD : Hid (IsWr B wr g 0 (xs ++ ys) ∧ FrT TW B w wr) := hid (by
          have h := HI2.out
          rw [HN.out, List.take_length] at h
          exact ⟨h.1, (FrT.of_only HO.out).trans h.2⟩)
        clear HI2
        go_wp2_with fail
        go_ret
        exact ⟨rfl, HD⟩
end Go.Proofs.Ytmbcinbkijnblaa

namespace Go.Proofs.Ytmbcinbkijnblaa
open Go.RowKit

theorem size_alloc (w : World) (o : Obj) : (w.alloc o).heap.size = w.heap.size + 1 := by simp
theorem flat_take {zs : List Int} {f : Int → List Bool} {k : Nat} (h : k < zs.length) : (zs.take (k + 1)).flatMap f = (zs.take k).flatMap f ++ f (zs.getD k 0) := by
  rw [take_getD h, List.flatMap_append]; simp
theorem flat_len {zs : List Int} {f : Int → List Bool} {k : Nat} (h : k < zs.length) : ((zs.take k).flatMap f).length + (f (zs.getD k 0)).length ≤ (zs.flatMap f).length := by
  have e : zs.flatMap f = (zs.take (k + 1)).flatMap f ++ (zs.drop (k + 1)).flatMap f := by rw [← List.flatMap_append, List.take_append_drop]
  rw [e, flat_take h, List.length_append, List.length_append]
  omega
theorem nd_lt (n : Nat) (h : n < 18446744073709551616) : n < 2 ^ nd n := by
  have := V1.bitLenAux_lt 64 n (by omega)
  exact this
theorem nd_pos {n : Nat} (h : 0 < n) (h2 : n < 18446744073709551616) : 1 ≤ nd n := by
  rcases Nat.eq_zero_or_pos (nd n) with h0 | h0
  · have := nd_lt n h2
    rw [h0] at this
    omega
  · exact h0
theorem gma_len (n : Nat) : (gma n).length = gln n := dgs_len _ _
theorem glnS_gam {zs : List Int} (hi : ∀ z ∈ zs, 1 ≤ z ∧ z ≤ 9223372036854775807) : ∀ k, k ≤ zs.length → glnS zs k = (((gamB (zs.take k)).length : Nat) : Int)
  | 0, _ => by simp [glnS, gamB]
  | k + 1, h => by
    have h2 := hi _ (getD_mem (zs := zs) (k := k) (by omega))
    have h3 := nd_pos (n := (zs.getD k 0).toNat) (by omega) (by omega)
    rw [glnS_step (by omega), glnS_gam hi k (by omega)]
    unfold gamB
    rw [flat_take (by omega), List.length_append, gma_len]
    unfold gln
    omega
theorem okG_all {zs : List Int} (h : okG zs = true) : ∀ z ∈ zs, 1 ≤ z ∧ z < 1152921504606846976 := fun z hz => by
  have h1 := List.all_eq_true.1 h z hz
  simp only [Bool.and_eq_true, decide_eq_true_eq, fitZ] at h1
  obtain ⟨n, rfl⟩ := Int.eq_ofNat_of_zero_le (a := z) (by omega)
  have h3 := h1.2.2
  have e : (2 : Int) ^ (60 : Int).toNat = 1152921504606846976 := rfl
  rw [e] at h3
  omega
theorem okN_all {wd : Int} {zs : List Int} (h : okN wd zs = true) : (0 ≤ wd ∧ wd ≤ 60) ∧ ∀ z ∈ zs, 0 ≤ z ∧ z.toNat < 2 ^ wd.toNat := by
  simp only [okN, Bool.and_eq_true, okW, decide_eq_true_eq] at h
  refine ⟨h.1, fun z hz => ?_⟩
  have h1 := List.all_eq_true.1 h.2 z hz
  simp only [Bool.and_eq_true, decide_eq_true_eq, fitZ] at h1
  obtain ⟨n, rfl⟩ := Int.eq_ofNat_of_zero_le (a := z) (by omega)
  refine ⟨h1.1, ?_⟩
  have h3 : (((n / 2 ^ wd.toNat : Nat)) : Int) = 0 := by simpa using h1.2
  have h4 : n / 2 ^ wd.toNat = 0 := by omega
  rw [Int.toNat_natCast]
  exact (Nat.div_eq_zero_iff_lt (Nat.two_pow_pos _)).1 h4

end Go.Proofs.Ytmbcinbkijnblaa

namespace Go.Proofs.Ytmbcinbkijnblaa
open Go.RowKit

set_option maxHeartbeats 400000 in
theorem begin_any {g n : Nat} {t : TypeId} {f : Nat → Value} {w : World} (h : w.rowIs g t n f) (hn : 1 < n) :
    Calls Try.prog 61 #[.pointer (some ⟨g, 0, none⟩)] w fun e' w' => e' = .returned (.tuple #[]) ∧ (w.setCell ⟨g, 0, none⟩ (.pointer (some ⟨g, 0, none⟩))).setCell ⟨g, 1, none⟩ (.int .i64 0) = w' := by
  have c0 := h.cell (i := 0) (by omega)
  have c1 := h.cell (i := 1) hn
  have f0 := h.frozen 0
  have f1 := h.frozen 1
  have hlt := h.lt
  clear h
  go_enter Try.func61, Try.ntmps61
  go_wp2
  go_end0
  exact ⟨rfl, rfl⟩
def NewE (w : World) (e' : Ending) (w' : World) : Prop := ∃ g, e' = .returned (.pointer (some ⟨g, 0, none⟩)) ∧ Hid (w.heap.size ≤ g ∧ (∀ B, B ≤ w.heap.size → IsWr B w' g 0 []) ∧ Only (fun _ => False) w w')
set_option maxHeartbeats 400000 in
theorem newWriter_any (w : World) : Calls Try.prog 24 #[] w (NewE w) := by
  have hrow := World.rowIs_alloc w #[.pointer none, .int .i64 0, .slice none 0 0, .int .i64 0] 96 (fun i => match i with | 0 => .pointer none | 1 => .int .i64 0 | 2 => .slice none 0 0 | _ => .int .i64 0) (fun i hi => by
    match i, hi with
    | 0, _ => rfl
    | 1, _ => rfl
    | 2, _ => rfl
    | 3, _ => rfl
    | i + 4, hi => exact absurd (show i + 4 < 4 from hi) (by omega))
  obtain ⟨w1, hw1⟩ : ∃ w1, w1 = w.alloc (.cells #[.pointer none, .int .i64 0, .slice none 0 0, .int .i64 0] 96) := ⟨_, rfl⟩
  have ho : Only (fun _ => False) w w1 := by rw [hw1]; exact (Only.refl _ w).alloc _
  rw [← hw1] at hrow
  have HR := hid hrow
  have HD : Hid (NewE w (.returned (.pointer (some ⟨w.heap.size, 0, none⟩))) ((w1.setCell ⟨w.heap.size, 0, none⟩ (.pointer (some ⟨w.heap.size, 0, none⟩))).setCell ⟨w.heap.size, 1, none⟩ (.int .i64 0))) := hid (by
    refine ⟨w.heap.size, rfl, hid ⟨Nat.le_refl _, fun B hB => ⟨.slice none 0 0, by simp, ((hrow.set 0 _).set 1 _).congr fun i hi => ?_, ⟨rfl, .inl ⟨rfl, rfl⟩⟩, hB⟩, (ho.setCell (.inr (Nat.le_refl _)) _).setCell (.inr (Nat.le_refl _)) _⟩⟩
    match i, hi with
    | 0, _ => rfl
    | 1, _ => rfl
    | 2, _ => rfl
    | 3, _ => rfl
    | i + 4, hi => exact absurd (show i + 4 < 4 from hi) (by omega))
  clear hrow ho
  go_enter Try.func24, Try.ntmps24
  go_wp2_with fail
  rw [← hw1]
  clear hw1
  refine (begin_any HR.out (by decide)).mono ?_
  rintro e' w2 ⟨rfl, rfl⟩
  go_wp2_with fail
  go_ret
  exact HD.out
set_option maxHeartbeats 400000 in
theorem wlen_any {B g : Nat} {e : Int} {xs : List Bool} {w : World} (h : IsWr B w g e xs) (he : e ≠ 1) :
    Calls Try.prog 55 #[.pointer (some ⟨g, 0, none⟩)] w fun e' w' => e' = .returned (.int .i64 ((xs.length : Nat) : Int)) ∧ w = w' := by
  obtain ⟨v, h⟩ := h
  obtain ⟨k0, k1, k2, k3⟩ := h.cells
  have HE := hid (werr_any (hid k0) (hid k1))
  have he2 : (e == 1) = false := beq_eq_false_iff_ne.2 he
  clear h k0 k1 k2
  go_enter Try.func55, Try.ntmps55
  go_wp2_with fail
  refine HE.out.mono ?_
  rintro e' w2 ⟨rfl, rfl⟩
  go_wp2_with fail
  go_ret
  exact ⟨rfl, rfl⟩
/-- A vector of some bits. -/
def IsVecL (w : World) (g gs gw : Nat) (xs : List Bool) : Prop := V1.IsVec w g gs gw xs.length (bf xs)
theorem bytesV {B g : Nat} {e : Int} {v : Value} {xs : List Bool} {w : World} (h : WrS B w g e v xs) : ∃ A cap, v = .slice A (V1.bytesL xs.length (bf xs)).length cap ∧ V1.RdY w A (V1.bytesL xs.length (bf xs)) := by
  have hl := V1.bytesL_len xs.length (bf xs)
  have h8 : ∀ j, (V1.bytesL xs.length (bf xs)).getD j 0 < 256 := fun j => by
    by_cases hj : j < (xs.length + 7) / 8
    · rw [V1.bytesL_get _ _ _ hj]; exact V1.byteOf_lt _ _
    · have : (V1.bytesL xs.length (bf xs)).length ≤ j := by omega
      simp [List.getD, List.getElem?_eq_none this]
  by_cases h0 : nby xs.length = 0
  · rcases h.own.2 with ⟨hv, _⟩ | ⟨gr, cap, cur, hv, _⟩
    · exact ⟨none, 0, by rw [hv, hl]; unfold nby at h0; rw [h0], h8, fun j hj => by unfold nby at h0; omega⟩
    · exact ⟨_, cap, by rw [hv, hl]; rfl, h8, fun j hj => by unfold nby at h0; omega⟩
  · obtain ⟨gr, cap, F, hv, hge, hF, hFV, hle, hcm⟩ := own_at h.own (by omega)
    refine ⟨some ⟨gr, 0, none⟩, cap, by rw [hv, hl]; rfl, h8, fun _ _ => ⟨gr, 0, rfl, fun j hj => ?_⟩⟩
    rw [hl] at hj
    rw [Nat.zero_add, hF.cell (by unfold nby at hle; omega), hFV j (by unfold nby; omega), V1.bytesL_get _ _ _ hj]; rfl
theorem made_drew {w : World} {n : Nat} {f : Nat → Bool} {e : Ending} {w' : World} (h : V1.Made w.drew n f e w') : V1.Made w n f e w' := by
  obtain ⟨g, gs, gw, he, hv, h1, h2, h3, hb⟩ := h
  exact ⟨g, gs, gw, he, hv, h1, h2, h3, ⟨hb.os, hb.tape, hb.output, hb.size, hb.block⟩⟩
theorem made_only {w W : World} {n : Nat} {f : Nat → Bool} {e : Ending} {w' : World} (h : V1.Made W n f e w') (o : Only (fun _ => False) w W) : V1.Made w n f e w' := by
  obtain ⟨g, gs, gw, he, hv, h1, h2, h3, hb⟩ := h
  exact ⟨g, gs, gw, he, hv, Nat.le_trans o.size h1, Nat.le_trans o.size h2, Nat.le_trans o.size h3, (o.to_below (fun _ h => h.elim) (Nat.le_refl _)).trans (hb.mono o.size)⟩
set_option maxHeartbeats 1000000 in
theorem wvec_ok {B g : Nat} {xs : List Bool} {w : World} (h : IsWr B w g 0 xs) :
    Calls Try.prog 26 #[.pointer (some ⟨g, 0, none⟩)] w (V1.Made w xs.length (bf xs)) := by
  obtain ⟨v, h⟩ := h
  obtain ⟨k0, k1, k2, k3⟩ := h.cells
  obtain ⟨A, cap, rfl, hy⟩ := bytesV h
  have HE := hid (werr_any (hid k0) (hid k1))
  have hf : ∀ i, xs.length ≤ i → bf xs i = false := fun i hi => bf_far xs hi
  have HR : Hid (∀ W, Only (fun _ => False) w W → Calls Try.prog 65 #[.int .i64 ((xs.length : Nat) : Int), .slice A (V1.bytesL xs.length (bf xs)).length cap] W (V1.Made W xs.length (bf xs))) := hid fun W o => by
    have := V1.read_ok xs.length cap A _ W (hy.only o fun _ _ _ => no_) h.small (V1.shape_bytesL hf)
    rwa [V1.fB_bytesL hf] at this
  clear h k0 k1 hy hf
  generalize (V1.bytesL xs.length (bf xs)).length = L at HR k2
  generalize xs.length = n at HR k3 ⊢
  go_enter Try.func26, Try.ntmps26
  go_wp2_with fail
  refine HE.out.mono ?_
  rintro e' w2 ⟨rfl, rfl⟩
  go_wp2_with fail
  go_region_with (go_at_call 65; refine (HR.out _ ?_).mono ?_; (first | exact Only.refl _ _ | exact (Only.refl _ _).drew | exact (Only.refl _ _).drew.drew); rintro e' w' hm; obtain ⟨g1, gs1, gw1, rfl, hm2⟩ := hm; have HMd : Hid (V1.Made w n (bf xs) (.returned (.tuple #[.pointer (some ⟨g1, 0, none⟩), .int .i64 0])) w') := hid (made_drew ⟨g1, gs1, gw1, rfl, hm2⟩); clear hm2)
  all_goals
    go_wp2_with fail
    go_ret2
    exact HMd.out
set_option maxHeartbeats 400000 in
theorem wvec_bad {B g : Nat} {e : Int} {xs : List Bool} {w : World} (h : IsWr B w g e xs) (he : e ≠ 0) :
    Calls Try.prog 26 #[.pointer (some ⟨g, 0, none⟩)] w fun e' w' => e' = .returned (.tuple #[.pointer none, .int .i64 e]) ∧ w = w' := by
  obtain ⟨v, h⟩ := h
  obtain ⟨k0, k1, k2, k3⟩ := h.cells
  have HE := hid (werr_any (hid k0) (hid k1))
  have he2 : (e != 0) = true := bne_iff_ne.2 he
  clear h k0 k1 k2 k3
  go_enter Try.func26, Try.ntmps26
  go_wp2_with fail
  refine HE.out.mono ?_
  rintro e' w2 ⟨rfl, rfl⟩
  go_wp2_with fail
  go_ret2
  exact ⟨rfl, rfl⟩
end Go.Proofs.Ytmbcinbkijnblaa

namespace Go.Proofs.Ytmbcinbkijnblaa
open Go.RowKit

def rdcl (g gb : Nat) (e : Int) (n at_ : Nat) : Nat → Value
  | 0 => .pointer (some ⟨g, 0, none⟩)
  | 1 => .int .i64 e
  | 2 => .slice (some ⟨gb, 0, none⟩) (nby n) (nby n)
  | 3 => .int .i64 ((n : Nat) : Int)
  | _ => .int .i64 ((at_ : Nat) : Int)
/-- A reader that the package answered: its error, its bits, where it stands. -/
structure IsRd (B : Nat) (w : World) (g gb : Nat) (e : Int) (f : Nat → Bool) (n at_ : Nat) : Prop where
  small : n ≤ 16777216
  le : at_ ≤ n
  self : w.rowIs g 112 5 (rdcl g gb e n at_)
  bytes : w.rowIs gb 5 (nby n) (fun i => .int .u8 ((V1.byteOf f i : Nat) : Int))
  ge : B ≤ g
def TR (t : TypeId) : Prop := t = 112
section
variable {B : Nat} {w a : World} {g gb : Nat} {e : Int} {f : Nat → Bool} {n at_ : Nat}
theorem IsRd.ty {T : TypeId → Prop} {B' : Nat} (h : IsRd B a g gb e f n at_) (o : FrT T B' a w) (h1 : ¬ T 112) (h2 : ¬ T 5) : IsRd B w g gb e f n at_ := ⟨h.small, h.le, o.row h.self h1, o.row h.bytes h2, h.ge⟩
theorem IsRd.same (h : IsRd B a g gb e f n at_) (o : Only (fun _ => False) a w) : IsRd B w g gb e f n at_ := h.ty (T := fun _ => False) (B' := 0) (FrT.of_only o) (fun h => h) (fun h => h)
theorem IsRd.below (h : IsRd B a g gb e f n at_) (o : Below a.heap.size a w) : IsRd B w g gb e f n at_ := h.same (Only.of_below o _)
theorem IsRd.cells (h : IsRd B w g gb e f n at_) : w.cell? ⟨g, 0, none⟩ = some (.pointer (some ⟨g, 0, none⟩)) ∧ w.cell? ⟨g, 1, none⟩ = some (.int .i64 e) ∧ w.cell? ⟨g, 2, none⟩ = some (.slice (some ⟨gb, 0, none⟩) (nby n) (nby n)) ∧ w.cell? ⟨g, 3, none⟩ = some (.int .i64 ((n : Nat) : Int)) ∧ w.cell? ⟨g, 4, none⟩ = some (.int .i64 ((at_ : Nat) : Int)) :=
  ⟨h.self.cell (i := 0) (by omega), h.self.cell (i := 1) (by omega), h.self.cell (i := 2) (by omega), h.self.cell (i := 3) (by omega), h.self.cell (i := 4) (by omega)⟩
theorem rd_ne : 112 ≠ 5 := by decide
theorem IsRd.ne (h : IsRd B w g gb e f n at_) : gb ≠ g := fun he => rowIs_ne h.self h.bytes rd_ne he.symm
theorem IsRd.set1 (h : IsRd B w g gb e f n at_) (e2 : Int) : IsRd B (w.setCell ⟨g, 1, none⟩ (.int .i64 e2)) g gb e2 f n at_ ∧ FrT TR B w (w.setCell ⟨g, 1, none⟩ (.int .i64 e2)) := by
  refine ⟨⟨h.small, h.le, (h.self.set 1 _).congr fun i hi => ?_, h.bytes.setOther h.ne _, h.ge⟩, (FrT.refl TR B w).setCell h.ge (TyAt.of_row h.self rfl) _⟩
  match i, hi with
  | 0, _ => rfl
  | 1, _ => rfl
  | 2, _ => rfl
  | 3, _ => rfl
  | 4, _ => rfl
  | i + 5, hi => exact absurd (show i + 5 < 5 from hi) (by omega)
theorem IsRd.set4 (h : IsRd B w g gb e f n at_) {z : Int} (at2 : Nat) (hz : z = ((at2 : Nat) : Int)) (h2 : at2 ≤ n) : IsRd B (w.setCell ⟨g, 4, none⟩ (.int .i64 z)) g gb e f n at2 ∧ FrT TR B w (w.setCell ⟨g, 4, none⟩ (.int .i64 z)) := by
  subst hz
  refine ⟨⟨h.small, h2, (h.self.set 4 _).congr fun i hi => ?_, h.bytes.setOther h.ne _, h.ge⟩, (FrT.refl TR B w).setCell h.ge (TyAt.of_row h.self rfl) _⟩
  match i, hi with
  | 0, _ => rfl
  | 1, _ => rfl
  | 2, _ => rfl
  | 3, _ => rfl
  | 4, _ => rfl
  | i + 5, hi => exact absurd (show i + 5 < 5 from hi) (by omega)
end
theorem bit_u8 (x m : Nat) (hx : x < 256) : (bits .and .u8 (IntKind.u8.wrap ((x : Int) / 2 ^ m)) 1 == 1) = x.testBit m := by
  have e : (x : Int) / 2 ^ m = ((x / 2 ^ m : Nat) : Int) := by simp
  have h := Nat.div_le_self x (2 ^ m)
  have e2 : IntKind.u8.wrap (((x / 2 ^ m : Nat)) : Int) = ((x / 2 ^ m : Nat) : Int) := by
    rw [IntKind.wrap_u8]
    generalize x / 2 ^ m = y at h ⊢
    omega
  have h1 := u8_and_nat (x / 2 ^ m) 1 (by omega) (by omega)
  rw [e, e2, show ((1 : Int)) = ((1 : Nat) : Int) by rfl, h1, Nat.and_one_is_mod, Nat.testBit_eq_decide_div_mod_eq, Bool.eq_iff_iff]
  simp
  omega
theorem bit_u8' (x m : Nat) (hx : x < 256) : (bits .and .u8 ((x : Int) / 2 ^ m) 1 == 1) = x.testBit m := by
  have h := bit_u8 x m hx
  have e : (x : Int) / 2 ^ m = ((x / 2 ^ m : Nat) : Int) := by simp
  have h2 := Nat.div_le_self x (2 ^ m)
  have e2 : IntKind.u8.wrap ((x : Int) / 2 ^ m) = (x : Int) / 2 ^ m := by
    rw [e, IntKind.wrap_u8]
    generalize x / 2 ^ m = y at h2 ⊢
    omega
  rwa [e2] at h
set_option maxHeartbeats 400000 in
theorem one_any {B g gb : Nat} {e : Int} {f : Nat → Bool} {n at_ i : Nat} {w : World} (h : IsRd B w g gb e f n at_) (hi : i < n) :
    Calls Try.prog 122 #[.pointer (some ⟨g, 0, none⟩), .int .i64 (i : Int)] w fun e' w' => e' = .returned (.bool (f i)) ∧ w = w' := by
  obtain ⟨k0, k1, k2, k3, k4⟩ := h.cells
  have hs := h.small
  have hk : i / 8 < nby n := by unfold nby; omega
  have dk := h.bytes.cell hk
  have hx := V1.byteOf_lt f (i / 8)
  have hb : (V1.byteOf f (i / 8)).testBit (i % 8) = f i := by
    rw [V1.testBit_byteOf, show 8 * (i / 8) + i % 8 = i by omega]
    have : i % 8 < 8 := by omega
    simp [this]
  rw [← hb]
  have hwk : IntKind.i64.wrap ((i : Int) / 8) = (i : Int) / 8 := by rw [IntKind.wrap_i64]; omega
  have hk0 : 0 ≤ (i : Int) / 8 := by omega
  have hkW : (i : Int) / 8 < ((nby n : Nat) : Int) := by omega
  have hkn : ((i : Int) / 8).toNat = i / 8 := by omega
  clear h hb k0 k1 k3 k4
  generalize V1.byteOf f (i / 8) = x at dk hx ⊢
  generalize nby n = L at k2 hk hkW
  go_enter Try.func122, Try.ntmps122
  go_wp2
  go_ret
  exact ⟨ret_bool (bit_u8' x (i % 8) hx), rfl⟩
set_option maxHeartbeats 400000 in
theorem rerr_any {B g gb : Nat} {e : Int} {f : Nat → Bool} {n at_ : Nat} {w : World} (h : IsRd B w g gb e f n at_) :
    Calls Try.prog 31 #[.pointer (some ⟨g, 0, none⟩)] w fun e' w' => e' = .returned (.int .i64 e) ∧ w = w' := by
  have HS := hid (state_any h.cells.1 h.cells.2.1)
  clear h
  go_enter Try.func31, Try.ntmps31
  go_wp2_with fail
  refine HS.out.mono ?_
  rintro e' w' ⟨rfl, rfl⟩
  go_wp2_with fail
  go_ret
  exact ⟨rfl, rfl⟩
set_option maxHeartbeats 400000 in
theorem rat_any {B g gb : Nat} {e : Int} {f : Nat → Bool} {n at_ : Nat} {w : World} (h : IsRd B w g gb e f n at_) (he : e ≠ 1) :
    Calls Try.prog 29 #[.pointer (some ⟨g, 0, none⟩)] w fun e' w' => e' = .returned (.int .i64 ((at_ : Nat) : Int)) ∧ w = w' := by
  have HE := hid (rerr_any h)
  have k4 := h.cells.2.2.2.2
  have he2 : (e == 1) = false := beq_eq_false_iff_ne.2 he
  clear h
  go_enter Try.func29, Try.ntmps29
  go_wp2_with fail
  refine HE.out.mono ?_
  rintro e' w' ⟨rfl, rfl⟩
  go_wp2_with fail
  go_ret
  exact ⟨rfl, rfl⟩

/-! What a reader tells: the number, its error, where it stands. -/
def sgm (f : Nat → Bool) (a m : Nat) : List Bool := (List.range m).map fun i => f (a + i)
theorem sgm_len (f : Nat → Bool) (a m : Nat) : (sgm f a m).length = m := by simp [sgm]
theorem sgm_snoc (f : Nat → Bool) (a m : Nat) : sgm f a (m + 1) = sgm f a m ++ [f (a + m)] := by unfold sgm; rw [List.range_succ, List.map_append]; rfl
abbrev RSt := Int × Int × Nat
def takeR (f : Nat → Bool) (n at_ k : Nat) (wd : Int) : RSt := if okW wd = false ∨ n < at_ + k + wd.toNat then (0, 4, at_) else (((num (sgm f (at_ + k) wd.toNat) : Nat) : Int), 0, at_ + k + wd.toNat)
def RdE (B : Nat) (w : World) (g gb : Nat) (f : Nat → Bool) (n : Nat) (s : RSt) (e' : Ending) (w' : World) : Prop := e' = .returned (.int .i64 s.1) ∧ Hid (IsRd B w' g gb s.2.1 f n s.2.2 ∧ FrT TR B w w')
set_option maxHeartbeats 1000000 in
theorem take_bad {B g gb : Nat} {e : Int} {f : Nat → Bool} {n at_ k : Nat} {wd : Int} {w : World} (h : IsRd B w g gb e f n at_) (hk : k ≤ 60) (hb : okW wd = false ∨ n < at_ + k + wd.toNat) :
    Calls Try.prog 120 #[.pointer (some ⟨g, 0, none⟩), .int .i64 (k : Int), .int .i64 wd] w (RdE B w g gb f n (0, 4, at_)) := by
  obtain ⟨k0, k1, k2, k3, k4⟩ := h.cells
  have hs := h.small
  have hle := h.le
  have HF : Hid (∀ d, IsRd B ((w.drewN d).setCell ⟨g, 1, none⟩ (.int .i64 4)) g gb 4 f n at_ ∧ FrT TR B w ((w.drewN d).setCell ⟨g, 1, none⟩ (.int .i64 4))) := hid fun d => by
    have h1 := (h.same (quiet_only (w := w.drewN d) ⟨_, rfl⟩)).set1 4
    exact ⟨h1.1, (FrT.of_only (quiet_only ⟨_, rfl⟩)).trans h1.2⟩
  have HSp : Hid (∀ d, Calls Try.prog 112 #[.pointer (some ⟨g, 0, none⟩), .int .i64 4] (w.drewN d) fun e' w' => e' = .returned (.int .i64 4) ∧ (w.drewN d).setCell ⟨g, 1, none⟩ (.int .i64 4) = w') := hid fun d => spoilBy_any (rowIs_drewN h.self d) (by omega) 4
  by_cases hq : okW wd = false
  · have HW : Hid (∀ W : World, Calls Try.prog 121 #[.int .i64 wd] W fun e' w' => e' = .returned (.bool false) ∧ W = w') := hid fun W => by have := isWidth_any wd W; rwa [hq] at this
    clear h hb hq k0 k1 k2
    go_enter Try.func120, Try.ntmps120
    go_wp2_with fail
    go_quiet ((go_at_call 121; exact quiet_left (HW.out _)))
    go_wp2_with fail
    refine (HSp.out _).mono ?_
    rintro e' w' ⟨rfl, rfl⟩
    go_wp2_with fail
    go_ret
    exact ⟨rfl, hid (HF.out _)⟩
  · have hq2 : okW wd = true := by simpa using hq
    have HW : Hid (∀ W : World, Calls Try.prog 121 #[.int .i64 wd] W fun e' w' => e' = .returned (.bool true) ∧ W = w') := hid fun W => by have := isWidth_any wd W; rwa [hq2] at this
    have hr : 0 ≤ wd ∧ wd ≤ 60 := by simp [okW] at hq2; omega
    obtain ⟨m, rfl⟩ := Int.eq_ofNat_of_zero_le hr.1
    have hgt : (n : Int) - (at_ : Int) < (k : Int) + (m : Int) := by
      rcases hb with hb | hb
      · exact absurd hb hq
      · rw [Int.toNat_natCast] at hb; omega
    clear h hb hq hq2 k0 k1 k2
    go_enter Try.func120, Try.ntmps120
    go_wp2_with fail
    go_quiet ((go_at_call 121; exact quiet_left (HW.out _)))
    go_wp2_with fail
    refine (HSp.out _).mono ?_
    rintro e' w' ⟨rfl, rfl⟩
    go_wp2_with fail
    go_ret
    exact ⟨rfl, hid (HF.out _)⟩
end Go.Proofs.Ytmbcinbkijnblaa

namespace Go.Proofs.Ytmbcinbkijnblaa
open Go.RowKit

set_option maxHeartbeats 400000 in
theorem take_ok {B g gb : Nat} {f : Nat → Bool} {n at_ k m : Nat} {w : World} (h : IsRd B w g gb 0 f n at_) (hk : k ≤ 60) (hm : m ≤ 60) (hb : at_ + k + m ≤ n) :
    Calls Try.prog 120 #[.pointer (some ⟨g, 0, none⟩), .int .i64 (k : Int), .int .i64 (m : Int)] w (RdE B w g gb f n (((num (sgm f (at_ + k) m) : Nat) : Int), 0, at_ + k + m)) := by
  obtain ⟨k0, k1, k2, k3, k4⟩ := h.cells
  have hs := h.small
  have hr4 := h.self.frozen 4
  have H := hid h
  have HW : Hid (∀ W : World, Calls Try.prog 121 #[.int .i64 (m : Int)] W fun e' w' => e' = .returned (.bool true) ∧ W = w') := hid fun W => by
    have := isWidth_any (m : Int) W
    have e : okW (m : Int) = true := by simp [okW]; omega
    rwa [e] at this
  have hgt : ¬ (n : Int) - (at_ : Int) < (k : Int) + (m : Int) := by omega
  have HS4 : Hid (∀ d, IsRd B ((w.drewN d).setCell ⟨g, 4, none⟩ (.int .i64 ((at_ : Int) + (k : Int)))) g gb 0 f n (at_ + k) ∧ FrT TR B w ((w.drewN d).setCell ⟨g, 4, none⟩ (.int .i64 ((at_ : Int) + (k : Int))))) := hid fun d => by
    have h1 := (h.same (quiet_only (w := w.drewN d) ⟨_, rfl⟩)).set4 (z := (at_ : Int) + (k : Int)) (at_ + k) (by omega) (by omega)
    exact ⟨h1.1, (FrT.of_only (quiet_only ⟨_, rfl⟩)).trans h1.2⟩
  clear h k0 k1 k2
  go_enter Try.func120, Try.ntmps120
  go_wp2_with fail
  go_quiet ((go_at_call 121; exact quiet_left (HW.out _)))
  go_wp2_with fail
  obtain ⟨a, ha⟩ : ∃ a, a = at_ + k := ⟨_, rfl⟩
  rw [← ha] at HS4 hb ⊢
  go_loopw [7, 39] (fun s i wr => ∃ j : Nat, ∃ x : Nat, j ≤ m ∧ s = .int .i64 (x : Int) ∧ i = .int .i64 (j : Int) ∧ x < 2 ^ j ∧ Hid (x = num (sgm f a j)) ∧ Hid (IsRd B wr g gb 0 f n (a + j) ∧ FrT TR B w wr)) (fun _ i _ => m - (intOf i).toNat)
  case atStart => exact ⟨0, 0, by omega, rfl, rfl, by simp, hid rfl, hid (HS4.out _)⟩
  case round =>
    obtain ⟨j, x, hj, rfl, rfl, hx, HX, HI⟩ := hrel
    clear HS4 k3 k4 hr4
    by_cases hp : j < m
    · obtain ⟨q0, q1, q2, q3, q4⟩ := HI.out.1.cells
      have fz := HI.out.1.self.frozen 4
      have h60 : 2 ^ j ≤ 2 ^ 59 := Nat.pow_le_pow_right (by decide) (by omega)
      have HO := hid (one_any (i := a + j) HI.out.1 (by omega))
      have HX2 : Hid (∀ y : Nat, y = 2 * x + (f (a + j)).toNat → y = num (sgm f a (j + 1))) := hid fun y hy => by rw [sgm_snoc, num_snoc, ← HX.out, hy]
      have HN2 : Hid (∀ z : Int, z = ((a + (j + 1) : Nat) : Int) → IsRd B (wr.setCell ⟨g, 4, none⟩ (.int .i64 z)) g gb 0 f n (a + (j + 1)) ∧ FrT TR B w (wr.setCell ⟨g, 4, none⟩ (.int .i64 z))) := hid fun z hz => by
        have h1 := HI.out.1.set4 (a + (j + 1)) hz (by omega)
        exact ⟨h1.1, HI.out.2.trans h1.2⟩
      obtain ⟨p, hpe⟩ : ∃ p, p = a + j := ⟨_, rfl⟩
      have hpn : p < n := by omega
      rw [← hpe] at q4 HO HX2
      have HN3 : Hid (∀ z : Int, z = (p : Int) + 1 → IsRd B (wr.setCell ⟨g, 4, none⟩ (.int .i64 z)) g gb 0 f n (a + (j + 1)) ∧ FrT TR B w (wr.setCell ⟨g, 4, none⟩ (.int .i64 z))) := hid fun z hz => HN2.out z (by omega)
      clear hpe HN2
      have h61 : 2 ^ (j + 1) = 2 * 2 ^ j := by rw [Nat.pow_succ]; omega
      have H61 := hid h61
      clear HI HX q0 q1 q2 q3 h61
      generalize f p = b at HO HX2
      cases b
      all_goals
        go_wp2_with fail
        refine HO.out.mono ?_
        rintro e' w2 ⟨rfl, rfl⟩
        go_wp2_with fail
        go_roundw
        case rel => exact ⟨j + 1, _, by omega, by first | (show Value.int .i64 _ = Value.int .i64 _; exact congrArg _ (by first | go_num | omega)) | go_num, by go_num, by have := H61.out; simp; omega, hid (HX2.out _ rfl), hid (HN3.out _ rfl)⟩
        case measure => simp [intOf]; omega
    · obtain rfl : j = m := by omega
      have HI2 : Hid (IsRd B wr g gb 0 f n (at_ + k + j) ∧ FrT TR B w wr) := hid (by rw [← ha]; exact HI.out)
      have HX2 : Hid ((x : Int) = ((num (sgm f (at_ + k) j) : Nat) : Int)) := hid (by rw [← ha, ← HX.out])
      clear HX HI
      go_wp2_with fail
      go_ret
      exact ⟨ret_int HX2.out, HI2⟩
end Go.Proofs.Ytmbcinbkijnblaa

namespace Go.Proofs.Ytmbcinbkijnblaa
open Go.RowKit

theorem take_any {B g gb : Nat} {f : Nat → Bool} {n at_ k : Nat} {wd : Int} {w : World} (h : IsRd B w g gb 0 f n at_) (hk : k ≤ 60) :
    Calls Try.prog 120 #[.pointer (some ⟨g, 0, none⟩), .int .i64 (k : Int), .int .i64 wd] w (RdE B w g gb f n (takeR f n at_ k wd)) := by
  unfold takeR
  by_cases hb : okW wd = false ∨ n < at_ + k + wd.toNat
  · rw [if_pos hb]; exact take_bad h hk hb
  · rw [if_neg hb]
    have h1 : okW wd = true := by
      cases hq : okW wd
      · exact absurd (.inl hq) hb
      · rfl
    have h2 : ¬ n < at_ + k + wd.toNat := fun h => hb (.inr h)
    simp [okW] at h1
    obtain ⟨m, rfl⟩ := Int.eq_ofNat_of_zero_le h1.1
    rw [Int.toNat_natCast] at h2 ⊢
    exact take_ok h hk (by omega) (by omega)
theorem quiet_at {P : Program} {f : FuncId} {args : Array Value} {w : World} {d n : Nat} {v : Value}
    (h : Calls P f args (w.drewN (d + n)) fun e w' => e = .returned v ∧ w.drewN (d + n) = w') : Calls P f args (w.drewN (d + n)) fun e w'' => e = .returned v ∧ ∃ m, w'' = w.drewN (d + m) :=
  h.mono fun _ _ ⟨he, hm⟩ => ⟨he, n, hm.symm⟩
def numR (f : Nat → Bool) (n : Nat) (s : Int × Nat) (wd : Int) : RSt := if s.1 ≠ 0 then (0, s.1, s.2) else takeR f n s.2 0 wd
/-- How many noughts stand at a place, at most m. -/
def zrs (f : Nat → Bool) : Nat → Nat → Nat
  | _, 0 => 0
  | a, m + 1 => if f a then 0 else zrs f (a + 1) m + 1
theorem zrs_stop (f : Nat → Bool) : ∀ (m a k : Nat), k ≤ m → (∀ j, j < k → f (a + j) = false) → (k = m ∨ f (a + k) = true) → zrs f a m = k
  | 0, a, k, hk, _, _ => by simp [zrs]; omega
  | m + 1, a, k, hk, h1, h2 => by
    unfold zrs
    cases k with
    | zero =>
      rcases h2 with h2 | h2
      · omega
      · rw [Nat.add_zero] at h2; rw [if_pos h2]
    | succ k =>
      have h3 := h1 0 (by omega)
      rw [Nat.add_zero] at h3
      rw [if_neg (by simp [h3]), zrs_stop f m (a + 1) k (by omega) (fun j hj => by have := h1 (j + 1) (by omega); rwa [show a + (j + 1) = a + 1 + j by omega] at this) (by
        rcases h2 with h2 | h2
        · left; omega
        · right; rwa [show a + (k + 1) = a + 1 + k by omega] at h2)]
def zr (f : Nat → Bool) (n at_ : Nat) : Nat := zrs f at_ (min 60 (n - at_))
def gamR (f : Nat → Bool) (n : Nat) (s : Int × Nat) : RSt := if s.1 ≠ 0 then (0, s.1, s.2) else takeR f n s.2 (zr f n s.2) (((zr f n s.2 : Nat) : Int) + 1)
set_option maxHeartbeats 1000000 in
theorem rnum_any {B g gb : Nat} {e : Int} {f : Nat → Bool} {n at_ : Nat} {w : World} (wd : Int) (h : IsRd B w g gb e f n at_) :
    Calls Try.prog 116 #[.pointer (some ⟨g, 0, none⟩), .int .i64 wd] w (RdE B w g gb f n (numR f n (e, at_) wd)) := by
  have HE := hid (rerr_any h)
  by_cases he : e = 0
  · subst he
    have HT : Hid (Calls Try.prog 120 #[.pointer (some ⟨g, 0, none⟩), .int .i64 0, .int .i64 wd] w (RdE B w g gb f n (numR f n (0, at_) wd))) := hid (take_any (k := 0) h (by omega))
    clear h
    generalize numR f n (0, at_) wd = s at HT ⊢
    go_enter Try.func116, Try.ntmps116
    go_wp2_with fail
    refine HE.out.mono ?_
    rintro e' w' ⟨rfl, rfl⟩
    go_wp2_with fail
    refine HT.out.mono ?_
    rintro e' w' ⟨rfl, hw⟩
    go_wp2_with fail
    go_ret
    exact ⟨rfl, hw⟩
  · have hr : numR f n (e, at_) wd = (0, e, at_) := by simp [numR, he]
    rw [hr]
    have he2 : (e != 0) = true := bne_iff_ne.2 he
    have HF : Hid (IsRd B w g gb e f n at_ ∧ FrT TR B w w) := hid ⟨h, FrT.refl _ _ _⟩
    clear h hr
    go_enter Try.func116, Try.ntmps116
    go_wp2_with fail
    refine HE.out.mono ?_
    rintro e' w' ⟨rfl, rfl⟩
    go_wp2_with fail
    go_ret
    exact ⟨rfl, HF⟩
def RdB1 (B : Nat) (w : World) (g gb : Nat) (f : Nat → Bool) (n : Nat) (s : RSt) (e' : Ending) (w' : World) : Prop := e' = .returned (.bool (s.1 == 1)) ∧ Hid (IsRd B w' g gb s.2.1 f n s.2.2 ∧ FrT TR B w w')
set_option maxHeartbeats 1000000 in
theorem rnext_any {B g gb : Nat} {e : Int} {f : Nat → Bool} {n at_ : Nat} {w : World} (h : IsRd B w g gb e f n at_) :
    Calls Try.prog 101 #[.pointer (some ⟨g, 0, none⟩)] w (RdB1 B w g gb f n (numR f n (e, at_) 1)) := by
  have HT := hid (rnum_any 1 h)
  clear h
  generalize numR f n (e, at_) 1 = s at HT ⊢
  go_enter Try.func101, Try.ntmps101
  go_wp2_with fail
  refine HT.out.mono ?_
  rintro e' w' ⟨rfl, hw⟩
  go_wp2_with fail
  go_ret
  exact ⟨rfl, hw⟩
end Go.Proofs.Ytmbcinbkijnblaa

namespace Go.Proofs.Ytmbcinbkijnblaa
open Go.RowKit

def TV (t : TypeId) : Prop := t = 120 ∨ t = 134 ∨ t = 21
theorem vecFr {w w' : World} {B g gs gw n : Nat} {f : Nat → Bool} (h : V1.IsVec w g gs gw n f) (o : Only (fun k => k = g ∨ k = gs ∨ k = gw) w w') (h1 : B ≤ g) (h2 : B ≤ gs) (h3 : B ≤ gw) : FrT TV B w w' :=
  Only.mono o fun k _ hk => by
    rcases hk with rfl | rfl | rfl
    · exact ⟨h1, TyAt.of_row h.self (.inl rfl)⟩
    · exact ⟨h2, TyAt.of_row h.sums (.inr (.inr rfl))⟩
    · exact ⟨h3, TyAt.of_row h.words (.inr (.inl rfl))⟩
theorem vecTy {w a : World} {g gs gw n B : Nat} {f : Nat → Bool} {T : TypeId → Prop} (h : V1.IsVec a g gs gw n f) (o : FrT T B a w) (h1 : ¬ T 120) (h2 : ¬ T 134) (h3 : ¬ T 21) : V1.IsVec w g gs gw n f :=
  ⟨h.small, h.out, o.row h.self h1, o.row h.words h2, o.row h.sums h3⟩
/-- A vector of the call's own. -/
def VecB (B : Nat) (w : World) (g gs gw n : Nat) (f : Nat → Bool) : Prop := V1.IsVec w g gs gw n f ∧ B ≤ g ∧ B ≤ gs ∧ B ≤ gw
def NRdE (B : Nat) (w : World) (g gs gw n : Nat) (f : Nat → Bool) (a : Nat) (e' : Ending) (w' : World) : Prop :=
  ∃ r gb, e' = .returned (.tuple #[.pointer (some ⟨r, 0, none⟩), .int .i64 0]) ∧ Hid (IsRd B w' r gb 0 f n a ∧ VecB B w' g gs gw n f ∧ FrT TV B w w' ∧ w.heap.size ≤ r)
def NRdX (B : Nat) (w : World) (g gs gw n : Nat) (f : Nat → Bool) (e' : Ending) (w' : World) : Prop :=
  e' = .returned (.tuple #[.pointer none, .int .i64 6]) ∧ Hid (VecB B w' g gs gw n f ∧ FrT TV B w w')
theorem setNone {B : Nat} {w : World} {g gs gw n : Nat} {f : Nat → Bool} (h : VecB B w g gs gw n f) :
    Calls Try.prog 66 #[.pointer (some ⟨g, 0, none⟩), .bool false, .slice none 0 0] w fun e w' => e = .returned (.int .i64 0) ∧ Hid (VecB B w' g gs gw n f ∧ FrT TV B w w') := by
  have h1 := V1.set_ok h.1 false none 0 [] (fun j hj => absurd hj (by simp)) (by simp) rfl (fun b off e => by cases e)
  exact h1.mono fun e w' hh => ⟨hh.1, hid ⟨⟨hh.2.out.1, h.2⟩, vecFr h.1 hh.2.out.2 h.2.1 h.2.2.1 h.2.2.2⟩⟩
set_option maxHeartbeats 1000000 in
theorem newReader_bad {B : Nat} {w : World} {g gs gw n : Nat} {f : Nat → Bool} {at_ : Int} (h : VecB B w g gs gw n f) (ha : at_ < 0 ∨ (n : Int) < at_) :
    Calls Try.prog 27 #[.pointer (some ⟨g, 0, none⟩), .int .i64 at_] w (NRdX B w g gs gw n f) := by
  have HS := hid (setNone h)
  clear h
  by_cases h0 : at_ < 0
  · clear ha
    go_enter Try.func27, Try.ntmps27
    go_wp2_with fail
    refine HS.out.mono ?_
    rintro e' w1 ⟨rfl, h1⟩
    go_wp2_with fail
    go_ret2
    exact ⟨rfl, h1⟩
  · have h2 : (n : Int) < at_ := by omega
    clear ha
    go_enter Try.func27, Try.ntmps27
    go_wp2_with fail
    refine HS.out.mono ?_
    rintro e' w1 ⟨rfl, h1⟩
    go_wp2_with fail
    refine (V1.len_any h1.out.1.1).mono ?_
    rintro e' w2 ⟨rfl, rfl⟩
    go_wp2_with fail
    go_ret2
    exact ⟨rfl, h1⟩
set_option maxHeartbeats 1000000 in
theorem newReader_ok {B : Nat} {w : World} {g gs gw n a : Nat} {f : Nat → Bool} (h : VecB B w g gs gw n f) (hB : B ≤ w.heap.size) (ha : a ≤ n) :
    Calls Try.prog 27 #[.pointer (some ⟨g, 0, none⟩), .int .i64 (a : Int)] w (NRdE B w g gs gw n f a) := by
  have HS := hid (setNone h)
  have hn := h.1.small
  have ha2 : ¬ (n : Int) < (a : Int) := by omega
  have ha3 : ¬ (a : Int) < 0 := by omega
  clear h
  go_enter Try.func27, Try.ntmps27
  go_wp2_with fail
  refine HS.out.mono ?_
  rintro e' w1 ⟨rfl, h1⟩
  go_wp2_with fail
  refine (V1.len_any h1.out.1.1).mono ?_
  rintro e' w2 ⟨rfl, rfl⟩
  go_wp2_with fail
  refine (V1.bytes_any h1.out.1.1).mono ?_
  rintro e' w2 ⟨rfl, hby⟩
  have HV2 : Hid (VecB B w2 g gs gw n f ∧ FrT TV B w w2) := hid ⟨⟨h1.out.1.1.same hby.out.2.2, h1.out.1.2⟩, h1.out.2.trans (FrT.of_only hby.out.2.2)⟩
  go_wp2_with fail
  refine (V1.len_any HV2.out.1.1).mono ?_
  rintro e' w3 ⟨rfl, rfl⟩
  go_wp2_with fail
  have hrow := World.rowIs_alloc w2 #[.pointer none, .int .i64 0, .slice (some ⟨w1.heap.size, 0, none⟩) ((n + 7) / 8) ((n + 7) / 8), .int .i64 (n : Int), .int .i64 (a : Int)] 112 (fun i => match i with | 0 => .pointer none | 1 => .int .i64 0 | 2 => .slice (some ⟨w1.heap.size, 0, none⟩) ((n + 7) / 8) ((n + 7) / 8) | 3 => .int .i64 (n : Int) | _ => .int .i64 (a : Int)) (fun i hi => by
    match i, hi with
    | 0, _ => rfl
    | 1, _ => rfl
    | 2, _ => rfl
    | 3, _ => rfl
    | 4, _ => rfl
    | i + 5, hi => exact absurd (show i + 5 < 5 from hi) (by omega))
  have ho3 : Only (fun _ => False) w2 (w2.alloc (.cells #[.pointer none, .int .i64 0, .slice (some ⟨w1.heap.size, 0, none⟩) ((n + 7) / 8) ((n + 7) / 8), .int .i64 (n : Int), .int .i64 (a : Int)] 112)) := (Only.refl _ w2).alloc _
  obtain ⟨w3, hw3⟩ : ∃ w3, w3 = w2.alloc (.cells #[.pointer none, .int .i64 0, .slice (some ⟨w1.heap.size, 0, none⟩) ((n + 7) / 8) ((n + 7) / 8), .int .i64 (n : Int), .int .i64 (a : Int)] 112) := ⟨_, rfl⟩
  rw [← hw3] at hrow ho3 ⊢
  clear hw3
  have HD : Hid (IsRd B ((w3.setCell ⟨w2.heap.size, 0, none⟩ (.pointer (some ⟨w2.heap.size, 0, none⟩))).setCell ⟨w2.heap.size, 1, none⟩ (.int .i64 0)) w2.heap.size w1.heap.size 0 f n a ∧ VecB B ((w3.setCell ⟨w2.heap.size, 0, none⟩ (.pointer (some ⟨w2.heap.size, 0, none⟩))).setCell ⟨w2.heap.size, 1, none⟩ (.int .i64 0)) g gs gw n f ∧ FrT TV B w ((w3.setCell ⟨w2.heap.size, 0, none⟩ (.pointer (some ⟨w2.heap.size, 0, none⟩))).setCell ⟨w2.heap.size, 1, none⟩ (.int .i64 0)) ∧ w.heap.size ≤ w2.heap.size) := hid (by
    have hb1 := hby.out.2.1
    have hlt := hb1.lt
    have ho : Only (fun _ => False) w2 ((w3.setCell ⟨w2.heap.size, 0, none⟩ (.pointer (some ⟨w2.heap.size, 0, none⟩))).setCell ⟨w2.heap.size, 1, none⟩ (.int .i64 0)) := (ho3.setCell (.inr (Nat.le_refl _)) _).setCell (.inr (Nat.le_refl _)) _
    refine ⟨⟨hn, ha, ((hrow.set 0 _).set 1 _).congr fun i hi => ?_, (ho.row hb1 no_).congr fun i hi => ?_, Nat.le_trans hB HV2.out.2.size⟩, ⟨HV2.out.1.1.same ho, HV2.out.1.2⟩, HV2.out.2.trans (FrT.of_only ho), HV2.out.2.size⟩
    · match i, hi with
      | 0, _ => rfl
      | 1, _ => rfl
      | 2, _ => rfl
      | 3, _ => rfl
      | 4, _ => rfl
      | i + 5, hi => exact absurd (show i + 5 < 5 from hi) (by omega)
    · rw [if_pos hi])
  refine (begin_any hrow (by simp)).mono ?_
  rintro e' w4 ⟨rfl, rfl⟩
  clear hby HV2 h1
  go_wp2_with fail
  go_ret2
  exact ⟨w2.heap.size, w1.heap.size, rfl, HD⟩
end Go.Proofs.Ytmbcinbkijnblaa

namespace Go.Proofs.Ytmbcinbkijnblaa
open Go.RowKit

theorem rdI_one (w : World) (t : TypeId) (k : Int) : RdI (w.alloc (Obj.cells #[.int .i64 k] t)) (some ⟨w.heap.size, 0, none⟩) [k] := fun _ => ⟨w.heap.size, 0, rfl, fun j hj => by
  have : j = 0 := by simpa using hj
  subst this
  rw [Nat.zero_add]
  exact (one_row w (.int .i64 k) t).cell (i := 0) (by omega)⟩
def awB : List Bool := [false, false, true, false, true, false, true, false, true]
theorem aw1 : putG (0, []) [5] = (0, [false, false, true, false, true]) := by decide +kernel
theorem aw2 : putN (0, [false, false, true, false, true]) 4 [5] = (0, awB) := by decide +kernel
theorem aw3 : gamR (bf awB) 9 (0, 0) = (5, 0, 5) := by decide +kernel
theorem aw4 : numR (bf awB) 9 (0, 5) 4 = (5, 0, 9) := by decide +kernel
theorem aw5 : numR (bf awB) 9 (0, 9) 1 = (0, 4, 9) := by decide +kernel
theorem aw6 : V1.bytesL 9 (bf awB) = [84, 1] := by decide +kernel
theorem argOne (w : World) (B : Nat) (v : Value) {t : TypeId} (ht : ¬ TW t) : ArgOk (w.alloc (Obj.cells #[v] t)) (some ⟨w.heap.size, 0, none⟩) B := fun b off e _ => .inr (by
  injection e with e
  injection e with e
  subst e
  exact TyAt.not_row (one_row w v t) ht)
theorem rdY_two (w : World) (t : TypeId) (x y : Nat) : RdV (w.alloc (Obj.cells #[.int .u8 (x : Int), .int .u8 (y : Int)] t)) (some ⟨w.heap.size, 0, none⟩) 2 (fun j => .int .u8 (([x, y].getD j 0 : Nat) : Int)) :=
  RdV.of_row (World.rowIs_alloc w #[.int .u8 (x : Int), .int .u8 (y : Int)] t _ (fun i hi => by
    match i, hi with
    | 0, _ => rfl
    | 1, _ => rfl
    | i + 2, hi => exact absurd (show i + 2 < 2 from hi) (by omega)))
end Go.Proofs.Ytmbcinbkijnblaa

namespace Go.Proofs.Ytmbcinbkijnblaa
open Go.RowKit

theorem tmod_emod (x n : Int) (hn : 1 ≤ n) (hx : x < 0) : (x.tmod n = 0 ∧ x % n = 0) ∨ (x.tmod n < 0 ∧ x % n = x.tmod n + n) := by
  have hb := V1.tmod_bounds x n hn hx
  have h1 := Int.emod_nonneg x (by omega : n ≠ 0)
  have h2 := Int.emod_lt_of_pos x (by omega : 0 < n)
  have h3 := Int.mul_ediv_add_emod x n
  have h4 := Int.mul_tdiv_add_tmod x n
  generalize x.tmod n = t at hb h4 ⊢
  generalize x % n = r at h1 h2 h3 ⊢
  generalize x / n = q at h3
  generalize x.tdiv n = p at h4
  have h5 : n * (q - p) = t - r := by rw [Int.mul_sub]; omega
  have h6 : q - p = 0 ∨ q - p = -1 := by
    rcases Int.lt_trichotomy (q - p) 0 with h | h | h
    · right
      by_cases h7 : q - p ≤ -2
      · have := Int.mul_le_mul_of_nonneg_left h7 (show 0 ≤ n by omega)
        omega
      · omega
    · exact .inl h
    · have := Int.mul_le_mul_of_nonneg_left (show 1 ≤ q - p by omega) (show 0 ≤ n by omega)
      omega
  rcases h6 with h | h
  · rw [h] at h5; left; omega
  · rw [h] at h5
    by_cases h8 : t = 0
    · omega
    · right; omega
theorem TyAt.alloc {w : World} {o : Obj} {b : Nat} {T : TypeId → Prop} (hb : b < w.heap.size) : TyAt (w.alloc o) b T ↔ TyAt w b T := by
  unfold TyAt
  rw [Below.heap_alloc w o b hb]
theorem ArgOk.alloc {w : World} {A : Option Addr} {B : Nat} {cs : Array Value} {t : TypeId} (h : ArgOk w A B) (ht : ¬ TW t) : ArgOk (w.alloc (.cells cs t)) A B := fun b off e hb => by
  rcases Nat.lt_or_ge b w.heap.size with h1 | h1
  · rcases h b off e h1 with h2 | h2
    · exact .inl h2
    · exact .inr fun h3 => h2 ((TyAt.alloc h1).1 h3)
  · rw [size_alloc] at hb
    obtain rfl : b = w.heap.size := by omega
    exact .inr (TyAt.not_row (World.rowIs_alloc w cs t (fun i => (cs[i]?).getD undef) (fun i hi => by rw [Array.getElem?_eq_getElem hi]; rfl)) ht)
theorem ArgOk.lt {w : World} {A : Option Addr} {B : Nat} (h : ∀ b off, A = some ⟨b, off, none⟩ → b < B) : ArgOk w A B := fun b off e _ => .inl (h b off e)
/-- A deed: what, width, bits, numbers. -/
structure Dd where
  what : Int
  width : Int
  oa : Option Addr
  oc : Nat
  ys : List Bool
  na : Option Addr
  nc : Nat
  zs : List Int
def Dd.val (d : Dd) : Nat → Value
  | 0 => .int .i64 d.what
  | 1 => .int .i64 d.width
  | 2 => .slice d.oa d.ys.length d.oc
  | _ => .slice d.na d.zs.length d.nc
def I64 (z : Int) : Prop := -9223372036854775808 ≤ z ∧ z ≤ 9223372036854775807
structure DIn (w : World) (d : Dd) : Prop where
  what : I64 d.what
  width : I64 d.width
  ones : RdB w d.oa d.ys
  nums : RdI w d.na d.zs
  i64 : I64s d.zs
  ol : d.ys.length ≤ 3000000
  nl : d.zs.length ≤ 3000000
theorem DIn.only {w w' : World} {d : Dd} (h : DIn w d) (o : Only (fun _ => False) w w') : DIn w' d := ⟨h.what, h.width, h.ones.only o fun _ _ _ => no_, h.nums.only o fun _ _ _ => no_, h.i64, h.ol, h.nl⟩
theorem DIn.below {w w' : World} {d : Dd} (h : DIn w d) (o : Below w.heap.size w w') : DIn w' d := h.only (Only.of_below o _)
def putD (s : WSt) (d : Dd) : WSt := if d.what % 3 = 0 then putB s d.ys else if d.what % 3 = 1 then putN s d.width d.zs else putG s d.zs
def deedArr (d : Dd) : Array Value := #[.int .i64 d.what, .int .i64 d.width, .slice d.oa d.ys.length d.oc, .slice d.na d.zs.length d.nc]
end Go.Proofs.Ytmbcinbkijnblaa

namespace Go.Proofs.Ytmbcinbkijnblaa
open Go.RowKit

/-! Order. -/
def lessS : List Bool → List Bool → Bool
  | x :: xs, y :: ys => if x = y then lessS xs ys else y
  | _, _ => false
theorem num_fold : ∀ (l : List Bool) (a : Nat), l.foldl (fun a b => 2 * a + b.toNat) a = a * 2 ^ l.length + num l
  | [], a => by simp [num]
  | b :: l, a => by
    have h1 := num_fold l (2 * a + b.toNat)
    have h2 := num_fold l (2 * 0 + b.toNat)
    have e : num (b :: l) = l.foldl (fun a b => 2 * a + b.toNat) (2 * 0 + b.toNat) := rfl
    rw [e, h2, List.foldl_cons, h1, List.length_cons, Nat.pow_succ]
    generalize 2 ^ l.length = p
    rw [Nat.add_mul, Nat.mul_zero, Nat.zero_add, ← Nat.add_assoc, Nat.mul_comm 2 a, Nat.mul_assoc, Nat.mul_comm 2 p]
theorem num_cons (b : Bool) (l : List Bool) : num (b :: l) = b.toNat * 2 ^ l.length + num l := by
  have e : num (b :: l) = l.foldl (fun a b => 2 * a + b.toNat) (2 * 0 + b.toNat) := rfl
  rw [e, num_fold]; simp
theorem lessS_num : ∀ (xs ys : List Bool), xs.length = ys.length → lessS xs ys = decide (num xs < num ys)
  | [], [], _ => by simp [lessS]
  | x :: xs, y :: ys, h => by
    have hl : xs.length = ys.length := by simpa using h
    have h1 := num_lt xs
    have h2 := num_lt ys
    rw [hl] at h1
    rw [num_cons, num_cons, hl, lessS, lessS_num xs ys hl]
    cases x <;> cases y
    · simp
    · simp; omega
    · simp; omega
    · simp
  | [], _ :: _, h => by simp at h
  | _ :: _, [], h => by simp at h
theorem lessS_step {xs ys : List Bool} {k : Nat} (h1 : k < xs.length) (h2 : k < ys.length) : lessS (xs.drop k) (ys.drop k) = if bf xs k = bf ys k then lessS (xs.drop (k + 1)) (ys.drop (k + 1)) else bf ys k := by
  rw [List.drop_eq_getElem_cons h1, List.drop_eq_getElem_cons h2]
  simp [lessS, bf, List.getD, h1, h2]
theorem lessS_end {xs ys : List Bool} {k : Nat} (h : xs.length ≤ k ∨ ys.length ≤ k) : lessS (xs.drop k) (ys.drop k) = false := by
  rcases h with h | h
  · rw [List.drop_eq_nil_of_le h]
    cases ys.drop k <;> rfl
  · rw [List.drop_eq_nil_of_le h]
    cases xs.drop k <;> rfl

/-! A gamma's noughts. -/
theorem nd_low {n : Nat} (h : 0 < n) (h2 : n < 18446744073709551616) : 2 ^ (nd n - 1) ≤ n := by
  have := (Lib.bitLenAux_bounds 64 n (by omega) (by omega)).2
  exact this.1
theorem nd_bit {n : Nat} (h : 0 < n) (h2 : n < 18446744073709551616) : n.testBit (nd n - 1) = true := by
  have h1 := nd_low h h2
  have h3 := nd_lt n h2
  have h4 := nd_pos h h2
  rw [Nat.testBit_eq_decide_div_mod_eq, decide_eq_true_eq]
  have e : 2 ^ nd n = 2 ^ (nd n - 1) * 2 := by rw [← Nat.pow_succ, Nat.succ_eq_add_one, Nat.sub_add_cancel h4]
  rw [e] at h3
  have h5 : n / 2 ^ (nd n - 1) < 2 := by rw [Nat.div_lt_iff_lt_mul (Nat.two_pow_pos _)]; omega
  have h6 : 1 ≤ n / 2 ^ (nd n - 1) := by rw [Nat.le_div_iff_mul_le (Nat.two_pow_pos _)]; omega
  omega
theorem gma_bf {n i : Nat} (hi : i < gln n) : bf (gma n) i = n.testBit (gln n - 1 - i) := dgs_bf n hi
theorem gma_zero {n i : Nat} (h : 0 < n) (h2 : n < 18446744073709551616) (hi : i < nd n - 1) : bf (gma n) i = false := by
  have h4 := nd_pos h h2
  rw [gma_bf (by unfold gln; omega)]
  refine Nat.testBit_lt_two_pow (Nat.lt_of_lt_of_le (nd_lt n h2) (Nat.pow_le_pow_right (by decide) ?_))
  unfold gln; omega
theorem gma_one {n : Nat} (h : 0 < n) (h2 : n < 18446744073709551616) : bf (gma n) (nd n - 1) = true := by
  have h4 := nd_pos h h2
  rw [gma_bf (by unfold gln; omega), show gln n - 1 - (nd n - 1) = nd n - 1 by unfold gln; omega]
  exact nd_bit h h2
theorem gma_differ {a b : Nat} (ha : 0 < a) (ha2 : a < 18446744073709551616) (hb : 0 < b) (hb2 : b < 18446744073709551616) (h : ∀ i, i < gln a → i < gln b → bf (gma a) i = bf (gma b) i) : a = b := by
  have h1 := nd_pos ha ha2
  have h2 := nd_pos hb hb2
  have hn : nd a = nd b := by
    rcases Nat.lt_trichotomy (nd a) (nd b) with h3 | h3 | h3
    · have h4 := h (nd a - 1) (by unfold gln; omega) (by unfold gln; omega)
      rw [gma_one ha ha2, gma_zero hb hb2 (by omega)] at h4
      cases h4
    · exact h3
    · have h4 := h (nd b - 1) (by unfold gln; omega) (by unfold gln; omega)
      rw [gma_one hb hb2, gma_zero ha ha2 (by omega)] at h4
      cases h4
  have hg : gln a = gln b := by unfold gln; rw [hn]
  have e : gma a = gma b := bf_ext (by rw [gma_len, gma_len, hg]) fun i hi => by
    rw [gma_len] at hi
    exact h i hi (by omega)
  have ea : num (gma a) = a := num_all (Nat.lt_of_lt_of_le (nd_lt a ha2) (Nat.pow_le_pow_right (by decide) (by unfold gln; omega)))
  have eb : num (gma b) = b := num_all (Nat.lt_of_lt_of_le (nd_lt b hb2) (Nat.pow_le_pow_right (by decide) (by unfold gln; omega)))
  rw [← ea, ← eb, e]

/-! Read again. -/
/-- At a place stand these bits. -/
def Has (f : Nat → Bool) (a : Nat) (ys : List Bool) : Prop := ∀ i, i < ys.length → f (a + i) = bf ys i
theorem Has.left {f : Nat → Bool} {a : Nat} {ys zs : List Bool} (h : Has f a (ys ++ zs)) : Has f a ys := fun i hi => by
  have := h i (by rw [List.length_append]; omega)
  rwa [bf_append, if_pos hi] at this
theorem Has.right {f : Nat → Bool} {a : Nat} {ys zs : List Bool} (h : Has f a (ys ++ zs)) : Has f (a + ys.length) zs := fun i hi => by
  have := h (ys.length + i) (by rw [List.length_append]; omega)
  rw [bf_append, if_neg (by omega), Nat.add_sub_cancel_left] at this
  rwa [← Nat.add_assoc] at this
theorem Has.self (xs : List Bool) : Has (bf xs) 0 xs := fun i _ => by rw [Nat.zero_add]
theorem Has.seg {f : Nat → Bool} {a : Nat} {ys : List Bool} (h : Has f a ys) : sgm f a ys.length = ys := by
  refine bf_ext (sgm_len _ _ _) fun i hi => ?_
  rw [sgm_len] at hi
  rw [← h i hi]
  simp [bf, Go.Proofs.Ytmbcinbkijnblaa.sgm, List.getD, hi]
theorem next_has {f : Nat → Bool} {n at_ : Nat} {b : Bool} (h : f at_ = b) (hn : at_ + 1 ≤ n) : numR f n (0, at_) 1 = (((b.toNat : Nat) : Int), 0, at_ + 1) := by
  have e : sgm f at_ 1 = [b] := by simp [Go.Proofs.Ytmbcinbkijnblaa.sgm, h]
  have h1 : okW 1 = true := by decide
  have h2 : ¬ (okW 1 = false ∨ n < at_ + 0 + (1 : Int).toNat) := by
    rintro (h | h)
    · rw [h1] at h; cases h
    · simp at h; omega
  simp only [numR, takeR]
  rw [if_neg (by simp), if_neg h2]
  show (((num (sgm f at_ 1) : Nat) : Int), 0, at_ + 1) = _
  rw [e]
  simp [num]
theorem num_has {f : Nat → Bool} {n at_ wd : Nat} {z : Int} (hw : wd ≤ 60) (hz : 0 ≤ z) (hz2 : z.toNat < 2 ^ wd) (h : Has f at_ (dgs wd z.toNat)) (hn : at_ + wd ≤ n) : numR f n (0, at_) (wd : Int) = (z, 0, at_ + wd) := by
  have e : sgm f at_ wd = dgs wd z.toNat := by have := h.seg; rwa [dgs_len] at this
  have h1 : okW (wd : Int) = true := by simp [okW]; omega
  have h2 : ¬ (okW (wd : Int) = false ∨ n < at_ + 0 + (wd : Int).toNat) := by
    rintro (h | h)
    · rw [h1] at h; cases h
    · simp at h; omega
  simp only [numR, takeR]
  rw [if_neg (by simp), if_neg h2]
  show (((num (sgm f (at_ + 0) (wd : Int).toNat) : Nat) : Int), 0, at_ + 0 + (wd : Int).toNat) = _
  rw [Int.toNat_natCast, Nat.add_zero, e, num_all hz2, Int.toNat_of_nonneg hz]
theorem gam_has {f : Nat → Bool} {n at_ : Nat} {z : Int} (hz : 1 ≤ z) (hz2 : z < 1152921504606846976) (h : Has f at_ (gma z.toNat)) (hn : at_ + gln z.toNat ≤ n) : gamR f n (0, at_) = (z, 0, at_ + gln z.toNat) := by
  obtain ⟨m, rfl⟩ := Int.eq_ofNat_of_zero_le (a := z) (by omega)
  rw [Int.toNat_natCast] at h hn ⊢
  have hm : 0 < m := by omega
  have hm2 : m < 18446744073709551616 := by omega
  have hp := nd_pos hm hm2
  have h60 : nd m ≤ 60 := Lib.bitLen_le m 60 (by omega) (by omega)
  have hg : gln m = 2 * nd m - 1 := rfl
  have hzr : zr f n at_ = nd m - 1 := by
    unfold zr
    refine zrs_stop f _ _ _ (by omega) (fun j hj => ?_) ?_
    · rw [h j (by rw [gma_len]; omega)]; exact gma_zero hm hm2 hj
    · right
      rw [h (nd m - 1) (by rw [gma_len]; omega)]; exact gma_one hm hm2
  have h2 : Has f (at_ + (nd m - 1)) (dgs (nd m) m) := fun i hi => by
    rw [dgs_len] at hi
    have h3 := h (nd m - 1 + i) (by rw [gma_len]; omega)
    rw [gma_bf (by omega), ← Nat.add_assoc] at h3
    rw [h3, dgs_bf m hi]
    congr 1
    omega
  have e : sgm f (at_ + (nd m - 1)) (nd m) = dgs (nd m) m := by have := h2.seg; rwa [dgs_len] at this
  have ew : (((nd m - 1 : Nat) : Int) + 1) = ((nd m : Nat) : Int) := by omega
  have h1 : okW ((nd m : Nat) : Int) = true := by simp [okW]; omega
  have h4 : ¬ (okW ((nd m : Nat) : Int) = false ∨ n < at_ + (nd m - 1) + ((nd m : Nat) : Int).toNat) := by
    rintro (h | h)
    · rw [h1] at h; cases h
    · rw [Int.toNat_natCast] at h; omega
  simp only [gamR, takeR]
  rw [if_neg (by simp), hzr, ew, if_neg h4, Int.toNat_natCast, e, num_all (nd_lt m hm2)]
  rw [show at_ + (nd m - 1) + nd m = at_ + gln m by omega]
end Go.Proofs.Ytmbcinbkijnblaa
