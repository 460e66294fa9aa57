/- A text's bits by a code: the law's own word. -/
import Derived.Test.YtmbcinbkijnblaaQM
import Derived.Test.YtmbcinbkijnblaaQF
import Derived.Test.YtmbcinbkijnblaaQK
namespace Go.Proofs.Ytmbcinbkijnblaa
open Go.RowKit

theorem boolInfoC : (Try.prog.info? 4).map (fun i => (i.zero, i.size, i.bytes)) = some (some (.bool false), 1, 1) := by kernel_rfl
/-- Bits so far, of the call's own. -/
structure BtS (w0 w : World) (v : Value) (l : List Bool) : Prop where
  own : OwG 4 w0 w v (bvs l)
  only : StO w0 w
theorem BtS.rd {w0 w : World} {A : Option Addr} {n c : Nat} {l : List Bool} (h : BtS w0 w (.slice A n c) l) : RdB w A l ∧ n = l.length := by
  rcases h.own.own.2 with ⟨e, h0⟩ | ⟨g, cap, cur, e, hge, hh, hle, hcm, hsz, ht⟩
  · injection e with e1 e2 e3
    have h0' : l.length = 0 := by simpa [bvs] using h0
    exact ⟨fun hl => absurd hl (by omega), by omega⟩
  · injection e with e1 e2 e3
    subst e1
    have hb : (bvs l).length = l.length := by simp [bvs]
    rw [hb] at e2 hle ht
    refine ⟨fun _ => ⟨g, 0, rfl, fun j hj => ?_⟩, e2⟩
    have h1 : j < cur.size := by rw [hsz]; omega
    have h2 : (cur.toList.take (l.length * 1))[j]? = (bvs l)[j]? := by rw [ht]
    rw [List.getElem?_take_of_lt (by omega)] at h2
    have h3 : (bvs l)[j]? = some (vB l j) := by simp [bvs, vB, List.getD, hj]
    rw [h3] at h2
    simp only [Nat.zero_add]
    have h4 : cur[j]? = some (vB l j) := by rw [← Array.getElem?_toList]; exact h2
    simp [World.cell?, hh, h4]
theorem take_bf {xs : List Bool} {i : Nat} (h : i < xs.length) : xs.take (i + 1) = xs.take i ++ [V1.at_ (bf xs) (i : Int)] := by
  rw [List.take_add_one]
  congr 1
  simp [V1.at_, bf, List.getD, h]
set_option maxRecDepth 100000 in
set_option maxHeartbeats 2000000 in
theorem bitsOf_any {B g : Nat} {w : World} {sg : List Nat} {ws : List (List Bool)} {s : ByteArray} (h : CodeS B w g sg ws) (hsz : s.size ≤ 3000) (hok : okT sg (sgT s) = true) :
    Calls Try.prog 32 #[.pointer (some ⟨g, 0, none⟩), .string s] w fun e w' => ∃ A c, e = .returned (.tuple #[.slice A (bitsT sg ws (sgT s)).length c, .bool true]) ∧ Hid (RdB w' A (bitsT sg ws (sgT s))) ∧ StO w w' := by
  have hbl := bitsT_len h (sgT s)
  rw [sgT_len] at hbl
  have HNw := hid (newWriter_any w)
  have HPut : Hid (∀ u gw, StO w u → IsWr w.heap.size u gw 0 [] → Calls Try.prog 25 #[.pointer (some ⟨g, 0, none⟩), .pointer (some ⟨gw, 0, none⟩), .string s] u (WrE w.heap.size u gw (0, bitsT sg ws (sgT s)))) := hid fun u gw hu hw => by
    have := putC_ok (h.same hu.out) hw hu.out.size (by omega) hok
    have e : putB (0, []) (bitsT sg ws (sgT s)) = (0, bitsT sg ws (sgT s)) := by
      unfold putB putAll
      simp
      omega
    rwa [e] at this
  generalize bitsT sg ws (sgT s) = xs at *
  clear h
  go_enter Try.func32, Try.ntmps32
  go_wp2_with fail
  refine HNw.out.mono ?_
  rintro e w1 ⟨gw, rfl, HN⟩
  have HP := hid (HPut.out w1 gw (hid HN.out.2.2) (HN.out.2.1 _ (Nat.le_refl _)))
  have HO1 : StO w w1 := hid HN.out.2.2
  clear HNw HN HPut
  go_wp2_with fail
  refine HP.out.mono ?_
  rintro e w2 ⟨rfl, H2⟩
  have HV := hid (wvec_ok H2.out.1)
  have HO2 : StO w w2 := hid (Only.of_below ((HO1.out.to_below (fun _ h => h.elim) (Nat.le_refl _)).trans (FrT.below H2.out.2 HO1.out.size)) _)
  clear HP H2 HO1
  go_wp2_with fail
  refine HV.out.mono ?_
  rintro e w3 ⟨gv, gs, gx, rfl, h3, _, _, _, h4⟩
  have HI := hid h3
  have HO3 : StO w w3 := hid (Only.of_below ((HO2.out.to_below (fun _ h => h.elim) (Nat.le_refl _)).trans (h4.mono HO2.out.size)) _)
  clear h3 h4 HV HO2
  obtain ⟨n, hn⟩ : ∃ n, n = xs.length := ⟨_, rfl⟩
  rw [← hn] at HI hbl
  have Hn := hid hn
  have HS0 : Hid (BtS w3 w3 (.slice none 0 0) (xs.take 0)) := hid ⟨⟨World.ownsRow_nil _ _ _ _, Nat.le_refl _⟩, Only.refl _ _⟩
  have HLen : Hid (∀ u, StO w3 u → Calls Try.prog 30 #[.pointer (some ⟨gv, 0, none⟩)] u fun e w' => e = .returned (.int .i64 ((n : Nat) : Int)) ∧ u = w') := hid fun u hu => V1.len_any (V1.IsVec.same HI.out hu.out)
  have HGet : Hid (∀ u, StO w3 u → ∀ i : Nat, Calls Try.prog 56 #[.pointer (some ⟨gv, 0, none⟩), .int .i64 (i : Int)] u fun e w' => e = .returned (.bool (V1.at_ (bf xs) (i : Int))) ∧ u = w') := hid fun u hu i => V1.get_any (V1.IsVec.same HI.out hu.out) (i : Int)
  clear HI hn
  go_wp2_with fail
  go_loopw [10, 11] (fun v0 s wr => ∃ (i : Nat) (v : Value), v = v0 ∧ i ≤ n ∧ s = .int .i64 (i : Int) ∧ ((i = 0 ∧ v = .slice none 0 0) ∨ ∃ g' c', v = .slice (some ⟨g', 0, none⟩) i c') ∧ Hid (BtS w3 wr v (xs.take i)) ∧ StO w3 wr) (fun _ s _ => n - (intOf s).toNat)
  case atStart => exact ⟨0, _, rfl, by omega, rfl, .inl ⟨rfl, rfl⟩, HS0, hid (Only.refl _ _)⟩
  case round =>
    obtain ⟨i, v, rfl, hi, rfl, hv, HB, HO⟩ := hrel
    have HL := hid (HLen.out _ HO)
    clear HS0 HLen
    by_cases hp : i < n
    · have hp' : (i : Int) < (n : Int) := by omega
      have HG := hid (HGet.out _ HO i)
      have htk := take_bf (xs := xs) (i := i) (by have := Hn.out; omega)
      have Htk := hid htk
      clear htk HGet
      generalize V1.at_ (bf xs) (i : Int) = b at *
      have Hle : Hid ((bvs (xs.take i)).length = i) := hid (by simp [bvs]; have := Hn.out; omega)
      have hb2 : bvs (xs.take i) ++ [.bool b] = bvs (xs.take i ++ [b]) := by simp [bvs]
      have Hb2 := hid hb2
      clear hb2
      have hnb : i ≤ 1000000 := by omega
      rcases hv with ⟨rfl, rfl⟩ | ⟨g0, c0, rfl⟩
      · go_wp2_with (first
          | (go_at_call 30; refine HL.out.mono ?_; rintro e w' ⟨rfl, rfl⟩)
          | (go_at_call 56; refine HG.out.mono ?_; rintro e w' ⟨rfl, rfl⟩)
          | (at_builtin; refine wpList_addV w3 _ 29 4 (.bool false) 1 Try.underlying29 boolInfoC (by omega) rfl rfl (.tmp 34) (.tmp 38) rfl _ (bvs (xs.take 0)) rfl (hid (HB.out.own.same ((Only.refl _ _).alloc _))) (.bool b) rfl wr.heap.size 1 rfl (by rw [Hle.out]; omega) wr rfl rfl ?_; intro v' w4 HG4 HT4))
        obtain ⟨g', c', F, rfl, _⟩ := HG4.out.shape (n := 0 + 1) (by rw [List.length_append, Hle.out]; rfl) (by omega)
        have HO5 : StO w3 w4 := hid (over (Only.alloc HB.out.only _) HT4.out)
        have HB4 : Hid (BtS w3 w4 (.slice (some ⟨g', 0, none⟩) (0 + 1) c') (xs.take (0 + 1))) := hid ⟨by rw [Htk.out, ← Hb2.out]; exact HG4.out, HO5.out⟩
        go_roundw
        case rel => exact ⟨0 + 1, _, rfl, by omega, by go_num, .inr ⟨g', c', rfl⟩, HB4, HO5⟩
        case measure => simp [intOf]; omega
      · go_wp2_with (first
          | (go_at_call 30; refine HL.out.mono ?_; rintro e w' ⟨rfl, rfl⟩)
          | (go_at_call 56; refine HG.out.mono ?_; rintro e w' ⟨rfl, rfl⟩)
          | (at_builtin; refine wpList_addV w3 _ 29 4 (.bool false) 1 Try.underlying29 boolInfoC (by omega) rfl rfl (.tmp 34) (.tmp 38) rfl _ (bvs (xs.take i)) rfl (hid (HB.out.own.same ((Only.refl _ _).alloc _))) (.bool b) rfl wr.heap.size 1 rfl (by rw [Hle.out]; omega) wr rfl rfl ?_; intro v' w4 HG4 HT4))
        obtain ⟨g', c', F, rfl, _⟩ := HG4.out.shape (n := i + 1) (by rw [List.length_append, Hle.out]; rfl) (by omega)
        have HO5 : StO w3 w4 := hid (over (Only.alloc HB.out.only _) HT4.out)
        have HB4 : Hid (BtS w3 w4 (.slice (some ⟨g', 0, none⟩) (i + 1) c') (xs.take (i + 1))) := hid ⟨by rw [Htk.out, ← Hb2.out]; exact HG4.out, HO5.out⟩
        go_roundw
        case rel => exact ⟨i + 1, _, rfl, by omega, by go_num, .inr ⟨g', c', rfl⟩, HB4, HO5⟩
        case measure => simp [intOf]; omega
    · obtain rfl : i = n := by omega
      have HT : Hid (xs.take i = xs) := hid (by rw [Hn.out, List.take_length])
      rcases hv with ⟨rfl, rfl⟩ | ⟨g0, c0, rfl⟩
      · go_wp2_with (go_at_call 30; refine HL.out.mono ?_; rintro e w' ⟨rfl, rfl⟩)
        go_ret2
        rw [HT.out] at HB
        exact ⟨none, 0, by rw [← Hn.out]; rfl, hid HB.out.rd.1, hid (HO3.out.trans HB.out.only)⟩
      · go_wp2_with (go_at_call 30; refine HL.out.mono ?_; rintro e w' ⟨rfl, rfl⟩)
        go_ret2
        rw [HT.out] at HB
        exact ⟨some ⟨g0, 0, none⟩, c0, by rw [← Hn.out]; rfl, hid HB.out.rd.1, hid (HO3.out.trans HB.out.only)⟩
end Go.Proofs.Ytmbcinbkijnblaa
