/- AlphaOrder, walked. -/
import Derived.Test.YtmbcinbkijnblaaQG
import Derived.Test.YtmbcinbkijnblaaQN
import Derived.Test.YtmbcinbkijnblaaQK
namespace Go.Proofs.Ytmbcinbkijnblaa
open Go.RowKit

theorem wrap_subP (i j : Nat) (hj : j + 1 = i) (h : j ≤ 1000) : IntKind.i64.wrap ((i : Int) - 1) = (j : Int) ∧ wrap64 ((i : Int) - 1) = (j : Int) := by
  have e : (i : Int) - 1 = (j : Int) := by omega
  rw [e]
  exact ⟨by rw [IntKind.wrap_i64]; omega, IntWalk.wrap64_in _ ⟨by omega, by omega⟩⟩
theorem putB_ok {xs ys : List Bool} (h : xs.length + ys.length ≤ 16777216) : putB (0, xs) ys = (0, xs ++ ys) := by
  unfold putB putAll
  simp
  omega
theorem bitsT_app (sg : List Nat) (ws : List (List Bool)) (l m : List (Fin 257)) : bitsT sg ws (l ++ m) = bitsT sg ws l ++ bitsT sg ws m := by simp [bitsT]
set_option maxRecDepth 100000 in
set_option maxHeartbeats 4000000 in
theorem alphaOrder_any {A : Option Addr} {n c : Nat} {L : List ByteArray} {w : World} (hL : RdS w A L) (hn : n = L.length) (hn2 : n ≤ 140737488355328) (hs : ∀ k, k < n → (strAt L k).size ≤ 140737488355328) :
    Calls Try.prog 6 #[.slice A n c] w fun e w' => e = .returned (.bool true) ∧ Hid (Below w.heap.size w w') := by
  have HAw := hid (alAwake w)
  have HSz : Hid (∀ W, StO w W → Calls Try.prog 19 #[.slice A n c] W fun e w' => ∃ z : Int, e = .returned (.int .i64 z) ∧ ((600 < z) ∨ (z ≤ 600 ∧ z = (((allS L).length : Nat) : Int))) ∧ W = w') := hid fun W hW => size_anyL (hL.only hW.out fun _ _ _ => no_) hn hn2 hs
  have HEnd : Hid (∀ u, StO w u → Hid (Below w.heap.size w u)) := hid fun u hu => hid (hu.out.to_below (fun _ h => h.elim) (Nat.le_refl _))
  have HLs : Hid (∀ W, StO w W → RdS W A L) := hid fun W hW => hL.only hW.out fun _ _ _ => no_
  have Hn := hid hn
  clear hL hs hn
  go_enter Try.func6, Try.ntmps6
  go_wp2_with fail
  refine HAw.out.mono ?_
  rintro e w1 ⟨rfl, HO1⟩
  go_wp2_with fail
  refine (HSz.out _ HO1).mono ?_
  rintro e w1' ⟨z, rfl, hz, rfl⟩
  clear HAw HSz
  rcases hz with hz | ⟨hz, hz2⟩
  · go_wp2_with fail
    go_ret
    exact ⟨rfl, HEnd.out _ HO1⟩
  · have hz3 : ¬ (600 : Int) < z := by omega
    by_cases hn0 : n = 0
    · subst hn0
      clear hz2
      go_wp2_with fail
      go_ret
      exact ⟨rfl, HEnd.out _ HO1⟩
    · have hn0' : ((n : Int) == 0) = false := by rw [beq_eq_false_iff_ne]; omega
      have hbig : (allS L).length ≤ 600 := by omega
      have hzs := allS_zero (L := L) (by have := Hn.out; omega)
      have hW := csUp_isW hzs (by omega)
      have ok := sgUp_ok (allS L)
      have HOf : Hid (Calls Try.prog 21 #[.slice A n c] w1 fun e w' => ∃ (g : Nat) (ws : List (List Bool)), e = .returned (.tuple #[.pointer (some ⟨g, 0, none⟩), .int .i64 0]) ∧ Hid (WordsOf (bestL (csUp (allS L) 257)) ws ∧ CodeS w1.heap.size w' g (sgUp (allS L) 257) ws) ∧ StO w1 w') := hid (by
        refine (of_any (HLs.out _ HO1) Hn.out (by omega) (by omega)).mono ?_
        rintro e w' ⟨g, ws, he, hH, ho⟩
        obtain ⟨q1, q2, q3⟩ := hH.out
        exact ⟨g, ws, he, hid ⟨q1, CodeS.of q1 (bestL_fit hW) q3 ok (by rw [bestL_len, csUp_len])⟩, ho⟩)
      have Hok := hid ok
      have Hbig := hid hbig
      have Hal : Hid (∀ x ∈ allS L, x.val ∈ sgUp (allS L) 257) := hid sg_all
      clear hz2 hW ok hbig hzs
      generalize bestL (csUp (allS L) 257) = ls at *
      generalize sgUp (allS L) 257 = sg at *
      have HOk : Hid (∀ k, k < n → okT sg (sgT (strAt L k)) = true) := hid fun k hk => okT_all fun x hx => Hal.out x (by
        have e := allS_take (L := L) (k := k) (by have := Hn.out; omega)
        have hx2 : x ∈ allS (L.take (k + 1)) := by rw [e]; exact List.mem_append_right _ hx
        unfold allS at hx2 ⊢
        obtain ⟨s, hs, hxs⟩ := List.mem_flatMap.1 hx2
        exact List.mem_flatMap.2 ⟨s, List.mem_of_mem_take hs, hxs⟩)
      have HSs : Hid (∀ k, k < n → (strAt L k).size ≤ 600) := hid fun k hk => by
        have := str_len (L := L) (k := k) (by have := Hn.out; omega)
        have := Hbig.out
        omega
      obtain ⟨b, off, rfl, _⟩ := (HLs.out w (hid (Only.refl _ _))).at (k := 0) (by have := Hn.out; omega)
      have HCk : Hid (∀ u, StO w u → ∀ k, k < n → u.cell? ⟨b, off + k, none⟩ = some (.string (strAt L k))) := hid fun u hu k hk => by
        obtain ⟨b', off', e', h', _⟩ := (HLs.out u hu).at (k := k) (by have := Hn.out; omega)
        injection e' with e'
        injection e' with e1 e2 _
        subst e1 e2
        exact h'
      go_wp2_with fail
      refine HOf.out.mono ?_
      rintro e w2 ⟨g, ws, rfl, HC, HO2⟩
      have HO02 : StO w w2 := hid (HO1.out.trans HO2.out)
      have Hws := hid HC.out.1
      have HC2 := hid HC.out.2
      have HBl : Hid (∀ k, (bitsT sg ws (allS (L.take k))).length ≤ 153600) := hid fun k => by
        have h1 := bitsT_len HC2.out (allS (L.take k))
        have h2 := allS_len (L := L) k
        have := Hbig.out
        omega
      have HBs : Hid (∀ k, k < n → bitsT sg ws (allS (L.take (k + 1))) = bitsT sg ws (allS (L.take k)) ++ bitsT sg ws (sgT (strAt L k))) := hid fun k hk => by
        rw [allS_take (by have := Hn.out; omega), bitsT_app]
      have HNw := hid (newWriter_any w2)
      clear HOf HO1 HO2 HC
      go_wp2_with fail
      refine HNw.out.mono ?_
      rintro e w3 ⟨gw, rfl, HN⟩
      have HI0 : Hid (IsWr w.heap.size w3 gw 0 (bitsT sg ws (allS (L.take 0))) ∧ CodeS w1.heap.size w3 g sg ws ∧ StO w w3) := hid ⟨by have := HN.out.2.1 w.heap.size HO02.out.size; simpa [allS, bitsT] using this, HC2.out.same HN.out.2.2, hid (HO02.out.trans HN.out.2.2)⟩
      have Hlen := hid HC2.out.len
      have HSgOk := hid HC2.out.ok
      clear HN HNw HC2 HO02
      go_wp2_with fail
      go_loopw [6] (fun s wr => ∃ i : Nat, i ≤ n ∧ s = .int .i64 (i : Int) ∧ Hid (IsWr w.heap.size wr gw 0 (bitsT sg ws (allS (L.take i))) ∧ CodeS w1.heap.size wr g sg ws ∧ StO w wr)) (fun s _ => n - (intOf s).toNat)
      case atStart => exact ⟨0, by omega, rfl, HI0⟩
      case round =>
        obtain ⟨i, hi, rfl, HI⟩ := hrel
        clear HI0
        by_cases hp : i < n
        · have hp' : (i : Int) < (n : Int) := by omega
          have hci := HCk.out wr HI.out.2.2 i hp
          have HPut : Hid (Calls Try.prog 25 #[.pointer (some ⟨g, 0, none⟩), .pointer (some ⟨gw, 0, none⟩), .string (strAt L i)] wr (WrE w.heap.size wr gw (0, bitsT sg ws (allS (L.take (i + 1)))))) := hid (by
            have h1 := putC_ok HI.out.2.1 HI.out.1 HI.out.2.2.out.size (by have := HSs.out i hp; omega) (HOk.out i hp)
            have h2 := HBl.out (i + 1)
            rw [HBs.out i hp, List.length_append] at h2
            rwa [putB_ok (by omega), ← HBs.out i hp] at h1)
          generalize strAt L i = st at *
          go_wp2_with fail
          refine HPut.out.mono ?_
          rintro e w4 ⟨rfl, H4⟩
          have HI2 : Hid (IsWr w.heap.size w4 gw 0 (bitsT sg ws (allS (L.take (i + 1)))) ∧ CodeS w1.heap.size w4 g sg ws ∧ StO w w4) := hid ⟨H4.out.1, HI.out.2.1.frT H4.out.2 (by unfold TW; decide) (by unfold TW; decide) (by unfold TW; decide), hid (over HI.out.2.2.out H4.out.2)⟩
          clear hci HPut H4 HI
          go_wp2_with fail
          go_roundw
          case rel => exact ⟨i + 1, by omega, by go_num, HI2⟩
          case measure => simp [intOf]; omega
        · obtain rfl : i = n := by omega
          have htk : L.take i = L := by rw [Hn.out, List.take_length]
          rw [htk] at HI
          have HNl : Hid ((bitsT sg ws (allS L)).length ≤ 153600) := hid (by have := HBl.out i; rwa [htk] at this)
          have HHas : Hid (∀ k, k < i → Has (bf (bitsT sg ws (allS L))) (bitsT sg ws (allS (L.take k))).length (bitsT sg ws (sgT (strAt L k))) ∧ (bitsT sg ws (allS (L.take k))).length + (bitsT sg ws (sgT (strAt L k))).length ≤ (bitsT sg ws (allS L)).length) := hid fun k hk => by
            have e : bitsT sg ws (allS L) = bitsT sg ws (allS (L.take k)) ++ (bitsT sg ws (sgT (strAt L k)) ++ bitsT sg ws (allS (L.drop (k + 1)))) := by
              rw [← List.append_assoc, ← HBs.out k hk, ← bitsT_app]
              congr 1
              unfold allS
              rw [← List.flatMap_append, List.take_append_drop]
            have h1 := Has.self (bitsT sg ws (allS L))
            have h2 := h1
            rw [e] at h2
            have h3 := (h2.app.2).app.1
            rw [← e, Nat.zero_add] at h3
            refine ⟨h3, ?_⟩
            have := congrArg List.length e
            simp only [List.length_append] at this
            omega
          have HEq : Hid (bitsT sg ws (allS (L.take i)) = bitsT sg ws (allS L)) := hid (by rw [htk])
          clear htk
          generalize hxs : bitsT sg ws (allS L) = xs at *
          clear hxs
          have HV := hid (wvec_ok HI.out.1)
          go_wp2_with fail
          refine HV.out.mono ?_
          rintro e w5 ⟨gv, gs, gx, rfl, h5, h6, h7, h8, h9⟩
          have hwz := HI.out.2.2.out.size
          have HVB : Hid (VecB w.heap.size w5 gv gs gx xs.length (bf xs)) := hid ⟨h5, Nat.le_trans hwz h6, Nat.le_trans hwz h7, Nat.le_trans hwz h8⟩
          have HO5 : StO wr w5 := hid (Only.of_below h9 _)
          have HC5 : Hid (CodeS w1.heap.size w5 g sg ws ∧ StO w w5) := hid ⟨HI.out.2.1.same HO5.out, hid (HI.out.2.2.out.trans HO5.out)⟩
          have HNr : Hid (Calls Try.prog 27 #[.pointer (some ⟨gv, 0, none⟩), .int .i64 0] w5 (NRdE w.heap.size w5 gv gs gx xs.length (bf xs) 0)) := hid (newReader_ok (a := 0) HVB.out HC5.out.2.out.size (Nat.zero_le _))
          clear HV h5 h6 h7 h8 h9 hwz HI HO5 HVB
          go_wp2_with fail
          refine HNr.out.mono ?_
          rintro e w6 ⟨r, gb, rfl, H6⟩
          have HI6 : Hid (IsRd w.heap.size w6 r gb 0 (bf xs) xs.length (bitsT sg ws (allS (L.take 0))).length ∧ CodeS w1.heap.size w6 g sg ws ∧ V1.IsVec w6 gv gs gx xs.length (bf xs) ∧ StO w w6) := hid ⟨by have := H6.out.1; simpa [allS, bitsT] using this, HC5.out.1.frT H6.out.2.2.1 (by unfold TV; decide) (by unfold TV; decide) (by unfold TV; decide), H6.out.2.1.1, hid (over HC5.out.2.out H6.out.2.2.1)⟩
          clear HNr H6 HC5
          go_wp2_with fail
          go_loopw [11] (fun s wr => ∃ k : Nat, k ≤ i ∧ s = .int .i64 (k : Int) ∧ Hid (IsRd w.heap.size wr r gb 0 (bf xs) xs.length (bitsT sg ws (allS (L.take k))).length ∧ CodeS w1.heap.size wr g sg ws ∧ V1.IsVec wr gv gs gx xs.length (bf xs) ∧ StO w wr)) (fun s _ => i - (intOf s).toNat)
          case atStart => exact ⟨0, by omega, rfl, HI6⟩
          case round =>
            obtain ⟨k, hk, rfl, HI⟩ := hrel
            clear HI6
            by_cases hpk : k < i
            · have hpk' : (k : Int) < (i : Int) := by omega
              have HGet : Hid (Calls Try.prog 28 #[.pointer (some ⟨g, 0, none⟩), .pointer (some ⟨r, 0, none⟩)] wr fun e' w' => e' = .returned (.tuple #[.string (strAt L k), .int .i64 0]) ∧ Hid (IsRd w.heap.size w' r gb 0 (bf xs) xs.length (bitsT sg ws (allS (L.take (k + 1)))).length ∧ FrT TR w.heap.size wr w')) := hid (by
                refine (get_any Hws.out HI.out.2.1 HI.out.1).mono ?_
                rintro e' w' ⟨l, a, s, er, e2, at2, rfl, hG, hR⟩
                have hh := HHas.out k hpk
                have hok := HOk.out k hpk
                rw [sgT_sgL] at hh hok
                obtain ⟨q1, q2, q3, q4⟩ := get_det Hws.out HSgOk.out Hlen.out hok hh.1 hh.2 hG.out
                subst q1 q2
                refine ⟨by rw [if_pos rfl, q3], hid ⟨?_, hR.out.2⟩⟩
                have := hR.out.1
                rw [q4] at this
                rw [HBs.out k hpk, List.length_append, sgT_sgL]
                exact this)
              have HCc : Hid (∀ u, StO w u → u.cell? ⟨b, off + k, none⟩ = some (.string (strAt L k))) := hid fun u hu => HCk.out u hu k hpk
              generalize strAt L k = st at *
              go_wp2_with fail
              refine HGet.out.mono ?_
              rintro e w7 ⟨rfl, H7⟩
              have HI7 : Hid (IsRd w.heap.size w7 r gb 0 (bf xs) xs.length (bitsT sg ws (allS (L.take (k + 1)))).length ∧ CodeS w1.heap.size w7 g sg ws ∧ V1.IsVec w7 gv gs gx xs.length (bf xs) ∧ StO w w7) := hid ⟨H7.out.1, HI.out.2.1.frT H7.out.2 (by unfold TR; decide) (by unfold TR; decide) (by unfold TR; decide), vecTy HI.out.2.2.1 H7.out.2 (by unfold TR; decide) (by unfold TR; decide) (by unfold TR; decide), hid (over HI.out.2.2.2.out H7.out.2)⟩
              have hck := HCc.out w7 HI7.out.2.2.2
              clear HGet HI H7 HCc
              go_wp2_with fail
              go_roundw
              case rel => exact ⟨k + 1, by omega, by go_num, HI7⟩
              case measure => simp [intOf]; omega
            · obtain rfl : k = i := by omega
              rw [HEq.out] at HI
              have HAt := hid (rat_any HI.out.1 (by omega))
              have HLn := hid (V1.len_any HI.out.2.2.1)
              have HEr := hid (rerr_any HI.out.1)
              have HI8 : Hid (CodeS w1.heap.size wr g sg ws ∧ StO w wr) := hid ⟨HI.out.2.1, HI.out.2.2.2⟩
              clear HI
              generalize xs.length = N at *
              go_wp2_with (first
                | (go_at_call 29; refine HAt.out.mono ?_; rintro e w' ⟨rfl, rfl⟩)
                | (go_at_call 30; refine HLn.out.mono ?_; rintro e w' ⟨rfl, rfl⟩)
                | (go_at_call 31; refine HEr.out.mono ?_; rintro e w' ⟨rfl, rfl⟩))
              clear HAt HLn HEr
              go_wp2_with fail
              go_loopw [14] (fun s wr => ∃ j : Nat, 1 ≤ j ∧ j ≤ k ∧ s = .int .i64 (j : Int) ∧ Hid (CodeS w1.heap.size wr g sg ws ∧ StO w wr)) (fun s _ => k - (intOf s).toNat)
              case atStart => exact ⟨1, by omega, by omega, rfl, HI8⟩
              case round =>
                obtain ⟨j, hj1, hj2, rfl, HI⟩ := hrel
                clear HI8
                by_cases hp : j < k
                · have hp' : (j : Int) < (k : Int) := by omega
                  obtain ⟨q, hq⟩ : ∃ q, q + 1 = j := ⟨j - 1, by omega⟩
                  have hq2 : q < k := by omega
                  have hqk : (q : Int) < (k : Int) := by omega
                  have Hk600 : Hid (k ≤ 1000) := hid (by
                    have h1 : ∀ M : List ByteArray, M.length ≤ (allS M).length := fun M => by
                      induction M with
                      | nil => simp
                      | cons a M ih => unfold allS at ih ⊢; simp only [List.flatMap_cons, List.length_append, List.length_cons, sgT_len]; omega
                    have := h1 L
                    have := Hbig.out
                    have := Hn.out
                    omega)
                  have hjW := hid (wrap_subP j q hq (by have := Hk600.out; omega))
                  have HCa := hid fun u hu => HCk.out u hu q hq2
                  have HCb := hid fun u hu => HCk.out u hu j hp
                  have HOa := hid (HOk.out q hq2)
                  have HOb := hid (HOk.out j hp)
                  have HSa := hid (HSs.out q hq2)
                  have HSb := hid (HSs.out j hp)
                  clear hq Hk600
                  generalize strAt L q = s1 at *
                  generalize strAt L j = s2 at *
                  have HBa : Hid (∀ u, CodeS w1.heap.size u g sg ws ∧ StO w u → Calls Try.prog 32 #[.pointer (some ⟨g, 0, none⟩), .string s1] u fun e w' => ∃ A c, e = .returned (.tuple #[.slice A (bitsT sg ws (sgT s1)).length c, .bool true]) ∧ Hid (RdB w' A (bitsT sg ws (sgT s1))) ∧ StO u w') := hid fun u hu => bitsOf_any hu.1 (by have := HSa.out; omega) HOa.out
                  have HBb : Hid (∀ u, CodeS w1.heap.size u g sg ws ∧ StO w u → Calls Try.prog 32 #[.pointer (some ⟨g, 0, none⟩), .string s2] u fun e w' => ∃ A c, e = .returned (.tuple #[.slice A (bitsT sg ws (sgT s2)).length c, .bool true]) ∧ Hid (RdB w' A (bitsT sg ws (sgT s2))) ∧ StO u w') := hid fun u hu => bitsOf_any hu.1 (by have := HSb.out; omega) HOb.out
                  have HTs : Hid ((cmpB (bitsT sg ws (sgT s1)) (bitsT sg ws (sgT s2)) = 0 ∧ Op.bytesLess s1.toList s2.toList = false ∧ (s1.toList == s2.toList) = true) ∨ (cmpB (bitsT sg ws (sgT s1)) (bitsT sg ws (sgT s2)) = -1 ∧ Op.bytesLess s1.toList s2.toList = true ∧ (s1.toList == s2.toList) = false ∧ begB (bitsT sg ws (sgT s1)) (bitsT sg ws (sgT s2)) = false) ∨ (cmpB (bitsT sg ws (sgT s1)) (bitsT sg ws (sgT s2)) = 1 ∧ Op.bytesLess s1.toList s2.toList = false ∧ (s1.toList == s2.toList) = false ∧ begB (bitsT sg ws (sgT s1)) (bitsT sg ws (sgT s2)) = false)) := hid (by
                    have h1 := HOa.out
                    have h2 := HOb.out
                    rw [sgT_sgL] at h1 h2
                    rw [sgT_sgL, sgT_sgL, ByteArray.toList_eq, ByteArray.toList_eq]
                    rcases texts_stand Hws.out HSgOk.out Hlen.out _ _ h1 h2 with ⟨e, h⟩ | ⟨hne, h, ha⟩ | ⟨hne, h, ha⟩
                    · rw [← e] at h ⊢
                      exact .inl ⟨cmpB_same _, h, by simp⟩
                    · exact .inr (.inl ⟨cmpB_ahd ha, h, by simpa using hne, begB_ahd ha⟩)
                    · exact .inr (.inr ⟨cmpB_back ha, h, by simpa using hne, begB_back ha⟩))
                  have hl1 : (bitsT sg ws (sgT s1)).length ≤ 300000 := by
                    have h1 := bitsT_len HI.out.1 (sgT s1)
                    rw [sgT_len] at h1
                    have := HSa.out
                    omega
                  have hl2 : (bitsT sg ws (sgT s2)).length ≤ 300000 := by
                    have h1 := bitsT_len HI.out.1 (sgT s2)
                    rw [sgT_len] at h1
                    have := HSb.out
                    omega
                  generalize bitsT sg ws (sgT s1) = xa at *
                  generalize bitsT sg ws (sgT s2) = xb at *
                  have HCmp : Hid (∀ W A1 A2 c1 c2, RdB W A1 xa → RdB W A2 xb → Calls Try.prog 33 #[.slice A1 xa.length c1, .slice A2 xb.length c2] W fun e w' => e = .returned (.int .i64 (cmpB xa xb)) ∧ StO W w') := hid fun W A1 A2 c1 c2 h1 h2 => compare_any h1 h2 rfl rfl (by omega) (by omega)
                  have HBeg : Hid (∀ W A1 A2 c1 c2, RdB W A1 xa → RdB W A2 xb → Calls Try.prog 34 #[.slice A1 xa.length c1, .slice A2 xb.length c2] W fun e w' => e = .returned (.bool (begB xa xb)) ∧ StO W w') := hid fun W A1 A2 c1 c2 h1 h2 => begins_any h1 h2 rfl rfl (by omega) (by omega)
                  have hca := HCa.out wr HI.out.2
                  have hcb := HCb.out wr HI.out.2
                  obtain ⟨m1, hm1⟩ : ∃ m1, m1 = xa.length := ⟨_, rfl⟩
                  obtain ⟨m2, hm2⟩ : ∃ m2, m2 = xb.length := ⟨_, rfl⟩
                  rw [← hm1] at HBa HCmp HBeg hl1
                  rw [← hm2] at HBb HCmp HBeg hl2
                  clear hm1 hm2 HOa HOb HSa HSb hl1 hl2
                  obtain ⟨hjw, hjw2⟩ := hjW.out
                  go_wp2_with fail
                  refine (HBa.out _ HI.out).mono ?_
                  rintro e w7 ⟨A1, c1, rfl, HR1, HO7⟩
                  have HI7 : Hid (CodeS w1.heap.size w7 g sg ws ∧ StO w w7) := hid ⟨HI.out.1.same HO7.out, hid (HI.out.2.out.trans HO7.out)⟩
                  have hcb7 := HCb.out w7 HI7.out.2
                  clear hca hcb HI HO7 HBa
                  go_wp2_with fail
                  refine (HBb.out _ HI7.out).mono ?_
                  rintro e w8 ⟨A2, c2, rfl, HR2, HO8⟩
                  have HI8 : Hid (CodeS w1.heap.size w8 g sg ws ∧ StO w w8) := hid ⟨HI7.out.1.same HO8.out, hid (HI7.out.2.out.trans HO8.out)⟩
                  have HR18 : Hid (RdB w8 A1 xa) := hid (HR1.out.only HO8.out fun _ _ _ => no_)
                  clear hcb7 HI7 HO8 HBb HR1
                  go_wp2_with fail
                  refine (HCmp.out _ _ _ _ _ HR18.out HR2.out).mono ?_
                  rintro e w9 ⟨rfl, HO9⟩
                  have HI9 : Hid (CodeS w1.heap.size w9 g sg ws ∧ StO w w9) := hid ⟨HI8.out.1.same HO9.out, hid (HI8.out.2.out.trans HO9.out)⟩
                  have HR19 : Hid (RdB w9 A1 xa) := hid (HR18.out.only HO9.out fun _ _ _ => no_)
                  have HR29 : Hid (RdB w9 A2 xb) := hid (HR2.out.only HO9.out fun _ _ _ => no_)
                  clear HI8 HO9 HCmp HR18 HR2
                  have HCell0 : Hid (∀ u, StO w9 u → u.cell? ⟨b, off + q, none⟩ = some (.string s1) ∧ u.cell? ⟨b, off + j, none⟩ = some (.string s2) ∧ StO w9 u) := hid fun u hu => ⟨HCa.out u (hid (HI9.out.2.out.trans hu.out)), HCb.out u (hid (HI9.out.2.out.trans hu.out)), hu⟩
                  have HBg : Hid (∀ u, (u.cell? ⟨b, off + q, none⟩ = some (.string s1) ∧ u.cell? ⟨b, off + j, none⟩ = some (.string s2) ∧ StO w9 u) → Calls Try.prog 34 #[.slice A1 m1 c1, .slice A2 m2 c2] u fun e w' => e = .returned (.bool (begB xa xb)) ∧ (w'.cell? ⟨b, off + q, none⟩ = some (.string s1) ∧ w'.cell? ⟨b, off + j, none⟩ = some (.string s2) ∧ StO w9 w')) := hid fun u hu => (HBeg.out u _ _ c1 c2 (HR19.out.only hu.2.2.out fun _ _ _ => no_) (HR29.out.only hu.2.2.out fun _ _ _ => no_)).mono fun e w' hh => ⟨hh.1, HCell0.out w' (hid (hu.2.2.out.trans hh.2.out))⟩
                  obtain ⟨d1, d2, d3⟩ := HCell0.out w9 (hid (Only.refl _ _))
                  clear HR19 HR29 HBeg HCa HCb
                  generalize cmpB xa xb = z at *
                  generalize begB xa xb = bg at *
                  rcases HTs.out with ⟨hz0, hle, heq⟩ | ⟨hz0, hle, heq, hbg⟩ | ⟨hz0, hle, heq, hbg⟩
                  · subst hz0
                    clear HTs HBg d3
                    go_wp2_with fail
                    go_quiet (fail)
                    have HI10 : Hid (CodeS w1.heap.size (w9.drewN nq) g sg ws ∧ StO w (w9.drewN nq)) := hid (by
                      have ho : StO w9 (w9.drewN nq) := hid (quiet_only ⟨_, rfl⟩)
                      exact ⟨HI9.out.1.same ho.out, hid (HI9.out.2.out.trans ho.out)⟩)
                    generalize w9.drewN nq = w10 at HI10 ⊢
                    clear hjw hjw2 HI9 HCell0 d1 d2
                    go_wp2_with fail
                    go_roundw
                    case rel => exact ⟨j + 1, by omega, by omega, by go_num, HI10⟩
                    case measure => simp [intOf]; omega
                  · subst hz0
                    subst hbg
                    clear HTs d3
                    go_wp2_with fail
                    go_region_held3 (fun u => u.cell? ⟨b, off + q, none⟩ = some (.string s1) ∧ u.cell? ⟨b, off + j, none⟩ = some (.string s2) ∧ StO w9 u)
                      (first | with_reducible assumption | with_reducible exact HCell0.out _ (hid (Only.refl _ _)) | with_reducible exact HCell0.out _ (hid (Only.refl _ _).drew))
                      (first
                        | (go_at_call 34; (with_reducible refine (HBg.out _ (by with_reducible assumption)).mono ?_); rintro e wb ⟨rfl, HSb⟩))
                    have HI10 : Hid (CodeS w1.heap.size wb g sg ws ∧ StO w wb) := hid ⟨HI9.out.1.same HSb.2.2.out, hid (HI9.out.2.out.trans HSb.2.2.out)⟩
                    clear hjw hjw2 HI9 HCell0 d1 d2 HSb HBg
                    go_wp2_with fail
                    go_roundw
                    case rel => exact ⟨j + 1, by omega, by omega, by go_num, HI10⟩
                    case measure => simp [intOf]; omega
                  · subst hz0
                    subst hbg
                    clear HTs d3
                    go_wp2_with fail
                    go_region_held3 (fun u => u.cell? ⟨b, off + q, none⟩ = some (.string s1) ∧ u.cell? ⟨b, off + j, none⟩ = some (.string s2) ∧ StO w9 u)
                      (first | with_reducible assumption | with_reducible exact HCell0.out _ (hid (Only.refl _ _)) | with_reducible exact HCell0.out _ (hid (Only.refl _ _).drew))
                      (first
                        | (go_at_call 34; (with_reducible refine (HBg.out _ (by with_reducible assumption)).mono ?_); rintro e wb ⟨rfl, HSb⟩))
                    have HI10 : Hid (CodeS w1.heap.size wb g sg ws ∧ StO w wb) := hid ⟨HI9.out.1.same HSb.2.2.out, hid (HI9.out.2.out.trans HSb.2.2.out)⟩
                    clear hjw hjw2 HI9 HCell0 d1 d2 HSb HBg
                    go_wp2_with fail
                    go_roundw
                    case rel => exact ⟨j + 1, by omega, by omega, by go_num, HI10⟩
                    case measure => simp [intOf]; omega
                · obtain rfl : j = k := by omega
                  go_wp2_with fail
                  go_ret
                  exact ⟨rfl, HEnd.out _ HI.out.2⟩
end Go.Proofs.Ytmbcinbkijnblaa
