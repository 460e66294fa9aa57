/- AlphaWords returns true for every input. No condition. -/
import Derived.Test.YtmbcinbkijnblaaAlH
import Derived.Test.YtmbcinbkijnblaaRowP
import Derived.Test.YtmbcinbkijnblaaAlE
import Derived.Deep.Strs
import Derived.Test.YtmbcinbkijnblaaRowI
namespace Go.Proofs.Ytmbcinbkijnblaa
open Go.RowKit

theorem wsum_map (f h : Nat → Int) : ∀ (sg : List Nat) (pre : List Int), wsum (wt (pre ++ sg.map f)) pre.length (sg.map h) = (sg.map fun s => f s * h s).sum
  | [], pre => by simp [wsum]
  | s :: sg, pre => by
    have ih := wsum_map f h sg (pre ++ [f s])
    rw [List.length_append] at ih
    simp only [List.map_cons, wsum, List.sum_cons]
    rw [show pre ++ f s :: sg.map f = pre ++ [f s] ++ sg.map f by simp]
    have e : wt (pre ++ [f s] ++ sg.map f) pre.length = f s := by simp [wt, List.getD]
    rw [e]
    simpa using ih
theorem costL_map (f h : Nat → Int) (sg : List Nat) : costL (sg.map f) (sg.map h) = (sg.map fun s => f s * h s).sum := by
  have := wsum_map f h sg []
  simpa [costL] using this
theorem sum_add (f g : Nat → Int) : ∀ sg : List Nat, (sg.map fun s => f s + g s).sum = (sg.map f).sum + (sg.map g).sum
  | [] => by simp
  | s :: sg => by simp only [List.map_cons, List.sum_cons, sum_add f g sg]; omega
theorem sum_zero (f : Nat → Int) : ∀ sg : List Nat, (∀ s ∈ sg, f s = 0) → (sg.map f).sum = 0
  | [], _ => by simp
  | s :: sg, h => by
    simp only [List.map_cons, List.sum_cons]
    rw [h s (List.mem_cons_self ..), sum_zero f sg fun t ht => h t (List.mem_cons_of_mem _ ht)]
    rfl
theorem sum_single (h : Nat → Int) (x : Nat) : ∀ sg : List Nat, sg.Nodup → x ∈ sg → (sg.map fun s => if x = s then h s else 0).sum = h x
  | [], _, hx => by cases hx
  | s :: sg, hn, hx => by
    have hn := List.nodup_cons.1 hn
    simp only [List.map_cons, List.sum_cons]
    by_cases e : x = s
    · subst e
      rw [if_pos rfl, sum_zero _ sg fun t ht => if_neg (fun e2 => hn.1 (by rw [e2]; exact ht))]
      omega
    · rw [if_neg e, sum_single h x sg hn.2 (by rcases List.mem_cons.1 hx with h1 | h1; exact absurd h1 e; exact h1)]
      omega
theorem bits_cost (sg : List Nat) (ws : List (List Bool)) (hn : sg.Nodup) : ∀ l : List (Fin 257), (∀ x ∈ l, x.val ∈ sg) → ((bitsT sg ws l).length : Int) = (sg.map fun s => ((cntS l s : Nat) : Int) * (((wordZ sg ws s).length : Nat) : Int)).sum
  | [], _ => by
    rw [sum_zero]
    · rfl
    · intro s _
      simp [cntS]
  | x :: l, h => by
    have ih := bits_cost sg ws hn l fun y hy => h y (List.mem_cons_of_mem _ hy)
    have e1 : (bitsT sg ws (x :: l)).length = (wordZ sg ws x.val).length + (bitsT sg ws l).length := by simp [bitsT]
    have e2 : ∀ s, ((cntS (x :: l) s : Nat) : Int) * (((wordZ sg ws s).length : Nat) : Int) = ((cntS l s : Nat) : Int) * (((wordZ sg ws s).length : Nat) : Int) + if x.val = s then (((wordZ sg ws s).length : Nat) : Int) else 0 := fun s => by
      have : cntS (x :: l) s = cntS l s + if x.val = s then 1 else 0 := by simp [cntS, List.countP_cons]
      rw [this]
      by_cases e : x.val = s
      · simp [e]; rw [Int.add_mul]; omega
      · simp [e]
    rw [e1, show (fun s => ((cntS (x :: l) s : Nat) : Int) * (((wordZ sg ws s).length : Nat) : Int)) = fun s => ((cntS l s : Nat) : Int) * (((wordZ sg ws s).length : Nat) : Int) + if x.val = s then (((wordZ sg ws s).length : Nat) : Int) else 0 from funext e2, sum_add, ← ih, sum_single (fun s => (((wordZ sg ws s).length : Nat) : Int)) x.val sg hn (h x (List.mem_cons_self ..))]
    omega
theorem lens_words {sg : List Nat} {ws : List (List Bool)} (ok : SgOk sg) (len : sg.length = ws.length) : sg.map (fun s => (((wordZ sg ws s).length : Nat) : Int)) = lens ws := by
  apply List.ext_getElem (by simp [lens, len])
  intro k h1 h2
  have hk : k < sg.length := by simpa using h1
  have hk2 : k < ws.length := by omega
  have e := wordZ_at (ws := ws) ok hk
  rw [List.getElem_map]
  have e2 : sg.getD k 0 = sg[k] := by simp [List.getD, hk]
  rw [e2] at e
  rw [e]
  simp [lens, hk2]
/-- What texts take is what the lengths cost. -/
theorem bits_costL {sg : List Nat} {ws : List (List Bool)} {ls : List Int} {l : List (Fin 257)} (hw : WordsOf ls ws) (ok : SgOk sg) (len : sg.length = ws.length) (hl : ∀ x ∈ l, x.val ∈ sg) : (((bitsT sg ws l).length : Nat) : Int) = costL (sg.map fun s => ((cntS l s : Nat) : Int)) ls := by
  rw [bits_cost sg ws ok.nodup l hl, ← hw.lens, ← lens_words ok len, costL_map]
theorem sg_all {l : List (Fin 257)} : ∀ x ∈ l, x.val ∈ sgUp l 257 := fun x hx => sgUp_mem.2 ⟨x.isLt, by
  unfold cntS
  exact List.countP_pos_iff.2 ⟨x, hx, by simp⟩⟩
theorem okT_all {sg : List Nat} {l : List (Fin 257)} (h : ∀ x ∈ l, x.val ∈ sg) : okT sg l = true := by
  unfold okT
  rw [List.all_eq_true]
  intro x hx
  exact decide_eq_true (h x hx)
theorem sgI_are {sg : List Nat} (ok : SgOk sg) : areSg (sgI sg) = true := by
  have hl : (sgI sg).length = sg.length := by simp [sgI]
  refine areSg_true fun k hk => ?_
  rw [hl] at hk
  have g : ∀ j, j < sg.length → (sgI sg).getD j 0 = ((sg.getD j 0 : Nat) : Int) := fun j hj => by simp [sgI, List.getD, hj]
  unfold sgAt isSg
  rw [g k hk]
  have h1 := ok.2 k hk
  by_cases h0 : k = 0
  · simp [h0] at h1 ⊢
    omega
  · rw [g (k - 1) (by omega)]
    have h2 := ok.1 (k - 1) k (by omega) hk
    simp only [Bool.and_eq_true, Bool.or_eq_true, decide_eq_true_eq]
    omega
theorem natS_sgI (sg : List Nat) : natS (sgI sg) = sg := by
  unfold natS sgI
  rw [List.map_map]
  conv => rhs; rw [← List.map_id sg]
  apply List.map_congr_left
  intro s _
  simp
theorem sgI_inI {sg : List Nat} (ok : SgOk sg) : InI (sgI sg) := fun z hz => by
  unfold sgI at hz
  obtain ⟨s, hs, rfl⟩ := List.mem_map.1 hz
  obtain ⟨i, hi, e⟩ := List.mem_iff_getElem.1 hs
  have := ok.2 i hi
  simp [List.getD, hi, e] at this
  omega
end Go.Proofs.Ytmbcinbkijnblaa

namespace Go.Proofs.Ytmbcinbkijnblaa
open Go.RowKit

abbrev WaS (b1 o1 k1 k2 : Nat) (x1 x2 : Int) (wr u : World) : Prop := u.cell? ⟨b1, o1 + k1, none⟩ = some (.int .i64 x1) ∧ u.cell? ⟨b1, o1 + k2, none⟩ = some (.int .i64 x2) ∧ StO wr u
theorem wrap_add2 (p q : Nat) (h : p + q ≤ 1000000000) : IntKind.i64.wrap ((p : Int) + (q : Int)) = (p : Int) + (q : Int) := by rw [IntKind.wrap_i64]; omega
theorem wrap_sub (i j : Nat) (hj : j + 1 = i) (h : j ≤ 1000) : IntKind.i64.wrap ((i : Int) - 1) = (j : Int) ∧ wrap64 ((i : Int) - 1) = (j : Int) := by
  have e : (i : Int) - 1 = (j : Int) := by omega
  rw [e]
  exact ⟨by rw [IntKind.wrap_i64]; omega, IntWalk.wrap64_in _ ⟨by omega, by omega⟩⟩
set_option maxRecDepth 100000 in
set_option maxHeartbeats 4000000 in
theorem alphaWords_any {A A1 : Option Addr} {n n1 c c1 : Nat} {L : List ByteArray} {ls : List Int} {w : World} (hL : RdS w A L) (hn : n = L.length) (hl : RdI w A1 ls) (hn1 : n1 = ls.length) (hli : InI ls) (hA1 : n1 ≤ c1) (hn2 : n ≤ 140737488355328) (hn3 : n1 ≤ 140737488355328) (hs : ∀ k, k < n → (strAt L k).size ≤ 140737488355328) :
    Calls Try.prog 7 #[.slice A n c, .slice A1 n1 c1] w fun e w' => e = .returned (.bool true) ∧ Hid (Below w.heap.size w w') := by
  have HAw := hid (alAwake w)
  have HSz : Hid (∀ W, StO w W → Calls Try.prog 19 #[.slice A n c] W fun e w' => ∃ z : Int, e = .returned (.int .i64 z) ∧ ((600 < z) ∨ (z ≤ 600 ∧ z = (((allS L).length : Nat) : Int))) ∧ W = w') := hid fun W hW => size_anyL (hL.only hW.out fun _ _ _ => no_) hn hn2 hs
  have HEnd : Hid (∀ u, StO w u → Hid (Below w.heap.size w u)) := hid fun u hu => hid (hu.out.to_below (fun _ h => h.elim) (Nat.le_refl _))
  have HLs : Hid (∀ W, StO w W → RdS W A L) := hid fun W hW => hL.only hW.out fun _ _ _ => no_
  have HRl : Hid (∀ W, StO w W → RdI W A1 ls) := hid fun W hW => hl.only hW.out fun _ _ _ => no_
  have Hn := hid hn
  have Hn1 := hid hn1
  have HIi := hid hli
  clear hL hl hs hn hn1 hli
  go_enter Try.func7, Try.ntmps7
  go_wp2_with fail
  refine HAw.out.mono ?_
  rintro e w1 ⟨rfl, HO1⟩
  go_wp2_with fail
  refine (HSz.out _ HO1).mono ?_
  rintro e w1' ⟨z, rfl, hz, rfl⟩
  clear HAw HSz
  rcases hz with hz | ⟨hz, hz2⟩
  · go_wp2_with fail
    go_ret
    exact ⟨rfl, HEnd.out _ HO1⟩
  · have hz3 : ¬ (600 : Int) < z := by omega
    by_cases hn0 : n = 0
    · subst hn0
      clear hz2
      go_wp2_with fail
      go_ret
      exact ⟨rfl, HEnd.out _ HO1⟩
    · have hn0' : ((n : Int) == 0) = false := by rw [beq_eq_false_iff_ne]; omega
      by_cases h300 : 300 < n1
      · have h300' : (300 : Int) < (n1 : Int) := by omega
        clear hz2
        go_wp2_with fail
        go_ret
        exact ⟨rfl, HEnd.out _ HO1⟩
      · have h300' : ¬ (300 : Int) < (n1 : Int) := by omega
        have hbig : (allS L).length ≤ 600 := by omega
        have hzs := allS_zero (L := L) (by have := Hn.out; omega)
        have hW := csUp_isW hzs (by omega)
        have ok := sgUp_ok (allS L)
        have hm257 := sgUp_len (allS L) 257
        have HOf : Hid (Calls Try.prog 21 #[.slice A n c] w1 fun e w' => ∃ (g : Nat) (ws : List (List Bool)), e = .returned (.tuple #[.pointer (some ⟨g, 0, none⟩), .int .i64 0]) ∧ Hid (WordsOf (bestL (csUp (allS L) 257)) ws ∧ CodeS w1.heap.size w' g (sgUp (allS L) 257) ws) ∧ StO w1 w') := hid (by
          refine (of_any (HLs.out _ HO1) Hn.out (by omega) (by omega)).mono ?_
          rintro e w' ⟨g, ws, he, hH, ho⟩
          obtain ⟨q1, q2, q3⟩ := hH.out
          exact ⟨g, ws, he, hid ⟨q1, CodeS.of q1 (bestL_fit hW) q3 ok (by rw [bestL_len, csUp_len])⟩, ho⟩)
        have HW := hid hW
        have Hok := hid ok
        have Hbig := hid hbig
        have Hcs : Hid (csUp (allS L) 257 = (sgUp (allS L) 257).map fun s => ((cntS (allS L) s : Nat) : Int)) := hid rfl
        have Hal : Hid (∀ x ∈ allS L, x.val ∈ sgUp (allS L) 257) := hid sg_all
        clear hz2 hW ok hbig
        generalize csUp (allS L) 257 = cs at *
        generalize sgUp (allS L) 257 = sg at *
        go_wp2_with fail
        refine HOf.out.mono ?_
        rintro e w2 ⟨g, ws, rfl, HC, HO2⟩
        have HO02 : StO w w2 := hid (HO1.out.trans HO2.out)
        clear HOf HO1 HO2
        go_wp2_with fail
        refine (signs_any HC.out.2).mono ?_
        rintro e w3 ⟨v3, rfl, HSv⟩
        have Hsgl : Hid ((sgI sg).length = sg.length) := hid (by simp [sgI])
        obtain ⟨A3, c3, rfl, HS3⟩ := HSv.out.made Hsgl.out
        obtain ⟨gs, rfl, _, _, _, _⟩ := HS3.out.put (k := 0) hzs
        have HO03 : StO w w3 := hid (HO02.out.trans HSv.out.only)
        have HC3 : Hid (CodeS w1.heap.size w3 g sg ws) := hid (HC.out.2.same HSv.out.only)
        have HRs : Hid (RdI w3 (some ⟨gs, 0, none⟩) (sgI sg)) := hid HS3.out.rd.1
        have Hws := hid HC.out.1
        have Hlen : Hid (sg.length = ws.length) := hid HC3.out.len
        have hc3 : sg.length ≤ 257 := hm257
        obtain ⟨m, hm⟩ : ∃ m, m = sg.length := ⟨_, rfl⟩
        rw [← hm] at hzs hc3 Hsgl ⊢
        have Hm := hid hm
        clear HSv HS3 HC HO02 hm hm257
        go_wp2_with fail
        go_loopw [8] (fun s wr => ∃ i : Nat, 1 ≤ i ∧ i ≤ m ∧ s = .int .i64 (i : Int) ∧ StO w3 wr) (fun s _ => m - (intOf s).toNat)
        case atStart => exact ⟨1, by omega, by omega, rfl, hid (Only.refl _ _)⟩
        case round =>
          obtain ⟨i, hi1, hi2, rfl, HO⟩ := hrel
          by_cases hp : i < m
          · have hp' : (i : Int) < (m : Int) := by omega
            obtain ⟨j, hj⟩ : ∃ j, j + 1 = i := ⟨i - 1, by omega⟩
            have hj300 : j ≤ 1000 := by omega
            have hjW := hid (wrap_sub i j hj hj300)
            have hjm : (j : Int) < (m : Int) := by omega
            have hjm2 : j < m := by omega
            obtain ⟨x1, hx1⟩ : ∃ x1 : Nat, x1 = sg.getD j 0 := ⟨_, rfl⟩
            obtain ⟨x2, hx2⟩ : ∃ x2 : Nat, x2 = sg.getD i 0 := ⟨_, rfl⟩
            obtain ⟨u1, hu1⟩ : ∃ u1, u1 = wAt ws j := ⟨_, rfl⟩
            obtain ⟨u2, hu2⟩ : ∃ u2, u2 = wAt ws i := ⟨_, rfl⟩
            have hcell : ∀ q, q < m → (sgI sg).getD q 0 = ((sg.getD q 0 : Nat) : Int) := fun q hq => by
              have := Hm.out
              simp [sgI, List.getD, show q < sg.length by omega]
            have HCell : Hid (∀ u, StO wr u → u.cell? ⟨gs, 0 + j, none⟩ = some (.int .i64 (x1 : Int)) ∧ u.cell? ⟨gs, 0 + i, none⟩ = some (.int .i64 (x2 : Int)) ∧ StO wr u) := hid fun u hu => by
              have hr := HRs.out.only (HO.out.trans hu.out) fun _ _ _ => no_
              obtain ⟨b, off, e, h1, _⟩ := hr.at (k := j) (by rw [Hsgl.out]; exact hjm2)
              obtain ⟨b', off', e', h2, _⟩ := hr.at (k := i) (by rw [Hsgl.out]; exact hp)
              injection e with e
              injection e with e1 e2 _
              injection e' with e'
              injection e' with e1' e2' _
              subst e1 e2 e1' e2'
              unfold vI at h1 h2
              rw [hcell j hjm2, ← hx1] at h1
              rw [hcell i hp, ← hx2] at h2
              exact ⟨h1, h2, hu⟩
            have hwz : ∀ q, q < m → wordI sg ws ((sg.getD q 0 : Nat) : Int) = wAt ws q := fun q hq => by
              have h1 := HC3.out.ok.2 q (by have := Hm.out; omega)
              unfold wordI isSg
              rw [if_pos (by simp only [Bool.and_eq_true, decide_eq_true_eq]; omega), Int.toNat_natCast]
              exact wordZ_at HC3.out.ok (by have := Hm.out; omega)
            have HWa : Hid (∀ u, WaS gs 0 j i x1 x2 wr u → Calls Try.prog 36 #[.pointer (some ⟨g, 0, none⟩), .int .i64 (x1 : Int)] u fun e w' => ∃ A c, e = .returned (.slice A u1.length c) ∧ Hid (RdB w' A u1) ∧ StO u w' ∧ WaS gs 0 j i x1 x2 wr w') := hid fun u hu => by
              have h := word_any (HC3.out.same (HO.out.trans hu.2.2.out)) (x1 : Int)
              rw [hx1, hwz j hjm2, ← hu1, ← hx1] at h
              refine h.mono ?_
              rintro e w' ⟨A, c, he, q1, _, q3⟩
              exact ⟨A, c, he, q1, q3, HCell.out _ (hid (hu.2.2.out.trans q3.out))⟩
            have HWb : Hid (∀ u, WaS gs 0 j i x1 x2 wr u → Calls Try.prog 36 #[.pointer (some ⟨g, 0, none⟩), .int .i64 (x2 : Int)] u fun e w' => ∃ A c, e = .returned (.slice A u2.length c) ∧ Hid (RdB w' A u2) ∧ StO u w' ∧ WaS gs 0 j i x1 x2 wr w') := hid fun u hu => by
              have h := word_any (HC3.out.same (HO.out.trans hu.2.2.out)) (x2 : Int)
              rw [hx2, hwz i hp, ← hu2, ← hx2] at h
              refine h.mono ?_
              rintro e w' ⟨A, c, he, q1, _, q3⟩
              exact ⟨A, c, he, q1, q3, HCell.out _ (hid (hu.2.2.out.trans q3.out))⟩
            have hahd : Ahd u1 u2 := by
              have := Hws.out.apart j i (by omega) (by have := Hlen.out; have := Hm.out; omega)
              rw [hu1, hu2]
              exact this
            have hlong1 := HC3.out.long j (by have := Hlen.out; have := Hm.out; omega)
            have hlong2 := HC3.out.long i (by have := Hlen.out; have := Hm.out; omega)
            rw [← hu1] at hlong1
            rw [← hu2] at hlong2
            have HCmp : Hid (∀ W B1 B2 k1 k2, RdB W B1 u1 → RdB W B2 u2 → Calls Try.prog 33 #[.slice B1 u1.length k1, .slice B2 u2.length k2] W fun e w' => e = .returned (.int .i64 (-1)) ∧ StO W w') := hid fun W B1 B2 k1 k2 h1 h2 => by
              have := compare_any (c1 := k1) (c2 := k2) h1 h2 rfl rfl (by omega) (by omega)
              rwa [cmpB_ahd hahd] at this
            have HBeg : Hid (∀ W B1 B2 k1 k2, RdB W B1 u1 → RdB W B2 u2 → Calls Try.prog 34 #[.slice B1 u1.length k1, .slice B2 u2.length k2] W fun e w' => e = .returned (.bool false) ∧ StO W w') := hid fun W B1 B2 k1 k2 h1 h2 => by
              have := begins_any (c1 := k1) (c2 := k2) h1 h2 rfl rfl (by omega) (by omega)
              rwa [begB_ahd hahd] at this
            have HLn : Hid (∀ W, StO w3 W → Calls Try.prog 37 #[.pointer (some ⟨g, 0, none⟩)] W fun e w' => ∃ gl cl, e = .returned (.slice (some ⟨gl, 0, none⟩) m cl) ∧ w'.cell? ⟨gl, j, none⟩ = some (.int .i64 ((u1.length : Nat) : Int)) ∧ StO W w') := hid fun W hW => by
              refine (lengthsC_any (HC3.out.same hW.out)).mono ?_
              rintro e w' ⟨v, he, hO⟩
              obtain ⟨Al, cl, rfl, hO2⟩ := hO.out.made (n := m) (by rw [lens_len, ← Hlen.out, Hm.out])
              obtain ⟨gl, rfl, hcl, _, _, _⟩ := hO2.out.put (k := j) hjm2
              refine ⟨gl, cl, he, ?_, hid hO2.out.only⟩
              rw [hcl, hu1]
              simp [lens, List.getD, show j < ws.length by have := Hlen.out; have := Hm.out; omega]
            obtain ⟨ca, cb, HS0⟩ := HCell.out wr (hid (Only.refl _ _))
            rw [Nat.zero_add] at ca cb
            have HCell0 : Hid (∀ u, StO wr u → u.cell? ⟨gs, j, none⟩ = some (.int .i64 (x1 : Int)) ∧ u.cell? ⟨gs, i, none⟩ = some (.int .i64 (x2 : Int)) ∧ StO wr u) := hid fun u hu => by
              have := HCell.out u hu
              rw [Nat.zero_add, Nat.zero_add] at this
              exact this
            rw [show WaS gs 0 j i x1 x2 wr = fun u => u.cell? ⟨gs, j, none⟩ = some (.int .i64 (x1 : Int)) ∧ u.cell? ⟨gs, i, none⟩ = some (.int .i64 (x2 : Int)) ∧ StO wr u from funext fun u => by simp [WaS]] at HWa HWb
            clear hx1 hx2 hu1 hu2 hcell hwz hahd hlong1 hlong2 HCell hj
            obtain ⟨hjw, hjw2⟩ := hjW.out
            go_wp2_with fail
            go_region_held3 (fun u => u.cell? ⟨gs, j, none⟩ = some (.int .i64 (x1 : Int)) ∧ u.cell? ⟨gs, i, none⟩ = some (.int .i64 (x2 : Int)) ∧ StO wr u)
              (first | with_reducible assumption | with_reducible exact HCell0.out _ (hid (Only.refl _ _)) | with_reducible exact HCell0.out _ (hid (Only.refl _ _).drew))
              (first
                | (go_at_call 36; (with_reducible show Calls _ _ #[_, Value.int _ (x1 : Int)] _ _); (with_reducible refine (HWa.out _ (by with_reducible assumption)).mono ?_); rintro e wa ⟨B1, k1, rfl, HR1, HOa, HSa⟩)
                | (go_at_call 36; (with_reducible show Calls _ _ #[_, Value.int _ (x2 : Int)] _ _); (with_reducible refine (HWb.out _ (by with_reducible assumption)).mono ?_); rintro e wb ⟨B2, k2, rfl, HR2, HOb, HSb⟩))
            have HOb3 : StO w3 wb := hid (HO.out.trans HSb.2.2.out)
            have HR1b : Hid (RdB wb B1 u1) := hid (HR1.out.only HOb.out fun _ _ _ => no_)
            clear HSa HSb HOa HOb HR1 HWa HWb HCell0 ca cb HS0 HO
            go_wp2_with fail
            refine (HCmp.out _ _ _ _ _ HR1b.out HR2.out).mono ?_
            rintro e w5 ⟨rfl, HO5⟩
            have HR15 : Hid (RdB w5 B1 u1) := hid (HR1b.out.only HO5.out fun _ _ _ => no_)
            have HR25 : Hid (RdB w5 B2 u2) := hid (HR2.out.only HO5.out fun _ _ _ => no_)
            have HO53 : StO w3 w5 := hid (HOb3.out.trans HO5.out)
            clear HR1b HR2 HOb3 HO5 HCmp
            go_wp2_with fail
            refine (HBeg.out _ _ _ _ _ HR15.out HR25.out).mono ?_
            rintro e w6 ⟨rfl, HO6⟩
            have HO63 : StO w3 w6 := hid (HO53.out.trans HO6.out)
            clear HR15 HR25 HO53 HO6 HBeg
            go_wp2_with fail
            refine (HLn.out _ HO63).mono ?_
            rintro e w7 ⟨gl, cl, rfl, ccl, HO7⟩
            have HO73 : StO w3 w7 := hid (HO63.out.trans HO7.out)
            clear HO63 HO7 HLn
            go_wp2_with fail
            clear hjw hjw2
            go_roundw
            case rel => exact ⟨i + 1, by omega, by omega, by go_num, HO73⟩
            case measure => simp [intOf]; omega
          · obtain rfl : i = m := by omega
            have HRsw : Hid (RdI wr (some ⟨gs, 0, none⟩) (sgI sg)) := hid (HRs.out.only HO.out fun _ _ _ => no_)
            have HOw : StO w wr := hid (HO03.out.trans HO.out)
            have HCw : Hid (CodeS w1.heap.size wr g sg ws) := hid (HC3.out.same HO.out)
            have hare := sgI_are Hok.out
            by_cases hf : i = n1 ∧ Fit ls
            · have hfit := hf.2
              have hin := hf.1
              have HMk : Hid (Calls Try.prog 14 #[.slice (some ⟨gs, 0, none⟩) i c3, .slice A1 n1 c1] wr fun e w' => ∃ (g2 : Nat) (ws2 : List (List Bool)), e = .returned (.tuple #[.pointer (some ⟨g2, 0, none⟩), .int .i64 0]) ∧ Hid (WordsOf ls ws2 ∧ CodeS wr.heap.size w' g2 sg ws2) ∧ StO wr w') := hid (by
                have hll : (sgI sg).length = ls.length := by have := Hn1.out; have := Hsgl.out; omega
                have h := make_ok (n := i) (c1 := c3) (c2 := c1) HRsw.out (HRl.out _ HOw) HIi.out Hsgl.out.symm hll (by have := Hn1.out; omega) hare hfit
                rw [natS_sgI] at h
                rw [← hin]
                refine h.mono ?_
                rintro e w' ⟨g2, ws2, he, hH, ho⟩
                obtain ⟨q1, q2, q3⟩ := hH.out
                exact ⟨g2, ws2, he, hid ⟨q1, CodeS.of q1 hfit q3 Hok.out (by rw [← hll]; simp [sgI])⟩, ho⟩)
              have HFit := hid hfit
              have Hin := hid hin
              clear hf hfit hin hare
              go_wp2_with fail
              refine HMk.out.mono ?_
              rintro e w4 ⟨g2, ws2, rfl, HD, HO4⟩
              have HO04 : StO w w4 := hid (HOw.out.trans HO4.out)
              have HC4 : Hid (CodeS w1.heap.size w4 g sg ws) := hid (HCw.out.same HO4.out)
              have HD4 := hid HD.out.2
              have Hws2 := hid HD.out.1
              clear HMk HCw HRsw HO HRs HC3 HO03 HD
              go_wp2_with fail
              have HLc : Hid (∀ u, StO w4 u → ∀ k, k < n → Calls Try.prog 38 #[.pointer (some ⟨g, 0, none⟩), .string (strAt L k)] u fun e w' => e = .returned (.tuple #[.int .i64 (((bitsT sg ws (sgT (strAt L k))).length : Nat) : Int), .int .i64 0]) ∧ StO u w') := hid fun u hu k hk => by
                have h := long_any (s := strAt L k) (HC4.out.same hu.out) (by have := str_len (L := L) (k := k) (by have := Hn.out; omega); have := Hbig.out; omega)
                have ho : okT sg (sgT (strAt L k)) = true := okT_all fun x hx => Hal.out x (by
                  have e := allS_take (L := L) (k := k) (by have := Hn.out; omega)
                  have hx2 : x ∈ allS (L.take (k + 1)) := by rw [e]; exact List.mem_append_right _ hx
                  unfold allS at hx2 ⊢
                  obtain ⟨s, hs, hxs⟩ := List.mem_flatMap.1 hx2
                  exact List.mem_flatMap.2 ⟨s, List.mem_of_mem_take hs, hxs⟩)
                unfold LongE at h
                rwa [if_pos ho] at h
              have HLd : Hid (∀ u, StO w4 u → ∀ k, k < n → Calls Try.prog 38 #[.pointer (some ⟨g2, 0, none⟩), .string (strAt L k)] u fun e w' => e = .returned (.tuple #[.int .i64 (((bitsT sg ws2 (sgT (strAt L k))).length : Nat) : Int), .int .i64 0]) ∧ StO u w') := hid fun u hu k hk => by
                have h := long_any (s := strAt L k) (HD4.out.same hu.out) (by have := str_len (L := L) (k := k) (by have := Hn.out; omega); have := Hbig.out; omega)
                have ho : okT sg (sgT (strAt L k)) = true := okT_all fun x hx => Hal.out x (by
                  have e := allS_take (L := L) (k := k) (by have := Hn.out; omega)
                  have hx2 : x ∈ allS (L.take (k + 1)) := by rw [e]; exact List.mem_append_right _ hx
                  unfold allS at hx2 ⊢
                  obtain ⟨s, hs, hxs⟩ := List.mem_flatMap.1 hx2
                  exact List.mem_flatMap.2 ⟨s, List.mem_of_mem_take hs, hxs⟩)
                unfold LongE at h
                rwa [if_pos ho] at h
              have hst : ∀ (W : List (List Bool)) k, k < n → (bitsT sg W (allS (L.take (k + 1)))).length = (bitsT sg W (allS (L.take k))).length + (bitsT sg W (sgT (strAt L k))).length := fun W k hk => by
                rw [allS_take (by have := Hn.out; omega)]
                simp [bitsT]
              have hbd : ∀ (W : List (List Bool)) (u : World) (g0 B0 : Nat), CodeS B0 u g0 sg W → ∀ k, (bitsT sg W (allS (L.take k))).length ≤ 153600 := fun W u g0 B0 h k => by
                have h1 := bitsT_len h (allS (L.take k))
                have h2 := allS_len (L := L) k
                have := Hbig.out
                omega
              have HSt := hid hst
              have HB1 := hid (hbd ws w4 g w1.heap.size HC4.out)
              have HB2 := hid (hbd ws2 w4 g2 wr.heap.size HD4.out)
              have HFin : Hid ((((bitsT sg ws (allS (L.take n))).length : Nat) : Int) ≤ (((bitsT sg ws2 (allS (L.take n))).length : Nat) : Int)) := hid (by
                have ht : L.take n = L := by rw [Hn.out, List.take_length]
                rw [ht, bits_costL Hws.out Hok.out HC4.out.len Hal.out, bits_costL Hws2.out Hok.out HD4.out.len Hal.out, ← Hcs.out]
                refine bestL_least ?_ HFit.out
                rw [Hcs.out, List.length_map, Hm.out.symm, Hin.out, Hn1.out])
              clear hst hbd
              go_loopw [13, 14, 15] (fun v u s wq => ∃ k : Nat, k ≤ n ∧ s = .int .i64 (k : Int) ∧ v = .int .i64 (((bitsT sg ws (allS (L.take k))).length : Nat) : Int) ∧ u = .int .i64 (((bitsT sg ws2 (allS (L.take k))).length : Nat) : Int) ∧ StO w4 wq) (fun _ _ s _ => n - (intOf s).toNat)
              case atStart => exact ⟨0, by omega, rfl, by simp [allS, bitsT], by simp [allS, bitsT], hid (Only.refl _ _)⟩
              case round =>
                obtain ⟨k, hk, rfl, rfl, rfl, HQ⟩ := hrel
                by_cases hpk : k < n
                · have hpk' : (k : Int) < (n : Int) := by omega
                  have HTx := fun (u : World) (hu : StO w4 u) => (HLs.out u (hid (HO04.out.trans hu.out))).at (k := k) (by have := Hn.out; omega)
                  obtain ⟨b, off, rfl, hck, _⟩ := HTx wr HQ
                  have HCk : Hid (∀ u, StO w4 u → u.cell? ⟨b, off + k, none⟩ = some (.string (strAt L k))) := hid fun u hu => by
                    obtain ⟨b', off', e', h', _⟩ := HTx u hu
                    injection e' with e'
                    injection e' with e1 e2 _
                    subst e1 e2
                    exact h'
                  have hck2 := HCk.out wr HQ
                  have HCa := hid fun u hu => HLc.out u hu k hpk
                  have HCb := hid fun u hu => HLd.out u hu k hpk
                  have e1 := HSt.out ws k hpk
                  have e2 := HSt.out ws2 k hpk
                  have b1 := HB1.out (k + 1)
                  have b2 := HB2.out (k + 1)
                  rw [e1] at b1
                  rw [e2] at b2
                  have E1 := hid e1
                  have E2 := hid e2
                  clear HTx hck e1 e2
                  generalize (bitsT sg ws (sgT (strAt L k))).length = q1 at *
                  generalize (bitsT sg ws2 (sgT (strAt L k))).length = q2 at *
                  generalize (bitsT sg ws (allS (L.take k))).length = p1 at *
                  generalize (bitsT sg ws2 (allS (L.take k))).length = p2 at *
                  generalize strAt L k = st at *
                  have hwa : IntKind.i64.wrap ((p1 : Int) + (q1 : Int)) = (p1 : Int) + (q1 : Int) := wrap_add2 p1 q1 (by omega)
                  have hwb : IntKind.i64.wrap ((p2 : Int) + (q2 : Int)) = (p2 : Int) + (q2 : Int) := wrap_add2 p2 q2 (by omega)
                  go_wp2_with fail
                  refine (HCa.out _ HQ).mono ?_
                  rintro e w5 ⟨rfl, HO5⟩
                  have HQ5 : StO w4 w5 := hid (HQ.out.trans HO5.out)
                  have hck5 := HCk.out w5 HQ5
                  clear HO5 hck2
                  go_wp2_with fail
                  refine (HCb.out _ HQ5).mono ?_
                  rintro e w6 ⟨rfl, HO6⟩
                  have HQ6 : StO w4 w6 := hid (HQ5.out.trans HO6.out)
                  clear HO6 hck5 HQ5 HQ
                  go_wp2_with fail
                  have EE1 : Hid (((p1 : Int) + (q1 : Int)) = (((bitsT sg ws (allS (L.take (k + 1)))).length : Nat) : Int)) := hid (by rw [E1.out]; omega)
                  have EE2 : Hid (((p2 : Int) + (q2 : Int)) = (((bitsT sg ws2 (allS (L.take (k + 1)))).length : Nat) : Int)) := hid (by rw [E2.out]; omega)
                  clear hwa hwb b1 b2
                  go_roundw
                  case rel => exact ⟨k + 1, by omega, by go_num, by rw [EE1.out], by rw [EE2.out], HQ6⟩
                  case measure => simp [intOf]; omega
                · obtain rfl : k = n := by omega
                  have hfin := HFin.out
                  have HLn : Hid (Calls Try.prog 37 #[.pointer (some ⟨g2, 0, none⟩)] wr fun e w' => ∃ A2 c2, e = .returned (.slice A2 n1 c2) ∧ Hid (RdI w' A2 ls) ∧ StO wr w') := hid (by
                    refine (lengthsC_any (HD4.out.same HQ.out)).mono ?_
                    rintro e w' ⟨v, he, hO⟩
                    have hls := Hws2.out.lens
                    rw [hls] at hO
                    obtain ⟨A2, c2, rfl, hO2⟩ := hO.out.made Hn1.out.symm
                    exact ⟨A2, c2, he, hid hO2.out.rd.1, hid hO2.out.only⟩)
                  have HSi : Hid (∀ u A2 c2, RdI u A2 ls → RdI u A1 ls → Calls Try.prog 39 #[.slice A2 n1 c2, .slice A1 n1 c1] u fun e w' => e = .returned (.bool true) ∧ StO u w') := hid fun u A2 c2 h1 h2 => by
                    have := same_rd (c1 := c2) (c2 := c1) h1 h2 (by have := Hn1.out; omega)
                    rwa [← Hn1.out] at this
                  have HQw : StO w wr := hid (HO04.out.trans HQ.out)
                  generalize (bitsT sg ws (allS (L.take k))).length = p1 at *
                  generalize (bitsT sg ws2 (allS (L.take k))).length = p2 at *
                  go_wp2_with fail
                  refine HLn.out.mono ?_
                  rintro e w5 ⟨A2, c2, rfl, HR5, HO5⟩
                  have HO05 : StO w w5 := hid (HQw.out.trans HO5.out)
                  clear HLn HQw
                  go_wp2_with fail
                  refine (HSi.out _ _ _ HR5.out (HRl.out _ HO05)).mono ?_
                  rintro e w6 ⟨rfl, HO6⟩
                  go_wp2_with fail
                  go_ret
                  exact ⟨rfl, HEnd.out _ (hid (HO05.out.trans HO6.out))⟩
            · have HMk : Hid (Calls Try.prog 14 #[.slice (some ⟨gs, 0, none⟩) i c3, .slice A1 n1 c1] wr (NoCodeE wr 2)) := hid (make_bad HRsw.out (HRl.out _ HOw) HIi.out Hsgl.out.symm Hn1.out (by omega) (by omega) fun h => hf ⟨h.1, h.2.2⟩)
              clear hf hare
              go_wp2_with fail
              refine HMk.out.mono ?_
              rintro e w4 ⟨rfl, HO4⟩
              go_wp2_with fail
              go_ret
              exact ⟨rfl, HEnd.out _ (hid (HOw.out.trans HO4.out))⟩
end Go.Proofs.Ytmbcinbkijnblaa

namespace Go.Proofs.Ytmbcinbkijnblaa
open Go.ChangeShapes Go.WideShapes Go.ChangeAt Go.RowKit Go.Deep
theorem cellsStr : Try.prog.cellsOf 9 = 1 := by kernel_rfl
theorem weightsAll_mem {H : Type} {P : Program} {e : TypeId} {x : Nat} : ∀ {l : List (DataW H)} {d : DataW H}, d ∈ l → x ∈ d.weights P e → x ∈ DataW.weightsAll P e l
  | [], _, h, _ => by cases h
  | a :: r, d, h, hx => by
    simp only [DataW.weightsAll, List.mem_append]
    rcases List.mem_cons.1 h with rfl | h
    · exact .inl hx
    · exact .inr (weightsAll_mem h hx)
theorem weightsOf {H : Type} {P : Program} {ts : List TypeId} {ds : List (DataW H)} (h : (DataW.weightsEach P ts ds).all (· ≤ reachBytes) = true) {j : Nat} {t : TypeId} {d : DataW H} (ht : ts[j]? = some t) (hd : ds[j]? = some d) : ∀ x ∈ d.weights P t, x ≤ reachBytes := fun x hx => by
  have := List.all_eq_true.1 h _ (DataW.weights_mem_each ht hd x hx)
  simpa using this
section
variable {H : Type} {enc : TypeId × Value → H} {W : World} {sp : Nat → Bool} {hd : Bool} {A : Option Addr} {len cap : Nat} {d : DataW H} {p : List MemPlace}
theorem capOf {t e : TypeId} (ht : Try.prog.underlying t = some (.slice e)) (he : Try.prog.cellsOf e = 1) (h : DataW.Trod enc Try.prog W 0 sp hd t (.slice A len cap) d p) : len ≤ cap := by
  obtain ⟨fuel, hf⟩ := h
  rcases open_slice1 ht he hf with ⟨hcs, hx⟩ | ⟨a, l, c, m, n, V, D, Pl, hcs, _, hl, _⟩
  · simp [Value.cells] at hcs
    omega
  · simp [Value.cells] at hcs
    omega
theorem texts_in (h : DataW.Trod enc Try.prog W 0 sp hd 40 (.slice A len cap) d p) :
    SliceOf d len ∧ len ≤ maxLen ∧ ((∀ x ∈ d.weights Try.prog 40, x ≤ reachBytes) → ∃ L : List ByteArray, L.length = len ∧ RdS W A L ∧ ∀ k, (strAt L k).size ≤ 140737488355328) := by
  obtain ⟨fuel, hf⟩ := h
  rcases open_strs Try.underlying40 Try.underlying9 cellsStr hf with ⟨hcs, hx⟩ | ⟨a, l, c, m, Sx, hcs, _, hl, hm, hmm, hx, hi⟩
  · simp [Value.cells] at hcs
    obtain ⟨rfl, rfl, rfl⟩ := hcs
    simp only [Prod.mk.injEq] at hx
    exact ⟨.inl ⟨hx.1, rfl⟩, by simp [maxLen], fun _ => ⟨[], rfl, RdV.nil _, fun j => by simp [strAt, List.getD]⟩⟩
  · simp [Value.cells] at hcs
    obtain ⟨rfl, rfl, rfl⟩ := hcs
    simp only [Prod.mk.injEq] at hx
    have hlm : len ≤ m := by rw [hmm]; split <;> omega
    refine ⟨.inr ⟨_, _, hx.1, by simp⟩, by omega, fun hw => ⟨(List.range len).map Sx, by simp, ?_, fun k => ?_⟩⟩
    · have hg : ∀ j, j < len → strAt ((List.range len).map Sx) j = Sx j := fun j hj => by simp [strAt, List.getD, hj]
      intro h0
      have h0' : 0 < len := by simpa using h0
      obtain ⟨b, off, spot⟩ := a
      have hs : spot = none := by
        have := (hi 0 (by omega)).1
        simpa [Addr.add] using World.cell?_spot this
      subst hs
      refine ⟨b, off, rfl, fun j hj => ?_⟩
      have hj' : j < len := by simpa using hj
      have h1 := (hi j (by omega)).1
      have ha : (⟨b, off, none⟩ : Addr).add j = ⟨b, off + j, none⟩ := by
        unfold Addr.add
        by_cases e : j = 0 <;> simp [e]
      rw [ha] at h1
      rw [h1, vS, hg j hj']
    · by_cases hk : k < len
      · have e : strAt ((List.range len).map Sx) k = Sx k := by simp [strAt, List.getD, hk]
        rw [e]
        have h2 := hw (Sx k).size (by
          rw [hx.1]
          simp only [DataW.weights, Try.underlying40, List.mem_cons, List.mem_append]
          refine .inr (.inl (weightsAll_mem (d := .lit (.string (Sx k).data.toList)) (List.mem_map.2 ⟨k, List.mem_range.2 hk, rfl⟩) ?_))
          simp [DataW.weights]
          try rfl)
        have h3 := reachBytes_lt
        omega
      · simp [strAt, List.getD, hk]
end
end Go.Proofs.Ytmbcinbkijnblaa

namespace Go.Proofs.Ytmbcinbkijnblaa.alphaWordsLaw
open Go.ChangeShapes Go.WideShapes Go.ChangeAt Go.RowKit

set_option maxRecDepth 100000 in
theorem contract (H : Type) (enc : TypeId × Value → H) (W : World) (base : Nat) (args : Array Value) (ds gs : List (DataW H)) (before : List MemPlace)
    (hval : ∀ (j : Nat) t v, Try.f7.params[j]? = some t → args[j]? = some v → Value.okWide Try.prog W .any base t v)
    (hW : DataW.Whole enc Try.prog Try.f7.params.toList Rows.alphaWordsSpec.vars false W args.toList ds gs before) (hsz0 : (DataW.weightsEach Try.prog (Try.f7.params.toList ++ Rows.alphaWordsSpec.plain.varTypes Try.prog) (ds ++ gs)).all (· ≤ reachBytes) = true) :
    Calls Try.prog 7 args W fun e W' => ∃ v, e = .returned v ∧ Rows.alphaWordsSpec.post enc Try.prog Try.f7 false true false false W args v W' := by
  have hW' := hW
  obtain ⟨p, q, hA0, hV, rfl, hfz, hnd⟩ := hW
  have hA : DataW.TrodAll enc Try.prog W 0 (fun _ => true) true Try.f7.params.toList args.toList ds p := hA0
  have hsz := hsz0
  rw [Try.params7] at hA hval hsz
  obtain ⟨v0, vs0, d0, ds0, p0, q0, hargs, rfl, rfl, h0, r0⟩ := trodAll_cons hA
  obtain ⟨v1, vs1, d1, ds1, p1, q1, rfl, rfl, rfl, h1, r1⟩ := trodAll_cons r0
  obtain ⟨rfl, rfl, rfl⟩ := trodAll_nil r1
  obtain rfl : args = #[v0, v1] := by cases args; simp_all
  obtain ⟨rfl, rfl⟩ := trodVars_none hV
  obtain ⟨a0, len0, cap0, rfl⟩ := okWide_slice Try.underlying40 (hval 0 40 v0 rfl rfl)
  have k0 := h0
  have lt0 : ∀ x ∈ p0, x.block < W.heap.size := by obtain ⟨m, hm⟩ := k0; exact DataW.trod_lt m _ _ _ hm
  have in0 := texts_in h0
  have room0 := room_of hsz (j := 0) rfl rfl Try.underlying40 (of_decide_eq_true (by kernel_rfl)) in0.1
  obtain ⟨a1, len1, cap1, rfl⟩ := okWide_slice Try.underlying22 (hval 1 22 v1 rfl rfl)
  have k1 := h1
  have lt1 : ∀ x ∈ p1, x.block < W.heap.size := by obtain ⟨m, hm⟩ := k1; exact DataW.trod_lt m _ _ _ hm
  have in1 := ints_in h1
  have room1 := room_of hsz (j := 1) rfl rfl Try.underlying22 (of_decide_eq_true (by kernel_rfl)) in1.1
  clear hA0 hsz0
  have walk : Calls Try.prog 7 #[.slice a0 len0 cap0, .slice a1 len1 cap1] W fun e w' => e = .returned (.bool true) ∧ Hid (Below W.heap.size W w') := by
    obtain ⟨_, _, hT0⟩ := in0
    obtain ⟨L, hL, hR, hS⟩ := hT0 (weightsOf hsz (j := 0) rfl rfl)
    obtain ⟨_, hm1, hA1, ls, hl1, hc, hci⟩ := in1
    have hcap := capOf Try.underlying22 cellsInt h1
    exact alphaWords_any hR hL.symm hc hl1.symm hci hcap room0 room1 (fun k _ => hS k)
  refine walk.mono fun e W' ⟨he, hbel⟩ => ?_
  subst he
  have bel := hbel.out
  exact ⟨_, rfl, _, _, _, [], _, [], hW', trodAll_mk1 (shut_bool Try.underlying4 _), (trodAll_cons_mk (Below.trod laidOut (by kernel_rfl) (of_decide_eq_true (by kernel_rfl)) k0 bel lt0) (trodAll_cons_mk (Below.trod laidOut (by kernel_rfl) (of_decide_eq_true (by kernel_rfl)) k1 bel lt1) trodAll_mk0)), rfl, bel.frame _, fun h => by cases h⟩

theorem laid_met (os : Os) : laidMet Try.prog Rows.alphaWordsRow.laid ((laidWorld os).forCall (fun _ _ => 0) ⟨#[], #[.slice none 0 0, .slice none 0 0], []⟩).memory :=
  ⟨[], rfl, List.nodup_nil, fun _ _ h => by cases h⟩
theorem reads (os : Os) {H : Type} (enc : TypeId × Value → H) : ∃ places, DataW.whole enc Try.prog ((laidWorld os).forCall (fun _ _ => 0) ⟨#[], #[.slice none 0 0, .slice none 0 0], []⟩).memory Try.f7.params.toList Rows.alphaWordsSpec.vars false #[Value.slice none 0 0, Value.slice none 0 0].toList 8 = some ([.nil, .nil], [], places) :=
  ⟨[], by kernel_rfl⟩

set_option maxRecDepth 100000 in
theorem lifted (os : Os) (started : os.Started) (H : Type) (enc : TypeId × Value → H) (F : Stop.Interp) :
    ReturnsInHanded {} Try.checked os 7 .any ((OpenSpec.ofChange Rows.alphaWordsSpec).preRow enc Try.prog Try.f7 Rows.alphaWordsRow.domain false Rows.alphaWordsRow.laid) (((OpenSpec.ofChange Rows.alphaWordsSpec).at F).post enc Try.prog Try.f7 false true false false) := by
  obtain ⟨places, hx⟩ := reads os enc
  refine returnsInHanded_of_row (C := Try.checked) (s := OpenSpec.ofChange Rows.alphaWordsSpec) own started (by kernel_rfl) Try.func7
    (witness_row_at (enc := enc) (C := Try.checked) false (laidWorld os) #[.slice none 0 0, .slice none 0 0] rfl (by kernel_rfl) (by kernel_rfl) (by kernel_rfl)
      (OpenSpec.preRow_of_cond 8 hx (by kernel_rfl) (fun k hk => by cases hk) (by kernel_rfl) (laid_met os))) ?_
  intro W base args ds gs before hval hW _ _ hsz _ _ _
  exact contract H enc W base args ds gs before hval hW hsz

theorem said : Rows.AlphaWordsSaid :=
  OpenClaim.holds_of_cond 7 Try.f7 rfl rfl rfl rfl rfl rfl rfl ⟨rfl, rfl, rfl, rfl, rfl⟩ rfl rfl rfl rfl rfl (by kernel_rfl) Try.func7 (by kernel_rfl)
    (of_decide_eq_true (by kernel_rfl)) (by unfold Func.isWrapper; first | (rw [if_pos (by decide +kernel)]; kernel_rfl) | (rw [if_neg (by decide +kernel)]; exact ⟨rfl, rfl⟩))
    (fun os started H enc _ F => by rw [OpenClaim.pre_eq_preRow]; exact lifted os started H enc F)

end Go.Proofs.Ytmbcinbkijnblaa.alphaWordsLaw
