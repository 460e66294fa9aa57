/- codeOf, walked. -/
import Derived.Test.YtmbcinbkijnblaaAl8
namespace Go.Proofs.Ytmbcinbkijnblaa
open Go.RowKit

theorem WsK.cells {w0 w : World} {v : Value} {xs : List Value} {ws : List (List Bool)} {n : Nat} (h : WsK w0 w v xs ws n) (hn : 0 < n) : ∃ gv cap, v = .slice (some ⟨gv, 0, none⟩) n cap ∧ n ≤ cap ∧ ∀ W, FrT TC 0 w W → ∀ k, k < n → ∃ gu, W.cell? ⟨gv, k, none⟩ = some (.slice (some ⟨gu, 0, none⟩) (wAt ws k).length (wAt ws k).length) ∧ W.rowIs gu 4 (wAt ws k).length (vB (wAt ws k)) := by
  obtain ⟨g, cap, F, hv, hge, hrow, hF, hcap, hcm⟩ := h.own.shape h.len hn
  refine ⟨g, cap, hv, hcap, fun W hW k hk => ?_⟩
  obtain ⟨gu, h1, h2⟩ := (h.wd k hk).b
  refine ⟨gu, ?_, hW.row h2 (by decide)⟩
  rw [(hW.row hrow (by decide)).cell (by omega), hF k hk, h1]
set_option maxRecDepth 10000 in
set_option maxHeartbeats 4000000 in
theorem codeOf_any {A C : Option Addr} {c1 c2 : Nat} {ls : List Int} {sg : List Nat} {ws : List (List Bool)} {w : World} (hw : WordsOf ls ws) (hsg : SgOk sg) (hlen : sg.length = ls.length) (hn : ls.length ≤ 257) (hb : ∀ i, i < ws.length → (wAt ws i).length ≤ 256)
    (hs : RdI w A (sg.map fun s => ((s : Nat) : Int))) (hl : RdI w C ls) (hc2 : ls.length ≤ c2) :
    Calls Try.prog 51 #[.slice A ls.length c1, .slice C ls.length c2] w fun e w' => ∃ g : Nat, e = .returned (.pointer (some ⟨g, 0, none⟩)) ∧ Hid (w.heap.size ≤ g ∧ IsCode w.heap.size w' g sg ws ∧ Only (fun _ => False) w w') := by
  have hlw := hw.len
  have hpos := hw.pos
  obtain ⟨b, off, rfl, hcs⟩ := hs (by rw [List.length_map]; omega)
  rw [List.length_map] at hcs
  have HSg : Hid (∀ W, FrT TC w.heap.size w W → ∀ k, k < ls.length → W.cell? ⟨b, off + k, none⟩ = some (.int .i64 ((sg.getD k 0 : Nat) : Int))) := hid fun W hW k hk => by
    have h := hcs k (by omega)
    rw [hW.cell (cell_lt h) (cell_lt h), h]
    simp [vI, List.getD, show k < sg.length by omega]
  have HWo : Hid (∀ W, StO w W → Calls Try.prog 85 #[.slice C ls.length c2] W fun e w' => ∃ v xs, e = .returned v ∧ Hid (WsK W w' v xs ws ws.length)) := hid fun W hW => wordsOf_any hw (hl.only hW.out fun _ _ _ => no_) hc2 (fun k hk => Nat.le_trans (hb k hk) (by omega)) hn
  have HLay : Hid (∀ (wr : World) (k gu : Nat) (F : Nat → Value) (P : List (List Bool)) (W : World), k < ws.length → CodK w.heap.size wr w.heap.size sg ws k F P → wr.rowIs gu 4 (wAt ws k).length (vB (wAt ws k)) → StO (wr.setCell ⟨w.heap.size, 2 + sg.getD k 0, none⟩ (.slice (some ⟨gu, 0, none⟩) (wAt ws k).length (wAt ws k).length)) W → Calls Try.prog 86 #[.pointer (some ⟨w.heap.size, 0, none⟩), .int .i64 ((sg.getD k 0 : Nat) : Int), .slice (some ⟨gu, 0, none⟩) (wAt ws k).length (wAt ws k).length] W fun e w' => ∃ F' P', e = .returned (.tuple #[]) ∧ Hid (CodK w.heap.size w' w.heap.size sg ws (k + 1) F' P' ∧ FrT TC w.heap.size wr w')) := hid fun wr k gu F P W hk hC hr hW => lay_any hw hsg (by omega) (by omega) hk hb hC hr hW
  have HK0 : Hid (∀ W, StO (w.alloc (.cells ((Try.zeroCells107).setIfInBounds 1 (.pointer (some ⟨w.heap.size, 0, none⟩))) 107)) W → CodK w.heap.size W w.heap.size sg ws 0 (zF w.heap.size) []) := hid fun W hW =>
    ⟨hW.out.row (zero_row w _ rfl) no_, Nat.le_refl _, fun _ => rfl, fun h => absurd h (Nat.lt_irrefl 0), rfl, fun i hi => absurd hi (Nat.not_lt_zero i), fun s hs _ => by unfold zF; rw [if_neg (by omega)]⟩
  have HO0 : StO w (w.alloc (.cells ((Try.zeroCells107).setIfInBounds 1 (.pointer (some ⟨w.heap.size, 0, none⟩))) 107)) := hid ((Only.refl _ w).alloc _)
  have HSl : Hid (∀ k, k < ls.length → sg.getD k 0 < 257) := hid fun k hk => hsg.2 k (by omega)
  have Hw := hid hw
  obtain ⟨n, hnn⟩ : ∃ n, n = ls.length := ⟨_, rfl⟩
  rw [← hnn] at hn hc2 HSg HWo HSl hlw ⊢
  have Hnn := hid hnn
  have Hlw := hid hlw
  have hn1 : 0 < n := by omega
  clear hw hsg hlen hb hs hl hcs hnn hlw hpos
  go_enter Try.func51, Try.ntmps51
  go_wp2_with fail
  generalize (Try.zeroCells107).setIfInBounds 1 (.pointer (some ⟨w.heap.size, 0, none⟩)) = zc at *
  refine (HWo.out _ HO0).mono ?_
  rintro e w2 ⟨v, xs, rfl, HWs⟩
  rw [Hlw.out] at HWs
  obtain ⟨gv, cap, rfl, hcap, hcells⟩ := HWs.out.cells hn1
  have HCl := hid hcells
  have HK := hid (HK0.out w2 (hid HWs.out.only))
  have HO2 : StO w w2 := hid (HO0.out.trans HWs.out.only)
  clear hcells HK0 HO0 HWo HWs
  generalize Try.zeroCells107 = zz at *
  have HFw : Hid (∀ W, FrT TC w.heap.size w2 W → FrT TC w.heap.size w W) := hid fun W h => (FrT.of_only HO2.out).trans h
  have HFo : Hid (∀ W, FrT TC w.heap.size w2 W → Only (fun _ => False) w W) := hid fun W h => Only.of_below (((FrT.of_only (T := TC) (B := w.heap.size) HO2.out).trans h).below (Nat.le_refl _)) _
  have hg1 : w.heap.size < w2.heap.size := HK.out.row.lt
  generalize hBB : w.heap.size = B at *
  have HBB := hid hBB
  clear hBB
  go_wp2_with fail
  go_loopw [17] (fun s wr => ∃ (k : Nat) (F : Nat → Value) (P : List (List Bool)), k ≤ n ∧ s = .int .i64 (k : Int) ∧ Hid (CodK B wr B sg ws k F P) ∧ Hid (FrT TC B w2 wr)) (fun s _ => n - (intOf s).toNat)
  case atStart => exact ⟨0, _, _, by omega, rfl, HK, hid (FrT.refl _ _ _)⟩
  case round =>
    obtain ⟨k, F, P, hk, rfl, HC, HF⟩ := hrel
    clear HK
    by_cases hp : k < n
    · have hp' : (k : Int) < (n : Int) := by omega
      obtain ⟨gu, cw, hru⟩ := HCl.out wr (HF.out.mono (fun t ht => ht) (Nat.zero_le _)) k hp
      have HLk := hid fun W hW => HLay.out wr k gu F P W (by rw [Hlw.out]; exact hp) HC.out hru hW
      have cs := HSg.out wr (HFw.out _ HF.out) k hp
      have HSk := hid fun W hW => HSg.out W (HFw.out _ hW) k hp
      have hs7 := HSl.out k hp
      have hrow := HC.out.row
      have cg := hrow.cell (i := 2 + sg.getD k 0) (by omega)
      have fg := hrow.frozen (2 + sg.getD k 0)
      have HGe := hid HC.out.ge
      have HTy : Hid (TyAt wr B TC) := hid (TyAt.of_row hrow (.inl rfl))
      generalize (wAt ws k).length = lk at *
      generalize sg.getD k 0 = s at *
      generalize F (2 + s) = vold at *
      have HF1 : Hid (FrT TC B w2 (wr.setCell ⟨B, 2 + s, none⟩ (.slice (some ⟨gu, 0, none⟩) lk lk)).drew) := hid ((HF.out.trans ((FrT.refl _ _ wr).setCell (p := ⟨B, 2 + s, none⟩) HGe.out HTy.out _)).drew)
      have cs1 := HSk.out _ HF1.out
      have hs7' : (s : Int) < 257 := by omega
      clear HC hrow hru
      go_wp2_with fail
      go_region_held3 (fun w' => w'.cell? ⟨b, off + k, none⟩ = some (.int .i64 (s : Int))) (first | assumption) (fail)
      have HLk2 : Hid (∀ W, StO (wr.setCell ⟨B, 2 + s, none⟩ (.slice (some ⟨gu, 0, none⟩) lk lk)).drew W → Calls Try.prog 86 #[.pointer (some ⟨B, 0, none⟩), .int .i64 (s : Int), .slice (some ⟨gu, 0, none⟩) lk lk] W fun e w' => ∃ F' P', e = .returned (.tuple #[]) ∧ Hid (CodK B w' B sg ws (k + 1) F' P' ∧ FrT TC B w2 w')) := hid fun W hW => (HLk.out W (hid ((Only.refl _ _).drew.trans hW.out))).mono fun e w' ⟨F', P', h1, h2⟩ => ⟨F', P', h1, hid ⟨h2.out.1, HF.out.trans h2.out.2⟩⟩
      have cs2 := HSk.out _ HF1.out.drew
      clear cs cg fg HLk HGe HTy cw
      generalize (wr.setCell ⟨B, 2 + s, none⟩ (.slice (some ⟨gu, 0, none⟩) lk lk)).drew = w5 at *
      go_wp2_with fail
      go_region_held3 (fun w' => w'.cell? ⟨b, off + k, none⟩ = some (.int .i64 (s : Int))) (first | assumption | exact HSk.out _ HC6.out.2)
        (first
          | (go_at_call 86; refine (HLk2.out _ (hid (Only.refl _ _).drew)).mono ?_; rintro e w6 ⟨F6, P6, rfl, HC6⟩))
      have HC7 := hid HC6.out.1
      have HF7 := hid HC6.out.2
      clear HC6 HLk2 cs1 cs2 HF1
      go_wp2_with fail
      go_roundw
      case rel => exact ⟨k + 1, F6, P6, by omega, by go_num, HC7, HF7⟩
      case measure => simp [intOf]; omega
    · obtain rfl : k = n := by omega
      go_wp2_with fail
      go_ret
      rw [HBB.out]
      exact ⟨B, rfl, hid ⟨Nat.le_refl _, ⟨F, P, by rw [Hlw.out]; exact HC.out⟩, HFo.out _ HF.out⟩⟩
end Go.Proofs.Ytmbcinbkijnblaa
