/- The words of lengths. -/
import Derived.Test.YtmbcinbkijnblaaAl3
import Derived.Test.YtmbcinbkijnblaaFr
namespace Go.Proofs.Ytmbcinbkijnblaa
open Go.RowKit

/-- A row of values of one cell that is the call's own. -/
structure OwG (e : TypeId) (w0 w : World) (v : Value) (xs : List Value) : Prop where
  own : w.ownsRow w0.heap.size e 1 v xs.length xs
  ge : w0.heap.size ≤ w.heap.size
theorem OwG.same {e : TypeId} {w0 w w' : World} {v : Value} {xs : List Value} (h : OwG e w0 w v xs) (ho : Only (fun _ => False) w w') : OwG e w0 w' v xs := ⟨own_of_block h.own fun g _ hg => ho.block g hg no_, Nat.le_trans h.ge ho.size⟩
theorem OwG.shape {e : TypeId} {w0 w : World} {v : Value} {xs : List Value} {n : Nat} (h : OwG e w0 w v xs) (hl : xs.length = n) (hn : 0 < n) : ∃ g cap F, v = .slice (some ⟨g, 0, none⟩) n cap ∧ w0.heap.size ≤ g ∧ w.rowIs g e cap F ∧ (∀ j, j < n → F j = xs.getD j undef) ∧ n ≤ cap ∧ cap ≤ maxLen := by
  subst hl
  rcases h.own.2 with ⟨rfl, h0⟩ | ⟨g, cap, cur, rfl, hge, hh, hle, hcm, hsz, ht⟩
  · omega
  · refine ⟨g, cap, fun j => cur.getD j undef, rfl, hge, ⟨cur, hh, by rw [hsz, Nat.mul_one], fun i hi => ?_⟩, fun j hj => ?_, hle, hcm⟩
    · have : i < cur.size := by rw [hsz]; omega
      simp [Array.getD, this]
    · have h1 : j < cur.size := by rw [hsz]; omega
      have h2 : (cur.toList.take (xs.length * 1))[j]? = xs[j]? := by rw [ht]
      rw [List.getElem?_take_of_lt (by omega)] at h2
      simp [Array.getD, h1, List.getD, ← h2]
theorem cell_one (w u : World) (b : Nat) (x : Value) (e : TypeId) (hb : b = u.heap.size) (hw : w = u.alloc (.cells #[x] e)) : ∀ j y, [x][j]? = some y → w.cell? ((⟨b, 0, none⟩ : Addr).add j) = some y := by
  subst hb
  subst hw
  intro j y hj
  cases j with
  | zero => simp at hj; subst hj; simp [Addr.add]
  | succ j => simp at hj
theorem wpList_addV {ops : Array Oper} {rest : List Oper} {o : Oper} {a : Act} {Q : Exit → Act → World → Prop} (w0 w : World) (t e : TypeId) (z : Value) (bytes : Nat) (ht : Try.prog.underlying t = some (.slice e)) (hinfo : (Try.prog.info? e).map (fun i => (i.zero, i.size, i.bytes)) = some (some z, 1, bytes)) (hby : bytes ≤ 100)
    (hz1 : z.cells = #[z]) (hgd : o.guard = none) (s x : Operand) (hop : o.op = Op.call { callee := Callee.builtin Builtin.append, args := #[s, x], argTypes := #[t, t] })
    (v : Value) (xs : List Value) (hs : a.eval s = v) (h : Hid (OwG e w0 w v xs)) (y : Value) (hy : y.oneCell' = true) (b c : Nat) (hx : a.eval x = .slice (some ⟨b, 0, none⟩) 1 c) (hb : xs.length ≤ 1000000) (u : World) (hbu : b = u.heap.size) (hwu : w = u.alloc (.cells #[y] e))
    (K : ∀ v' w', Hid (OwG e w0 w' v' (xs ++ [y])) → Hid (FrT (fun k => k = e) w0.heap.size w w') → wpList Try.prog ops Q rest (a.put o.dst v') w') :
    wpList Try.prog ops Q (o :: rest) a w := by
  obtain ⟨i0, hi0, hq0, hq1, hq2⟩ := info_parts hinfo
  refine wpList_append_own_at w hgd s x t hop w0.heap.size e i0 z 1 bytes ht hi0 hq0 hq1 hq2 (by rw [hz1]; rfl) (by omega) v xs.length _ hs h.out.own ⟨b, 0, none⟩ 1 c [y] hx (by simp) (cell_one w u b y e hbu hwu) (by intro q hq; simp at hq; subst hq; exact hy) (by unfold maxLen; omega) (Nat.le_trans (Nat.mul_le_mul (show xs.length + 1 ≤ 1000001 by omega) hby) (by omega)) h.out.ge ?_
  intro v' w' hown hg _ hat
  refine K v' w' (hid ⟨by rw [List.length_append]; exact hown, Nat.le_trans h.out.ge hg.size⟩) (hid ((FrT.refl _ _ w).grown hg fun k hk => ?_))
  have := own_block h.out.own hk
  exact ⟨this.1, this.2.2 _ rfl⟩
theorem wordInfoK : (Try.prog.info? 101).map (fun i => (i.zero, i.size, i.bytes)) = some (some (.slice none 0 0), 1, 24) := by kernel_rfl
abbrev TWd (k : TypeId) : Prop := k = 101
abbrev wAt (ws : List (List Bool)) (i : Nat) : List Bool := ws.getD i []
/-- A word that lies somewhere behind w0. -/
def WordV (w0 w : World) (v : Value) (u : List Bool) : Prop := ∃ g, v = .slice (some ⟨g, 0, none⟩) u.length u.length ∧ w0.heap.size ≤ g ∧ w.rowIs g 4 u.length (vB u)
theorem WordV.fr {w0 w w' : World} {v : Value} {u : List Bool} {T : TypeId → Prop} {B : Nat} (h : WordV w0 w v u) (o : FrT T B w w') (hT : ¬ T 4) : WordV w0 w' v u := by
  obtain ⟨g, h1, h2, h3⟩ := h
  exact ⟨g, h1, h2, o.row h3 hT⟩
theorem WordV.same {w0 w w' : World} {v : Value} {u : List Bool} (h : WordV w0 w v u) (o : Only (fun _ => False) w w') : WordV w0 w' v u := h.fr (T := fun _ => False) (B := 0) (FrT.of_only o) (fun h => h)
theorem WordV.rd {w0 w : World} {v : Value} {u : List Bool} (h : WordV w0 w v u) : ∃ g, v = .slice (some ⟨g, 0, none⟩) u.length u.length ∧ RdB w (some ⟨g, 0, none⟩) u := by
  obtain ⟨g, h1, _, h3⟩ := h
  exact ⟨g, h1, RdV.of_row h3⟩
/-- Words so far. -/
structure WsK (w0 w : World) (v : Value) (xs : List Value) (ws : List (List Bool)) (k : Nat) : Prop where
  own : OwG 101 w0 w v xs
  len : xs.length = k
  wd : ∀ i, i < k → WordV w0 w (xs.getD i undef) (wAt ws i)
  only : Only (fun _ => False) w0 w
theorem WsK.more {w0 w w1 w2 : World} {v v' y : Value} {xs : List Value} {ws : List (List Bool)} {k : Nat} (h : WsK w0 w v xs ws k) (o1 : Only (fun _ => False) w w1) (hown : OwG 101 w0 w2 v' (xs ++ [y])) (o2 : FrT TWd w0.heap.size w1 w2) (hy : WordV w0 w1 y (wAt ws k)) : WsK w0 w2 v' (xs ++ [y]) ws (k + 1) := by
  refine ⟨hown, by rw [List.length_append, h.len]; rfl, fun i hi => ?_, ?_⟩
  · by_cases e : i < k
    · have : (xs ++ [y]).getD i undef = xs.getD i undef := by simp [List.getD, List.getElem?_append_left (show i < xs.length by rw [h.len]; exact e)]
      rw [this]
      exact ((h.wd i e).same o1).fr o2 (by decide)
    · obtain rfl : i = k := by omega
      have : (xs ++ [y]).getD i undef = y := by simp [List.getD, ← h.len]
      rw [this]
      exact hy.fr o2 (by decide)
  · have h1 := h.only.trans o1
    exact ⟨o2.os.trans h1.os, o2.tape.trans h1.tape, o2.output.trans h1.output, Nat.le_trans h1.size o2.size, fun i hi _ => (o2.block i (Nat.lt_of_lt_of_le hi h1.size) (fun hk => by have := hk.1; omega)).trans (h1.block i hi no_)⟩
theorem one_val {e : TypeId} (w0 u : World) (y : Value) (h0 : w0.heap.size ≤ u.heap.size) : OwG e w0 (u.alloc (.cells #[y] e)) (.slice (some ⟨u.heap.size, 0, none⟩) 1 1) [y] := by
  refine ⟨⟨by simp, .inr ⟨u.heap.size, 1, #[y], rfl, h0, Go.Deep.blk_alloc_new _ _, by simp, by unfold maxLen; omega, by simp, by simp⟩⟩, by simp; omega⟩
theorem nx_parts {u v : List Bool} (h : Nx u v) : ∃ (p : List Bool) (i j : Nat), u = p ++ false :: List.replicate j true ∧ v = p ++ true :: List.replicate i false ∧ u.length = p.length + 1 + j ∧ v.length = p.length + 1 + i := by
  obtain ⟨p, i, j, rfl, rfl⟩ := h
  exact ⟨p, i, j, rfl, rfl, by simp; omega, by simp; omega⟩
/-- next, told by words. -/
theorem next_of {u v : List Bool} {g c : Nat} {w : World} (h : Nx u v) (hu : RdB w (some ⟨g, 0, none⟩) u) (h1 : u.length ≤ 1000) (h2 : v.length ≤ 1000) (hc : u.length ≤ c) :
    Calls Try.prog 107 #[.slice (some ⟨g, 0, none⟩) u.length c, .int .i64 ((v.length : Nat) : Int)] w fun e w' => ∃ y, e = .returned y ∧ Hid (WordV w w' y v) ∧ StO w w' := by
  obtain ⟨p, i, j, e1, e2, l1, l2⟩ := nx_parts h
  rw [l1, l2]
  rw [e1] at hu
  refine (next_any (A := some ⟨g, 0, none⟩) (c := c) (n := p.length + 1 + i) (i := i) (j := j) (p := p) hu rfl (by omega) (by omega) (by omega)).mono ?_
  rintro e w' ⟨y, rfl, g', h3, h4, h5, h6⟩
  exact ⟨y, rfl, hid ⟨g', by rw [e2]; exact h3, h4, by rw [e2]; exact h5⟩, hid h6⟩
theorem first_word (w u : World) (n : Nat) (h0 : w.heap.size ≤ u.heap.size) : WordV w (u.alloc (.cells (madeCells #[.bool false] n) 4)) (.slice (some ⟨u.heap.size, 0, none⟩) n n) (List.replicate n false) := by
  have e : (List.replicate n false).length = n := List.length_replicate
  refine ⟨u.heap.size, by rw [e], h0, ?_⟩
  rw [e]
  exact (World.rowIs_made u (.bool false) n 4).congr fun j hj => by simp [vB, List.getD, hj]
set_option maxHeartbeats 2000000 in
theorem wordsOf_any {A : Option Addr} {c : Nat} {ls : List Int} {ws : List (List Bool)} {w : World} (hw : WordsOf ls ws) (hl : RdI w A ls) (hA : ls.length ≤ c) (hs : ∀ k, k < ws.length → (wAt ws k).length ≤ 1000) (hn : ls.length ≤ 257) :
    Calls Try.prog 85 #[.slice A ls.length c] w fun e w' => ∃ v xs, e = .returned v ∧ Hid (WsK w w' v xs ws ws.length) := by
  have hpos := hw.pos
  have hlen := hw.len
  have HN : Hid (∀ k, k + 1 < ws.length → Nx (wAt ws k) (wAt ws (k + 1))) := hid hw.next
  have HS := hid hs
  have HF := hid hw.first
  obtain ⟨b, off, rfl, hcell⟩ := hl (by omega)
  have HL : Hid (∀ W, StO w W → ∀ k, k < ws.length → W.cell? ⟨b, off + k, none⟩ = some (.int .i64 (((wAt ws k).length : Nat) : Int))) := hid fun W ho k hk => by
    have h := hcell k (by omega)
    rw [ho.out.cell (cell_lt h) no_, h]
    unfold vI
    rw [hw.length hk]
  obtain ⟨n, hnn⟩ : ∃ n, n = ws.length := ⟨_, rfl⟩
  rw [← hnn] at hpos hlen HN HS HL ⊢
  rw [← hlen] at hA hn ⊢
  obtain ⟨z0, hz0⟩ : ∃ z, z = (wAt ws 0).length := ⟨_, rfl⟩
  have c0 := HL.out w (hid (Only.refl _ w)) 0 (by omega)
  rw [← hz0, Nat.add_zero] at c0
  have hz00 : z0 ≤ 1000 := by rw [hz0]; exact HS.out 0 (by omega)
  have HW0 : Hid (wAt ws 0 = List.replicate z0 false) := hid (by
    have := HF.out
    rw [hz0]
    generalize (ls.getD 0 0).toNat = q at this
    rw [show wAt ws 0 = List.replicate q false from this]
    simp)
  have hmk := fun W => run_make_row' (P := Try.prog) 101 4 (.bool false) 1 Try.underlying101 boolInfoK rfl .i64 .i64 z0 (by omega) (by omega) W
  clear hcell hl hw hs HF hz0 hlen
  have Hnn := hid hnn
  clear hnn
  have hpos' : (0 : Int) < (n : Int) := by omega
  have hpos2 : (1 : Int) ≤ (n : Int) := by omega
  have hAc : (n : Int) ≤ (c : Int) := by omega
  have hK0 : Hid (WsK w ((w.alloc (.cells (madeCells #[.bool false] z0) 4)).alloc (.cells #[.slice (some ⟨w.heap.size, 0, none⟩) z0 z0] 101)) (.slice (some ⟨w.heap.size + 1, 0, none⟩) 1 1) [.slice (some ⟨w.heap.size, 0, none⟩) z0 z0] ws 1) := hid (by
    have h1 := one_val (e := 101) w (w.alloc (.cells (madeCells #[.bool false] z0) 4)) (.slice (some ⟨w.heap.size, 0, none⟩) z0 z0) (by simp)
    refine ⟨by simpa using h1, rfl, fun i hi => ?_, ((Only.refl _ w).alloc _).alloc _⟩
    obtain rfl : i = 0 := by omega
    rw [HW0.out]
    exact (first_word w w z0 (Nat.le_refl _)).same ((Only.refl _ _).alloc _))
  by_cases hc1 : c = 1
  · obtain rfl : n = 1 := by omega
    subst hc1
    go_enter Try.func85, Try.ntmps85
    go_wp2_with fail
    generalize (w.alloc (.cells (madeCells #[.bool false] z0) 4)).alloc (.cells #[.slice (some ⟨w.heap.size, 0, none⟩) z0 z0] 101) = wq at *
    go_loopw [3, 14] (fun v s wr => v = .slice (some ⟨w.heap.size + 1, 0, none⟩) 1 1 ∧ s = .int .i64 0 ∧ wr = wq) (fun _ _ _ => 0)
    case atStart => exact ⟨rfl, rfl, rfl⟩
    case round =>
      obtain ⟨rfl, rfl, rfl⟩ := hrel
      go_wp2_with fail
      go_ret
      exact ⟨_, _, rfl, hK0⟩
  · have hc1' : ¬ (c : Int) = 1 := by omega
    go_enter Try.func85, Try.ntmps85
    go_wp2_with fail
    generalize (w.alloc (.cells (madeCells #[.bool false] z0) 4)).alloc (.cells #[.slice (some ⟨w.heap.size, 0, none⟩) z0 z0] 101) = wq at *
    clear hmk HW0
    go_loopw [3, 14] (fun v s wr => ∃ (xs : List Value) (k : Nat), k + 1 ≤ n ∧ s = .int .i64 k ∧ Hid (WsK w wr v xs ws (k + 1))) (fun _ s _ => n - (intOf s).toNat)
    case atStart => exact ⟨_, 0, by omega, rfl, hK0⟩
    case round =>
      obtain ⟨xs, k, hk, rfl, HK⟩ := hrel
      clear hK0
      by_cases hp : k + 1 < n
      · have hp' : (k : Int) < (n : Int) - 1 := by omega
        obtain ⟨g, cap, F, rfl, hge, hrow, hFj, hcap, hcm⟩ := HK.out.own.shape HK.out.len (by omega)
        obtain ⟨gk, hgk, hrk⟩ := (HK.out.wd k (by omega)).rd
        have ck := hrow.cell (i := k) (by omega)
        rw [hFj k (by omega), hgk] at ck
        have cl := HL.out wr (hid HK.out.only) (k + 1) hp
        have hoff : off + (k + 1) = off + 1 + k := by omega
        rw [hoff] at cl
        have hl1 := HS.out k (by omega)
        have hl2 := HS.out (k + 1) hp
        have HNk : Hid (∀ W, StO wr W → Calls Try.prog 107 #[.slice (some ⟨gk, 0, none⟩) (wAt ws k).length (wAt ws k).length, .int .i64 (((wAt ws (k + 1)).length : Nat) : Int)] W fun e w' => ∃ g', e = .returned (.slice (some ⟨g', 0, none⟩) (wAt ws (k + 1)).length (wAt ws (k + 1)).length) ∧ Hid (WordV w w' (.slice (some ⟨g', 0, none⟩) (wAt ws (k + 1)).length (wAt ws (k + 1)).length) (wAt ws (k + 1))) ∧ StO W w') := hid fun W ho => (next_of (c := (wAt ws k).length) (HN.out k hp) (hrk.only ho.out fun _ _ _ => no_) hl1 hl2 (Nat.le_refl _)).mono fun e w' ⟨y, h1, h2, h3⟩ => by
          obtain ⟨g', q1, q2, q3⟩ := h2.out
          subst q1
          exact ⟨g', h1, hid ⟨g', rfl, Nat.le_trans (Nat.le_trans HK.out.only.size ho.out.size) q2, q3⟩, h3⟩
        generalize (wAt ws k).length = lk at *
        have Hlk2 := hid (rfl : (wAt ws (k + 1)).length = (wAt ws (k + 1)).length)
        obtain ⟨l2, hl2e⟩ : ∃ l2, l2 = (wAt ws (k + 1)).length := ⟨_, rfl⟩
        rw [← hl2e] at cl HNk hl2
        clear hl2e Hlk2 hFj hcm hrk hgk hge hrow hoff hl1
        have hkw1 : IntKind.i64.wrap ((k : Int) + 1 - 1) = (k : Int) := by rw [IntKind.wrap_i64]; omega
        have hkw2 : wrap64 ((k : Int) + 1 - 1) = (k : Int) := by rw [show (k : Int) + 1 - 1 = (k : Int) by omega]; exact IntWalk.wrap64_in _ ⟨by omega, by omega⟩
        go_wp2_with (first
          | (go_at_call 107; refine (HNk.out _ (hid (Only.refl _ _))).mono ?_; rintro e w2 ⟨gy, rfl, HY, HO⟩)
          | (at_builtin; refine wpList_addV w _ 131 101 (.slice none 0 0) 24 Try.underlying131 wordInfoK (by omega) rfl rfl (.tmp 18) (.tmp 27) rfl _ xs rfl (hid ((HK.out.own.same HO.out).same ((Only.refl _ _).alloc _))) (.slice (some ⟨gy, 0, none⟩) l2 l2) rfl w2.heap.size 1 rfl (by rw [HK.out.len]; omega) w2 rfl rfl ?_; intro v' w3 HG HT))
        have HK2 : Hid (WsK w w3 v' (xs ++ [.slice (some ⟨gy, 0, none⟩) l2 l2]) ws (k + 1 + 1)) := hid (HK.out.more (HO.out.trans ((Only.refl _ _).alloc _)) HG.out HT.out (HY.out.same ((Only.refl _ _).alloc _)))
        clear HK HG HT HY HO HNk
        go_roundw
        case rel => exact ⟨_, k + 1, by omega, by go_num, HK2⟩
        case measure => simp [intOf]; omega
      · obtain rfl : k + 1 = n := by omega
        go_wp2_with fail
        go_ret
        exact ⟨_, _, rfl, HK⟩
end Go.Proofs.Ytmbcinbkijnblaa
