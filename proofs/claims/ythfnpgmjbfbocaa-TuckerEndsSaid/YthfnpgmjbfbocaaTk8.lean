/- The table of the best trees of all rows, made. -/
import Derived.Test.YthfnpgmjbfbocaaTk7
namespace Go.Proofs.Ythfnpgmjbfbocaa
open Go.RowKit

theorem rowInfoK : (Try.prog.info? 128).map (fun i => (i.zero, i.size, i.bytes)) = some (some (.agg #[.int .i64 0, .int .i64 0]), 2, 16) := by kernel_rfl
theorem rowsInfoK : (Try.prog.info? 126).map (fun i => (i.zero, i.size, i.bytes)) = some (some (.slice none 0 0), 1, 24) := by kernel_rfl
theorem rowIs_made2 (w : World) (n : Nat) (t : TypeId) : (w.alloc (.cells (madeCells #[.int .i64 0, .int .i64 0] n) t)).rowIs w.heap.size t n (fun _ => .int .i64 0) := by
  have h := World.rowIs_alloc w (madeCells #[.int .i64 0, .int .i64 0] n) t (fun _ => .int .i64 0) (fun i hi => by
    have hi' : i < n := by rw [size_madeCells] at hi; exact hi
    unfold madeCells
    rw [Array.getElem?_map]
    have : (Array.range n)[i]? = some i := by simp [hi']
    rw [this]
    show some (#[Value.int .i64 0, .int .i64 0][i % 2]!) = _
    have h2 : i % 2 = 0 ∨ i % 2 = 1 := by omega
    rcases h2 with h2 | h2 <;> rw [h2] <;> rfl)
  rwa [size_madeCells] at h

theorem keepA {w u : World} {o : Obj} (h : True ∧ StO w u) : True ∧ StO w (u.alloc o) := ⟨trivial, hid (h.2.out.alloc o)⟩
theorem keepD {w u : World} (h : True ∧ StO w u) : True ∧ StO w u.drew := ⟨trivial, hid h.2.out.drew⟩
theorem keepS1 {w u : World} {o : Obj} (h : StO w u) : True ∧ StO w (u.alloc o) := ⟨trivial, hid (h.out.alloc o)⟩
theorem keepS2 {w u : World} {o p : Obj} (h : StO w u) : True ∧ StO w ((u.alloc o).alloc p) := ⟨trivial, hid ((h.out.alloc o).alloc p)⟩
theorem keepR {w : World} : True ∧ StO w w := ⟨trivial, hid (Only.refl _ w)⟩
theorem keepR1 {w : World} : True ∧ StO w w.drew := ⟨trivial, hid (Only.refl _ w).drew⟩
theorem keepR2 {w : World} {o : Obj} : True ∧ StO w (w.alloc o).drew := ⟨trivial, hid ((Only.refl _ w).alloc o).drew⟩
theorem keepR3 {w : World} {o p : Obj} : True ∧ StO w ((w.alloc o).alloc p).drew := ⟨trivial, hid (((Only.refl _ w).alloc o).alloc p).drew⟩
theorem keepR4 {w : World} {o p : Obj} : True ∧ StO w ((w.alloc o).alloc p) := ⟨trivial, hid (((Only.refl _ w).alloc o).alloc p)⟩
theorem keepW {w u : World} {b : Nat} {x y : Value} (h : StO w u) (hb : w.heap.size ≤ b) : True ∧ StO w ((u.setCell ⟨b, 0, none⟩ x).setCell ⟨b, 1, none⟩ y) := ⟨trivial, hid ((h.out.setCell (p := ⟨b, 0, none⟩) (.inr hb) x).setCell (p := ⟨b, 1, none⟩) (.inr hb) y)⟩
theorem keepW2 {w u : World} {b : Nat} {x y : Value} {o : Obj} (h : StO w u) (hb : w.heap.size ≤ b) : True ∧ StO w (((u.setCell ⟨b, 0, none⟩ x).setCell ⟨b, 1, none⟩ y).alloc o) := ⟨trivial, hid (((h.out.setCell (p := ⟨b, 0, none⟩) (.inr hb) x).setCell (p := ⟨b, 1, none⟩) (.inr hb) y).alloc o)⟩
theorem dropD {x y : World} (h : StO x.drew y) : StO x y := hid ⟨h.out.os, h.out.tape, h.out.output, h.out.size, h.out.block⟩
theorem cT1 {v y : World} {a b : Value} (h : StO (v.alloc (.cells #[a, b] 76)) y) : Two y v.heap.size 76 a b := (two_at v _ rfl a b _).only h.out no_
theorem cTa {v y : World} {a b z : Value} {n : Nat} {t : TypeId} (h : StO ((v.alloc (.cells (madeCells #[z] n) t)).alloc (.cells #[a, b] 76)) y) : Two y (v.heap.size + 1) 76 a b := (two_at _ _ (by simp) a b _).only h.out no_
theorem cT2 {v y : World} {a b : Value} {o : Obj} (h : StO ((v.alloc (.cells #[a, b] 76)).alloc o) y) : Two y v.heap.size 76 a b := ((two_at v _ rfl a b _).only ((Only.refl (fun _ => False) _).alloc o) no_).only h.out no_
theorem cR1 {v y : World} {z : Value} {n : Nat} (h : StO (v.alloc (.cells (madeCells #[z] n) 126)) y) : y.rowIs v.heap.size 126 n (fun _ => z) := h.out.row (World.rowIs_made v z n _) no_
theorem cR2 {v y : World} {z : Value} {n : Nat} {o : Obj} (h : StO ((v.alloc (.cells (madeCells #[z] n) 126)).alloc o) y) : y.rowIs v.heap.size 126 n (fun _ => z) := h.out.row (((Only.refl (fun _ => False) _).alloc o).row (World.rowIs_made v z n _) no_) no_
/-- The table under way: the sums, and no rows yet. -/
structure T0 (w wx : World) (b4 gS gR N : Nat) (S : Nat → Int) : Prop where
  two : Two wx b4 76 (.slice (some ⟨gS, 0, none⟩) (N + 1) (N + 1)) (.slice (some ⟨gR, 0, none⟩) N N)
  sums : wx.rowIs gS 3 (N + 1) (fun j => .int .i64 (S j))
  rows : wx.rowIs gR 126 N (fun _ => .slice none 0 0)
  only : Only (fun _ => False) w wx
  new : w.heap.size ≤ b4 ∧ w.heap.size ≤ gS ∧ w.heap.size ≤ gR

section
variable {w1 wa : World} {b4 gS gR N : Nat} {S : Nat → Int}
abbrev sSV (gS N : Nat) : Value := .slice (some ⟨gS, 0, none⟩) (N + 1) (N + 1)
abbrev sRV (gR N : Nat) : Value := .slice (some ⟨gR, 0, none⟩) N N
theorem T0.a1 (h : wa.rowIs gS 3 (N + 1) (fun j => .int .i64 (S j))) (ho : Only (fun _ => False) w1 wa) (hg : w1.heap.size ≤ gS) :
    T0 w1 ((wa.alloc (.cells (madeCells #[.slice none 0 0] N) 126)).alloc (.cells #[sSV gS N, sRV wa.heap.size N] 76)) (wa.heap.size + 1) gS wa.heap.size N S :=
  ⟨two_at _ _ (by simp) _ _ _, ((Only.refl (fun _ => False) wa).alloc _ |>.alloc _).row h no_, ((Only.refl (fun _ => False) _).alloc _).row (World.rowIs_made wa _ _ _) no_, (ho.alloc _).alloc _, by have := ho.size; omega, hg, ho.size⟩
theorem T0.a2 (h : wa.rowIs gS 3 (N + 1) (fun j => .int .i64 (S j))) (ho : Only (fun _ => False) w1 wa) (hg : w1.heap.size ≤ gS) :
    T0 w1 ((wa.alloc (.cells #[sSV gS N, sRV (wa.heap.size + 1) N] 76)).alloc (.cells (madeCells #[.slice none 0 0] N) 126)) wa.heap.size gS (wa.heap.size + 1) N S :=
  ⟨(two_at _ _ rfl _ _ _).only ((Only.refl (fun _ => False) _).alloc _) no_, ((Only.refl (fun _ => False) wa).alloc _ |>.alloc _).row h no_, (by
    have := World.rowIs_made (wa.alloc (.cells #[sSV gS N, sRV (wa.heap.size + 1) N] 76)) (.slice none 0 0) N 126
    simpa using this), (ho.alloc _).alloc _, ho.size, hg, by have := ho.size; omega⟩
theorem T0.a3 (h : wa.rowIs gS 3 (N + 1) (fun j => .int .i64 (S j))) (ho : Only (fun _ => False) w1 wa) (hg : w1.heap.size ≤ gS) (hr : wa.rowIs gR 126 N (fun _ => .slice none 0 0)) (hR : w1.heap.size ≤ gR) :
    T0 w1 (wa.alloc (.cells #[sSV gS N, sRV gR N] 76)) wa.heap.size gS gR N S :=
  ⟨two_at _ _ rfl _ _ _, ((Only.refl (fun _ => False) wa).alloc _).row h no_, ((Only.refl (fun _ => False) wa).alloc _).row hr no_, ho.alloc _, ho.size, hg, hR⟩
theorem T0.a4 {a b : Value} (h : wa.rowIs gS 3 (N + 1) (fun j => .int .i64 (S j))) (ho : Only (fun _ => False) w1 wa) (hg : w1.heap.size ≤ gS) (hr : wa.rowIs gR 126 N (fun _ => .slice none 0 0)) (hR : w1.heap.size ≤ gR) (ht : Two wa b4 76 a b) (hb : w1.heap.size ≤ b4) :
    T0 w1 ((wa.setCell ⟨b4, 0, none⟩ (sSV gS N)).setCell ⟨b4, 1, none⟩ (sRV gR N)) b4 gS gR N S := by
  have n1 : gS ≠ b4 := rowIs_ne h ht (by decide)
  have n2 : gR ≠ b4 := rowIs_ne hr ht (by decide)
  exact ⟨ht.put _ _, (h.setOther n1 _).setOther n1 _, (hr.setOther n2 _).setOther n2 _, (ho.setCell (p := ⟨b4, 0, none⟩) (.inr hb) _).setCell (p := ⟨b4, 1, none⟩) (.inr hb) _, hb, hg, hR⟩
theorem T0.a5 {a b : Value} (h : wa.rowIs gS 3 (N + 1) (fun j => .int .i64 (S j))) (ho : Only (fun _ => False) w1 wa) (hg : w1.heap.size ≤ gS) (ht : Two wa b4 76 a b) (hb : w1.heap.size ≤ b4) :
    T0 w1 (((wa.setCell ⟨b4, 0, none⟩ (sSV gS N)).setCell ⟨b4, 1, none⟩ (sRV wa.heap.size N)).alloc (.cells (madeCells #[.slice none 0 0] N) 126)) b4 gS wa.heap.size N S := by
  have n1 : gS ≠ b4 := rowIs_ne h ht (by decide)
  have hs : ((wa.setCell ⟨b4, 0, none⟩ (sSV gS N)).setCell ⟨b4, 1, none⟩ (sRV wa.heap.size N)).heap.size = wa.heap.size := by simp [World.setCell]
  have h2 := World.rowIs_made ((wa.setCell ⟨b4, 0, none⟩ (sSV gS N)).setCell ⟨b4, 1, none⟩ (sRV wa.heap.size N)) (.slice none 0 0) N 126
  rw [hs] at h2
  exact ⟨(ht.put _ _).only ((Only.refl (fun _ => False) _).alloc _) no_, ((Only.refl (fun _ => False) _).alloc _).row ((h.setOther n1 _).setOther n1 _) no_, h2, ((ho.setCell (p := ⟨b4, 0, none⟩) (.inr hb) _).setCell (p := ⟨b4, 1, none⟩) (.inr hb) _).alloc _, hb, hg, ho.size⟩
end
theorem T0.drew {w1 wx : World} {b4 gS gR N : Nat} {S : Nat → Int} (h : T0 w1 wx b4 gS gR N S) : T0 w1 wx.drew b4 gS gR N S := ⟨h.two, h.sums, h.rows, h.only.drew, h.new⟩
theorem cell_far {w : World} {b i g k : Nat} {v x : Value} {o : Obj} (h : w.cell? ⟨b, i, none⟩ = some v) (hb : b < w.heap.size) (hne : b ≠ g) : ((w.setCell ⟨g, k, none⟩ x).alloc o).drew.cell? ⟨b, i, none⟩ = some v := by
  have h1 : Only (fun c => c = g) w ((w.setCell ⟨g, k, none⟩ x).alloc o).drew := (((Only.refl (fun c => c = g) w).setCell (p := ⟨g, k, none⟩) (.inl rfl) x).alloc o).drew
  exact (h1.cell (p := ⟨b, i, none⟩) hb hne).trans h
/-- The table under way: so many rows are there. -/
structure TP (w wr : World) (b4 gS gR : Nat) (gi : Nat → Nat) (N k : Nat) (S : Nat → Int) : Prop where
  two : Two wr b4 76 (sSV gS N) (sRV gR N)
  sums : wr.rowIs gS 3 (N + 1) (fun j => .int .i64 (S j))
  rows : wr.rowIs gR 126 N (fun i => if i < k then .slice (some ⟨gi i, 0, none⟩) (N - i + 1) (N - i + 1) else .slice none 0 0)
  row : ∀ i, i < k → wr.rowIs (gi i) 128 (2 * (N - i + 1)) (rowF (tabD S 2 0 i))
  apart : ∀ i j, i < k → j < k → gi i = gi j → i = j
  only : Only (fun _ => False) w wr
  new : w.heap.size ≤ b4 ∧ w.heap.size ≤ gS ∧ w.heap.size ≤ gR
  newi : ∀ i, i < k → w.heap.size ≤ gi i
theorem T0.tp {w wx : World} {b4 gS gR N : Nat} {S : Nat → Int} (h : T0 w wx b4 gS gR N S) : TP w wx b4 gS gR (fun _ => 0) N 0 S :=
  ⟨h.two, h.sums, h.rows.congr fun i _ => by rw [if_neg (by omega)], fun i hi => absurd hi (by omega), fun i _ hi => absurd hi (by omega), h.only, h.new, fun i hi => absurd hi (by omega)⟩
section
variable {w wr : World} {b4 gS gR N k : Nat} {gi : Nat → Nat} {S : Nat → Int}
abbrev newRow (wr : World) (gR N k : Nat) : World := ((wr.setCell ⟨gR, k, none⟩ (.slice (some ⟨wr.heap.size, 0, none⟩) (N - k + 1) (N - k + 1))).alloc (.cells (madeCells #[.int .i64 0, .int .i64 0] (2 * (N - k + 1))) 128)).drew
theorem newRow_only (wr : World) (gR N k : Nat) : Only (fun c => c = gR) wr (newRow wr gR N k) := (((Only.refl (fun c => c = gR) wr).setCell (p := ⟨gR, k, none⟩) (.inl rfl) _).alloc _).drew
theorem newRow_row (wr : World) (gR N k : Nat) : (newRow wr gR N k).rowIs wr.heap.size 128 (2 * (N - k + 1)) (fun _ => .int .i64 0) := by
  have h := rowIs_made2 (wr.setCell ⟨gR, k, none⟩ (.slice (some ⟨wr.heap.size, 0, none⟩) (N - k + 1) (N - k + 1))) (2 * (N - k + 1)) 128
  have hs : (wr.setCell ⟨gR, k, none⟩ (.slice (some ⟨wr.heap.size, 0, none⟩) (N - k + 1) (N - k + 1))).heap.size = wr.heap.size := by simp [World.setCell]
  rw [hs] at h
  exact h
theorem newRow_rows (h : TP w wr b4 gS gR gi N k S) : (newRow wr gR N k).rowIs gR 126 N (fun i => if i < k + 1 then .slice (some ⟨if i = k then wr.heap.size else gi i, 0, none⟩) (N - i + 1) (N - i + 1) else .slice none 0 0) := by
  have h1 := h.rows.set k (.slice (some ⟨wr.heap.size, 0, none⟩) (N - k + 1) (N - k + 1))
  have h2 := (((Only.refl (fun _ => False) _).alloc (.cells (madeCells #[.int .i64 0, .int .i64 0] (2 * (N - k + 1))) 128)).drew).row h1 no_
  refine World.rowIs.congr h2 fun i hi => ?_
  by_cases e : i = k
  · subst e
    simp
  · simp only [if_neg e]
    by_cases e2 : i < k
    · rw [if_pos e2, if_pos (by omega)]
    · rw [if_neg e2, if_neg (by omega)]
theorem TP.step (h : TP w wr b4 gS gR gi N k S) (hk : k < N) : TP w ((newRow wr gR N k).setCell ⟨wr.heap.size, 3, none⟩ (.int .i64 ((k : Int) + 1))) b4 gS gR (fun i => if i = k then wr.heap.size else gi i) N (k + 1) S := by
  have hz : Only (fun c => c = gR) wr ((newRow wr gR N k).setCell ⟨wr.heap.size, 3, none⟩ (.int .i64 ((k : Int) + 1))) := (newRow_only wr gR N k).setCell (p := ⟨wr.heap.size, 3, none⟩) (.inr (Nat.le_refl _)) _
  have n1 : b4 ≠ gR := rowIs_ne h.two h.rows (by decide)
  have n2 : gS ≠ gR := rowIs_ne h.sums h.rows (by decide)
  have n3 : gR ≠ wr.heap.size := fun e => by have := h.rows.lt; omega
  have hnew := h.new
  refine ⟨h.two.only hz n1, hz.row h.sums n2, (newRow_rows h).setOther (a := ⟨wr.heap.size, 3, none⟩) n3 _, fun i hi => ?_, fun i j hi hj e => ?_, ?_, hnew, fun i hi => ?_⟩
  · by_cases e : i = k
    · subst e
      simp only [if_pos]
      refine ((newRow_row wr gR N i).set 3 _).congr fun p hp => ?_
      unfold rowF tabD
      by_cases e3 : p = 3
      · subst e3; rfl
      · rw [if_neg e3]
        by_cases e2 : p / 2 = 1
        · have : p = 2 := by omega
          subst this
          rfl
        · have hD : (if p / 2 = 1 then ((0 : Int), i + 1) else if 2 ≤ p / 2 ∧ (p / 2 < 2 ∨ p / 2 = 2 ∧ i < 0) then (ct S i (i + p / 2), rt S i (i + p / 2)) else (0, 0)) = (0, 0) := by
            rw [if_neg e2, if_neg (by omega)]
          simp only [hD]
          split <;> rfl
    · have hr := h.row i (by omega)
      have n4 : gi i ≠ gR := rowIs_ne hr h.rows (by decide)
      simp only [if_neg e]
      exact hz.row hr n4
  · have l1 : ∀ i, i < k → gi i < wr.heap.size := fun i hi => (h.row i hi).lt
    by_cases e1 : i = k
    · by_cases e2 : j = k
      · omega
      · simp only [e1, if_pos, if_neg e2] at e
        have := l1 j (by omega)
        omega
    · by_cases e2 : j = k
      · simp only [e2, if_pos, if_neg e1] at e
        have := l1 i (by omega)
        omega
      · simp only [if_neg e1, if_neg e2] at e
        exact h.apart i j (by omega) (by omega) e
  · have hs := h.only.size
    exact ((((h.only.setCell (p := ⟨gR, k, none⟩) (.inr hnew.2.2) _).alloc _).drew).setCell (p := ⟨wr.heap.size, 3, none⟩) (.inr hs) _)
  · by_cases e : i = k
    · simp only [e, if_pos]; exact h.only.size
    · simp only [if_neg e]; exact h.newi i (by omega)
/-- The table under way: all rows are there, and the best of some sizes. -/
structure TL (w wr : World) (b4 gS gR : Nat) (gi : Nat → Nat) (N s f : Nat) (S : Nat → Int) : Prop where
  two : Two wr b4 76 (sSV gS N) (sRV gR N)
  tab : TabH wr gS gR gi N S (tabD S s f)
  only : Only (fun _ => False) w wr
  newi : ∀ i, i < N → w.heap.size ≤ gi i
theorem TP.tl (h : TP w wr b4 gS gR gi N N S) : TL w wr b4 gS gR gi N 2 0 S :=
  ⟨h.two, ⟨h.sums, h.rows.congr fun i hi => by rw [if_pos hi], h.row, h.apart⟩, h.only, h.newi⟩
theorem TL.next {s f : Nat} (h : TL w wr b4 gS gR gi N s f S) (hf : N + 1 ≤ f + s) : TL w wr b4 gS gR gi N (s + 1) 0 S :=
  ⟨h.two, ⟨h.tab.sums, h.tab.rows, fun i hi => (h.tab.row i hi).congr fun p hp => by
    have e : tabD S s f i (p / 2) = tabD S (s + 1) 0 i (p / 2) := by
      unfold tabD
      by_cases e1 : p / 2 = 1
      · rw [if_pos e1, if_pos e1]
      · rw [if_neg e1, if_neg e1]
        by_cases e2 : 2 ≤ p / 2 ∧ (p / 2 < s ∨ p / 2 = s ∧ i < f)
        · rw [if_pos e2, if_pos (by omega)]
        · rw [if_neg e2, if_neg (by omega)]
    unfold rowF
    rw [e], h.tab.apart⟩, h.only, h.newi⟩
theorem TL.step {s f : Nat} {u : World} (h : TL w wr b4 gS gR gi N s f S) (ho : Only (fun _ => False) wr u) (hs : 2 ≤ s) (hf : f + s ≤ N) : TL w ((u.setCell ⟨gi f, s * 2, none⟩ (.int .i64 (ct S f (f + s)))).setCell ⟨gi f, s * 2 + 1, none⟩ (.int .i64 ((rt S f (f + s) : Nat) : Int))) b4 gS gR gi N s (f + 1) S := by
  have hz : Only (fun c => c = gi f) wr ((u.setCell ⟨gi f, s * 2, none⟩ (.int .i64 (ct S f (f + s)))).setCell ⟨gi f, s * 2 + 1, none⟩ (.int .i64 ((rt S f (f + s) : Nat) : Int))) :=
    ((ho.mono (S' := fun c => c = gi f) fun _ _ h => h.elim).setCell (p := ⟨gi f, s * 2, none⟩) (.inl rfl) _).setCell (p := ⟨gi f, s * 2 + 1, none⟩) (.inl rfl) _
  have hrf := h.tab.row f (by omega)
  have n1 : b4 ≠ gi f := fun e => by
    subst e
    have := rowIs_ne h.two hrf (by decide)
    exact this rfl
  have n2 : gS ≠ gi f := rowIs_ne h.tab.sums hrf (by decide)
  have n3 : gR ≠ gi f := rowIs_ne h.tab.rows hrf (by decide)
  refine ⟨h.two.only hz n1, ⟨hz.row h.tab.sums n2, hz.row h.tab.rows n3, fun i hi => ?_, h.tab.apart⟩, ?_, h.newi⟩
  · by_cases e : i = f
    · subst e
      refine (((ho.row hrf no_).set (s * 2) _).set (s * 2 + 1) _).congr fun p hp => ?_
      unfold rowF
      by_cases e1 : p = s * 2 + 1
      · subst e1
        rw [if_pos rfl, if_neg (by omega), show (s * 2 + 1) / 2 = s by omega, tabD_of (by omega) (.inr (.inl ⟨rfl, by omega⟩))]
      · rw [if_neg e1]
        by_cases e2 : p = s * 2
        · subst e2
          rw [if_pos rfl, if_pos (by omega), show s * 2 / 2 = s by omega, tabD_of (by omega) (.inr (.inl ⟨rfl, by omega⟩))]
        · rw [if_neg e2]
          have e : tabD S s i i (p / 2) = tabD S s (i + 1) i (p / 2) := by
            unfold tabD
            by_cases e1 : p / 2 = 1
            · rw [if_pos e1, if_pos e1]
            · rw [if_neg e1, if_neg e1]
              by_cases e2 : 2 ≤ p / 2 ∧ (p / 2 < s ∨ p / 2 = s ∧ i < i)
              · rw [if_pos e2, if_pos (by omega)]
              · rw [if_neg e2, if_neg (by omega)]
          rw [e]
    · have n4 : gi i ≠ gi f := fun e2 => e (h.tab.apart i f hi (by omega) e2)
      refine (hz.row (h.tab.row i hi) n4).congr fun p hp => ?_
      have e : tabD S s f i (p / 2) = tabD S s (f + 1) i (p / 2) := by
        unfold tabD
        by_cases e1 : p / 2 = 1
        · rw [if_pos e1, if_pos e1]
        · rw [if_neg e1, if_neg e1]
          by_cases e2 : 2 ≤ p / 2 ∧ (p / 2 < s ∨ p / 2 = s ∧ i < f)
          · rw [if_pos e2, if_pos (by omega)]
          · rw [if_neg e2, if_neg (by omega)]
      unfold rowF
      rw [e]
  · have hn := h.newi f (by omega)
    exact ((h.only.trans ho).setCell (p := ⟨gi f, s * 2, none⟩) (.inr hn) _).setCell (p := ⟨gi f, s * 2 + 1, none⟩) (.inr hn) _
end
set_option maxHeartbeats 4000000 in
theorem tableOf_any {A : Option Addr} {cap : Nat} {zs : List Int} {w : World} (hz : RdI w A zs) (hw : isW zs = true) :
    Calls Try.prog 46 #[.slice A zs.length cap] w fun e w' => ∃ gS gR gi, e = .returned (tabV gS gR zs.length) ∧ Hid (TabH w' gS gR gi zs.length (sumW (wt zs)) (tabD (sumW (wt zs)) (zs.length + 1) 0)) ∧ StO w w' := by
  have ⟨h1, h2, h3⟩ := isW_of hw
  have hS : ∀ i j, i ≤ j → sumW (wt zs) i ≤ sumW (wt zs) j := sumW_mono fun k => (h3 k).1
  have hB : ∀ k, k ≤ 257 → 0 ≤ sumW (wt zs) k ∧ sumW (wt zs) k ≤ 1103806595072 := fun k hk => by
    have := sumW_bound (w := wt zs) (B := 4294967296) (fun j => (h3 j).2) k
    have := hS 0 k (by omega)
    have e : sumW (wt zs) 0 = 0 := rfl
    omega
  have HSum : Hid (∀ u, Only (fun _ => False) w u → Calls Try.prog 82 #[.slice A zs.length cap] u fun e w' => ∃ g : Nat, e = .returned (.slice (some ⟨g, 0, none⟩) (zs.length + 1) (zs.length + 1)) ∧ u.heap.size ≤ g ∧ Hid (w'.rowIs g 3 (zs.length + 1) (fun j => .int .i64 (sumW (wt zs) j))) ∧ StO u w') :=
    hid fun u hu => sumsOf_any (hz.only hu fun _ _ _ => no_) hw
  clear hz hw h3
  generalize sumW (wt zs) = S at *
  generalize zs.length = N at *
  have HS := hid hS
  have HB := hid hB
  clear hS hB
  have hmk := fun W => run_make_row' (P := Try.prog) 74 126 (.slice none 0 0) 24 Try.underlying74 rowsInfoK rfl .i64 .i64 N (by omega) (by omega) W
  go_enter Try.func46, Try.ntmps46
  go_upto_region 2 with fail
  have HX : Hid (Two (w.alloc (.cells #[.slice none 0 0, .slice none 0 0] 76)) w.heap.size 76 (.slice none 0 0) (.slice none 0 0)) := hid (row_two _ _ _ _)
  have HO1 : StO w (w.alloc (.cells #[.slice none 0 0, .slice none 0 0] 76)) := hid ((Only.refl _ w).alloc _)
  obtain ⟨w1, hw1⟩ : ∃ w1, w1 = w.alloc (.cells #[.slice none 0 0, .slice none 0 0] 76) := ⟨_, rfl⟩
  rw [← hw1] at HX HO1 ⊢
  clear hw1
  have HSum' : Hid (∀ P u, P ∧ StO w1 u → Calls Try.prog 82 #[.slice A N cap] u fun e w' => ∃ g : Nat, e = .returned (.slice (some ⟨g, 0, none⟩) (N + 1) (N + 1)) ∧ Hid (w1.heap.size ≤ g) ∧ Hid (w'.rowIs g 3 (N + 1) (fun j => .int .i64 (S j))) ∧ StO u w' ∧ StO w1 w') :=
    hid fun P u hu => (HSum.out u (HO1.out.trans hu.2.out)).mono fun e w' ⟨g, h1, h2, h3, h4⟩ => ⟨g, h1, hid (Nat.le_trans hu.2.out.size h2), h3, h4, hid (hu.2.out.trans h4.out)⟩
  clear HSum
  go_cut [4] from 10 to 14 (fun s4 wx => ∃ b4 gS gR : Nat, s4 = .pointer (some ⟨b4, 0, none⟩) ∧ Hid (T0 w1 wx b4 gS gR N S))
  case first =>
    go_region_held3 (fun w' => True ∧ StO w1 w')
      (first | with_reducible assumption | with_reducible exact ⟨trivial, by with_reducible assumption⟩ | with_reducible exact keepR | with_reducible exact keepR1 | with_reducible exact keepR2 | with_reducible exact keepR3 | with_reducible exact keepR4 | with_reducible exact keepA (by with_reducible assumption) | with_reducible exact keepD (by with_reducible assumption) | with_reducible exact keepS1 (by with_reducible assumption) | with_reducible exact keepS2 (by with_reducible assumption) | with_reducible exact keepW (by with_reducible assumption) (by omega) | with_reducible exact keepW2 (by with_reducible assumption) (by omega))
      (first | (go_at_call 82; refine (HSum'.out _ _ (by assumption)).mono ?_; rintro e wa ⟨gS, rfl, Hge, HRw, HOu, HOz⟩; (try replace HOu := dropD HOu); (first | (have HT := hid (cTa HOu)) | (have HT := hid (cT1 HOu)) | (have HT := hid (cT2 HOu)) | skip); (try (have ft0 := World.rowIs.frozen HT.out 0; have ft1 := World.rowIs.frozen HT.out 1; have ct0 := HT.out.c0; have ct1 := HT.out.c1; have ltt := World.rowIs.lt HT.out)); (try have HRR := hid (cR1 HOu)); (try have HRR := hid (cR2 HOu))))
    all_goals (go_wp2_with fail; go_meet; case rel => first
      | exact ⟨_, _, _, rfl, hid (T0.a1 HRw.out HOz.out Hge.out)⟩
      | exact ⟨_, _, _, rfl, hid (T0.a2 HRw.out HOz.out Hge.out)⟩
      | exact ⟨_, _, _, rfl, hid (T0.a3 HRw.out HOz.out Hge.out HRR.out (Nat.le_refl _))⟩
      | exact ⟨_, _, _, rfl, hid (T0.a4 HRw.out HOz.out Hge.out HRR.out (Nat.le_refl _) HT.out (Nat.le_succ _))⟩
      | exact ⟨_, _, _, rfl, hid (T0.a4 (gR := w1.heap.size + 1) HRw.out HOz.out Hge.out (by have := HRR.out; simpa using this) (Nat.le_succ _) HT.out (Nat.le_refl _))⟩
      | exact ⟨_, _, _, rfl, hid (T0.a5 HRw.out HOz.out Hge.out HT.out (Nat.le_refl _))⟩
      )
  case rest =>
    clear HSum' hmk
    obtain ⟨b4, gS, gR, rfl, HT0⟩ := hcut
    have HTP := hid HT0.out.tp
    clear HT0
    go_wp2_with fail
    go_loopw [16] (fun i wr => ∃ (k : Nat) (gi : Nat → Nat), k ≤ N ∧ i = .int .i64 k ∧ Hid (TP w1 wr b4 gS gR gi N k S)) (fun i _ => N - (intOf i).toNat)
    case atStart => exact ⟨0, _, by omega, rfl, HTP⟩
    case round =>
      obtain ⟨k, gi, hk, rfl, HK⟩ := hrel
      clear HTP
      by_cases hp : k < N
      · obtain ⟨i0, hi0, hz0, hz1, hz2⟩ := info_parts rowInfoK
        have hmk := fun W => run_make (P := Try.prog) W 126 128 i0 _ Try.underlying126 hi0 hz0 .i64 .i64 ((N : Int) - (k : Int) + 1) ((N : Int) - (k : Int) + 1) (by omega) (by omega) (by rw [hz2]; omega) (by omega)
        have e1 : ((N : Int) - (k : Int) + 1).toNat = N - k + 1 := by omega
        have e2 : (N - k + 1) * i0.size = 2 * (N - k + 1) := by rw [hz1]; omega
        have e3 : (Value.agg #[Value.int IntKind.i64 0, Value.int IntKind.i64 0]).cells = #[Value.int IntKind.i64 0, Value.int IntKind.i64 0] := rfl
        rw [e1, e2, e3] at hmk
        clear e1 e2 e3 hi0 hz0 hz1 hz2
        have hwa : IntKind.i64.wrap ((N : Int) - (k : Int)) = (N : Int) - (k : Int) := by rw [IntKind.wrap_i64]; omega
        have hwb : IntKind.i64.wrap ((N : Int) - (k : Int) + 1) = (N : Int) - (k : Int) + 1 := by rw [IntKind.wrap_i64]; omega
        have d1 := HK.out.two.c1
        have cR := HK.out.rows.cell hp
        rw [if_neg (by omega)] at cR
        have fR := HK.out.rows.frozen k
        have hltR := HK.out.rows.lt
        have hltB := World.rowIs.lt HK.out.two
        have hne : b4 ≠ gR := rowIs_ne HK.out.two HK.out.rows (by decide)
        have HFar : Hid (∀ (o : Obj) (x : Value), ((wr.setCell ⟨gR, k, none⟩ x).alloc o).drew.cell? ⟨b4, 1, none⟩ = some (sRV gR N)) := hid fun o x => cell_far d1 hltB hne
        go_wp2_with fail
        go_region_held3 (fun w' => w'.cell? ⟨b4, 1, none⟩ = some (sRV gR N)) (first | exact HFar.out _ _ | go_keep | assumption) (fail)
        have HN := hid (HK.out.step hp)
        have e1 := HK.out.two.only (newRow_only wr gR N k) hne
        have d1' := e1.c1
        have r1 := newRow_rows HK.out
        have c1' := r1.cell hp
        rw [if_pos (by omega), if_pos rfl] at c1'
        have r2 := newRow_row wr gR N k
        have c2' := r2.cell (i := 3) (by omega)
        have f2' := r2.frozen 3
        have l2' := r2.lt
        have l1' := r1.lt
        clear HK HFar d1 cR fR hltR hltB e1 r1 r2
        unfold newRow at *
        obtain ⟨w5, hw5⟩ : ∃ w5, w5 = ((wr.setCell ⟨gR, k, none⟩ (.slice (some ⟨wr.heap.size, 0, none⟩) (N - k + 1) (N - k + 1))).alloc (.cells (madeCells #[.int .i64 0, .int .i64 0] (2 * (N - k + 1))) 128)).drew := ⟨_, rfl⟩
        rw [← hw5] at HN d1' c1' c2' f2' l2' l1' ⊢
        clear hw5
        generalize wr.heap.size = gk at *
        go_wp2_with fail
        go_roundw
        case rel => exact ⟨k + 1, _, by omega, by go_num, HN⟩
        case measure => simp [intOf]; omega
      · obtain rfl : k = N := by omega
        have HL0 := hid HK.out.tl
        clear HK
        go_wp2_with fail
        go_loopw [6] (fun s6 wr => ∃ s : Nat, 2 ≤ s ∧ s ≤ k + 1 ∧ s6 = .int .i64 s ∧ Hid (TL w1 wr b4 gS gR gi k s 0 S)) (fun s6 _ => k + 1 - (intOf s6).toNat)
        case atStart => exact ⟨2, by omega, by omega, rfl, HL0⟩
        case round =>
          obtain ⟨s, hs2, hsN, rfl, HS2⟩ := hrel
          clear HL0
          by_cases hp2 : s ≤ k
          · have hp2' : (s : Int) ≤ (k : Int) := by omega
            go_wp2_with fail
            obtain ⟨wo, rfl⟩ : ∃ wo : World, wo = wr := ⟨_, rfl⟩
            go_loopw [7] (fun s7 wr => ∃ f : Nat, f + s ≤ k + 1 ∧ s7 = .int .i64 f ∧ Hid (TL w1 wr b4 gS gR gi k s f S)) (fun s7 _ => k + 1 - (intOf s7).toNat)
            case atStart => exact ⟨0, by omega, rfl, HS2⟩
            case round =>
              obtain ⟨f, hf, rfl, HF⟩ := hrel
              clear HS2
              by_cases hp3 : f + s ≤ k
              · have hp3' : (f : Int) + (s : Int) ≤ (k : Int) := by omega
                have d0 := HF.out.two.c0
                have d1 := HF.out.two.c1
                have cR := HF.out.tab.rows.cell (i := f) (by omega)
                have hltR := HF.out.tab.rows.lt
                have hrf := HF.out.tab.row f (by omega)
                have hltF := hrf.lt
                have HBest : Hid (∀ u, Only (fun _ => False) wr u → Calls Try.prog 83 #[.agg #[sSV gS k, sRV gR k], .int .i64 (f : Int), .int .i64 ((f : Int) + (s : Int))] u fun e w' => e = .returned (.agg #[.int .i64 (ct S f (f + s)), .int .i64 ((rt S f (f + s) : Nat) : Int)]) ∧ StO wr w' ∧ Hid (w'.frozen? ⟨gi f, s * 2, none⟩ = false ∧ w'.frozen? ⟨gi f, s * 2 + 1, none⟩ = false ∧ gi f < w'.heap.size ∧ (∃ v, w'.cell? ⟨gi f, s * 2, none⟩ = some v) ∧ (∃ v, w'.cell? ⟨gi f, s * 2 + 1, none⟩ = some v))) := hid fun u hu => by
                  have := best_any (HF.out.tab.only hu) h2 hs2 rfl hp3 HS.out HB.out
                  have e : ((f + s : Nat) : Int) = (f : Int) + (s : Int) := by omega
                  rw [e] at this
                  refine this.mono fun e w' ⟨he, ho⟩ => ⟨he, hid (hu.trans ho.out), hid ?_⟩
                  have hr2 := (hu.trans ho.out).row hrf no_
                  exact ⟨hr2.frozen _, hr2.frozen _, hr2.lt, ⟨_, hr2.cell (by omega)⟩, ⟨_, hr2.cell (by omega)⟩⟩
                have hbF : b4 ≠ gi f := fun e => by
                  have h0 := HF.out.two
                  rw [e] at h0
                  exact rowIs_ne h0 hrf (by decide) rfl
                have hRF : gR ≠ gi f := rowIs_ne HF.out.tab.rows hrf (by decide)
                have hltB := World.rowIs.lt HF.out.two
                have HK1 : Hid (∀ u, StO wr u → u.cell? ⟨b4, 0, none⟩ = some (sSV gS k) ∧ u.cell? ⟨b4, 1, none⟩ = some (sRV gR k) ∧ u.cell? ⟨gR, f, none⟩ = some (.slice (some ⟨gi f, 0, none⟩) (k - f + 1) (k - f + 1))) := hid fun u hu =>
                  ⟨(hu.out.cell (p := ⟨b4, 0, none⟩) hltB no_).trans d0, (hu.out.cell (p := ⟨b4, 1, none⟩) hltB no_).trans d1, (hu.out.cell (p := ⟨gR, f, none⟩) hltR no_).trans cR⟩
                have HK2 : Hid (∀ u x y, StO wr u → ((u.setCell ⟨gi f, s * 2, none⟩ x).setCell ⟨gi f, s * 2 + 1, none⟩ y).cell? ⟨b4, 0, none⟩ = some (sSV gS k) ∧ ((u.setCell ⟨gi f, s * 2, none⟩ x).setCell ⟨gi f, s * 2 + 1, none⟩ y).cell? ⟨b4, 1, none⟩ = some (sRV gR k) ∧ ((u.setCell ⟨gi f, s * 2, none⟩ x).setCell ⟨gi f, s * 2 + 1, none⟩ y).cell? ⟨gR, f, none⟩ = some (.slice (some ⟨gi f, 0, none⟩) (k - f + 1) (k - f + 1))) := hid fun u x y hu => by
                  have hz : Only (fun c => c = gi f) wr ((u.setCell ⟨gi f, s * 2, none⟩ x).setCell ⟨gi f, s * 2 + 1, none⟩ y) := ((hu.out.mono (S' := fun c => c = gi f) fun _ _ h => h.elim).setCell (p := ⟨gi f, s * 2, none⟩) (.inl rfl) _).setCell (p := ⟨gi f, s * 2 + 1, none⟩) (.inl rfl) _
                  exact ⟨(hz.cell (p := ⟨b4, 0, none⟩) hltB hbF).trans d0, (hz.cell (p := ⟨b4, 1, none⟩) hltB hbF).trans d1, (hz.cell (p := ⟨gR, f, none⟩) hltR hRF).trans cR⟩
                have HN : Hid (∀ u, StO wr u → TL w1 ((u.setCell ⟨gi f, s * 2, none⟩ (.int .i64 (ct S f (f + s)))).setCell ⟨gi f, s * 2 + 1, none⟩ (.int .i64 ((rt S f (f + s) : Nat) : Int))) b4 gS gR gi k s (f + 1) S) := hid fun u hu => HF.out.step hu.out hs2 hp3
                have hsk : s < k - f + 1 := by omega
                clear HF hrf hbF hRF hltB
                generalize ct S f (f + s) = cv at HBest HN
                generalize rt S f (f + s) = rv at HBest HN
                generalize gi f = gF at *
                generalize k - f + 1 = mF at *
                have hw1 : IntKind.i64.wrap ((f : Int) + (s : Int)) = (f : Int) + (s : Int) := by rw [IntKind.wrap_i64]; omega
                have hb1 : (0 : Int) ≤ (f : Int) := by omega
                have hb2 : (f : Int) < (k : Int) := by omega
                have hb3 : (0 : Int) ≤ (s : Int) := by omega
                have hb4 : (s : Int) < (mF : Int) := by omega
                go_wp2_with fail
                go_region_held3 (fun w' => w'.cell? ⟨b4, 0, none⟩ = some (sSV gS k) ∧ w'.cell? ⟨b4, 1, none⟩ = some (sRV gR k) ∧ w'.cell? ⟨gR, f, none⟩ = some (.slice (some ⟨gF, 0, none⟩) mF mF))
                  (first | assumption | exact ⟨d0, d1, cR⟩ | exact ⟨by assumption, by assumption, by assumption⟩ | exact HK1.out _ (by assumption) | exact HK2.out _ _ _ (by assumption))
                  (first | (go_at_call 83; (with_reducible refine (HBest.out _ ?_).mono ?_); (first | with_reducible exact Only.refl _ _ | with_reducible exact (Only.refl _ _).drew); rintro e wx ⟨rfl, HOx, HFx⟩; have fx0 := HFx.out.1; have fx1 := HFx.out.2.1; have ltx := HFx.out.2.2.1; obtain ⟨vx0, cx0⟩ := HFx.out.2.2.2.1; obtain ⟨vx1, cx1⟩ := HFx.out.2.2.2.2))
                have HN2 := hid (HN.out _ HOx)
                clear HN HK1 HK2 HBest d0 d1 cR hltR hltF fx0 fx1 ltx cx0 cx1 HFx HOx hw1
                obtain ⟨wz, hwz⟩ : ∃ wz, wz = ((wx.setCell ⟨gF, s * 2, none⟩ (.int .i64 cv)).setCell ⟨gF, s * 2 + 1, none⟩ (.int .i64 (rv : Int))) := ⟨_, rfl⟩
                rw [← hwz] at HN2 ⊢
                clear hwz
                go_wp2_with fail
                go_roundw
                case rel => exact ⟨f + 1, by omega, by go_num, HN2⟩
                case measure => simp [intOf]; omega
              · have hp3' : ¬ (f : Int) + (s : Int) ≤ (k : Int) := by omega
                have HS3 := hid (HF.out.next (by omega))
                clear HF
                go_wp2_with fail
                go_roundw
                case rel => exact ⟨s + 1, by omega, by omega, by go_num, HS3⟩
                case measure => simp [intOf]; omega
          · obtain rfl : s = k + 1 := by omega
            have hp2' : ¬ ((k + 1 : Nat) : Int) ≤ (k : Int) := by omega
            have d0 := HS2.out.two.c0
            have d1 := HS2.out.two.c1
            have hx := HX.out.only HS2.out.only no_
            have f0 := World.rowIs.frozen hx 0
            have f1 := World.rowIs.frozen hx 1
            have x0 := hx.c0
            have x1 := hx.c1
            have hlt := World.rowIs.lt hx
            have HQ := hid fun a b => ret_cells hx a b
            have HF : Hid (∀ a b : Value, Only (fun _ => False) w ((wr.setCell ⟨w.heap.size, 0, none⟩ a).setCell ⟨w.heap.size, 1, none⟩ b)) := hid fun a b => ((HO1.out.trans HS2.out.only).setCell (p := ⟨w.heap.size, 0, none⟩) (.inr (Nat.le_refl _)) a).setCell (p := ⟨w.heap.size, 1, none⟩) (.inr (Nat.le_refl _)) b
            have HT : Hid (∀ a b : Value, TabH ((wr.setCell ⟨w.heap.size, 0, none⟩ a).setCell ⟨w.heap.size, 1, none⟩ b) gS gR gi k S (tabD S (k + 1) 0)) := hid fun a b => by
              have hz : Only (fun c => c = w.heap.size) wr ((wr.setCell ⟨w.heap.size, 0, none⟩ a).setCell ⟨w.heap.size, 1, none⟩ b) := ((Only.refl (fun c => c = w.heap.size) wr).setCell (p := ⟨w.heap.size, 0, none⟩) (.inl rfl) _).setCell (p := ⟨w.heap.size, 1, none⟩) (.inl rfl) _
              have ht := HS2.out.tab
              exact ⟨hz.row ht.sums (rowIs_ne ht.sums hx (by decide)), hz.row ht.rows (rowIs_ne ht.rows hx (by decide)), fun i hi => hz.row (ht.row i hi) (rowIs_ne (ht.row i hi) hx (by decide)), ht.apart⟩
            clear HS2 hx HX HO1
            go_wp2_with fail
            have q := HQ.out (sSV gS k) (sRV gR k)
            refine bodyPost_ret (v := .agg #[sSV gS k, sRV gR k]) (by simp [results, Try.results46, go_sem, q]) rfl ⟨gS, gR, rfl, ⟨gi, hid (HT.out _ _)⟩, hid (HF.out _ _)⟩
end Go.Proofs.Ythfnpgmjbfbocaa
