/- A text's bits put. -/
import Derived.Test.YtmbcinbkijnblaaQC
import Derived.Test.YtmbcinbkijnblaaQF
import Derived.Maps.AppendAt
import Derived.RangeFuncBox
import Derived.Test.YtmbcinbkijnblaaQE
namespace Go.Proofs.Ytmbcinbkijnblaa
open Go.RowKit Go.Shelf
attribute [local go_sem] Oper.semAt_some
attribute [-go_sem] Builtin.append_

theorem append_same {P : Program} {w : World} {t tx ty e : TypeId} {A : Option Addr} {n c : Nat} {x : Value} (ht : P.underlying t = some (.slice e)) (hx : P.underlying tx = some (.slice e)) : (Builtin.append_ #[t, tx] ty #[.slice A n c, x]).run P w = (Builtin.append_ #[t, t] ty #[.slice A n c, x]).run P w := by
  unfold Builtin.append_
  simp [run_underlying ht, run_underlying hx, Sem.run_bind]
theorem Boxed.only' {W W' : World} {b : Nat} {t : TypeId} {v : Value} (h : Boxed W b t v) (o : StO W W') : Boxed W' b t v := (o.block b h.lt no_).trans h
theorem Boxed.kept' {W W' : World} {b : Nat} {t : TypeId} {v : Value} {row : Option Nat} (h : Boxed W b t v) (hg : W.grownBy W' row) (hr : ∀ r, row = some r → ∃ o : Obj, W.heap[r]? = some o ∧ o.isCells = false) : Boxed W' b t v := h.kept hg fun e => by
  obtain ⟨o, ho, hc⟩ := hr b e.symm
  rw [show W.heap[b]? = _ from h] at ho
  injection ho with ho
  subst ho
  cases hc
theorem Boxed.far {W : World} {b c : Nat} {t : TypeId} {v u : Value} (h : Boxed W b t v) (hne : b ≠ c) : Boxed (W.setCell ⟨c, 0, none⟩ u) b t v := h.kept (grownBy_setCell' W c u) (fun e => by injection e with e; exact hne e)
theorem own_made {w W : World} (e : TypeId) (z : Value) (m : Nat) (h0 : w.heap.size ≤ W.heap.size) (hm : m ≤ maxLen) : (W.alloc (.cells (madeCells #[z] m) e)).ownsRow w.heap.size e 1 (.slice (some ⟨W.heap.size, 0, none⟩) 0 m) 0 [] :=
  ⟨by simp, .inr ⟨W.heap.size, m, _, rfl, h0, Go.Deep.blk_alloc_new _ _, by omega, hm, by simp [madeCells], by simp⟩⟩
theorem row_shut {w W' : World} {b n n₀ : Nat} {t : TypeId} {f : Nat → Value} (h : w.rowIs b t n f) (hs : Shut n₀ w W') : W'.rowIs b t n f := by
  obtain ⟨cs, h1, h2⟩ := h
  exact ⟨cs, hs.2.1 _ _ _ _ h1, h2⟩
theorem IsWr.shut {B n₀ g : Nat} {w W' : World} {e : Int} {xs : List Bool} (h : IsWr B w g e xs) (hs : Shut n₀ w W') : IsWr B W' g e xs := by
  obtain ⟨v, h⟩ := h
  exact ⟨v, h.small, row_shut h.self hs, own_shut h.own (Nat.le_refl _) hs, h.ge⟩
theorem FrT.shut {T : TypeId → Prop} {B : Nat} {a w W' : World} (h : FrT T B a w) (hs : Shut a.heap.size w W') : FrT T B a W' :=
  ⟨hs.1.os.trans h.os, hs.1.tape.trans h.tape, hs.1.output.trans h.output, Nat.le_trans h.size hs.2.2, fun i hi hn => (hs.1.block i hi).trans (h.block i hi hn)⟩
/-- The box of the row holds the bits so far. -/
def PtG (sg : List Nat) (ws : List (List Bool)) (pre : List (Fin 257)) (v : Value) : Prop := ∃ gr c, v = .slice (some ⟨gr, 0, none⟩) (bitsT sg ws pre).length c
def bvs (l : List Bool) : List Value := l.map Value.bool
theorem bvs_one (l : List Bool) : ∀ u ∈ bvs l, u.oneCell' = true := by
  intro u hu
  obtain ⟨b, _, rfl⟩ := List.mem_map.1 hu
  rfl
theorem vB_bvs (l : List Bool) : valsL (vB l) l.length = bvs l := by
  apply List.ext_getElem?
  intro j
  by_cases hj : j < l.length
  · rw [valsL_get hj]; simp [vB, bvs, List.getD, hj]
  · rw [List.getElem?_eq_none (by rw [valsL_len]; omega), List.getElem?_eq_none (by unfold bvs; rw [List.length_map]; omega)]
theorem run_addW {V : World} {base gr k c q : Nat} {xs : List Value} {A : Option Addr} {u : List Bool} (hown : V.ownsRow base 4 1 (.slice (some ⟨gr, 0, none⟩) k c) k xs) (hx : RdB V A u) (hA : A = none → u.length = 0) (hq : q = u.length) (hle : k + q ≤ 3000000) (hb : base ≤ V.heap.size) :
    ∃ g' c' V', (Builtin.append_ #[29, 101] 29 #[.slice (some ⟨gr, 0, none⟩) k c, .slice A q q]).run Try.prog V.drew = .ok (.slice (some ⟨g', 0, none⟩) (k + q) c') V' ∧ V'.ownsRow base 4 1 (.slice (some ⟨g', 0, none⟩) (k + q) c') (k + q) (xs ++ bvs u) ∧ V.drew.grownBy V' (Value.ownBlock (.slice (some ⟨gr, 0, none⟩) k c)) := by
  subst hq
  obtain ⟨i0, hi0, hz0, hz1, hz2⟩ := info_parts boolInfoK
  rw [append_same Try.underlying29 Try.underlying101]
  have hown2 : V.drew.ownsRow base 4 1 (.slice (some ⟨gr, 0, none⟩) k c) k xs := hown
  cases A with
  | some ad =>
    have hnews : ∀ j z, (bvs u)[j]? = some z → V.drew.cell? (ad.add j) = some z := by rw [← vB_bvs]; exact hx.news ad rfl
    obtain ⟨v', V', hrun, h1, h2, h3, _⟩ := run_append_own_at (P := Try.prog) V.drew base 29 29 4 i0 (.bool false) 1 1 Try.underlying29 hi0 hz0 hz1 hz2 rfl (by omega) _ k xs hown2 ad u.length u.length (bvs u) (by simp [bvs]) hnews (bvs_one u) (by unfold maxLen; omega) (by omega) hb
    rcases h1.2 with ⟨e, _⟩ | ⟨g', c', cur, e, _⟩
    · exact absurd (h3.1 e).1 (by simp)
    · subst e
      exact ⟨g', c', V', hrun, h1, h2⟩
  | none =>
    have h0 := hA rfl
    obtain rfl : u = [] := List.eq_nil_of_length_eq_zero h0
    have hrun := run_append_owned_none (P := Try.prog) V.drew base 29 29 4 i0 1 Try.underlying29 hi0 _ k xs hown2
    refine ⟨gr, c, V.drew, by simpa using hrun, by simpa [bvs] using hown2, ⟨rfl, rfl, rfl, Nat.le_refl _, fun _ _ _ => rfl⟩⟩
/-- Behind the append and the store. -/
theorem put_step {V V1 : World} {n₀ b : Nat} {v v' : Value} {k m : Nat} {xs ys : List Value} (hv : Boxed V b 29 v) (hrow : V.ownsRow n₀ 4 1 v k xs) (hn₀ : n₀ ≤ V.heap.size) (hb : n₀ ≤ b) (hown : V1.ownsRow n₀ 4 1 v' m ys) (hg : V.drew.grownBy V1 v.ownBlock) :
    Boxed V1 b 29 v ∧ Boxed (V1.setCell ⟨b, 0, none⟩ v') b 29 v' ∧ (V1.setCell ⟨b, 0, none⟩ v').ownsRow n₀ 4 1 v' m ys ∧ KeepsOthers V (V1.setCell ⟨b, 0, none⟩ v') ∧ Below n₀ V (V1.setCell ⟨b, 0, none⟩ v') ∧
    ∀ c t u, c ≠ b → t ≠ 4 → Boxed V c t u → Boxed (V1.setCell ⟨b, 0, none⟩ v') c t u := by
  have hd : Boxed V.drew b 29 v := hv
  have hrd : V.drew.ownsRow n₀ 4 1 v k xs := hrow
  have hv1 : Boxed V1 b 29 v := hd.kept hg (hd.not_row (by decide) hrd)
  refine ⟨hv1, hv1.set v', hown.kept (grownBy_setCell' V1 b v') (.inr (hv1.not_row (by decide) hown).symm), ?_, ?_, fun c t u hc ht h => ?_⟩
  · refine ((KeepsOthers.drew V).trans (KeepsOthers.of_grownBy hg fun j o ej hj => ?_)).trans (KeepsOthers.setCell _ _ _)
    rcases hrd.2 with ⟨rfl, _⟩ | ⟨g, cap, cur, rfl, _, hgb, _⟩
    · simp [Value.ownBlock] at ej
    · obtain rfl : g = j := by simpa [Value.ownBlock] using ej
      rw [hgb] at hj; cases hj; rfl
  · refine (((Below.refl n₀ V).drew).grown hg hn₀ fun j ej => ?_).setCell (p := ⟨b, 0, none⟩) hb v'
    rcases hrow.2 with ⟨rfl, _⟩ | ⟨g, cap, cur, rfl, hb, _, _⟩
    · simp [Value.ownBlock] at ej
    · obtain rfl : g = j := by simpa [Value.ownBlock] using ej
      exact hb
  · have hcd : Boxed V.drew c t u := h
    exact Boxed.far (hcd.kept hg (hcd.not_row ht hrd)) hc
set_option maxRecDepth 100000 in
set_option maxHeartbeats 4000000 in
theorem putC_ok {B Bw g gw : Nat} {w : World} {e : Int} {xs : List Bool} {sg : List Nat} {ws : List (List Bool)} {s : ByteArray} (h : CodeS B w g sg ws) (hwr : IsWr Bw w gw e xs) (hB0' : Bw ≤ w.heap.size) (hsz : s.size ≤ 11000) (hok : okT sg (sgT s) = true) :
    Calls Try.prog 25 #[.pointer (some ⟨g, 0, none⟩), .pointer (some ⟨gw, 0, none⟩), .string s] w (WrE Bw w gw (putB (e, xs) (bitsT sg ws (sgT s)))) := by
  have hbl := bitsT_len h (sgT s)
  rw [sgT_len] at hbl
  have HLg : Hid (∀ W, StO w W → Calls Try.prog 38 #[.pointer (some ⟨g, 0, none⟩), .string s] W fun e' w' => e' = .returned (.tuple #[.int .i64 (((bitsT sg ws (sgT s)).length : Nat) : Int), .int .i64 0]) ∧ StO W w') := hid fun W hW => by
    have h1 := long_any (s := s) (h.same hW.out) (by omega)
    unfold LongE at h1
    rwa [if_pos hok] at h1
  have HSg := hid fun W => signsOf_any s W
  obtain ⟨m, hm⟩ : ∃ m, m = (bitsT sg ws (sgT s)).length := ⟨_, rfl⟩
  rw [← hm] at hbl HLg
  have Hm := hid hm
  have hm3 : m ≤ 3000000 := by omega
  have hm16 : ¬ (16777216 : Int) < (m : Int) := by omega
  obtain ⟨i0, hi0, hz0, hz1, hz2⟩ := info_parts boolInfoK
  have hmk := fun W => run_make (P := Try.prog) W 29 4 i0 (.bool false) Try.underlying29 hi0 hz0 .i64 .i64 0 (m : Int) (by omega) (by omega) (by rw [hz2]; omega) (by omega)
  rw [Int.toNat_natCast, hz1] at hmk
  clear hi0 hz0 hz1 hz2
  have hmix : Try.prog.follows Departure.mixedOrders = true := by kernel_rfl
  have hfn1 : Fence.wide.fn 38 := trivial
  have hfn2 : Fence.wide.fn 63 := trivial
  have hfn3 : Fence.wide.fn 62 := trivial
  clear hm hbl
  refine (callsIn_wide (n := 6)).1 ?_
  refine callsIn_of_wp_marks Try.func25 rfl trivial ?_ rfl
  simp only [Try.ntmps25, List.size_toArray, List.length_cons, List.length_nil, Nat.reduceAdd, Nat.reduceSub, Array.replicate_succ, Array.replicate_zero, List.push_toArray, List.append_toArray, List.nil_append, List.cons_append]
  gi_wp2_with (gi_at_call 38; refine (callsIn_wide.2 (HLg.out _ (hid ((Only.refl _ w).alloc _)))).mono ?_; rintro e w1 ⟨rfl, HO1⟩)
  have y1 : Boxed w1 w.heap.size 31 (.pointer (some ⟨g, 0, none⟩)) := Boxed.only' (Boxed.new w _ _) HO1.out
  obtain ⟨c1, f1⟩ := And.intro y1.cell y1.frozen
  have Y1 := hid y1
  clear y1
  have HB1 : Hid (StO w w1) := hid (((Only.refl _ w).alloc _).trans HO1.out)
  gi_wp2_with (gi_at_call 63; refine (callsIn_wide.2 (HSg.out _)).mono ?_; rintro e w2 ⟨rfl, rfl⟩)
  clear hmk c1 f1 HLg HSg hm16
  have hle1 := HB1.out.size
  have hlt1 : w.heap.size < w1.heap.size := Y1.out.lt
  obtain ⟨b1, hb1⟩ : ∃ b1, b1 = w1.heap.size := ⟨_, rfl⟩
  have z1 : Boxed (((w1.alloc (.cells (madeCells #[.bool false] m) 4)).alloc (.cells #[.slice (some ⟨w1.heap.size, 0, none⟩) 0 m] 29)).alloc (.cells #[.string s] 9)) w.heap.size 31 (.pointer (some ⟨g, 0, none⟩)) := ((Y1.out.alloc _).alloc _).alloc _
  have z2 : Boxed (((w1.alloc (.cells (madeCells #[.bool false] m) 4)).alloc (.cells #[.slice (some ⟨w1.heap.size, 0, none⟩) 0 m] 29)).alloc (.cells #[.string s] 9)) (w1.heap.size + 1) 29 (.slice (some ⟨w1.heap.size, 0, none⟩) 0 m) := by
    have := (Boxed.new (w1.alloc (.cells (madeCells #[.bool false] m) 4)) 29 (.slice (some ⟨w1.heap.size, 0, none⟩) 0 m)).alloc (.cells #[.string s] 9)
    simpa using this
  have z3 : Boxed (((w1.alloc (.cells (madeCells #[.bool false] m) 4)).alloc (.cells #[.slice (some ⟨w1.heap.size, 0, none⟩) 0 m] 29)).alloc (.cells #[.string s] 9)) (w1.heap.size + 1 + 1) 9 (.string s) := by
    have := Boxed.new ((w1.alloc (.cells (madeCells #[.bool false] m) 4)).alloc (.cells #[.slice (some ⟨w1.heap.size, 0, none⟩) 0 m] 29)) 9 (.string s)
    simpa using this
  have z4 : ((((w1.alloc (.cells (madeCells #[.bool false] m) 4)).alloc (.cells #[.slice (some ⟨w1.heap.size, 0, none⟩) 0 m] 29)).alloc (.cells #[.string s] 9))).ownsRow w.heap.size 4 1 (.slice (some ⟨w1.heap.size, 0, none⟩) 0 m) 0 [] := by
    have h1 := own_made (w := w) (W := w1) 4 (.bool false) m hle1 (by unfold maxLen; omega)
    exact own_keep h1 (((Only.refl (fun _ => False) _).alloc _).alloc _) fun _ _ => no_
  have hsz0 : ((((w1.alloc (.cells (madeCells #[.bool false] m) 4)).alloc (.cells #[.slice (some ⟨w1.heap.size, 0, none⟩) 0 m] 29)).alloc (.cells #[.string s] 9))).heap.size = w1.heap.size + 1 + 1 + 1 := by simp
  have hB0 : Below w.heap.size w ((((w1.alloc (.cells (madeCells #[.bool false] m) 4)).alloc (.cells #[.slice (some ⟨w1.heap.size, 0, none⟩) 0 m] 29)).alloc (.cells #[.string s] 9))) := (((HB1.out.to_below (fun _ h => h.elim) (Nat.le_refl _)).alloc hle1 _).alloc (by simp; omega) _).alloc (by simp; omega) _
  generalize (((w1.alloc (.cells (madeCells #[.bool false] m) 4)).alloc (.cells #[.slice (some ⟨w1.heap.size, 0, none⟩) 0 m] 29)).alloc (.cells #[.string s] 9)) = W0 at *
  clear Y1
  rw [← hb1] at z2 z3 z4 hsz0 hlt1 ⊢
  have z5 : PtG sg ws [] (.slice (some ⟨b1, 0, none⟩) 0 m) := ⟨b1, m, by simp [bitsT]⟩
  have Hb1 := hid hb1
  clear hb1
  have HCell : Hid (∀ W, Below w.heap.size w W → ∀ x : Fin 257, CodeS B W g sg ws ∧ ∃ A, W.cell? ⟨g, 2 + x.val, none⟩ = some (.slice A (wordZ sg ws x.val).length (wordZ sg ws x.val).length) ∧ RdB W A (wordZ sg ws x.val) ∧ (A = none → (wordZ sg ws x.val).length = 0)) := hid fun W hW x => by
    have h2 := h.same (Only.of_below hW _)
    obtain ⟨A, h1, h3, h4, _⟩ := h2.cell x.isLt
    exact ⟨h2, A, h1, h3, h4⟩
  refine wpIn_rangeFunc_ownF rfl (by omega) (gf := 93) (lb := #[.pointer (some ⟨b1 + 1 + 1, 0, none⟩)]) rfl trivial (enters_of Try.func93 (by kernel_rfl) rfl)
    (sg_stops 5 (by omega) (b1 + 1 + 1) s (by omega) W0 (by omega) z3.cell) kpS_t kpS_b (Below.refl _ _) (fun _ => rfl)
    (fun pre W => ((∃ v, Boxed W (b1 + 1) 29 v ∧ W.ownsRow w.heap.size 4 1 v (bitsT sg ws pre).length (bvs (bitsT sg ws pre)) ∧ PtG sg ws pre v) ∧ (Boxed W w.heap.size 31 (.pointer (some ⟨g, 0, none⟩)) ∧ Boxed W (b1 + 1 + 1) 9 (.string s))) ∧ Below w.heap.size w W)
    (fun _ _ _ => False)
    (OwnFrom.and (OwnFrom.and (Own.from (holdsRow_own w.heap.size (b1 + 1) 29 4 1 (fun pre => (bitsT sg ws pre).length) (fun pre => bvs (bitsT sg ws pre)) (PtG sg ws)) _) (Own.from (I := fun (_ : List (Fin 257)) W => Boxed W w.heap.size 31 (.pointer (some ⟨g, 0, none⟩)) ∧ Boxed W (b1 + 1 + 1) 9 (.string s)) (fun _ A B row hs hg hr => ⟨Boxed.kept' hs.1 hg hr, Boxed.kept' hs.2 hg hr⟩) _)) (ownFrom_below (Nat.le_refl _) (by omega)))
    (fun _ _ _ _ _ hs _ _ => hs)
    ⟨⟨⟨_, z2, by simpa [bitsT, bvs] using z4, z5⟩, z1, z3⟩, hB0⟩
    (fun x => { tmps := #[.pointer (some ⟨g, 0, none⟩), .pointer (some ⟨gw, 0, none⟩), .string s, .pointer (some ⟨w.heap.size, 0, none⟩), undef, undef, .int .i64 0, .int .i64 (m : Int), .int .i64 0, .pointer (some ⟨b1 + 1, 0, none⟩), .int .i64 ((x.val : Nat) : Int), .tuple #[.int .i64 (m : Int), .int .i64 0], .pointer (some ⟨g, 0, none⟩), .string s, .tuple #[.int .i64 (m : Int), .int .i64 0], .int .i64 (m : Int), .int .i64 0, .int .i64 0, .bool false, undef, .int .i64 (m : Int), .bool (decide ((16777216 : Int) < (m : Int))), undef, undef, undef, .int .i64 (m : Int), .slice (some ⟨b1, 0, none⟩) 0 m, .string s, .func (.func 93) #[] #[.pointer (some ⟨b1 + 1 + 1, 0, none⟩)], .int .i64 ((x.val : Nat) : Int), undef, undef, undef, undef, undef, undef, undef, undef, undef, undef, undef], defers := [] }) ?assign ?body ?done ?stop
  case assign =>
    intro l x W K hK
    unfold encS
    gi_wp2
    exact hK
  case body =>
    rintro l pre x V ⟨⟨⟨v, bv1, hown, hG⟩, bp, bs⟩, hB⟩ hlt
    obtain ⟨gr, c, rfl⟩ := hG
    obtain ⟨hC, A, cA, hrA, hpos⟩ := HCell.out V hB x
    rw [sgT_len] at hlt
    have hx' : ((x.val : Nat) : Int) < 257 := by have := x.isLt; omega
    have hbl := bitsT_len hC (pre ++ [x])
    have hs1 := bitsT_snoc sg ws pre x
    have hl1 : (bitsT sg ws (pre ++ [x])).length = (bitsT sg ws pre).length + (wordZ sg ws x.val).length := by rw [hs1, List.length_append]
    rw [hl1, List.length_append] at hbl
    have hbl2 : (bitsT sg ws pre).length + (wordZ sg ws x.val).length ≤ 3000000 := by simp at hbl; omega
    obtain ⟨g', c', V', hrun, hown', hg⟩ := run_addW (q := (wordZ sg ws x.val).length) hown hrA hpos rfl hbl2 hB.size
    obtain ⟨r1, r2, r3, r4, r5, r6⟩ := put_step bv1 hown hB.size (by omega) hown' hg
    have cb := bv1.cell
    have cp := bp.cell
    have cb1 := r1.cell
    have fb1 := r1.frozen
    have hw2 : bvs (bitsT sg ws pre) ++ bvs (wordZ sg ws x.val) = bvs (bitsT sg ws (pre ++ [x])) := by rw [hs1]; simp [bvs]
    have HFin : Hid (KeepsOthers V (V'.setCell ⟨b1 + 1, 0, none⟩ (.slice (some ⟨g', 0, none⟩) ((bitsT sg ws pre).length + (wordZ sg ws x.val).length) c')) ∧ KpS (b1 + 1 + 1) s V (V'.setCell ⟨b1 + 1, 0, none⟩ (.slice (some ⟨g', 0, none⟩) ((bitsT sg ws pre).length + (wordZ sg ws x.val).length) c')) ∧
        ((∃ v, Boxed (V'.setCell ⟨b1 + 1, 0, none⟩ (.slice (some ⟨g', 0, none⟩) ((bitsT sg ws pre).length + (wordZ sg ws x.val).length) c')) (b1 + 1) 29 v ∧ (V'.setCell ⟨b1 + 1, 0, none⟩ (.slice (some ⟨g', 0, none⟩) ((bitsT sg ws pre).length + (wordZ sg ws x.val).length) c')).ownsRow w.heap.size 4 1 v (bitsT sg ws (pre ++ [x])).length (bvs (bitsT sg ws (pre ++ [x]))) ∧ PtG sg ws (pre ++ [x]) v) ∧
          (Boxed (V'.setCell ⟨b1 + 1, 0, none⟩ (.slice (some ⟨g', 0, none⟩) ((bitsT sg ws pre).length + (wordZ sg ws x.val).length) c')) w.heap.size 31 (.pointer (some ⟨g, 0, none⟩)) ∧ Boxed (V'.setCell ⟨b1 + 1, 0, none⟩ (.slice (some ⟨g', 0, none⟩) ((bitsT sg ws pre).length + (wordZ sg ws x.val).length) c')) (b1 + 1 + 1) 9 (.string s))) ∧
        Below w.heap.size w (V'.setCell ⟨b1 + 1, 0, none⟩ (.slice (some ⟨g', 0, none⟩) ((bitsT sg ws pre).length + (wordZ sg ws x.val).length) c'))) := hid (by
      have q1 := r6 w.heap.size 31 _ (by omega) (by decide) bp
      have q2 := r6 (b1 + 1 + 1) 9 _ (by omega) (by decide) bs
      refine ⟨r4, fun _ => q2.cell, ⟨⟨_, r2, ?_, g', c', by rw [hl1]⟩, q1, q2⟩, hB.trans r5⟩
      rw [hl1, ← hw2]
      exact r3)
    clear hC hrA hpos hlt hbl hs1 hl1 hown hown' hg r1 r2 r3 r4 r5 r6 bv1 bp bs hB hw2
    generalize (wordZ sg ws x.val).length = q at *
    generalize (bitsT sg ws pre).length = k at *
    gi_wp2
    gi_region_with_o (fail)
    all_goals exact ⟨HFin.out.1, HFin.out.2.1, HFin.out.2.2.1, HFin.out.2.2.2⟩
  case done =>
    rintro D ys V hD rfl ⟨⟨⟨v, bv1, hown, hG⟩, bp, bs⟩, hB⟩ hK
    obtain ⟨gr, c, rfl⟩ := hG
    have HK := hid hK
    have HD := hid hD
    have hrd : Hid (RdB V (some ⟨gr, 0, none⟩) (bitsT sg ws (sgT s)) ∧ ArgOk V (some ⟨gr, 0, none⟩) Bw) := hid (by
      rcases hown.2 with ⟨e, _⟩ | ⟨g', cap, cur, e, hge, hh, hle, hcm, hsz, ht⟩
      · cases e
      · injection e with e _ _
        injection e with e
        injection e with e _ _
        subst e
        refine ⟨fun _ => ⟨gr, 0, rfl, fun j hj => ?_⟩, fun b off e hb => .inr fun ht2 => ?_⟩
        · have h1 : j < cur.size := by rw [hsz]; omega
          have h2 : (cur.toList.take ((bitsT sg ws (sgT s)).length * 1))[j]? = (bvs (bitsT sg ws (sgT s)))[j]? := by rw [ht]
          rw [List.getElem?_take_of_lt (by omega)] at h2
          have h3 : (bvs (bitsT sg ws (sgT s)))[j]? = some (vB (bitsT sg ws (sgT s)) j) := by simp [bvs, vB, List.getD, hj]
          rw [h3] at h2
          simp only [Nat.zero_add]
          have h4 : cur[j]? = some (vB (bitsT sg ws (sgT s)) j) := by rw [← Array.getElem?_toList]; exact h2
          simp [World.cell?, hh, h4]
        · injection e with e
          injection e with e _ _
          subst e
          obtain ⟨cs, t, fz, h5, h6⟩ := ht2
          rw [hh] at h5
          injection h5 with h5
          injection h5 with _ h5 _
          subst h5
          rcases h6 with h6 | h6
          · exact absurd h6 (by decide)
          · exact absurd h6 (by decide))
    have HPut := hid (put_any (cap := c) (hwr.same (Only.of_below hB _)) (Nat.le_trans hB0' hB.size) hrd.out.1 (fun _ => hrd.out.2) (by rw [← Hm.out]; exact hm3))
    have cb := bv1.cell
    have HB := hid hB
    clear bv1 hown bp bs hB hK hD hwr
    rw [← Hm.out] at HPut cb
    gi_wp2_with (gi_at_call 62; refine (callsIn_wide.2 HPut.out).mono ?_; rintro e w4 ⟨rfl, H4⟩)
    have hK4 : w4.heap[D]? = some (.deferred (some [])) := by
      refine (H4.out.2.block D ?_ ?_).trans HK.out
      · exact (Array.getElem?_eq_some_iff.1 HK.out).1
      · rintro ⟨_, cs, t, fz, h1, _⟩
        rw [HK.out] at h1
        cases h1
    have HK4 := hid hK4
    clear hK4
    gi_wp2
    refine leaves_all (n₀ := w.heap.size) [D] w4 ⟨by simp, fun E hE => by obtain rfl := List.mem_singleton.1 hE; exact HK4.out⟩ (fun E hE => by obtain rfl := List.mem_singleton.1 hE; have := HD.out; omega) fun W' hW' => ?_
    refine ⟨.int .i64 (putB (e, xs) (bitsT sg ws (sgT s))).1, ?_, rfl, hid ⟨H4.out.1.shut hW', ?_⟩⟩
    · simp [results, Try.f25, go_sem]
    · have h5 : FrT TW Bw w w4 := (FrT.of_only (Only.of_below HB.out _)).trans H4.out.2
      exact h5.shut hW'
  case stop =>
    rintro D c pre V _ _ h _
    exact h.elim
set_option maxRecDepth 100000 in
set_option maxHeartbeats 4000000 in
theorem putC_bad {B g gw : Nat} {w : World} {sg : List Nat} {ws : List (List Bool)} {s : ByteArray} (h : CodeS B w g sg ws) (hsz : s.size ≤ 1000000) (hok : okT sg (sgT s) = false) :
    Calls Try.prog 25 #[.pointer (some ⟨g, 0, none⟩), .pointer (some ⟨gw, 0, none⟩), .string s] w fun e' w' => e' = .returned (.int .i64 2) ∧ StO w w' := by
  have HLg : Hid (∀ W, StO w W → Calls Try.prog 38 #[.pointer (some ⟨g, 0, none⟩), .string s] W fun e' w' => e' = .returned (.tuple #[.int .i64 0, .int .i64 2]) ∧ StO W w') := hid fun W hW => by
    have h1 := long_any (s := s) (h.same hW.out) (by omega)
    unfold LongE at h1
    rw [hok] at h1
    exact h1
  go_enter Try.func25, Try.ntmps25
  go_wp2_with fail
  refine (HLg.out _ (hid ((Only.refl _ w).alloc _))).mono ?_
  rintro e w1 ⟨rfl, HO1⟩
  go_wp2_with fail
  go_ret
  exact ⟨rfl, hid (((Only.refl _ w).alloc _).trans HO1.out)⟩
end Go.Proofs.Ytmbcinbkijnblaa
