/- The best code of texts. -/
import Derived.Test.YtmbcinbkijnblaaQC
import Derived.Test.YtmbcinbkijnblaaQT
import Derived.Maps.OwnIn
import Derived.Deep.MidRow
import Derived.Test.YtmbcinbkijnblaaShelf
namespace Go.Proofs.Ytmbcinbkijnblaa
open Go.RowKit Go.Shelf
attribute [local go_sem] Oper.semAt_some

def cntS (l : List (Fin 257)) (s : Nat) : Nat := l.countP fun x => decide (x.val = s)
theorem cntS_snoc (l : List (Fin 257)) (x : Fin 257) (s : Nat) : cntS (l ++ [x]) s = cntS l s + if x.val = s then 1 else 0 := by
  unfold cntS
  rw [List.countP_append, List.countP_singleton]
  simp
theorem cntS_le (l : List (Fin 257)) (s : Nat) : cntS l s ≤ l.length := List.countP_le_length
def allS (L : List ByteArray) : List (Fin 257) := L.flatMap sgT
def strAt (L : List ByteArray) (j : Nat) : ByteArray := L.getD j ByteArray.empty
def vS (L : List ByteArray) (j : Nat) : Value := .string (strAt L j)
abbrev RdS (w : World) (A : Option Addr) (L : List ByteArray) : Prop := RdV w A L.length (vS L)
theorem allS_take {L : List ByteArray} {k : Nat} (h : k < L.length) : allS (L.take (k + 1)) = allS (L.take k) ++ sgT (strAt L k) := by
  unfold allS
  rw [List.take_add_one, List.flatMap_append]
  congr 1
  simp [strAt, List.getD, h]
theorem allS_len {L : List ByteArray} (k : Nat) : (allS (L.take k)).length ≤ (allS L).length := by
  have h : allS L = allS (L.take k) ++ allS (L.drop k) := by unfold allS; rw [← List.flatMap_append, List.take_append_drop]
  rw [h, List.length_append]
  omega
theorem str_len {L : List ByteArray} {k : Nat} (h : k < L.length) : (allS (L.take k)).length + (strAt L k).size + 1 ≤ (allS L).length := by
  have h1 := allS_len (L := L) (k + 1)
  rw [allS_take h, List.length_append, sgT_len] at h1
  omega
/-- The rows of deferred calls that ranges left behind. -/
def dsOf (Ds : List Nat) : List Deferred := Ds.map fun D => { target := .collected D, args := #[] }
def DsOk (W : World) (Ds : List Nat) : Prop := Ds.Nodup ∧ ∀ D ∈ Ds, W.heap[D]? = some (.deferred (some []))
theorem dsOk_kept {β : Type} {B : Nat} {Ds : List Nat} (h : ∀ D ∈ Ds, D < B) : OwnFrom B (fun (_ : β) W => DsOk W Ds) := fun s X Y row hs hg hr => ⟨hs.1, fun D hD => by
  have h1 := hs.2 D hD
  have hlt : D < X.heap.size := by
    rcases Nat.lt_or_ge D X.heap.size with a | a
    · exact a
    · rw [Array.getElem?_eq_none a] at h1; cases h1
  rw [hg.block D hlt (fun e => by have := (hr D e.symm).1; have := h D hD; omega)]
  exact h1⟩
theorem DsOk.lt {W : World} {Ds : List Nat} (h : DsOk W Ds) : ∀ D ∈ Ds, D < W.heap.size := fun D hD => by
  have h1 := h.2 D hD
  rcases Nat.lt_or_ge D W.heap.size with a | a
  · exact a
  · rw [Array.getElem?_eq_none a] at h1; cases h1
theorem row_kept {A B : World} {b n : Nat} {t : TypeId} {f : Nat → Value} {row : Option Nat} (h : A.rowIs b t n f) (hg : A.grownBy B row) (hr : ∀ r, row = some r → ∃ o : Obj, A.heap[r]? = some o ∧ o.isCells = false) : B.rowIs b t n f :=
  h.of_block (hg.block b h.lt fun e => by
    obtain ⟨o, ho, hc⟩ := hr b e.symm
    obtain ⟨cs, hb, _⟩ := h
    rw [hb] at ho
    injection ho with ho
    subst ho
    cases hc)
theorem zeroI1 : (Try.zeroCells141).size = 257 := by kernel_rfl
theorem zeroI2 : (Try.zeroCells141).toList = List.replicate 257 (.int .i64 0) := by kernel_rfl
def cntV (l : List (Fin 257)) (s : Nat) : Value := .int .i64 ((cntS l s : Nat) : Int)
theorem zeroI_row (w : World) : (w.alloc (.cells (Try.zeroCells141) 141)).rowIs w.heap.size 141 257 (cntV []) := by
  refine ⟨_, Go.Deep.blk_alloc_new _ _, zeroI1, fun i hi => ?_⟩
  rw [← Array.getElem?_toList, zeroI2, List.getElem?_replicate, if_pos hi]
  rfl
theorem cntV_step {W : World} {b : Nat} {l : List (Fin 257)} {x : Fin 257} (h : W.rowIs b 141 257 (cntV l)) : (W.setCell ⟨b, x.val, none⟩ (.int .i64 ((cntS l x.val : Nat) + 1 : Int))).rowIs b 141 257 (cntV (l ++ [x])) :=
  (h.set x.val _).congr fun j _ => by
    unfold cntV
    rw [cntS_snoc]
    by_cases e : j = x.val
    · subst e; simp
    · rw [if_neg e, if_neg (fun e2 => e e2.symm)]; simp
/-- Between two texts. -/
def CtI (w : World) (A : Option Addr) (n c : Nat) (L : List ByteArray) (a : Act) (W : World) : Prop :=
  ∃ (k : Nat) (Ds : List Nat) (u6 u13 u14 u15 u16 u17 u24 : Value), a = { tmps := #[.slice A n c, undef, .slice none 0 0, .slice none 0 0, .pointer (some ⟨w.heap.size, 0, none⟩), undef, u6, undef, undef, undef, .slice A n c, .int .i64 (n : Int), .int .i64 (k : Int), u13, u14, u15, u16, u17, undef, undef, undef, undef, undef, undef, u24, undef, undef, undef, undef, undef, undef, undef, undef, undef, undef, undef, undef, undef, undef, undef, undef, undef, undef], defers := dsOf Ds } ∧ k ≤ n ∧ Hid (W.rowIs w.heap.size 141 257 (cntV (allS (L.take k))) ∧ Below w.heap.size w W ∧ DsOk W Ds ∧ (∀ D ∈ Ds, w.heap.size ≤ D))
theorem kpS_cell {Bn c o : Nat} {s : ByteArray} {W : World} {u : Value} (h : c ≠ Bn) : KpS Bn s W (W.setCell ⟨c, o, none⟩ u) := fun hc => by
  rw [World.cell?_setCell_far _ _ _ _ (show (⟨c, o, none⟩ : Addr).block ≠ (⟨Bn, 0, none⟩ : Addr).block from h)]
  exact hc
theorem wpListIn_load_mid {F : Fence} {nF : Nat} {P : Program} {ops : Array Oper} {rest : List Oper} {op : Oper} {a : Act} {w : World} {Q : Exit → Act → World → Prop} (hgd : op.guard = none) (ty : TypeId) (x : Operand) (ho : op.op = .load ty x)
    (b o : Nat) (hx : a.eval x = .pointer (some ⟨b, o, none⟩)) (cs : List Value) (d : TypeDesc) (hc : w.rangeAt b o cs)
    (hu : P.underlying ty = some d) (hd : d.isRow = true) (hi : (P.info? ty).map (·.size) = some cs.length)
    (h : wpListIn F nF P ops Q rest (a.put op.dst (.agg cs.toArray)) w) : wpListIn F nF P ops Q (op :: rest) a w := by
  refine wpListIn_plain hgd fun K hK => ?_
  unfold Oper.wpIn
  refine ⟨by simp [Oper.about, ho], ?_⟩
  rw [Oper.semAt_plain F _ _ (by rw [ho]; intro c hc'; cases hc')]
  have hrun := run_loadAt_mid w b o ty cs d hc hu hd hi
  unfold execOp
  simp only [ho, hx, Sem.run_bind, hrun, Result.andThen_ok, Sem.run_pure]
  exact hK _ _ h
theorem dsOk_new {W : World} {Ds : List Nat} {D : Nat} (h : DsOk W Ds) (hD : D ∉ Ds) (hk : W.heap[D]? = some (.deferred (some []))) : DsOk W (D :: Ds) :=
  ⟨List.nodup_cons.2 ⟨hD, h.1⟩, fun E hE => by
    rcases List.mem_cons.1 hE with rfl | hE
    · exact hk
    · exact h.2 E hE⟩
theorem DsOk.set {W : World} {Ds : List Nat} {p : Addr} {u : Value} (h : DsOk W Ds) : DsOk (W.setCell p u) Ds := ⟨h.1, fun D hD => (KeepsOthers.setCell W p u).same D _ (h.2 D hD) rfl⟩
def sgUp (l : List (Fin 257)) (k : Nat) : List Nat := (List.range k).filter fun s => decide (0 < cntS l s)
def csUp (l : List (Fin 257)) (k : Nat) : List Int := (sgUp l k).map fun s => ((cntS l s : Nat) : Int)
theorem sgUp_step (l : List (Fin 257)) (k : Nat) : sgUp l (k + 1) = sgUp l k ++ if 0 < cntS l k then [k] else [] := by
  unfold sgUp
  rw [List.range_succ, List.filter_append]
  congr 1
  by_cases h : 0 < cntS l k <;> simp [h]
theorem sgUp_len (l : List (Fin 257)) (k : Nat) : (sgUp l k).length ≤ k := by
  have := List.length_filter_le (fun s => decide (0 < cntS l s)) (List.range k)
  rw [List.length_range] at this
  exact this
/-- What only ranges' blocks turned. -/
def Shut (n₀ : Nat) (W W' : World) : Prop := Below n₀ W W' ∧ (∀ (k : Nat) (cs : Array Value) (t : TypeId) (fz : Nat × Nat), W.heap[k]? = some (Obj.cells cs t fz) → W'.heap[k]? = some (Obj.cells cs t fz)) ∧ W.heap.size ≤ W'.heap.size
theorem leaves_all {fn : Func} {tmps : Array Value} {R : Ending → World → Prop} {F : Fence} {n : Nat} {P : Program} {n₀ : Nat} : ∀ (Ds : List Nat) (W : World), DsOk W Ds → (∀ D ∈ Ds, n₀ ≤ D) → (∀ W', Shut n₀ W W' → LeavesInM F n P fn tmps R [] .returning W') → LeavesInM F n P fn tmps R (dsOf Ds) .returning W
  | [], W, _, _, h => h W ⟨Below.refl _ _, fun _ _ _ _ h => h, Nat.le_refl _⟩
  | D :: Ds, W, hD, hn, h => by
    have hK := hD.2 D (List.mem_cons_self ..)
    have hnd := List.nodup_cons.1 hD.1
    refine ⟨by simp, .inl ⟨D, W.putObj D (.deferred none), rfl, run_takeDeferred hK, ?_⟩⟩
    have hother : ∀ k, k ≠ D → (W.putObj D (.deferred none)).heap[k]? = W.heap[k]? := fun k hk => World.putObj_heap_other hk
    refine leaves_all Ds _ ⟨hnd.2, fun E hE => ?_⟩ (fun E hE => hn E (List.mem_cons_of_mem _ hE)) fun W' hW' => h W' ?_
    · rw [hother E (fun e => hnd.1 (by rw [← e]; exact hE))]
      exact hD.2 E (List.mem_cons_of_mem _ hE)
    · have hsz : (W.putObj D (.deferred none)).heap.size = W.heap.size := by simp [World.putObj]
      refine ⟨((Below.refl n₀ W).grown (grownBy_putObj' W D _) ?_ (fun k e => by injection e with e; rw [← e]; exact hn D (List.mem_cons_self ..))).trans hW'.1, fun k cs t fz hk => hW'.2.1 k cs t fz ?_, by have := hW'.2.2; omega⟩
      · have h1 := hn D (List.mem_cons_self ..)
        have h2 := hD.lt D (List.mem_cons_self ..)
        omega
      · rw [hother k (fun e => by rw [e, hK] at hk; cases hk)]
        exact hk
theorem own_shut {B B' n s n₀ : Nat} {w W' : World} {e : TypeId} {v : Value} {xs : List Value} (h : w.ownsRow B e s v n xs) (hB : B' ≤ B) (hs : Shut n₀ w W') : W'.ownsRow B' e s v n xs := by
  refine ⟨h.1, ?_⟩
  rcases h.2 with h | ⟨g, cap, cur, h1, h2, h3, h4⟩
  · exact .inl h
  · exact .inr ⟨g, cap, cur, h1, Nat.le_trans hB h2, hs.2.1 _ _ _ _ h3, h4⟩
set_option maxRecDepth 100000 in
set_option maxHeartbeats 4000000 in
theorem counted_any {A : Option Addr} {n c : Nat} {L : List ByteArray} {w : World} (hL : RdS w A L) (hn : n = L.length) (hs : (allS L).length ≤ 1000000) :
    Calls Try.prog 59 #[.slice A n c] w fun e w' => ∃ v1 v2, e = .returned (.tuple #[v1, v2]) ∧ Hid (OwI w w' v1 (sgI (sgUp (allS L) 257)) ∧ OwI w w' v2 (csUp (allS L) 257)) := by
  have HL : Hid (∀ W, Below w.heap.size w W → ∀ k, k < n → ∃ b off, A = some ⟨b, off, none⟩ ∧ W.cell? ⟨b, off + k, none⟩ = some (.string (strAt L k))) := hid fun W hW k hk => by
    obtain ⟨b, off, e, h1, h2⟩ := hL.at (k := k) (by omega)
    exact ⟨b, off, e, (hW.cell (p := ⟨b, off + k, none⟩) h2).trans h1⟩
  have HSz : Hid (∀ k, k < n → (allS (L.take k)).length + (strAt L k).size + 1 ≤ 1000000) := hid fun k hk => by have := str_len (L := L) (k := k) (by omega); omega
  have hnn : n ≤ 1000000 := by
    have h1 : ∀ M : List ByteArray, M.length ≤ (allS M).length := fun M => by
      induction M with
      | nil => simp
      | cons a M ih => unfold allS at ih ⊢; simp only [List.flatMap_cons, List.length_append, List.length_cons, sgT_len]; omega
    have := h1 L
    omega
  have Hn := hid hn
  have HSs := hid hs
  clear hn hL hs
  have HSg := hid fun s W => signsOf_any s W
  have hmix : Try.prog.follows Departure.mixedOrders = true := by kernel_rfl
  have hfn2 : Fence.wide.fn 63 := trivial
  refine (callsIn_wide (n := 6)).1 ?_
  refine callsIn_of_wp_marks Try.func59 rfl trivial ?_ rfl
  simp only [Try.ntmps59, List.size_toArray, List.length_cons, List.length_nil, Nat.reduceAdd, Nat.reduceSub, Array.replicate_succ, Array.replicate_zero, List.push_toArray, List.append_toArray, List.nil_append, List.cons_append]
  gi_wp2
  have HI0 : CtI w A n c L { tmps := #[.slice A n c, undef, .slice none 0 0, .slice none 0 0, .pointer (some ⟨w.heap.size, 0, none⟩), undef, undef, undef, undef, undef, .slice A n c, .int .i64 (n : Int), .int .i64 0, undef, undef, undef, undef, undef, undef, undef, undef, undef, undef, undef, undef, undef, undef, undef, undef, undef, undef, undef, undef, undef, undef, undef, undef, undef, undef, undef, undef, undef, undef], defers := [] } (w.alloc (.cells (Try.zeroCells141) 141)) :=
    ⟨0, [], undef, undef, undef, undef, undef, undef, undef, rfl, by omega, hid ⟨zeroI_row w, (Below.refl _ w).alloc (Nat.le_refl _) _, ⟨List.nodup_nil, fun D hD => by cases hD⟩, fun D hD => by cases hD⟩⟩
  refine wpIn_loop (CtI w A n c L) (fun a _ => n - (intOf (a.tmps.getD 12 undef)).toNat) HI0 ?_
  rintro a W ⟨k, Ds, u6, u13, u14, u15, u16, u17, u24, rfl, hk, HI⟩
  clear HI0
  by_cases hp : k < n
  · have hp' : (k : Int) < (n : Int) := by omega
    obtain ⟨b, off, rfl, hc⟩ := HL.out W HI.out.2.1 k hp
    have hsz := HSz.out k hp
    generalize hst : strAt L k = s at *
    gi_wp2_with (gi_at_call 63; refine (callsIn_wide.2 (HSg.out _ _)).mono ?_; rintro e w2 ⟨rfl, rfl⟩)
    have HW := HI.out
    obtain ⟨i1, i2, i3, i4⟩ := HW
    have hlt := i3.lt
    have x7 : Bx (W.alloc (.cells #[.string s] 9)) W.heap.size (.string s) := Bx.new _ _ _ _ rfl
    have hsz1 : (W.alloc (.cells #[.string s] 9)).heap.size = W.heap.size + 1 := by simp
    have hNW : w.heap.size < W.heap.size := i1.lt
    refine wpIn_rangeFunc_ownF rfl (by omega) (gf := 93) (lb := #[.pointer (some ⟨W.heap.size, 0, none⟩)]) rfl trivial (enters_of Try.func93 (by kernel_rfl) rfl)
      (sg_stops 5 (by omega) W.heap.size s (by omega) _ (by simp) x7.1) kpS_t kpS_b (Below.refl _ _) (fun _ => rfl)
      (fun pre V => (V.rowIs w.heap.size 141 257 (cntV (allS (L.take k) ++ pre)) ∧ DsOk V Ds) ∧ Below w.heap.size w V)
      (fun _ _ _ => False)
      (OwnFrom.and (OwnFrom.and (Own.from (I := fun (pre : List (Fin 257)) (V : World) => V.rowIs w.heap.size 141 257 (cntV (allS (L.take k) ++ pre))) (fun s A B row hs hg hr => row_kept hs hg hr) _) (dsOk_kept fun D hD => by have := hlt D hD; omega)) (ownFrom_below (Nat.le_refl _) (by omega)))
      (fun _ _ _ _ _ hs _ _ => hs)
      ⟨⟨by rw [List.append_nil]; exact i1.alloc _, ⟨i3.1, fun D hD => (Go.Deep.blk_alloc_lt _ _ _ (hlt D hD)).trans (i3.2 D hD)⟩⟩, i2.alloc i2.size _⟩
      (fun x => { tmps := #[.slice (some ⟨b, off, none⟩) n c, undef, .slice none 0 0, .slice none 0 0, .pointer (some ⟨w.heap.size, 0, none⟩), undef, .string s, .int .i64 ((x.val : Nat) : Int), undef, undef, .slice (some ⟨b, off, none⟩) n c, .int .i64 (n : Int), .int .i64 (k : Int), .bool true, .pointer (some ⟨b, off + k, none⟩), .string s, .string s, .func (.func 93) #[] #[.pointer (some ⟨W.heap.size, 0, none⟩)], .int .i64 ((x.val : Nat) : Int), undef, undef, undef, undef, undef, u24, undef, undef, undef, undef, undef, undef, undef, undef, undef, undef, undef, undef, undef, undef, undef, undef, undef, undef], defers := [] }) ?assign ?body ?done ?stop
    case assign =>
      intro l x W K hK
      unfold encS
      gi_wp2
      exact hK
    case body =>
      rintro l pre x V ⟨⟨y1, y2⟩, hB⟩ hlt2
      have hx' : ((x.val : Nat) : Int) < 257 := by have := x.isLt; omega
      have cx := y1.cell x.isLt
      have fx := y1.frozen x.val
      have hc2 := cntS_le (allS (L.take k) ++ pre) x.val
      rw [List.length_append] at hc2
      rw [sgT_len] at hlt2
      have hw1 : IntKind.i64.wrap (((cntS (allS (L.take k) ++ pre) x.val : Nat) : Int) + 1) = ((cntS (allS (L.take k) ++ pre) x.val : Nat) : Int) + 1 := by rw [IntKind.wrap_i64]; omega
      have HY1 := hid (cntV_step (x := x) y1)
      have HY2 := hid y2
      have HB := hid hB
      unfold cntV at cx
      rw [List.append_assoc] at HY1
      generalize cntS (allS (L.take k) ++ pre) x.val = m at *
      clear y1 y2 hB
      gi_wp2
      exact ⟨KeepsOthers.setCell _ _ _, kpS_cell (by omega), ⟨HY1.out, HY2.out.set⟩, HB.out.setCell (p := ⟨w.heap.size, x.val, none⟩) (Nat.le_refl _) _⟩
    case done =>
      rintro D ys V hD rfl ⟨⟨y1, y2⟩, hB⟩ hK
      have HK : Hid (V.rowIs w.heap.size 141 257 (cntV (allS (L.take (k + 1)))) ∧ Below w.heap.size w V ∧ DsOk V (D :: Ds) ∧ (∀ E ∈ D :: Ds, w.heap.size ≤ E)) := hid (by
        refine ⟨by rw [allS_take (by rw [← Hn.out]; exact hp), hst]; exact y1, hB, dsOk_new y2 (fun h => by have := hlt D h; omega) hK, fun E hE => ?_⟩
        rcases List.mem_cons.1 hE with rfl | hE
        · omega
        · exact i4 E hE)
      clear y1 y2 hB hK hD
      gi_wp2
      exact ⟨⟨k + 1, D :: Ds, _, _, _, _, _, _, _, by simp only [dsOf, List.map_cons]; rfl, by omega, HK⟩, by simp [intOf]; omega⟩
    case stop =>
      rintro D c pre V _ _ h _
      exact h.elim
  · obtain rfl : k = n := by omega
    have HTk : Hid (allS (L.take k) = allS L) := hid (by rw [Hn.out, List.take_length])
    rw [HTk.out] at HI
    have HCn0 : Hid (∀ q, cntS (allS L) q ≤ 1000000) := hid fun q => Nat.le_trans (cntS_le _ q) HSs.out
    generalize hls : allS L = ls at *
    have Hls := hid hls
    clear hls
    obtain ⟨cs, hcs⟩ : ∃ cs : List Value, cs = (List.range 257).map (cntV ls) := ⟨_, rfl⟩
    have Hcl : Hid (cs.length = 257) := hid (by rw [hcs]; simp)
    have Hcg : Hid (∀ j, j < 257 → cs[j]? = some (cntV ls j)) := hid fun j hj => by rw [hcs]; simp [hj]
    have Hrg : Hid (W.rangeAt w.heap.size 0 cs) := hid fun j v hv => by
      have hj : j < 257 := by have := (List.getElem?_eq_some_iff.1 hv).1; rw [Hcl.out] at this; exact this
      rw [Hcg.out j hj] at hv
      injection hv with hv
      rw [Nat.zero_add, HI.out.1.cell hj, hv]
    have Hsz : (Try.prog.info? 141).map (·.size) = some cs.length := by rw [Hcl.out]; kernel_rfl
    clear hcs HTk
    gi_wp2_with (with_reducible refine wpListIn_load_mid rfl 141 (.tmp 4) rfl w.heap.size 0 rfl cs _ Hrg.out Try.underlying141 rfl Hsz ?_)
    have hix : ∀ (V : World) (q : Nat), q < 257 → (Instr.index 141 (.agg cs.toArray) (.int .i64 (q : Int))).run Try.prog V = .ok (.int .i64 ((cntS ls q : Nat) : Int)) V := fun V q hq => by
      have h1 := Hcg.out q hq
      unfold cntV at h1
      simp [Instr.index, asIntOf, run_underlying Try.underlying141, Hcl.out, hq, go_sem]
      exact (List.getElem?_eq_some_iff.1 h1).2
    have Hix := hid hix
    have HT0 : Hid (TwoI W W (.slice none 0 0) (sgI (sgUp ls 0)) (.slice none 0 0) (csUp ls 0)) := hid TwoI.nil
    have HCn : Hid (∀ q, cntS ls q ≤ 1000000) := HCn0
    have HUs := hid fun q => sgUp_step ls q
    have HUl := hid fun q => sgUp_len ls q
    clear hix Hcg Hrg Hsz Hcl
    gi_loopw [2, 3, 26] (fun v u x wr => ∃ q : Nat, q ≤ 257 ∧ x = .int .i64 (q : Int) ∧ Hid (TwoI W wr v (sgI (sgUp ls q)) u (csUp ls q))) (fun _ _ x _ => 257 - (intOf x).toNat)
    case atStart => exact ⟨0, by omega, rfl, HT0⟩
    case round =>
      obtain ⟨q, hq, rfl, HT⟩ := hrel
      clear HT0
      by_cases hpq : q < 257
      · have hpq' : (q : Int) < 257 := by omega
        have hixq := fun V => Hix.out V q hpq
        have hcq := HCn.out q
        have hul := HUl.out q
        have hst := HUs.out q
        by_cases h0 : 0 < cntS ls q
        · rw [if_pos h0] at hst
          have HN1 : Hid (sgI (sgUp ls (q + 1)) = sgI (sgUp ls q) ++ [(q : Int)]) := hid (by rw [hst]; simp [sgI])
          have HN2 : Hid (csUp ls (q + 1) = csUp ls q ++ [((cntS ls q : Nat) : Int)]) := hid (by unfold csUp; rw [hst]; simp)
          have Hl1 : Hid ((sgI (sgUp ls q)).length ≤ 257 ∧ (csUp ls q).length ≤ 257) := hid (by simp only [sgI, csUp, List.length_map]; omega)
          have h0' : (0 : Int) < ((cntS ls q : Nat) : Int) := by omega
          clear hst hul h0
          generalize cntS ls q = m at *
          generalize sgI (sgUp ls q) = xs at *
          generalize csUp ls q = ys at *
          gi_wp2_with (gi_at_builtin; first
            | (refine wpListIn_add2 W _ rfl (.tmp 32) (.tmp 34) rfl u2 xs u3 ys rfl (hid (HT.out.st ((Only.refl _ _).alloc _))) ⟨wr.heap.size, 0, none⟩ 1 _ rfl (hid (rd_oneI wr _)) (by have := Hl1.out; omega) ?_; intro v6 w6 HT6)
            | (refine wpListIn_add2 W _ rfl (.tmp 36) (.tmp 38) rfl u3 ys v6 _ rfl (hid (HT6.out.swap.st ((Only.refl _ _).alloc _))) ⟨w6.heap.size, 0, none⟩ 1 _ rfl (hid (rd_oneI w6 _)) (by have := Hl1.out; omega) ?_; intro v7 w7 HT7))
          have HT8 := hid HT7.out.swap
          rw [← HN1.out, ← HN2.out] at HT8
          clear HT HT6 HT7 HN1 HN2 Hl1
          go_roundw
          case rel => exact ⟨q + 1, by omega, by go_num, HT8⟩
          case measure => simp [intOf]; omega
        · rw [if_neg h0, List.append_nil] at hst
          have HT8 : Hid (TwoI W wr u2 (sgI (sgUp ls (q + 1))) u3 (csUp ls (q + 1))) := hid (by unfold csUp; rw [hst]; exact HT.out)
          have h0' : ¬ (0 : Int) < ((cntS ls q : Nat) : Int) := by omega
          clear hst hul h0 HT
          generalize cntS ls q = m at *
          gi_wp2
          go_roundw
          case rel => exact ⟨q + 1, by omega, by go_num, HT8⟩
          case measure => simp [intOf]; omega
      · obtain rfl : q = 257 := by omega
        gi_wp2
        refine leaves_all (n₀ := w.heap.size) Ds wr ⟨HI.out.2.2.1.1, fun D hD => (HT.out.a.only.block D (HI.out.2.2.1.lt D hD) no_).trans (HI.out.2.2.1.2 D hD)⟩ HI.out.2.2.2 fun W' hW' => ?_
        have hbel : Below w.heap.size w W' := (HI.out.2.1.trans (HT.out.a.only.to_below (fun _ h => h.elim) HI.out.2.1.size)).trans hW'.1
        have hle := HI.out.2.1.size
        rw [Hls.out]
        refine ⟨.tuple #[u2, u3], ?_, u2, u3, rfl, hid ⟨⟨own_shut HT.out.a.own hle hW', Only.of_below hbel _⟩, ⟨own_shut HT.out.b.own hle hW', Only.of_below hbel _⟩⟩⟩
        simp [results, Try.f59, go_sem]
end Go.Proofs.Ytmbcinbkijnblaa

namespace Go.Proofs.Ytmbcinbkijnblaa
open Go.RowKit

theorem sgUp_pair (l : List (Fin 257)) (k : Nat) : (sgUp l k).Pairwise (· < ·) := List.Pairwise.filter _ List.pairwise_lt_range
theorem sgUp_mem {l : List (Fin 257)} {k s : Nat} : s ∈ sgUp l k ↔ s < k ∧ 0 < cntS l s := by simp [sgUp]
theorem sgUp_ok (l : List (Fin 257)) : SgOk (sgUp l 257) := by
  refine ⟨fun i j hij hj => ?_, fun i hi => ?_⟩
  · have h := List.pairwise_iff_getElem.1 (sgUp_pair l 257) i j (by omega) hj hij
    simpa [List.getD, hj, show i < (sgUp l 257).length by omega] using h
  · have : (sgUp l 257).getD i 0 ∈ sgUp l 257 := by simp [List.getD, hi]
    exact (sgUp_mem.1 this).1
theorem csUp_len (l : List (Fin 257)) : (csUp l 257).length = (sgUp l 257).length := by simp [csUp]
theorem csUp_isW {l : List (Fin 257)} (h0 : 0 < (sgUp l 257).length) (hl : l.length ≤ 1000000) : isW (csUp l 257) = true := by
  unfold isW
  rw [Bool.and_eq_true]
  refine ⟨?_, List.all_eq_true.2 fun z hz => ?_⟩
  · have := sgUp_len l 257
    rw [csUp_len]
    simp
    omega
  · unfold csUp at hz
    obtain ⟨s, _, rfl⟩ := List.mem_map.1 hz
    have := cntS_le l s
    simp
    omega
theorem maxOf_fold {B : Int} : ∀ (zs : List Int) (m : Int), m ≤ B → (∀ z ∈ zs, z ≤ B) → zs.foldl max m ≤ B
  | [], m, hm, _ => hm
  | z :: zs, m, hm, h => maxOf_fold zs (max m z) (by have := h z (List.mem_cons_self ..); omega) fun y hy => h y (List.mem_cons_of_mem _ hy)
theorem maxOf_le {B : Int} {zs : List Int} (hne : zs ≠ []) (h : ∀ z ∈ zs, z ≤ B) : Lib.maxOf zs ≤ B := by
  unfold Lib.maxOf
  refine maxOf_fold zs _ ?_ h
  cases zs with
  | nil => exact absurd rfl hne
  | cons z zs => exact h z (List.mem_cons_self ..)
theorem CodeS.of {B : Nat} {w : World} {g : Nat} {sg : List Nat} {ws : List (List Bool)} {ls : List Int} (hw : WordsOf ls ws) (hf : Fit ls) (hi : IsCode B w g sg ws) (ok : SgOk sg) (len : sg.length = ls.length) : CodeS B w g sg ws :=
  ⟨hi, ok, by rw [len, hw.len], fun i h => ⟨hw.long h, hw.short hf h⟩, by rw [hw.len]; exact hf.few.2⟩
theorem IsCode.base {B B' : Nat} {w : World} {g : Nat} {sg : List Nat} {ws : List (List Bool)} (h : IsCode B w g sg ws) (hB : B' ≤ B) : IsCode B' w g sg ws := by
  obtain ⟨F, P, q⟩ := h
  refine ⟨F, P, ⟨q.row, Nat.le_trans hB q.ge, q.nil0, fun hk => ?_, q.self, q.wd, q.out⟩⟩
  obtain ⟨r1, r2, r3⟩ := q.code hk
  exact ⟨⟨r1.self, own_base r1.own hB, Nat.le_trans hB r1.ge, Nat.le_trans hB r1.le⟩, r2, r3⟩
theorem sgT_zero (s : ByteArray) : 1 ≤ cntS (sgT s) 0 := by
  unfold sgT cntS
  rw [List.countP_append]
  have : List.countP (fun x : Fin 257 => decide (x.val = 0)) [0] = 1 := rfl
  omega
theorem allS_zero {L : List ByteArray} (h : 0 < L.length) : 0 < (sgUp (allS L) 257).length := by
  have hm : 0 ∈ sgUp (allS L) 257 := sgUp_mem.2 ⟨by omega, by
    cases L with
    | nil => simp at h
    | cons s L =>
      have := sgT_zero s
      unfold cntS at this ⊢
      unfold allS
      rw [List.flatMap_cons, List.countP_append]
      omega⟩
  exact List.length_pos_of_mem hm
set_option maxHeartbeats 2000000 in
theorem of_any {A : Option Addr} {n c : Nat} {L : List ByteArray} {w : World} (hL : RdS w A L) (hn : n = L.length) (h0 : 0 < n) (hs : (allS L).length ≤ 1000000) :
    Calls Try.prog 21 #[.slice A n c] w (CodeE w (sgUp (allS L) 257) (bestL (csUp (allS L) 257))) := by
  have hz := allS_zero (L := L) (by omega)
  have hW := csUp_isW hz hs
  have hfit := bestL_fit hW
  obtain ⟨ws, hws⟩ := hfit.words
  have hm257 := sgUp_len (allS L) 257
  have hcl := csUp_len (allS L)
  have hbl := bestL_len (csUp (allS L) 257)
  have HCt := hid (counted_any (c := c) hL hn hs)
  have HMx : Hid (∀ (W : World) (g : Nat) (cap : Nat), RdI W (some ⟨g, 0, none⟩) (csUp (allS L) 257) → Calls Try.prog 60 #[.slice (some ⟨g, 0, none⟩) (sgUp (allS L) 257).length cap] W fun e w' => ∃ z : Int, e = .returned (.int .i64 z) ∧ z ≤ 4294967296 ∧ w' = W) := hid fun W g cap hr => by
    obtain ⟨b, off, e, hc⟩ := hr (by omega)
    injection e with e
    injection e with e1 e2 _
    subst e1
    subst e2
    refine (Try.slices_Max_int g 0 (sgUp (allS L) 257).length cap (csUp (allS L) 257) W hz (by omega) (by omega) (fun j hj => hc j hj)).mono ?_
    rintro e w' ⟨rfl, rfl⟩
    refine ⟨_, rfl, maxOf_le (fun e => ?_) fun z hz => ?_, rfl⟩
    · have h3 : ((csUp (allS L) 257).take (sgUp (allS L) 257).length).length = 0 := by rw [e]; rfl
      rw [List.length_take] at h3
      omega
    · have hz := List.mem_of_mem_take hz
      unfold csUp at hz
      obtain ⟨s, _, rfl⟩ := List.mem_map.1 hz
      have := cntS_le (allS L) s
      omega
  have HLe : Hid (∀ (W : World) (A2 : Option Addr) (cap : Nat), RdI W A2 (csUp (allS L) 257) → Calls Try.prog 10 #[.slice A2 (sgUp (allS L) 257).length cap] W fun e w' => ∃ B c', e = .returned (.tuple #[.slice B (sgUp (allS L) 257).length c', .int .i64 0]) ∧ Hid (RdI w' B (bestL (csUp (allS L) 257))) ∧ StO W w' ∧ (sgUp (allS L) 257).length ≤ c') := hid fun W A2 cap hr => by
    have h := Lengths_any (cap := cap) hr (by omega)
    rw [hcl] at h
    refine h.mono ?_
    rintro e w' ⟨B, m, c2, he, hm, hc, hr2, _, _, ho⟩
    have hm := hm.out
    have hr2 := hr2.out
    rw [hW, if_pos rfl] at hm hr2
    rw [hW, if_pos rfl] at he
    rw [hbl, hcl] at hm
    subst hm
    exact ⟨B, c2, he, hid hr2, ho, by rw [hc.out]; exact Nat.le_refl _⟩
  have HCo : Hid (∀ (W : World) (A1 A2 : Option Addr) (k1 k2 : Nat), StO w W → RdI W A1 (sgI (sgUp (allS L) 257)) → RdI W A2 (bestL (csUp (allS L) 257)) → (sgUp (allS L) 257).length ≤ k2 → Calls Try.prog 51 #[.slice A1 (sgUp (allS L) 257).length k1, .slice A2 (sgUp (allS L) 257).length k2] W fun e w' => ∃ g : Nat, e = .returned (.pointer (some ⟨g, 0, none⟩)) ∧ Hid (WordsOf (bestL (csUp (allS L) 257)) ws ∧ w.heap.size ≤ g ∧ IsCode w.heap.size w' g (sgUp (allS L) 257) ws) ∧ StO W w') := hid fun W A1 A2 k1 k2 hO h1 h2 h3 => by
    have := codeOf_any (c1 := k1) (c2 := k2) hws (sgUp_ok (allS L)) (by omega) (by omega) (fun i hi => hws.short hfit hi) h1 h2 (by omega)
    rw [hbl, hcl] at this
    refine this.mono ?_
    rintro e w' ⟨g, he, hH⟩
    obtain ⟨q1, q2, q3⟩ := hH.out
    exact ⟨g, he, hid ⟨hws, Nat.le_trans hO.out.size q1, q2.base hO.out.size⟩, hid q3⟩
  have hsl : (sgI (sgUp (allS L) 257)).length = (sgUp (allS L) 257).length := by simp [sgI]
  have hn0 : ((n : Int) == 0) = false := by rw [beq_eq_false_iff_ne]; omega
  generalize csUp (allS L) 257 = cs at *
  generalize sgUp (allS L) 257 = sg at *
  generalize bestL cs = bl at *
  obtain ⟨m, hm⟩ : ∃ m, m = sg.length := ⟨_, rfl⟩
  rw [← hm] at HMx HLe HCo hz hsl hcl hm257
  have Hsl := hid hsl
  have Hcl := hid hcl
  clear hL hn hs hW hfit hws hbl hm hsl hcl
  go_enter Try.func21, Try.ntmps21
  go_wp2_with fail
  refine HCt.out.mono ?_
  rintro e w1 ⟨v1, v2, rfl, HV⟩
  obtain ⟨A1, c1, rfl, HO1⟩ := HV.out.1.made Hsl.out
  obtain ⟨A2, c2, rfl, HO2⟩ := HV.out.2.made Hcl.out
  obtain ⟨g2, rfl, _, _, _, _⟩ := HO2.out.put (k := 0) hz
  have HR1 := hid HO1.out.rd.1
  have HR2 := hid HO2.out.rd.1
  have HS1 : StO w w1 := hid HO1.out.only
  clear HV HO1 HO2
  go_wp2_with fail
  refine (HMx.out _ _ _ HR2.out).mono ?_
  rintro e w' ⟨z, rfl, hzz, rfl⟩
  have hz3 : ¬ (4294967296 : Int) < z := by omega
  go_wp2_with fail
  refine (HLe.out _ _ _ HR2.out).mono ?_
  rintro e w2 ⟨B2, c3, rfl, HR3, HS2, hc3⟩
  have HR12 : Hid (RdI w2 A1 (sgI sg)) := hid (HR1.out.only HS2.out fun _ _ _ => no_)
  have HS02 : StO w w2 := hid (HS1.out.trans HS2.out)
  clear HR1 HR2 HS1 HS2
  go_wp2_with fail
  refine (HCo.out _ _ _ _ _ HS02 HR12.out HR3.out hc3).mono ?_
  rintro e w3 ⟨g, rfl, HC, HS3⟩
  go_wp2_with fail
  go_ret2
  exact ⟨g, ws, rfl, HC, hid (HS02.out.trans HS3.out)⟩
end Go.Proofs.Ytmbcinbkijnblaa
