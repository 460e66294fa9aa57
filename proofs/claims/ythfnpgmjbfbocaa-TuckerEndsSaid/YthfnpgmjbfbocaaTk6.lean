/- The sums of weights; what a table's rows tell. -/
import Derived.Test.YthfnpgmjbfbocaaTk5
import Derived.Deep.RegionHeld3
namespace Go.Proofs.Ythfnpgmjbfbocaa
open Go.RowKit

abbrev StO (w w' : World) : Prop := Hid (Only (fun _ => False) w w')
/-- The sums so far, noughts behind. -/
def sumF (w : Nat → Int) (k j : Nat) : Value := .int .i64 (if j ≤ k then sumW w j else 0)
theorem sumF_step (w : Nat → Int) (k : Nat) {W : World} {g n : Nat} {t : TypeId} (h : W.rowIs g t n (sumF w k)) {x : Int} (hx : x = sumW w k + w k) : (W.setCell ⟨g, k + 1, none⟩ (.int .i64 x)).rowIs g t n (sumF w (k + 1)) := by
  subst hx
  refine (h.set (k + 1) _).congr fun j hj => ?_
  unfold sumF
  by_cases e : j = k + 1
  · subst e; rw [if_pos rfl, if_pos (Nat.le_refl _)]; rfl
  · rw [if_neg e]
    by_cases e2 : j ≤ k
    · rw [if_pos e2, if_pos (by omega)]
    · rw [if_neg e2, if_neg (by omega)]
set_option maxHeartbeats 1000000 in
theorem sumsOf_any {A : Option Addr} {cap : Nat} {zs : List Int} {w : World} (hz : RdI w A zs) (hw : isW zs = true) :
    Calls Try.prog 82 #[.slice A zs.length cap] w fun e w' => ∃ g : Nat, e = .returned (.slice (some ⟨g, 0, none⟩) (zs.length + 1) (zs.length + 1)) ∧ w.heap.size ≤ g ∧ Hid (w'.rowIs g 3 (zs.length + 1) (fun j => .int .i64 (sumW (wt zs) j))) ∧ StO w w' := by
  have ⟨h1, h2, h3⟩ := isW_of hw
  have HZ : Hid (RdV w A zs.length (vI zs)) := hid hz
  have H3 := hid h3
  have HB : Hid (∀ k, k ≤ 257 → 0 ≤ sumW (wt zs) k ∧ sumW (wt zs) k ≤ 1103806595072) := hid fun k hk => by
    have := sumW_bound (w := wt zs) (B := 4294967296) (fun j => (h3 j).2) k
    have := sumW_mono (w := wt zs) (fun j => (h3 j).1) 0 k (by omega)
    have e : sumW (wt zs) 0 = 0 := rfl
    omega
  have HW : Hid (∀ k, wt zs k = zs.getD k 0) := hid fun k => rfl
  clear hz hw h3
  generalize wt zs = f at *
  generalize zs.length = N at *
  have hmk := fun W => run_make_row' (P := Try.prog) 73 3 (.int .i64 0) 8 Try.underlying73 intInfoK rfl .i64 .i64 (N + 1) (by omega) (by omega) W
  have e1 : ((N + 1 : Nat) : Int) = (N : Int) + 1 := by omega
  rw [e1] at hmk
  clear e1
  have HR : Hid ((w.alloc (.cells (madeCells #[(.int .i64 0)] (N + 1)) 3)).rowIs w.heap.size 3 (N + 1) (sumF f 0)) := hid ((World.rowIs_made w _ _ _).congr fun j hj => by
    unfold sumF
    by_cases e : j ≤ 0
    · obtain rfl : j = 0 := by omega
      rw [if_pos e]; rfl
    · rw [if_neg e])
  have HO : StO w (w.alloc (.cells (madeCells #[(.int .i64 0)] (N + 1)) 3)) := hid ((Only.refl _ w).alloc _)
  go_enter Try.func82, Try.ntmps82
  go_wp2
  clear hmk
  go_loopw [12] (fun i wr => ∃ k : Nat, k ≤ N ∧ i = .int .i64 k ∧ Hid (wr.rowIs w.heap.size 3 (N + 1) (sumF f k)) ∧ StO w wr) (fun i _ => N - (intOf i).toNat)
  case atStart => exact ⟨0, by omega, rfl, HR, HO⟩
  case round =>
    obtain ⟨k, hk, rfl, HR2, HO2⟩ := hrel
    clear HR HO
    by_cases hp : k < N
    · obtain ⟨b, off, hA, hc, hblt⟩ := (HZ.out.only HO2.out fun _ _ _ => no_).at hp
      unfold vI at hc
      subst hA
      have hz1 := H3.out k
      rw [HW.out k] at hz1
      have hs1 := HB.out k (by omega)
      have c1 : wr.cell? ⟨w.heap.size, k, none⟩ = some (.int .i64 (sumW f k)) := by
        rw [HR2.out.cell (by omega)]; unfold sumF; rw [if_pos (Nat.le_refl _)]
      have fz := HR2.out.frozen (k + 1)
      have hlt := HR2.out.lt
      have HN : Hid (∀ x, x = sumW f k + zs.getD k 0 → (wr.setCell ⟨w.heap.size, k + 1, none⟩ (.int .i64 x)).rowIs w.heap.size 3 (N + 1) (sumF f (k + 1))) := hid fun x hx => sumF_step f k HR2.out (by rw [HW.out]; exact hx)
      have c2 : ∃ v, wr.cell? ⟨w.heap.size, k + 1, none⟩ = some v := ⟨_, HR2.out.cell (by omega)⟩
      obtain ⟨v2, c2⟩ := c2
      have HO3 : Hid (∀ x : Value, Only (fun _ => False) w (wr.setCell ⟨w.heap.size, k + 1, none⟩ x)) := hid fun x => HO2.out.setCell (.inr (Nat.le_refl _)) x
      clear HR2
      generalize sumW f k = y at *
      generalize zs.getD k 0 = z at *
      go_wp2
      go_roundw
      case rel => exact ⟨k + 1, by omega, by go_num, hid (HN.out _ (by omega)), hid (HO3.out _)⟩
      case measure => simp [intOf]; omega
    · obtain rfl : k = N := by omega
      go_wp2
      go_ret
      exact ⟨_, rfl, Nat.le_refl _, hid (HR2.out.congr fun j hj => by unfold sumF; rw [if_pos (by omega)]), HO2⟩

set_option maxHeartbeats 400000 in
theorem between_any {gS N i j : Nat} {S : Nat → Int} {w : World} (hr : w.rowIs gS 3 (N + 1) (fun j => .int .i64 (S j))) (hi : i ≤ N) (hj : j ≤ N) (hN : N ≤ 257) (hS : ∀ k, k ≤ 257 → 0 ≤ S k ∧ S k ≤ 1103806595072) :
    Calls Try.prog 117 #[.slice (some ⟨gS, 0, none⟩) (N + 1) (N + 1), .int .i64 (i : Int), .int .i64 (j : Int)] w fun e w' => e = .returned (.int .i64 (S j - S i)) ∧ StO w w' := by
  have c1 := hr.cell (i := i) (by omega)
  have c2 := hr.cell (i := j) (by omega)
  have b1 := hS i (by omega)
  have b2 := hS j (by omega)
  have hlt := hr.lt
  clear hr hS
  generalize S i = x at *
  generalize S j = y at *
  go_enter Try.func117, Try.ntmps117
  go_wp2
  go_quiet (fail)
  go_wp2
  go_ret
  exact ⟨rfl, hid ((Only.refl _ w).drewN _)⟩

/-- A row of the table: what each beginning costs, and where it is parted. -/
def rowF (D : Nat → Int × Nat) (p : Nat) : Value := .int .i64 (if p % 2 = 0 then (D (p / 2)).1 else ((D (p / 2)).2 : Int))
/-- The table in memory. -/
structure TabH (w : World) (gS gR : Nat) (gi : Nat → Nat) (N : Nat) (S : Nat → Int) (D : Nat → Nat → Int × Nat) : Prop where
  sums : w.rowIs gS 3 (N + 1) (fun j => .int .i64 (S j))
  rows : w.rowIs gR 126 N (fun i => .slice (some ⟨gi i, 0, none⟩) (N - i + 1) (N - i + 1))
  row : ∀ i, i < N → w.rowIs (gi i) 128 (2 * (N - i + 1)) (rowF (D i))
  apart : ∀ i j, i < N → j < N → gi i = gi j → i = j
theorem TabH.only {w w' : World} {gS gR : Nat} {gi : Nat → Nat} {N : Nat} {S : Nat → Int} {D : Nat → Nat → Int × Nat} (h : TabH w gS gR gi N S D) (ho : Only (fun _ => False) w w') : TabH w' gS gR gi N S D :=
  ⟨ho.row h.sums no_, ho.row h.rows no_, fun i hi => ho.row (h.row i hi) no_, h.apart⟩
def tabV (gS gR N : Nat) : Value := .agg #[.slice (some ⟨gS, 0, none⟩) (N + 1) (N + 1), .slice (some ⟨gR, 0, none⟩) N N]
def entV (p : Int × Nat) : Value := .agg #[.int .i64 p.1, .int .i64 (p.2 : Int)]

theorem ret_cells {w : World} {g : Nat} {t : TypeId} {f : Nat → Value} (h : w.rowIs g t 2 f) (a b : Value) : ((w.setCell ⟨g, 0, none⟩ a).setCell ⟨g, 1, none⟩ b).cell? ⟨g, 0, none⟩ = some a ∧ ((w.setCell ⟨g, 0, none⟩ a).setCell ⟨g, 1, none⟩ b).cell? ⟨g, 1, none⟩ = some b := by
  have h2 := (h.set 0 a).set 1 b
  exact ⟨by rw [h2.cell (by omega)]; rfl, by rw [h2.cell (by omega)]; rfl⟩
theorem fld0 (a b : Value) (w : World) : (Instr.field 128 (.agg #[a, b]) 0).run Try.prog w = .ok a w := by
  simp [Instr.field, asAgg, go_sem]
theorem fld1 (a b : Value) (w : World) : (Instr.field 128 (.agg #[a, b]) 1).run Try.prog w = .ok b w := by
  simp [Instr.field, asAgg, go_sem]
set_option maxHeartbeats 1000000 in
theorem row_core {S : Value} {gR gi N i j m : Nat} {c0 c1 : Int} {w : World} (hs : w.cell? ⟨gR, i, none⟩ = some (.slice (some ⟨gi, 0, none⟩) m m)) (hk : i ≤ j) (hi : i < N) (hkm : j - i < m) (hm : m ≤ 1000) (hlt : gR < w.heap.size) (hlt2 : gi < w.heap.size)
    (h0 : w.cell? ⟨gi, (j - i) * 2, none⟩ = some (.int .i64 c0)) (h1 : w.cell? ⟨gi, (j - i) * 2 + 1, none⟩ = some (.int .i64 c1)) :
    Calls Try.prog 105 #[.agg #[S, .slice (some ⟨gR, 0, none⟩) N N], .int .i64 (i : Int), .int .i64 (j : Int)] w fun e w' => e = .returned (.agg #[.int .i64 c0, .int .i64 c1]) ∧ StO w w' := by
  go_enter Try.func105, Try.ntmps105
  go_wp2
  refine bodyPost_ret (v := .agg #[.int .i64 c0, .int .i64 c1]) (by simp [results, Try.results105, go_sem]) rfl ⟨rfl, hid (((Only.refl _ w).alloc _).alloc _)⟩
theorem row_any {gS gR N i j : Nat} {gi : Nat → Nat} {S : Nat → Int} {D : Nat → Nat → Int × Nat} {w : World} (h : TabH w gS gR gi N S D) (hi : i < N) (hij : i ≤ j) (hj : j ≤ N) (hN : N ≤ 257) :
    Calls Try.prog 105 #[tabV gS gR N, .int .i64 (i : Int), .int .i64 (j : Int)] w fun e w' => e = .returned (entV (D i (j - i))) ∧ StO w w' := by
  have c0 := (h.row i hi).cell (i := (j - i) * 2) (by omega)
  have c1 := (h.row i hi).cell (i := (j - i) * 2 + 1) (by omega)
  have e0 : rowF (D i) ((j - i) * 2) = .int .i64 (D i (j - i)).1 := by
    unfold rowF
    rw [if_pos (by omega), show (j - i) * 2 / 2 = j - i by omega]
  have e1 : rowF (D i) ((j - i) * 2 + 1) = .int .i64 ((D i (j - i)).2 : Int) := by
    unfold rowF
    rw [if_neg (by omega), show ((j - i) * 2 + 1) / 2 = j - i by omega]
  rw [e0] at c0
  rw [e1] at c1
  exact row_core (h.rows.cell hi) hij hi (by omega) (by omega) h.rows.lt (h.row i hi).lt c0 c1

set_option maxHeartbeats 4000000 in
theorem parted_any {gS gR N i k j : Nat} {gi : Nat → Nat} {S : Nat → Int} {D : Nat → Nat → Int × Nat} {w : World} (h : TabH w gS gR gi N S D) (hik : i < k) (hkj : k < j) (hj : j ≤ N) (hN : N ≤ 257)
    (hS : ∀ k, k ≤ 257 → 0 ≤ S k ∧ S k ≤ 1103806595072) (hD : ∀ i p, i + p ≤ N → 0 ≤ (D i p).1 ∧ (D i p).1 ≤ 283678294933504) :
    Calls Try.prog 106 #[tabV gS gR N, .int .i64 (i : Int), .int .i64 (k : Int), .int .i64 (j : Int)] w fun e w' => e = .returned (entV (S j - S i + (D i (k - i)).1 + (D k (j - k)).1, k)) ∧ StO w w' := by
  have HB : Hid (∀ u, Only (fun _ => False) w u → Calls Try.prog 117 #[.slice (some ⟨gS, 0, none⟩) (N + 1) (N + 1), .int .i64 (i : Int), .int .i64 (j : Int)] u fun e w' => e = .returned (.int .i64 (S j - S i)) ∧ StO u w') :=
    hid fun u hu => between_any (hu.row h.sums no_) (by omega) (by omega) hN hS
  have HR1 : Hid (∀ u, Only (fun _ => False) w u → Calls Try.prog 105 #[tabV gS gR N, .int .i64 (i : Int), .int .i64 (k : Int)] u fun e w' => e = .returned (entV (D i (k - i))) ∧ StO u w') :=
    hid fun u hu => row_any (h.only hu) (by omega) (by omega) (by omega) hN
  have HR2 : Hid (∀ u, Only (fun _ => False) w u → Calls Try.prog 105 #[tabV gS gR N, .int .i64 (k : Int), .int .i64 (j : Int)] u fun e w' => e = .returned (entV (D k (j - k))) ∧ StO u w') :=
    hid fun u hu => row_any (h.only hu) (by omega) (by omega) (by omega) hN
  have b1 := hS i (by omega)
  have b2 := hS j (by omega)
  have b3 := hD i (k - i) (by omega)
  have b4 := hD k (j - k) (by omega)
  have hlt := h.rows.lt
  unfold tabV entV at *
  clear h hS hD
  generalize (D i (k - i)).1 = y1 at *
  generalize (D i (k - i)).2 = r1 at *
  generalize (D k (j - k)).1 = y2 at *
  generalize (D k (j - k)).2 = r2 at *
  obtain ⟨x, hx⟩ : ∃ x, x = S j - S i := ⟨_, rfl⟩
  rw [← hx] at HB ⊢
  have bx : -1103806595072 ≤ x ∧ x ≤ 1103806595072 := by omega
  clear b1 b2 hx
  go_enter Try.func106, Try.ntmps106
  go_upto_region 1 with fail
  have HO1 : StO w ((w.alloc (Obj.cells #[Value.slice (some ⟨gS, 0, none⟩) (N + 1) (N + 1), Value.slice (some ⟨gR, 0, none⟩) N N] 76)).alloc (Obj.cells #[Value.int IntKind.i64 0, Value.int IntKind.i64 0] 128)) := hid (((Only.refl _ w).alloc _).alloc _)
  have d0 : ((w.alloc (Obj.cells #[Value.slice (some ⟨gS, 0, none⟩) (N + 1) (N + 1), Value.slice (some ⟨gR, 0, none⟩) N N] 76)).alloc (Obj.cells #[Value.int IntKind.i64 0, Value.int IntKind.i64 0] 128)).cell? ⟨w.heap.size, 0, none⟩ = some (Value.slice (some ⟨gS, 0, none⟩) (N + 1) (N + 1)) := by simp
  have d1 : ((w.alloc (Obj.cells #[Value.slice (some ⟨gS, 0, none⟩) (N + 1) (N + 1), Value.slice (some ⟨gR, 0, none⟩) N N] 76)).alloc (Obj.cells #[Value.int IntKind.i64 0, Value.int IntKind.i64 0] 128)).cell? ⟨w.heap.size, 1, none⟩ = some (Value.slice (some ⟨gR, 0, none⟩) N N) := by simp
  have HX : Hid (((w.alloc (Obj.cells #[Value.slice (some ⟨gS, 0, none⟩) (N + 1) (N + 1), Value.slice (some ⟨gR, 0, none⟩) N N] 76)).alloc (Obj.cells #[Value.int IntKind.i64 0, Value.int IntKind.i64 0] 128)).rowIs (w.heap.size + 1) 128 2 (fun _ => .int .i64 0)) := hid (by
    have := World.rowIs_alloc (w.alloc (Obj.cells #[Value.slice (some ⟨gS, 0, none⟩) (N + 1) (N + 1), Value.slice (some ⟨gR, 0, none⟩) N N] 76)) #[Value.int IntKind.i64 0, Value.int IntKind.i64 0] 128 (fun _ => .int .i64 0) (fun i hi => by
      match i, hi with
      | 0, _ => rfl
      | 1, _ => rfl
      | i + 2, hi => exact absurd (show i + 2 < 2 from hi) (by omega))
    simpa using this)
  obtain ⟨w1, hw1⟩ : ∃ w1, w1 = ((w.alloc (Obj.cells #[Value.slice (some ⟨gS, 0, none⟩) (N + 1) (N + 1), Value.slice (some ⟨gR, 0, none⟩) N N] 76)).alloc (Obj.cells #[Value.int IntKind.i64 0, Value.int IntKind.i64 0] 128)) := ⟨_, rfl⟩
  have hsz : w.heap.size + 2 = w1.heap.size := by rw [hw1]; simp
  have Hsz : Hid (w.heap.size < w1.heap.size) := hid (by omega)
  rw [← hw1] at HO1 d0 d1 HX ⊢
  clear hw1 hsz
  have HB' : Hid (∀ (P Q : Prop) u, P ∧ Q ∧ StO w1 u → Calls Try.prog 117 #[.slice (some ⟨gS, 0, none⟩) (N + 1) (N + 1), .int .i64 (i : Int), .int .i64 (j : Int)] u fun e w' => e = .returned (.int .i64 x) ∧ StO w1 w') :=
    hid fun P Q u hs => (HB.out u (HO1.out.trans hs.2.2.out)).mono fun e w' ⟨he, ho⟩ => ⟨he, hid (hs.2.2.out.trans ho.out)⟩
  have HR1' : Hid (∀ (P Q : Prop) u, P ∧ Q ∧ StO w1 u → Calls Try.prog 105 #[.agg #[.slice (some ⟨gS, 0, none⟩) (N + 1) (N + 1), .slice (some ⟨gR, 0, none⟩) N N], .int .i64 (i : Int), .int .i64 (k : Int)] u fun e w' => e = .returned (.agg #[.int .i64 y1, .int .i64 (r1 : Int)]) ∧ StO w1 w') :=
    hid fun P Q u hs => (HR1.out u (HO1.out.trans hs.2.2.out)).mono fun e w' ⟨he, ho⟩ => ⟨he, hid (hs.2.2.out.trans ho.out)⟩
  have HR2' : Hid (∀ (P Q : Prop) u, P ∧ Q ∧ StO w1 u → Calls Try.prog 105 #[.agg #[.slice (some ⟨gS, 0, none⟩) (N + 1) (N + 1), .slice (some ⟨gR, 0, none⟩) N N], .int .i64 (k : Int), .int .i64 (j : Int)] u fun e w' => e = .returned (.agg #[.int .i64 y2, .int .i64 (r2 : Int)]) ∧ StO w1 w') :=
    hid fun P Q u hs => (HR2.out u (HO1.out.trans hs.2.2.out)).mono fun e w' ⟨he, ho⟩ => ⟨he, hid (hs.2.2.out.trans ho.out)⟩
  clear HB HR1 HR2
  have hf0 := fld0
  go_region_held3 (fun w' => w'.cell? ⟨w.heap.size, 0, none⟩ = some (Value.slice (some ⟨gS, 0, none⟩) (N + 1) (N + 1)) ∧ w'.cell? ⟨w.heap.size, 1, none⟩ = some (Value.slice (some ⟨gR, 0, none⟩) N N) ∧ StO w1 w')
    (first | assumption | exact ⟨d0, d1, hid (Only.refl _ w1)⟩ | exact ⟨by assumption, by assumption, by assumption⟩ | exact ⟨d0, d1, hid (Only.refl _ w1).drew⟩ | exact ⟨(HO.out.cell Hsz.out no_).trans d0, (HO.out.cell Hsz.out no_).trans d1, HO⟩)
    (first
      | (go_at_call 117; refine (HB'.out _ _ _ (by assumption)).mono ?_; rintro e w' ⟨rfl, HO⟩)
      | (go_at_call 105; with_reducible (first | refine (HR1'.out _ _ _ (by assumption)).mono ?_ | refine (HR2'.out _ _ _ (by assumption)).mono ?_); rintro e w' ⟨rfl, HO⟩))
  have hX := HO.out.row HX.out no_
  have cx0 := hX.cell (i := 0) (by omega)
  have cx1 := hX.cell (i := 1) (by omega)
  have fx0 := hX.frozen 0
  have fx1 := hX.frozen 1
  have hlt2 := hX.lt
  have HF : Hid (∀ a b : Value, Only (fun _ => False) w ((w'.setCell ⟨w.heap.size + 1, 0, none⟩ a).setCell ⟨w.heap.size + 1, 1, none⟩ b)) := hid fun a b => ((HO1.out.trans HO.out).setCell (p := ⟨w.heap.size + 1, 0, none⟩) (.inr (Nat.le_succ _)) a).setCell (p := ⟨w.heap.size + 1, 1, none⟩) (.inr (Nat.le_succ _)) b
  have HQ := hid fun a b => ret_cells hX a b
  clear HO HX HO1 HB' HR1' HR2' hX
  have e1 : IntKind.i64.wrap (IntKind.i64.wrap (x + y1) + y2) = x + y1 + y2 := by rw [IntKind.wrap_i64, IntKind.wrap_i64]; omega
  go_wp2
  have q := HQ.out (.int .i64 (x + y1 + y2)) (.int .i64 (k : Int))
  refine bodyPost_ret (v := .agg #[.int .i64 (x + y1 + y2), .int .i64 (k : Int)]) (by simp [results, Try.results106, go_sem, q]) rfl ⟨rfl, hid (HF.out _ _)⟩
end Go.Proofs.Ythfnpgmjbfbocaa
