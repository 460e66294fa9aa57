/- How many bits a text has. -/
import Derived.Test.YtmbcinbkijnblaaQB
import Derived.RangeFuncNested
import Derived.RangeFuncBound
import Derived.RangeFuncCalls
import Derived.RangeFuncLeaves
import Derived.Shelf.Abstract
import Derived.Shelf.RegionOpen
import Derived.WalkKit
import Derived.OwnWalkIn
import Derived.TacticsInMore
import Derived.LoopNIn
import Derived.LoopIn
namespace Go.Proofs.Ytmbcinbkijnblaa
open Go.RowKit Go.Shelf
attribute [local go_sem] Oper.semAt_some

/-- The signs of a text: its bytes, the end. -/
def sgB (s : ByteArray) (i : Nat) : Nat := s[i]!.toNat
def sgT (s : ByteArray) : List (Fin 257) := (List.range s.size).map (fun i => (⟨s[i]!.toNat + 1, by have := s[i]!.toNat_lt; omega⟩ : Fin 257)) ++ [0]
def encS (x : Fin 257) : Array Value := #[.int .i64 ((x.val : Nat) : Int)]
theorem sgT_len (s : ByteArray) : (sgT s).length = s.size + 1 := by simp [sgT]
theorem sgT_take {s : ByteArray} {i : Nat} (h : i < s.size) : (sgT s).take (i + 1) = (sgT s).take i ++ [(⟨s[i]!.toNat + 1, by have := s[i]!.toNat_lt; omega⟩ : Fin 257)] := by
  rw [List.take_add_one]
  congr 1
  simp [sgT, List.getElem?_append_left, h]
theorem sgT_end (s : ByteArray) : (sgT s).take s.size ++ [0] = sgT s := by
  unfold sgT
  rw [List.take_append_of_le_length (by simp), List.take_of_length_le (by simp)]
/-- The text's cell stays. -/
def KpS (Bn : Nat) (s : ByteArray) (W W' : World) : Prop := W.cell? ⟨Bn, 0, none⟩ = some (.string s) → W'.cell? ⟨Bn, 0, none⟩ = some (.string s)
theorem kpS_t {Bn : Nat} {s : ByteArray} {A B C : World} (h : KpS Bn s A B) (k : KpS Bn s B C) : KpS Bn s A C := fun hc => k (h hc)
theorem kpS_b {Bn : Nat} {s : ByteArray} {b : Nat} : ∀ (W : World) (l : Nat) (o o' : Obj), b ≤ l → W.heap[l]? = some o → o.isCells = false → o.isWalk = false → KpS Bn s W (W.putObj l o') := fun W l o o' _ ho hc _ h =>
  cell_kept h (grownBy_putObj' W l o') (fun r e => by cases e; exact ⟨o, ho, hc⟩)
set_option maxRecDepth 100000 in
set_option maxHeartbeats 1000000 in
theorem iter_in (n : Nat) (hn : 2 ≤ n) (l Bn : Nat) (s : ByteArray) (hsz : s.size ≤ 1000000) (J Jx : List (Fin 257) → World → Prop)
    (hY : ∀ pre x W, J pre W → pre.length < (sgT s).length → YieldAt Fence.wide (n - 1) Try.prog l (encS x) W fun e W' =>
      (e = .returned (.bool true) ∧ J (pre ++ [x]) W' ∧ KpS Bn s W W') ∨ (e = .returned (.bool false) ∧ Jx (pre ++ [x]) W'))
    (W : World) (hBn : W.cell? ⟨Bn, 0, none⟩ = some (.string s)) (h0 : J [] W) :
    CallsIn Fence.wide n Try.prog 93 #[.func (.yield l) #[] #[], .pointer (some ⟨Bn, 0, none⟩)] W fun e W' => (∃ v, e = .returned v) ∧
      ((∃ ys, ys = sgT s ∧ J ys W') ∨ (∃ pre, pre <+: sgT s ∧ Jx pre W')) := by
  have h1n : 1 ≤ n := by omega
  have hfn : Fence.wide.fn 94 := trivial
  refine callsIn_of_wp Try.func93 rfl trivial ?_ rfl
  simp only [Try.ntmps93, List.size_toArray, List.length_cons, List.length_nil, Nat.reduceAdd, Nat.reduceSub, Array.replicate_succ, Array.replicate_zero, List.push_toArray, List.append_toArray, List.nil_append, List.cons_append]
  gi_wp2
  gi_loopw [6] (fun v wr => ∃ k : Nat, k ≤ s.size ∧ v = .int .i64 (k : Int) ∧ J ((sgT s).take k) wr ∧ wr.cell? ⟨Bn, 0, none⟩ = some (.string s)) (fun v _ => s.size - (intOf v).toNat)
  case atStart => exact ⟨0, by omega, rfl, by simpa using h0, hBn⟩
  case round =>
    obtain ⟨k, hk, rfl, hJ, hc⟩ := hrel
    clear hBn
    by_cases hp : k < s.size
    · have hp' : (k : Int) < (s.size : Int) := by omega
      obtain ⟨fn, tmps, assign, body, hy, hR⟩ := hY ((sgT s).take k) ⟨s[k]!.toNat + 1, by have := s[k]!.toNat_lt; omega⟩ wr hJ (by rw [sgT_len, List.length_take, sgT_len]; omega)
      rw [← sgT_take hp] at hR
      have hb : s[k]!.toNat < 256 := s[k]!.toNat_lt
      have hix : ∀ W, (Instr.index 9 (.string s) (.int .i64 (k : Int))).run Try.prog W = .ok (.int .u8 ((s[k]!.toNat : Nat) : Int)) W := fun W => by
        rw [run_index_string W 9 s .i64 (k : Int) Try.underlying9, dif_pos ⟨by omega, hp'⟩]
        simp [hp]
      unfold encS at hy
      dsimp only at hy
      have HSo := hid fun W => signOf_any s[k]!.toNat hb W
      generalize s[k]!.toNat = b at *
      have hb1 : ((b + 1 : Nat) : Int) = (b : Int) + 1 := by omega
      rw [hb1] at hy
      gi_wp2_with (gi_at_call 94; refine (callsIn_wide.2 (HSo.out _)).mono ?_; rintro e w' ⟨rfl, rfl⟩)
      refine hR.mono ?_
      rintro e W3 (⟨rfl, hJ3, hk3⟩ | ⟨rfl, hJx3⟩)
      · have hc3 : W3.cell? ⟨Bn, 0, none⟩ = some (.string s) := hk3 hc
        gi_wp2
        go_roundw
        case rel => exact ⟨k + 1, by omega, by go_num, hJ3, hc3⟩
        case measure => simp [intOf]; omega
      · gi_wp2
        refine bodyPost_ret (results_none rfl _ _ _) rfl ?_
        exact ⟨⟨_, rfl⟩, .inr ⟨_, List.take_prefix _ _, hJx3⟩⟩
    · obtain rfl : k = s.size := by omega
      obtain ⟨fn, tmps, assign, body, hy, hR⟩ := hY ((sgT s).take s.size) 0 wr hJ (by rw [sgT_len, List.length_take, sgT_len]; omega)
      rw [sgT_end] at hR
      unfold encS at hy
      have hz0 : (((0 : Fin 257).val : Nat) : Int) = 0 := rfl
      rw [hz0] at hy
      gi_wp2
      refine hR.mono ?_
      rintro e W3 (⟨rfl, hJ3, hk3⟩ | ⟨rfl, hJx3⟩)
      · gi_wp2
        go_end0
        exact ⟨⟨_, rfl⟩, .inl ⟨_, rfl, hJ3⟩⟩
      · gi_wp2
        go_end0
        exact ⟨⟨_, rfl⟩, .inr ⟨_, List.prefix_refl _, hJx3⟩⟩
theorem signsOf_any (s : ByteArray) (w : World) : Calls Try.prog 63 #[.string s] w fun e w' => e = .returned (.func (.func 93) #[] #[.pointer (some ⟨w.heap.size, 0, none⟩)]) ∧ w' = w.alloc (.cells #[.string s] 9) := by
  go_enter Try.func63, Try.ntmps63
  go_wp2
  go_ret
  exact ⟨rfl, rfl⟩
theorem sg_stops (n : Nat) (hn : 2 ≤ n) (Bn : Nat) (s : ByteArray) (hsz : s.size ≤ 1000000) (w : World) (hBn : Bn < w.heap.size) (hc : w.cell? ⟨Bn, 0, none⟩ = some (.string s)) :
    SeqStopsK Fence.wide n Try.prog 93 #[.pointer (some ⟨Bn, 0, none⟩)] encS (KpS Bn s) (fun ys => ys = sgT s) (fun pre => pre <+: sgT s) (sgT s).length w := fun l J Jx W hW _ _ hY h0 =>
  iter_in n hn l Bn s hsz J Jx hY W ((hW.cell (p := ⟨Bn, 0, none⟩) hBn).trans hc) h0
end Go.Proofs.Ytmbcinbkijnblaa

namespace Go.Proofs.Ytmbcinbkijnblaa
open Go.RowKit Go.Shelf
attribute [local go_sem] Oper.semAt_some

def okT (sg : List Nat) (l : List (Fin 257)) : Bool := l.all fun x => decide (x.val ∈ sg)
def bitsT (sg : List Nat) (ws : List (List Bool)) (l : List (Fin 257)) : List Bool := l.flatMap fun x => wordZ sg ws x.val
theorem okT_snoc (sg : List Nat) (l : List (Fin 257)) (x : Fin 257) : okT sg (l ++ [x]) = (okT sg l && decide (x.val ∈ sg)) := by simp [okT, List.all_append]
theorem bitsT_snoc (sg : List Nat) (ws : List (List Bool)) (l : List (Fin 257)) (x : Fin 257) : bitsT sg ws (l ++ [x]) = bitsT sg ws l ++ wordZ sg ws x.val := by simp [bitsT]
theorem bitsT_len {B : Nat} {w : World} {g : Nat} {sg : List Nat} {ws : List (List Bool)} (h : CodeS B w g sg ws) : ∀ l : List (Fin 257), (bitsT sg ws l).length ≤ 256 * l.length
  | [] => by simp [bitsT]
  | x :: l => by
    have h1 := bitsT_len h l
    obtain ⟨_, _, _, _, _, h2, _⟩ := h.cell x.isLt
    unfold bitsT at h1 ⊢
    simp only [List.flatMap_cons, List.length_append, List.length_cons]
    omega
def LongE (w : World) (sg : List Nat) (ws : List (List Bool)) (s : ByteArray) (e : Ending) (w' : World) : Prop :=
  e = .returned (if okT sg (sgT s) = true then .tuple #[.int .i64 (((bitsT sg ws (sgT s)).length : Nat) : Int), .int .i64 0] else .tuple #[.int .i64 0, .int .i64 2]) ∧ StO w w'
theorem cell_of_box {W : World} {B : Nat} {v : Value} {t : TypeId} (h : W.heap[B]? = some (.cells #[v] t (0, 0))) : W.cell? ⟨B, 0, none⟩ = some v ∧ W.frozen? ⟨B, 0, none⟩ = false := by
  constructor <;> simp [World.cell?, World.frozen?, h]
theorem cell_newB (W : World) (v : Value) (t : TypeId) : (W.alloc (.cells #[v] t)).cell? ⟨W.heap.size, 0, none⟩ = some v ∧ (W.alloc (.cells #[v] t)).frozen? ⟨W.heap.size, 0, none⟩ = false := cell_of_box (World.alloc_heap_new W _)
theorem okT_pre {sg : List Nat} {l m : List (Fin 257)} (h : l <+: m) (ho : okT sg l = false) : okT sg m = false := by
  obtain ⟨r, rfl⟩ := h
  unfold okT at ho ⊢
  rw [List.all_append, ho]
  rfl
theorem cell_allocB {W : World} {a : Addr} {v : Value} (o : Obj) (h : W.cell? a = some v) : (W.alloc o).cell? a = some v := cell_kept h (World.grownBy_alloc W o none) (fun r e => by cases e)
theorem frozen_allocB {W : World} {a : Addr} {v : Value} (o : Obj) (h : W.cell? a = some v) (hf : W.frozen? a = false) : (W.alloc o).frozen? a = false := (frozen_kept h (World.grownBy_alloc W o none) (fun r e => by cases e)).trans hf
/-- A cell that may be written. -/
def Bx (W : World) (b : Nat) (v : Value) : Prop := W.cell? ⟨b, 0, none⟩ = some v ∧ W.frozen? ⟨b, 0, none⟩ = false
theorem Bx.new (W : World) (v : Value) (t : TypeId) (b : Nat) (hb : b = W.heap.size) : Bx (W.alloc (.cells #[v] t)) b v := by subst hb; exact cell_newB W v t
theorem Bx.alloc {W : World} {b : Nat} {v : Value} (o : Obj) (h : Bx W b v) : Bx (W.alloc o) b v := ⟨cell_allocB o h.1, frozen_allocB o h.1 h.2⟩
theorem Bx.set {W : World} {b : Nat} {v u : Value} (h : Bx W b v) : Bx (W.setCell ⟨b, 0, none⟩ u) b u := ⟨World.cell?_setCell_same' _ _ _ (by rw [h.1]; rfl), by rw [World.frozen?_setCell]; exact h.2⟩
theorem Bx.other {W : World} {b c : Nat} {v u : Value} (h : Bx W b v) (hne : b ≠ c) : Bx (W.setCell ⟨c, 0, none⟩ u) b v := ⟨by rw [World.cell?_setCell_far _ _ _ _ (fun e => hne e.symm)]; exact h.1, by rw [World.frozen?_setCell]; exact h.2⟩
theorem Bx.kept {A B : World} {b : Nat} {v : Value} {row : Option Nat} (h : Bx A b v) (hg : A.grownBy B row) (hr : ∀ r, row = some r → ∃ o : Obj, A.heap[r]? = some o ∧ o.isCells = false) : Bx B b v := ⟨cell_kept h.1 hg hr, (frozen_kept h.1 hg hr).trans h.2⟩
theorem kpS_set {Bn c : Nat} {s : ByteArray} {W : World} {u : Value} (h : c ≠ Bn) : KpS Bn s W (W.setCell ⟨c, 0, none⟩ u).drew := fun hc => by
  rw [cell_drew_own, World.cell?_setCell_far _ _ _ _ (show (⟨c, 0, none⟩ : Addr).block ≠ (⟨Bn, 0, none⟩ : Addr).block from h)]
  exact hc
theorem Bx.shut {W : World} {b D : Nat} {v : Value} {ds : Option (List Deferred)} (h : Bx W b v) (hK : W.heap[D]? = some (.deferred ds)) (o : Option (List Deferred)) : (W.putObj D (.deferred o)).cell? ⟨b, 0, none⟩ = some v :=
  cell_kept h.1 (grownBy_putObj' W D (.deferred o)) (fun r e => by cases e; exact ⟨_, hK, rfl⟩)
set_option maxRecDepth 100000 in
set_option maxHeartbeats 4000000 in
theorem long_any {B : Nat} {w : World} {g : Nat} {sg : List Nat} {ws : List (List Bool)} {s : ByteArray} (h : CodeS B w g sg ws) (hsz : s.size ≤ 1000000) :
    Calls Try.prog 38 #[.pointer (some ⟨g, 0, none⟩), .string s] w (LongE w sg ws s) := by
  have HAn : Hid (∀ W, StO w W → Calls Try.prog 68 #[.pointer (some ⟨g, 0, none⟩)] W fun e' w' => e' = .returned (.bool true) ∧ W = w') := hid fun W hW => (h.same hW.out).answered
  have HSg := hid fun W => signsOf_any s W
  refine (callsIn_wide (n := 6)).1 ?_
  have hmix : Try.prog.follows Departure.mixedOrders = true := by kernel_rfl
  have hfn1 : Fence.wide.fn 68 := trivial
  have hfn2 : Fence.wide.fn 63 := trivial
  have hfn3 : Fence.wide.fn 73 := trivial
  refine callsIn_of_wp_marks Try.func38 rfl trivial ?_ rfl
  simp only [Try.ntmps38, List.size_toArray, List.length_cons, List.length_nil, Nat.reduceAdd, Nat.reduceSub, Array.replicate_succ, Array.replicate_zero, List.push_toArray, List.append_toArray, List.nil_append, List.cons_append]
  gi_wp2_with (first
    | (gi_at_call 68; refine (callsIn_wide.2 (HAn.out _ (hid ((((Only.refl _ w).alloc _).alloc _).alloc _)))).mono ?_; rintro e w1 ⟨rfl, rfl⟩)
    | (gi_at_call 63; refine (callsIn_wide.2 (HSg.out _)).mono ?_; rintro e w2 ⟨rfl, rfl⟩))
  have HCell : Hid (∀ W, Below w.heap.size w W → ∀ x : Fin 257, CodeS B W g sg ws ∧ ∃ A, W.cell? ⟨g, 2 + x.val, none⟩ = some (.slice A (wordZ sg ws x.val).length (wordZ sg ws x.val).length)) := hid fun W hW x => by
    have h2 := h.same (Only.of_below hW _)
    obtain ⟨A, h1, _⟩ := h2.cell x.isLt
    exact ⟨h2, A, h1⟩
  have hB0 : Below w.heap.size w (((((w.alloc (.cells #[.pointer (some ⟨g, 0, none⟩)] 31)).alloc (.cells #[.int .i64 0] 3)).alloc (.cells #[.int .i64 0] 25)).alloc (.cells #[.int .i64 0] 3)).alloc (.cells #[.string s] 9)) := (((((Below.refl _ w).alloc (Nat.le_refl _) _).alloc (by simp) _).alloc (by simp; omega) _).alloc (by simp; omega) _).alloc (by simp; omega) _
  have x2 : Bx (((((w.alloc (.cells #[.pointer (some ⟨g, 0, none⟩)] 31)).alloc (.cells #[.int .i64 0] 3)).alloc (.cells #[.int .i64 0] 25)).alloc (.cells #[.int .i64 0] 3)).alloc (.cells #[.string s] 9)) w.heap.size (.pointer (some ⟨g, 0, none⟩)) := ((((Bx.new w _ _ _ rfl).alloc _).alloc _).alloc _).alloc _
  have x4 : Bx (((((w.alloc (.cells #[.pointer (some ⟨g, 0, none⟩)] 31)).alloc (.cells #[.int .i64 0] 3)).alloc (.cells #[.int .i64 0] 25)).alloc (.cells #[.int .i64 0] 3)).alloc (.cells #[.string s] 9)) (w.heap.size + 1) (.int .i64 0) := (((Bx.new _ _ _ _ (by simp)).alloc _).alloc _).alloc _
  have x5 : Bx (((((w.alloc (.cells #[.pointer (some ⟨g, 0, none⟩)] 31)).alloc (.cells #[.int .i64 0] 3)).alloc (.cells #[.int .i64 0] 25)).alloc (.cells #[.int .i64 0] 3)).alloc (.cells #[.string s] 9)) (w.heap.size + 1 + 1) (.int .i64 0) := ((Bx.new _ _ _ _ (by simp)).alloc _).alloc _
  have x6 : Bx (((((w.alloc (.cells #[.pointer (some ⟨g, 0, none⟩)] 31)).alloc (.cells #[.int .i64 0] 3)).alloc (.cells #[.int .i64 0] 25)).alloc (.cells #[.int .i64 0] 3)).alloc (.cells #[.string s] 9)) (w.heap.size + 1 + 1 + 1) (.int .i64 0) := (Bx.new _ _ _ _ (by simp)).alloc _
  have x7 : Bx (((((w.alloc (.cells #[.pointer (some ⟨g, 0, none⟩)] 31)).alloc (.cells #[.int .i64 0] 3)).alloc (.cells #[.int .i64 0] 25)).alloc (.cells #[.int .i64 0] 3)).alloc (.cells #[.string s] 9)) (w.heap.size + 1 + 1 + 1 + 1) (.string s) := Bx.new _ _ _ _ (by simp)
  have hsz0 : (((((w.alloc (.cells #[.pointer (some ⟨g, 0, none⟩)] 31)).alloc (.cells #[.int .i64 0] 3)).alloc (.cells #[.int .i64 0] 25)).alloc (.cells #[.int .i64 0] 3)).alloc (.cells #[.string s] 9)).heap.size = w.heap.size + 1 + 1 + 1 + 1 + 1 := by simp
  generalize (((((w.alloc (.cells #[.pointer (some ⟨g, 0, none⟩)] 31)).alloc (.cells #[.int .i64 0] 3)).alloc (.cells #[.int .i64 0] 25)).alloc (.cells #[.int .i64 0] 3)).alloc (.cells #[.string s] 9)) = W0 at *
  refine wpIn_rangeFunc_ownF rfl (by omega) (gf := 93) (lb := #[.pointer (some ⟨w.heap.size + 1 + 1 + 1 + 1, 0, none⟩)]) rfl trivial (enters_of Try.func93 (by kernel_rfl) rfl)
    (sg_stops 5 (by omega) (w.heap.size + 1 + 1 + 1 + 1) s hsz W0 (by omega) x7.1) kpS_t kpS_b (Below.refl _ _) (fun _ => rfl)
    (fun pre W => (okT sg pre = true ∧ Bx W w.heap.size (.pointer (some ⟨g, 0, none⟩)) ∧ Bx W (w.heap.size + 1) (.int .i64 0) ∧ Bx W (w.heap.size + 1 + 1) (.int .i64 0) ∧ Bx W (w.heap.size + 1 + 1 + 1) (.int .i64 (((bitsT sg ws pre).length : Nat) : Int))) ∧ Below w.heap.size w W)
    (fun c pre W => (c = .ret ∧ okT sg pre = false ∧ Bx W (w.heap.size + 1) (.int .i64 0) ∧ Bx W (w.heap.size + 1 + 1) (.int .i64 2)) ∧ Below w.heap.size w W)
    (OwnFrom.and (Own.from (fun s A B row hs hg hr => ⟨hs.1, hs.2.1.kept hg hr, hs.2.2.1.kept hg hr, hs.2.2.2.1.kept hg hr, hs.2.2.2.2.kept hg hr⟩) _) (ownFrom_below (Nat.le_refl _) (by omega)))
    (fun c => OwnFrom.and (Own.from (fun s A B row hs hg hr => ⟨hs.1, hs.2.1, hs.2.2.1.kept hg hr, hs.2.2.2.kept hg hr⟩) _) (ownFrom_below (Nat.le_refl _) (by omega)))
    ⟨⟨rfl, x2, x4, x5, x6⟩, hB0⟩
    (fun x => { tmps := #[.pointer (some ⟨g, 0, none⟩), .string s, .pointer (some ⟨w.heap.size, 0, none⟩), undef, .pointer (some ⟨w.heap.size + 1, 0, none⟩), .pointer (some ⟨w.heap.size + 1 + 1, 0, none⟩), .pointer (some ⟨w.heap.size + 1 + 1 + 1, 0, none⟩), .int .i64 ((x.val : Nat) : Int), .pointer (some ⟨g, 0, none⟩), .bool true, .bool false, .string s, .func (.func 93) #[] #[.pointer (some ⟨w.heap.size + 1 + 1 + 1 + 1, 0, none⟩)], .int .i64 ((x.val : Nat) : Int), undef, undef, undef, undef, undef, undef, undef, undef, undef, undef, undef, undef, undef, undef], defers := [] }) ?assign ?body ?done ?stop
  case assign =>
    intro l x W K hK
    unfold encS
    gi_wp2
    exact hK
  case body =>
    rintro l pre x W ⟨⟨hok, y2, y4, y5, y6⟩, hB⟩ hlt
    obtain ⟨hC, A, cA⟩ := HCell.out W hB x
    have HHas := hid (hC.has x.isLt)
    have hbl := bitsT_len hC pre
    have hx' : ((x.val : Nat) : Int) < 257 := by have := x.isLt; omega
    rw [sgT_len] at hlt
    have ho1 := okT_snoc sg pre x
    rw [hok, Bool.true_and] at ho1
    have hs1 := bitsT_snoc sg ws pre x
    obtain ⟨c2, f2⟩ := y2
    obtain ⟨c4, f4⟩ := y4
    obtain ⟨c5, f5⟩ := y5
    obtain ⟨c6, f6⟩ := y6
    have Y2 : Hid (Bx W w.heap.size (.pointer (some ⟨g, 0, none⟩))) := hid ⟨c2, f2⟩
    have Y4 : Hid (Bx W (w.heap.size + 1) (.int .i64 0)) := hid ⟨c4, f4⟩
    have Y5 : Hid (Bx W (w.heap.size + 1 + 1) (.int .i64 0)) := hid ⟨c5, f5⟩
    have Y6 : Hid (Bx W (w.heap.size + 1 + 1 + 1) (.int .i64 (((bitsT sg ws pre).length : Nat) : Int))) := hid ⟨c6, f6⟩
    have HB := hid hB
    by_cases hm : x.val ∈ sg
    · rw [decide_eq_true hm] at HHas ho1
      have hwl : (bitsT sg ws (pre ++ [x])).length = (bitsT sg ws pre).length + (wordZ sg ws x.val).length := by rw [hs1, List.length_append]
      have Hwl := hid hwl
      have Ho1 := hid ho1
      have hbl2 := bitsT_len hC (pre ++ [x])
      rw [hwl, List.length_append] at hbl2
      have hbl3 : (bitsT sg ws pre).length + (wordZ sg ws x.val).length ≤ 300000000 := by simp at hbl2; omega
      clear hm hs1 hwl ho1 hbl2 hbl hC hok hB
      generalize (wordZ sg ws x.val).length = q at *
      generalize (bitsT sg ws pre).length = m at *
      have hw1 : IntKind.i64.wrap ((m : Int) + (q : Int)) = (m : Int) + (q : Int) := by rw [IntKind.wrap_i64]; omega
      gi_wp2_with (gi_at_call 73; refine (CallsIn.inRound l (callsIn_wide.2 HHas.out)).mono ?_; rintro e w' ⟨rfl, rfl⟩)
      gi_region_with_o (fail)
      all_goals exact ⟨(KeepsOthers.setCell _ _ _).trans (KeepsOthers.drew _), kpS_set (by omega), ⟨Ho1.out, Y2.out.other (by omega), Y4.out.other (by omega), Y5.out.other (by omega), (by rw [Hwl.out]; exact Y6.out.set)⟩, (HB.out.setCell (p := ⟨w.heap.size + 1 + 1 + 1, 0, none⟩) (by show w.heap.size ≤ w.heap.size + 1 + 1 + 1; omega) _).drew⟩
    · rw [decide_eq_false hm] at HHas ho1
      have Ho1 := hid ho1
      clear hm hs1 ho1 hbl hC hok hB
      gi_wp2_with (gi_at_call 73; refine (CallsIn.inRound l (callsIn_wide.2 HHas.out)).mono ?_; rintro e w' ⟨rfl, rfl⟩)
      exact ⟨(KeepsOthers.setCell _ _ _).trans (KeepsOthers.setCell _ _ _), ⟨rfl, Ho1.out, (Y4.out.set).other (by omega), (Y5.out.other (by omega)).set⟩, (HB.out.setCell (p := ⟨w.heap.size + 1, 0, none⟩) (by show w.heap.size ≤ w.heap.size + 1; omega) _).setCell (p := ⟨w.heap.size + 1 + 1, 0, none⟩) (by show w.heap.size ≤ w.heap.size + 1 + 1; omega) _⟩
  case done =>
    rintro D ys W hD rfl ⟨⟨hok, y2, y4, y5, y6⟩, hB⟩ hK
    obtain ⟨c2, f2⟩ := y2
    obtain ⟨c4, f4⟩ := y4
    obtain ⟨c5, f5⟩ := y5
    obtain ⟨c6, f6⟩ := y6
    have HD := hid hD
    have Z4 : Hid (∀ u v : Value, Bx ((W.setCell ⟨w.heap.size + 1, 0, none⟩ u).setCell ⟨w.heap.size + 1 + 1, 0, none⟩ v) (w.heap.size + 1) u) := hid fun u v => (Bx.set (v := .int .i64 0) ⟨c4, f4⟩).other (by omega)
    have Z5 : Hid (∀ u v : Value, Bx ((W.setCell ⟨w.heap.size + 1, 0, none⟩ u).setCell ⟨w.heap.size + 1 + 1, 0, none⟩ v) (w.heap.size + 1 + 1) v) := hid fun u v => (Bx.other (v := .int .i64 0) ⟨c5, f5⟩ (by omega)).set
    have HB2 : Hid (∀ u v : Value, Below w.heap.size w ((W.setCell ⟨w.heap.size + 1, 0, none⟩ u).setCell ⟨w.heap.size + 1 + 1, 0, none⟩ v)) := hid fun u v => (hB.setCell (p := ⟨w.heap.size + 1, 0, none⟩) (by show w.heap.size ≤ w.heap.size + 1; omega) _).setCell (p := ⟨w.heap.size + 1 + 1, 0, none⟩) (by show w.heap.size ≤ w.heap.size + 1 + 1; omega) _
    have HK2 : Hid (∀ u v : Value, ((W.setCell ⟨w.heap.size + 1, 0, none⟩ u).setCell ⟨w.heap.size + 1 + 1, 0, none⟩ v).heap[D]? = some (.deferred (some []))) := hid fun u v => ((KeepsOthers.setCell W ⟨w.heap.size + 1, 0, none⟩ u).trans (KeepsOthers.setCell _ ⟨w.heap.size + 1 + 1, 0, none⟩ v)).same D _ hK rfl
    have hok2 := hid hok
    obtain ⟨m, hm⟩ : ∃ m, m = (bitsT sg ws (sgT s)).length := ⟨_, rfl⟩
    rw [← hm] at c6
    have Hm := hid hm
    clear hD hok hB hK hm
    gi_wp2
    refine ⟨by simp, .inl ⟨_, _, rfl, run_takeDeferred (HK2.out _ _), ?_⟩⟩
    have q4 := (Z4.out (.int .i64 (m : Int)) (.int .i64 0)).shut (HK2.out _ _) none
    have q5 := (Z5.out (.int .i64 (m : Int)) (.int .i64 0)).shut (HK2.out _ _) none
    refine ⟨.tuple #[.int .i64 (m : Int), .int .i64 0], ?_, ?_⟩
    · simp [results, Try.f38, go_sem, q4, q5]
    · exact ⟨by rw [hok2.out, if_pos rfl, ← Hm.out], hid (Only.of_below ((HB2.out _ _).trans (belowK_b (w := w) (Nat.le_refl _) _ D _ _ (by have := HD.out; omega) (HK2.out _ _) rfl rfl)) _)⟩
  case stop =>
    rintro D c pre W hD hpre ⟨⟨rfl, hno, y4, y5⟩, hB⟩ hK
    have hno2 := hid (okT_pre hpre hno)
    have HD := hid hD
    have HB := hid hB
    have HK := hid hK
    have Y4 := hid y4
    have Y5 := hid y5
    clear hD hpre hno y4 y5 hB hK
    gi_wp2
    refine ⟨by simp, .inl ⟨_, _, rfl, run_takeDeferred HK.out, ?_⟩⟩
    have q4 := Y4.out.shut HK.out none
    have q5 := Y5.out.shut HK.out none
    refine ⟨.tuple #[.int .i64 0, .int .i64 2], ?_, ?_⟩
    · simp [results, Try.f38, go_sem, q4, q5]
    · exact ⟨by rw [hno2.out, if_neg (by simp)], hid (Only.of_below (HB.out.trans (belowK_b (w := w) (Nat.le_refl _) _ D _ _ (by have := HD.out; omega) HK.out rfl rfl)) _)⟩
end Go.Proofs.Ytmbcinbkijnblaa
