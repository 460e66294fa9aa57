/- PackEnds: what its parts ask, by what is known of slices alone. -/
import Derived.Test.YtimkclmaglofaaaPkPu
import Derived.Test.YtimkclmaglofaaaPkRe
import Derived.Test.YtimkclmaglofaaaPkFi
import Derived.Test.YtimkclmaglofaaaPkNo
import Derived.ArgAppend
import Derived.Deep.RegionLawGrows
namespace Go.Proofs.Ytimkclmaglofaaa
open Go.RowKit
open Bit

/-- A slice that reads as some ints, as some bytes. -/
def IR (w : World) (A : Option Addr) (n : Nat) : Prop := ∃ zs : List Int, zs.length = n ∧ RdI w A zs ∧ Ints zs
def YR (w : World) (A : Option Addr) (n : Nat) : Prop := ∃ bs : List Nat, bs.length = n ∧ RdY w A bs ∧ Byts bs
section
variable {w w' : World} {A : Option Addr} {n : Nat}
theorem IR.below (h : IR w A n) (hb : Below w.heap.size w w') : IR w' A n := by
  obtain ⟨zs, h1, h2, h3⟩ := h
  exact ⟨zs, h1, h2.below hb, h3⟩
theorem YR.below (h : YR w A n) (hb : Below w.heap.size w w') : YR w' A n := by
  obtain ⟨zs, h1, h2, h3⟩ := h
  exact ⟨zs, h1, h2.below hb, h3⟩
theorem IR.take (h : IR w A n) {k : Nat} (hk : k ≤ n) : IR w A k := by
  obtain ⟨zs, rfl, h2, h3⟩ := h
  refine ⟨zs.take k, by simp [hk], ?_, fun z hz => h3 z (List.mem_of_mem_take hz)⟩
  have e : (zs.take k).length = k := by simp [hk]
  unfold RdI
  rw [e]
  exact (RdV.take h2 hk).congr fun j hj => by unfold vI; simp [List.getD, List.getElem?_take_of_lt hj]
theorem IR.nil (w : World) (A : Option Addr) : IR w A 0 := ⟨[], rfl, RdV.nil _, fun _ h => by cases h⟩
theorem YR.nil (w : World) (A : Option Addr) : YR w A 0 := ⟨[], rfl, RdV.nil _, fun j => by simp⟩
/-- Made of what each cell holds. -/
theorem IR.of_cells {b off : Nat} {V : Nat → Int} (h : ∀ j, j < n → w.cell? ⟨b, off + j, none⟩ = some (.int .i64 (V j)) ∧ -9223372036854775808 ≤ V j ∧ V j ≤ 9223372036854775807) : IR w (some ⟨b, off, none⟩) n := by
  refine ⟨(List.range n).map V, by simp, ?_, fun z hz => ?_⟩
  · have e : ((List.range n).map V).length = n := by simp
    unfold RdI
    rw [e]
    exact fun _ => ⟨b, off, rfl, fun j hj => by rw [(h j hj).1]; unfold vI; simp [List.getD, hj]⟩
  · obtain ⟨j, hj, rfl⟩ := List.mem_map.1 hz
    exact (h j (List.mem_range.1 hj)).2
theorem YR.of_cells {b off : Nat} {V : Nat → Nat} (h : ∀ j, j < n → w.cell? ⟨b, off + j, none⟩ = some (.int .u8 ((V j : Nat) : Int)) ∧ V j < 256) : YR w (some ⟨b, off, none⟩) n := by
  refine ⟨(List.range n).map V, by simp, ?_, fun j => ?_⟩
  · have e : ((List.range n).map V).length = n := by simp
    unfold RdY
    rw [e]
    exact fun _ => ⟨b, off, rfl, fun j hj => by rw [(h j hj).1]; unfold vY; simp [List.getD, hj]⟩
  · by_cases hj : j < n
    · simp [List.getD, hj]; exact (h j hj).2
    · rw [getDn_far _ _ (by simp; omega)]; omega
theorem IR.cell {b off : Nat} (h : IR w (some ⟨b, off, none⟩) n) {j : Nat} (hj : j < n) : ∃ z, w.cell? ⟨b, off + j, none⟩ = some (.int .i64 z) ∧ -9223372036854775808 ≤ z ∧ z ≤ 9223372036854775807 := by
  obtain ⟨zs, rfl, h2, h3⟩ := h
  obtain ⟨b', off', hA, hc, _⟩ := RdV.at h2 hj
  injection hA with hA
  injection hA with h1 h4
  subst h1
  subst h4
  exact ⟨_, hc, h3 _ (getD_mem hj)⟩
theorem YR.cell {b off : Nat} (h : YR w (some ⟨b, off, none⟩) n) {j : Nat} (hj : j < n) : ∃ y : Nat, w.cell? ⟨b, off + j, none⟩ = some (.int .u8 (y : Int)) ∧ y < 256 := by
  obtain ⟨zs, rfl, h2, h3⟩ := h
  obtain ⟨b', off', hA, hc, _⟩ := RdV.at h2 hj
  injection hA with hA
  injection hA with h1 h4
  subst h1
  subst h4
  exact ⟨_, hc, h3 _⟩
theorem YR.drop {b off : Nat} (h : YR w (some ⟨b, off, none⟩) n) {k : Nat} (hk : k ≤ n) : YR w (some ⟨b, off + k, none⟩) (n - k) := by
  have hc := fun j (hj : j < n - k) => h.cell (j := k + j) (by omega)
  refine YR.of_cells (V := fun j => if hj : j < n - k then Classical.choose (hc j hj) else 0) fun j hj => ?_
  have := Classical.choose_spec (hc j hj)
  rw [dif_pos hj, show off + k + j = off + (k + j) by omega]
  exact this
theorem IR.of_row {g : Nat} {t : TypeId} {m : Nat} {V : Nat → Int} (h : w.rowIs g t m fun j => .int .i64 (V j)) (hb : ∀ j, j < m → -9223372036854775808 ≤ V j ∧ V j ≤ 9223372036854775807) : IR w (some ⟨g, 0, none⟩) m :=
  IR.of_cells fun j hj => ⟨by rw [Nat.zero_add]; exact h.cell hj, hb j hj⟩
end

theorem putsE {A : Option Addr} {n cap : Nat} {wd i : Int} {W : World} (h : IR W A n) (hn : n ≤ 2000) (hA : A = none → n = 0 ∧ cap = 0) :
    Calls Try.prog 3 #[.int .i64 wd, .slice A n cap, .int .i64 i] W (Yes W) := by
  obtain ⟨zs, rfl, h2, h3⟩ := h
  exact packPuts_any A cap wd zs i W hn h2 hA h3
theorem readsE {A : Option Addr} {m cap : Nat} {wd n i : Int} {W : World} (h : YR W A m) (hn : m ≤ 2000) (hA : A = none → m = 0 ∧ cap = 0) :
    Calls Try.prog 4 #[.int .i64 wd, .int .i64 n, .slice A m cap, .int .i64 i] W (Yes W) := by
  obtain ⟨bs, rfl, h2, h3⟩ := h
  exact packReads_any A cap wd n bs i W hn h2 h3 hA
theorem findsE {A : Option Addr} {m cap : Nat} {n : Int} {W : World} (h : IR W A m) (hn : m ≤ 2000) (hA : A = none → m = 0 ∧ cap = 0) :
    Calls Try.prog 5 #[.slice A m cap, .int .i64 n] W (Yes W) := by
  obtain ⟨zs, rfl, h2, h3⟩ := h
  exact packFinds_ok A cap zs n W hn h2 hA

/-! The document's New, its row's bytes. -/
def RowB (W : World) (r : Nat) : Prop := ∃ (wd cap : Nat) (A : Option Addr) (zs : List Int), IsRef W r wd A cap zs ∧ 1 ≤ wd ∧ wd ≤ 60 ∧ zs.length ≤ 67 ∧ OkNs wd zs
def NewOr (W : World) (e : Ending) (w' : World) : Prop :=
  (∃ x : Int, e = .returned (.tuple #[.pointer none, .int .i64 x]) ∧ x ≠ 0 ∧ Hid (Below W.heap.size W w')) ∨
  (∃ r : Nat, e = .returned (.tuple #[.pointer (some ⟨r, 0, none⟩), .int .i64 0]) ∧ Hid (RowB w' r) ∧ Hid (Below W.heap.size W w'))
theorem refNewE {A : Option Addr} {n cap : Nat} {wd : Int} {W : World} (h : IR W A n) (hn : n ≤ 67) (hA : A = none → n = 0 ∧ cap = 0) :
    Calls Try.prog 14 #[.int .i64 wd, .slice A n cap] W (NewOr W) := by
  obtain ⟨zs, rfl, h2, h3⟩ := h
  refine (refNew_any wd cap A zs W h2 hA (by omega) h3).mono fun e w' hr => ?_
  rcases hr with ⟨g1, g2, g3, r, c, B, he, hq, _, hb⟩ | ⟨_, he, hb⟩ | ⟨_, _, he, hb⟩
  · have := isWd_iff.1 g1
    exact .inr ⟨r, he, hid ⟨wd.toNat, c, B, zs, hq, by omega, by omega, hn, OkNs.of g2⟩, hid hb⟩
  · exact .inl ⟨2, he, by decide, hid hb⟩
  · exact .inl ⟨3, he, by decide, hid hb⟩
def SomeY (W : World) (e : Ending) (w' : World) : Prop := ∃ g m : Nat, e = .returned (.slice (some ⟨g, 0, none⟩) m m) ∧ m ≤ 600 ∧ Hid (YR w' (some ⟨g, 0, none⟩) m) ∧ Hid (Below W.heap.size W w')
theorem refBytesE {r : Nat} {W : World} (h : RowB W r) : Calls Try.prog 27 #[.pointer (some ⟨r, 0, none⟩)] W (SomeY W) := by
  obtain ⟨wd, cap, A, zs, hq, h1, h2, h3, hok⟩ := h
  have hm : wd * zs.length ≤ 60 * 67 := Nat.mul_le_mul h2 h3
  refine (refBytes_any hq h1 h2 (by omega) hok).mono fun e w' hh => ?_
  obtain ⟨g, he, hh2⟩ := hh
  exact ⟨g, _, he, by omega, hid (YR.of_cells fun j hj => ⟨by rw [Nat.zero_add]; exact hh2.out.2.1.cell hj, byt_lt _ _⟩), hid hh2.out.2.2⟩

/-! append of one, where there is no room. -/
theorem snoc_vals {zs : List Int} (z : Int) : valsL (vI zs) zs.length ++ [.int .i64 z] = valsL (vI (zs ++ [z])) (zs.length + 1) := by
  unfold valsL
  rw [List.range_succ, List.map_append]
  congr 1
  · exact List.map_congr_left fun j hj => by have := List.mem_range.1 hj; unfold vI; simp [List.getD, List.getElem?_append_left this]
  · simp [vI, List.getD]
theorem snoc_valsY {bs : List Nat} (y : Nat) : valsL (vY bs) bs.length ++ [.int .u8 (y : Int)] = valsL (vY (bs ++ [y])) (bs.length + 1) := by
  unfold valsL
  rw [List.range_succ, List.map_append]
  congr 1
  · exact List.map_congr_left fun j hj => by have := List.mem_range.1 hj; unfold vY; simp [List.getD, List.getElem?_append_left this]
  · simp [vY, List.getD]
theorem grown_below {w w' : World} (h : w.grownBy w' none) : Below w.heap.size w w' := ⟨h.os, h.tape, h.output, h.size, fun k hk => h.block k hk (by simp)⟩
theorem one_cell (w : World) {ad : Addr} {v : Value} (h : w.cell? ad = some v) : ∀ j u, [v][j]? = some u → w.cell? (ad.add j) = some u := by
  intro j u hu
  cases j with
  | zero => simp at hu; subst hu; cases ad; simp only [Addr.add, Nat.add_zero]; exact h
  | succ j => simp at hu
theorem ints_snoc {zs : List Int} {z : Int} (h : Ints zs) (hz : -9223372036854775808 ≤ z ∧ z ≤ 9223372036854775807) : Ints (zs ++ [z]) := fun x hx => by
  rcases List.mem_append.1 hx with hx | hx
  · exact h x hx
  · rw [List.mem_singleton.1 hx]; exact hz
theorem IR.of_own {w : World} {b : Nat} {v : Value} {zs : List Int} {n : Nat} (hn : zs.length = n) (h0 : 0 < n) (hi : Ints zs) (h : w.ownsRow b 3 1 v n (valsL (vI zs) n)) : ∃ g cap, v = .slice (some ⟨g, 0, none⟩) n cap ∧ n ≤ cap ∧ IR w (some ⟨g, 0, none⟩) n := by
  obtain ⟨g, cap, F, hv, _, hF, hF2, hle, _⟩ := own_at h h0
  exact ⟨g, cap, hv, hle, zs, hn, by unfold RdI; rw [hn]; exact ((RdV.of_row hF).take hle).congr hF2, hi⟩
theorem wpList_snoc_ints {ops : Array Oper} {rest : List Oper} {o : Oper} {a : Act} {Q : Exit → Act → World → Prop} (w : World) (hw : Region.wanted o (yielded ops a.tmps) = true) (s x : Operand)
    (hop : o.op = Op.call { callee := Callee.builtin Builtin.append, args := #[s, x], argTypes := #[22, 22] }) (b : Addr) (n cap c : Nat) (hs : a.eval s = .slice (some b) n cap) (hr : Hid (IR w (some b) n))
    (ad : Addr) (z : Int) (hx : a.eval x = .slice (some ad) 1 c) (hc : Hid (w.cell? ad = some (.int .i64 z))) (hz : -9223372036854775808 ≤ z ∧ z ≤ 9223372036854775807) (hfull : cap < n + 1) (hn : n ≤ 2000)
    (h : ∀ g cap' w', Hid (IR w' (some ⟨g, 0, none⟩) (n + 1)) → Hid (Below w.heap.size w w') → wpList Try.prog ops Q rest (a.put o.dst (.slice (some ⟨g, 0, none⟩) (n + 1) cap')) w') : wpList Try.prog ops Q (o :: rest) a w := by
  obtain ⟨i0, hi0, hz0, hz1, hz2⟩ := info_parts intInfo
  obtain ⟨zs, hl, h2, h3⟩ := hr.out
  unfold RdI at h2
  rw [hl] at h2
  refine wpList_step fun K hK => ?_
  rw [if_pos hw]
  obtain ⟨v', w', hrun, hown, hg⟩ := run_append_arg_grows (P := Try.prog) w 22 o.type 3 i0 (.int .i64 0) 1 8 Try.underlying22 hi0 hz0 hz1 hz2 rfl (by omega) b n cap (valsL (vI zs) n) (by rw [valsL_len]; omega) (h2.news b rfl) ad 1 c [.int .i64 z] rfl (one_cell w hc.out) hfull (by unfold maxLen; omega) (by omega)
  have e : valsL (vI zs) n ++ [.int .i64 z] = valsL (vI (zs ++ [z])) (n + 1) := by rw [← hl]; exact snoc_vals z
  rw [e] at hown
  obtain ⟨g, cap', rfl, _, hir⟩ := IR.of_own (by simp [hl]) (by omega) (ints_snoc h3 hz) hown
  unfold Oper.wp
  simp [execOp, hop, resolve, invoke, builtin, hs, hx, hrun, Result.andThen]
  exact hK _ _ (h g cap' w' (hid hir) (hid (grown_below hg)))
theorem YR.of_own {w : World} {b : Nat} {v : Value} {bs : List Nat} {n : Nat} (hn : bs.length = n) (h0 : 0 < n) (hi : Byts bs) (h : w.ownsRow b 5 1 v n (valsL (vY bs) n)) : ∃ g cap, v = .slice (some ⟨g, 0, none⟩) n cap ∧ n ≤ cap ∧ YR w (some ⟨g, 0, none⟩) n := by
  obtain ⟨g, cap, F, hv, _, hF, hF2, hle, _⟩ := own_at h h0
  exact ⟨g, cap, hv, hle, bs, hn, by unfold RdY; rw [hn]; exact ((RdV.of_row hF).take hle).congr hF2, hi⟩
theorem byts_snoc {bs : List Nat} {y : Nat} (h : Byts bs) (hy : y < 256) : Byts (bs ++ [y]) := fun j => by
  by_cases h1 : j < bs.length
  · have := h j; simp only [List.getD, List.getElem?_append_left h1] at this ⊢; exact this
  · by_cases h2 : j = bs.length
    · subst h2; simp [List.getD, hy]
    · rw [getDn_far _ _ (by simp; omega)]; omega
theorem YR.take {w : World} {A : Option Addr} {n : Nat} (h : YR w A n) {k : Nat} (hk : k ≤ n) : YR w A k := by
  obtain ⟨zs, rfl, h2, h3⟩ := h
  refine ⟨zs.take k, by simp [hk], ?_, fun j => ?_⟩
  · have e : (zs.take k).length = k := by simp [hk]
    unfold RdY
    rw [e]
    exact (RdV.take h2 hk).congr fun j hj => by unfold vY; simp [List.getD, List.getElem?_take_of_lt hj]
  · by_cases hj : j < k
    · have := h3 j; simp only [List.getD, List.getElem?_take_of_lt hj] at this ⊢; exact this
    · rw [getDn_far _ _ (by simp; omega)]; omega
theorem step_snoc_bytes {ops : Array Oper} {o : Oper} {a : Act} {w : World} {K : Act → World → Prop} {Q : Exit → Act → World → Prop} {E : Prop} (hw : Region.wanted o (yielded ops a.tmps) = true) (s x : Operand)
    (hop : o.op = Op.call { callee := Callee.builtin Builtin.append, args := #[s, x], argTypes := #[41, 41] }) (b : Addr) (n cap c : Nat) (hs : a.eval s = .slice (some b) n cap) (hr : Hid (YR w (some b) n))
    (ad : Addr) (y : Nat) (hx : a.eval x = .slice (some ad) 1 c) (hc : Hid (w.cell? ad = some (.int .u8 (y : Int)))) (hy : y < 256) (hfull : cap < n + 1) (hn : n ≤ 2000)
    (h : ∀ g cap' w', Hid (YR w' (some ⟨g, 0, none⟩) (n + 1)) → Hid (Below w.heap.size w w') → K (a.put o.dst (.slice (some ⟨g, 0, none⟩) (n + 1) cap')) w') :
    if Region.wanted o (yielded ops a.tmps) = true then Oper.wp Try.prog o a w K Q else E := by
  obtain ⟨i0, hi0, hz0, hz1, hz2⟩ := info_parts uint8Info
  obtain ⟨bs, hl, h2, h3⟩ := hr.out
  unfold RdY at h2
  rw [hl] at h2
  rw [if_pos hw]
  obtain ⟨v', w', hrun, hown, hg⟩ := run_append_arg_grows (P := Try.prog) w 41 o.type 5 i0 (.int .u8 0) 1 1 Try.underlying41 hi0 hz0 hz1 hz2 rfl (by omega) b n cap (valsL (vY bs) n) (by rw [valsL_len]; omega) (h2.news b rfl) ad 1 c [.int .u8 (y : Int)] rfl (one_cell w hc.out) hfull (by unfold maxLen; omega) (by omega)
  have e : valsL (vY bs) n ++ [.int .u8 (y : Int)] = valsL (vY (bs ++ [y])) (n + 1) := by rw [← hl]; exact snoc_valsY y
  rw [e] at hown
  obtain ⟨g, cap', rfl, _, hir⟩ := YR.of_own (by simp [hl]) (by omega) (byts_snoc h3 hy) hown
  unfold Oper.wp
  simp [execOp, hop, resolve, invoke, builtin, hs, hx, hrun, Result.andThen]
  exact h g cap' w' (hid hir) (hid (grown_below hg))
end Go.Proofs.Ytimkclmaglofaaa
