/- FlowPuts returns true for every input. No condition. -/
import Derived.Test.YtgdfiopdkidhfaaFl0
import Derived.Test.YtgdfiopdkidhfaaFr
import Derived.WalkSpells
import Derived.Test.YtgdfiopdkidhfaaFl1
import Derived.Maps.AppendAt
import Derived.Test.YtgdfiopdkidhfaaFl7
import Derived.Lib.AppendZerosOnto
import Derived.Laws.AppendOwn
import Derived.Test.YtgdfiopdkidhfaaRowI
import Derived.Test.YtgdfiopdkidhfaaFd
import Derived.Deep.SlicePairs
import Derived.Test.YtgdfiopdkidhfaaFw
import Derived.Test.YtgdfiopdkidhfaaKtI
import Derived.Test.YtgdfiopdkidhfaaOwnB
import Derived.Test.YtgdfiopdkidhfaaRefC
import Derived.Deep.RegionHeld3
namespace Go.Proofs.Ytgdfiopdkidhfaa
open Go.RowKit

theorem boolInfoW : (Try.prog.info? 4).map (fun i => (i.zero, i.size, i.bytes)) = some (some (.bool false), 1, 1) := by kernel_rfl
/-- The last k digits laid. -/
def dgV (wd n k j : Nat) : Value := .bool (decide (wd ≤ j + k) && n.testBit (wd - 1 - j))
def DgS (w W : World) (wd n k : Nat) : Prop := W.rowIs w.heap.size 4 wd (dgV wd n k) ∧ Only (fun _ => False) w W
theorem DgS.step {w W : World} {wd n k : Nat} (h : DgS w W wd n k) (hk : k < wd) {m : Nat} (hm : m = wd - 1 - k) {b : Bool} (hb : b = n.testBit k) : DgS w (W.setCell ⟨w.heap.size, m, none⟩ (.bool b)) wd n (k + 1) := by
  refine ⟨(h.1.set m _).congr fun j hj => ?_, h.2.setCell (.inr (Nat.le_refl _)) _⟩
  subst hm
  subst hb
  unfold dgV
  by_cases e : j = wd - 1 - k
  · subst e
    have h1 : wd ≤ wd - 1 - k + (k + 1) := by omega
    rw [if_pos rfl, show wd - 1 - (wd - 1 - k) = k by omega]
    simp [h1]
  · rw [if_neg e]
    by_cases h2 : wd ≤ j + k
    · have h3 : wd ≤ j + (k + 1) := by omega
      simp [h2, h3]
    · have h3 : ¬ wd ≤ j + (k + 1) := by omega
      simp [h2, h3]
set_option maxHeartbeats 1000000 in
theorem rdigits_any (wd n : Nat) (w : World) (hwd : wd ≤ 60) (hn : n < 9223372036854775808) :
    Calls Try.prog 42 #[.int .i64 (wd : Int), .int .i64 (n : Int)] w fun e' w' => e' = .returned (.tuple #[.slice (some ⟨w.heap.size, 0, none⟩) wd wd, .bool (decide (n < 2 ^ wd))]) ∧ Hid (DgS w w' wd n wd) := by
  have hmk := fun W => run_make_row' (P := Try.prog) 28 4 (.bool false) 1 Try.underlying28 boolInfoW rfl .i64 .i64 wd (by omega) (by omega) W
  have HK : Hid (DgS w (w.alloc (.cells (madeCells #[Value.bool false] wd) 4)) wd n 0) := hid ⟨(World.rowIs_made w (.bool false) wd 4).congr fun j hj => by
    unfold dgV
    have h0 : decide (wd ≤ j + 0) = false := decide_eq_false (by omega)
    rw [h0]; rfl, (Only.refl _ w).alloc _⟩
  go_enter Try.func42, Try.ntmps42
  go_wp2_with fail
  go_loopw [1, 7] (fun s i wr => ∃ k : Nat, k ≤ wd ∧ s = .int .i64 ((n / 2 ^ k : Nat) : Int) ∧ i = .int .i64 ((wd : Int) - 1 - k) ∧ Hid (DgS w wr wd n k)) (fun _ i _ => (intOf i + 1).toNat)
  case atStart => exact ⟨0, by omega, by simp, by go_num, HK⟩
  case round =>
    obtain ⟨k, hk, rfl, rfl, HI⟩ := hrel
    clear HK hmk
    by_cases hp : k < wd
    · obtain ⟨m, hm⟩ : ∃ m : Nat, (wd : Int) - 1 - k = (m : Int) := ⟨wd - 1 - k, by omega⟩
      have hm2 : m = wd - 1 - k := by omega
      have hmw : m < wd := by omega
      rw [hm]
      have Hm := hid hm
      have c := HI.out.1.cell hmw
      have fz := HI.out.1.frozen m
      have hlt := HI.out.1.lt
      have hle := Nat.div_le_self n (2 ^ k)
      have HN : Hid (∀ b : Bool, b = n.testBit k → DgS w (wr.setCell ⟨w.heap.size, m, none⟩ (.bool b)) wd n (k + 1)) := hid fun b hb => HI.out.step hp hm2 hb
      have HB : Hid (((((n / 2 ^ k : Nat) : Int) % 2) == 1) = n.testBit k) := hid (by
        rw [Nat.testBit_eq_decide_div_mod_eq, Bool.eq_iff_iff, beq_iff_eq, decide_eq_true_eq]
        generalize n / 2 ^ k = x
        omega)
      have HQ : Hid (n / 2 ^ (k + 1) = n / 2 ^ k / 2) := hid (by rw [Nat.pow_succ, Nat.div_div_eq_div_mul])
      clear hm hm2 HI
      generalize hx : n / 2 ^ k = x at hle HB HQ
      have hx2 : x < 9223372036854775808 := by omega
      clear hx
      go_wp2_with fail
      go_roundw
      case rel => exact ⟨k + 1, by omega, by rw [HQ.out]; go_num, by have := Hm.out; go_num, hid (HN.out _ HB.out)⟩
      case measure => simp [intOf]
    · obtain rfl : k = wd := by omega
      have hneg : ¬ (0 : Int) ≤ (k : Int) - 1 - k := by omega
      obtain ⟨x, hx⟩ : ∃ x, x = n / 2 ^ k := ⟨_, rfl⟩
      rw [← hx]
      have Hx := hid hx
      clear hx
      go_wp2_with fail
      go_ret2
      have e : (((x : Nat) : Int) == 0) = decide (n < 2 ^ k) := by
        have h := Nat.div_eq_zero_iff_lt (x := n) (k := 2 ^ k) (Nat.two_pow_pos _)
        rw [← Hx.out] at h
        rw [Bool.eq_iff_iff, beq_iff_eq, decide_eq_true_eq, ← h]
        omega
      exact ⟨congrArg (fun z => Ending.returned (.tuple #[.slice (some ⟨w.heap.size, 0, none⟩) k k, .bool z])) e, HI⟩
end Go.Proofs.Ytgdfiopdkidhfaa

namespace Go.Proofs.Ytgdfiopdkidhfaa
open Go.RowKit

def wqc (v : Value) (e : Int) : Nat → Value
  | 0 => v
  | _ => .int .i64 e
def bvals (xs : List Bool) : List Value := xs.map Value.bool
theorem bvals_len (xs : List Bool) : (bvals xs).length = xs.length := by simp [bvals]
theorem bvals_one (xs : List Bool) : ∀ u ∈ bvals xs, u.oneCell' = true := by
  intro u hu
  obtain ⟨b, _, rfl⟩ := List.mem_map.1 hu
  rfl
theorem bvals_vals (ys : List Bool) : bvals ys = valsL (vB ys) ys.length := by
  apply List.ext_getElem?
  intro j
  by_cases hj : j < ys.length
  · rw [valsL_get hj]; simp [vB, bvals, List.getD, hj]
  · rw [List.getElem?_eq_none (by rw [bvals_len]; omega), List.getElem?_eq_none (by rw [valsL_len]; omega)]
theorem bvals_rd {w : World} {A : Option Addr} {ys : List Bool} (h : RdB w A ys) : ∀ ad, A = some ad → ∀ j u, (bvals ys)[j]? = some u → w.cell? (ad.add j) = some u := by
  rw [bvals_vals]
  exact h.news
/-- The document's writer. -/
structure WqS (B : Nat) (w : World) (q : Nat) (e : Int) (v : Value) (xs : List Bool) : Prop where
  small : xs.length ≤ 16777216
  self : w.rowIs q 31 2 (wqc v e)
  own : w.ownsRow B 4 1 v xs.length (bvals xs)
  ge : B ≤ q
def IsWq (B : Nat) (w : World) (q : Nat) (e : Int) (xs : List Bool) : Prop := ∃ v, WqS B w q e v xs
def TWq (t : TypeId) : Prop := t = 31 ∨ t = 4
section
variable {B q : Nat} {w a : World} {e : Int} {v : Value} {xs : List Bool}
theorem WqS.ty {T : TypeId → Prop} {B' : Nat} (h : WqS B a q e v xs) (o : FrT T B' a w) (h1 : ¬ T 31) (h2 : ¬ T 4) : WqS B w q e v xs :=
  ⟨h.small, o.row h.self h1, own_ty h.own o h2, h.ge⟩
theorem WqS.same (h : WqS B a q e v xs) (o : Only (fun _ => False) a w) : WqS B w q e v xs := h.ty (T := fun _ => False) (B' := 0) (FrT.of_only o) (fun h => h) (fun h => h)
theorem IsWq.same (h : IsWq B a q e xs) (o : Only (fun _ => False) a w) : IsWq B w q e xs := by
  obtain ⟨v, h⟩ := h
  exact ⟨v, h.same o⟩
theorem IsWq.ty {T : TypeId → Prop} {B' : Nat} (h : IsWq B a q e xs) (o : FrT T B' a w) (h1 : ¬ T 31) (h2 : ¬ T 4) : IsWq B w q e xs := by
  obtain ⟨v, h⟩ := h
  exact ⟨v, h.ty o h1 h2⟩
theorem WqS.shape (h : WqS B w q e v xs) : ∃ A cap, v = .slice A xs.length cap ∧ RdB w A xs ∧ xs.length ≤ cap ∧ (A = none → xs.length = 0 ∧ cap = 0) ∧ ∀ b off, A = some ⟨b, off, none⟩ → B ≤ b ∧ ¬ b = q := by
  rcases h.own.2 with ⟨rfl, h0⟩ | ⟨g, cap, cur, rfl, hge, hh, hle, hcm, hsz, ht⟩
  · exact ⟨none, 0, by rw [h0], by show RdV w none xs.length _; rw [h0]; exact RdV.nil _, by omega, fun _ => ⟨h0, rfl⟩, fun b off e => by cases e⟩
  · refine ⟨_, cap, rfl, fun _ => ⟨g, 0, rfl, fun j hj => ?_⟩, hle, (fun h => by cases h), fun b off e => ?_⟩
    · obtain ⟨F, hF, hFV⟩ := own_rowV (V := vB xs) hh hsz (by rw [ht, bvals_vals])
      rw [Nat.zero_add, hF.cell (by omega), hFV j hj]
    · injection e with e
      injection e with e1
      subst e1
      refine ⟨hge, ?_⟩
      rintro rfl
      obtain ⟨c, hb, _, _⟩ := h.self
      rw [hh] at hb
      injection hb with hb
      injection hb with _ e
      exact absurd e (by decide)
end

theorem wpList_addB {ops : Array Oper} {rest : List Oper} {o : Oper} {a : Act} {Q : Exit → Act → World → Prop} (B : Nat) (w : World) (hgd : o.guard = none) (s x : Operand)
    (hop : o.op = Op.call { callee := Callee.builtin Builtin.append, args := #[s, x], argTypes := #[28, 28] })
    (v : Value) (xs : List Bool) (hs : a.eval s = v) (h : Hid (w.ownsRow B 4 1 v xs.length (bvals xs))) (hB : Hid (B ≤ w.heap.size)) (A : Option Addr) (n c : Nat) (ys : List Bool) (hx : a.eval x = .slice A n c) (hn : n = ys.length) (hA : Hid (A = none → n = 0 ∧ c = 0)) (hr : Hid (RdB w A ys)) (hb : xs.length + ys.length ≤ 33554432)
    (K : ∀ v' w', Hid (w'.ownsRow B 4 1 v' (xs ++ ys).length (bvals (xs ++ ys))) → Hid (w.grownBy w' v.ownBlock) → wpList Try.prog ops Q rest (a.put o.dst v') w') :
    wpList Try.prog ops Q (o :: rest) a w := by
  subst hn
  obtain ⟨i0, hi0, hz0, hz1, hz2⟩ := info_parts boolInfoW
  cases A with
  | some ad =>
    refine wpList_append_own_at w hgd s x 28 hop B 4 i0 (.bool false) 1 1 Try.underlying28 hi0 hz0 hz1 hz2 rfl (by omega) v xs.length _ hs h.out ad ys.length c (bvals ys) hx (by rw [bvals_len]; omega) (fun j u hu => bvals_rd hr.out ad rfl j u hu) (bvals_one ys) (by unfold maxLen; omega) (by omega) hB.out ?_
    intro v' w' hown hg _ _
    exact K v' w' (hid (by rw [List.length_append]; unfold bvals; rw [List.map_append]; exact hown)) (hid hg)
  | none =>
    obtain ⟨h0, rfl⟩ := hA.out rfl
    obtain rfl : ys = [] := List.eq_nil_of_length_eq_zero h0
    refine wpList_plain hgd fun K' hK' => ?_
    have hrun := run_append_owned_none (P := Try.prog) w B 28 o.type 4 i0 1 Try.underlying28 hi0 v xs.length _ h.out
    have hx' : a.eval x = .slice none 0 0 := hx
    unfold Oper.wp
    simp [execOp, hop, resolve, invoke, builtin, hs, hx', hrun, Result.andThen]
    exact hK' _ _ (K v w (hid (by simpa using h.out)) (hid ⟨rfl, rfl, rfl, Nat.le_refl _, fun _ _ _ => rfl⟩))
theorem own_sl {w : World} {base : Nat} {t : TypeId} {sz : Nat} {v : Value} {n : Nat} {xs : List Value} (h : w.ownsRow base t sz v n xs) : ∃ A cap, v = .slice A n cap := by
  rcases h.2 with ⟨rfl, rfl⟩ | ⟨g, cap, cur, rfl, _⟩
  · exact ⟨none, 0, rfl⟩
  · exact ⟨_, cap, rfl⟩
def PutQ (B : Nat) (w : World) (q : Nat) (s : WSt) (e' : Ending) (w' : World) : Prop := e' = .returned (.int .i64 s.1) ∧ Hid (IsWq B w' q s.1 s.2 ∧ FrT TWq B w w')
theorem WqS.cells {B q : Nat} {w : World} {e : Int} {v : Value} {xs : List Bool} (h : WqS B w q e v xs) : w.cell? ⟨q, 0, none⟩ = some v ∧ w.cell? ⟨q, 1, none⟩ = some (.int .i64 e) ∧ w.frozen? ⟨q, 0, none⟩ = false ∧ w.frozen? ⟨q, 1, none⟩ = false ∧ q < w.heap.size :=
  ⟨h.self.cell (i := 0) (by omega), h.self.cell (i := 1) (by omega), h.self.frozen 0, h.self.frozen 1, h.self.lt⟩
theorem WqS.own_q {B q : Nat} {w : World} {e : Int} {v : Value} {xs : List Bool} (h : WqS B w q e v xs) : ∀ k, v.ownBlock = some k → ¬ k = q := by
  intro k hk e1
  subst e1
  rcases h.own.2 with ⟨rfl, _⟩ | ⟨g, cap, cur, rfl, _, hh, _⟩
  · cases hk
  · simp [Value.ownBlock] at hk
    subst hk
    obtain ⟨c, hb, _, _⟩ := h.self
    rw [hh] at hb
    injection hb with hb
    injection hb with _ e
    exact absurd e (by decide)
/-- The error is laid. -/
theorem WqS.err {B q : Nat} {w : World} {e : Int} {v : Value} {xs : List Bool} (h : WqS B w q e v xs) (e2 : Int) : WqS B (w.setCell ⟨q, 1, none⟩ (.int .i64 e2)) q e2 v xs ∧ FrT TWq B w (w.setCell ⟨q, 1, none⟩ (.int .i64 e2)) := by
  refine ⟨⟨h.small, (h.self.set 1 _).congr fun i hi => ?_, own_keep h.own ((Only.refl (fun k => k = q) w).setCell (.inl rfl) _) h.own_q, h.ge⟩, (FrT.refl TWq B w).setCell h.ge (TyAt.of_row h.self (.inl rfl)) _⟩
  match i, hi with
  | 0, _ => rfl
  | 1, _ => rfl
  | i + 2, hi => exact absurd (show i + 2 < 2 from hi) (by omega)
/-- More bits are laid. -/
theorem WqS.more {B q : Nat} {w w2 : World} {e : Int} {v v2 : Value} {xs xs2 : List Bool} (h : WqS B w q e v xs) (ho : w2.ownsRow B 4 1 v2 xs2.length (bvals xs2)) (hg : w.grownBy w2 v.ownBlock) (hl : xs2.length ≤ 16777216) :
    WqS B (w2.setCell ⟨q, 0, none⟩ v2) q e v2 xs2 ∧ FrT TWq B w (w2.setCell ⟨q, 0, none⟩ v2) ∧ w2.rowIs q 31 2 (wqc v e) := by
  have hs2 : w2.rowIs q 31 2 (wqc v e) := h.self.of_block (hg.block q h.self.lt fun e1 => h.own_q q e1.symm rfl)
  have hf : FrT TWq B w w2 := (FrT.refl TWq B w).grown hg fun k hk => by
    obtain ⟨h1, _, h3⟩ := own_block h.own hk
    exact ⟨h1, h3 _ (.inr rfl)⟩
  refine ⟨⟨hl, (hs2.set 0 _).congr fun i hi => ?_, own_keep ho ((Only.refl (fun k => k = q) w2).setCell (.inl rfl) _) fun k hk e1 => ?_, h.ge⟩, hf.setCell h.ge (TyAt.of_row hs2 (.inl rfl)) _, hs2⟩
  · match i, hi with
    | 0, _ => rfl
    | 1, _ => rfl
    | i + 2, hi => exact absurd (show i + 2 < 2 from hi) (by omega)
  · subst e1
    obtain ⟨_, _, h3⟩ := own_block ho hk
    exact TyAt.not_row hs2 (by decide) (h3 (fun t => t = 4) rfl)
set_option maxHeartbeats 1000000 in
theorem rput_any {B q cap : Nat} {e : Int} {xs ys : List Bool} {A : Option Addr} {w : World} (h : IsWq B w q e xs) (hB : B ≤ w.heap.size) (hy : RdB w A ys) (hA : A = none → ys.length = 0 ∧ cap = 0) (hl : ys.length ≤ 16777216) :
    Calls Try.prog 10 #[.pointer (some ⟨q, 0, none⟩), .slice A ys.length cap] w (PutQ B w q (putB (e, xs) ys)) := by
  obtain ⟨v, h⟩ := h
  obtain ⟨c0, c1, f0, f1, hq⟩ := h.cells
  have hsm := h.small
  unfold PutQ
  by_cases he : e = 0
  · subst he
    by_cases hlong : 16777216 < xs.length + ys.length
    · have HE : Hid (putB (0, xs) ys = (3, xs)) := hid (by simp [putB, putAll, hlong])
      have HN := hid (h.err 3)
      obtain ⟨A2, cap2, rfl, _⟩ := h.shape
      rw [HE.out]
      have hl2 : (16777216 : Int) < (xs.length : Int) + (ys.length : Int) := by omega
      generalize hxl : xs.length = n at c0 hl2 hsm ⊢
      generalize hyl : ys.length = m at hl2 hl ⊢
      clear h hy hA hlong hxl hyl
      go_enter Try.func10, Try.ntmps10
      go_wp2
      go_ret
      exact ⟨rfl, hid ⟨⟨_, HN.out.1⟩, HN.out.2⟩⟩
    · have HE : Hid (putB (0, xs) ys = (0, xs ++ ys)) := hid (by simp [putB, putAll, hlong])
      have HM : Hid (∀ v2 w2, w2.ownsRow B 4 1 v2 (xs ++ ys).length (bvals (xs ++ ys)) → w.grownBy w2 v.ownBlock → WqS B (w2.setCell ⟨q, 0, none⟩ v2) q 0 v2 (xs ++ ys) ∧ FrT TWq B w (w2.setCell ⟨q, 0, none⟩ v2) ∧ w2.rowIs q 31 2 (wqc v 0)) := hid fun v2 w2 h1 h2 => h.more h1 h2 (by rw [List.length_append]; omega)
      have HOw := hid h.own
      have HY := hid hy
      have HA := hid hA
      have HB := hid hB
      obtain ⟨A2, cap2, rfl, -⟩ := h.shape
      rw [HE.out]
      have hl2 : ¬ (16777216 : Int) < (xs.length : Int) + (ys.length : Int) := by omega
      have hl3 : xs.length + ys.length ≤ 33554432 := by omega
      clear h hy hA hlong hB
      go_enter Try.func10, Try.ntmps10
      go_wp2_with (at_builtin; refine wpList_addB B w rfl (.tmp 33) (.tmp 34) rfl _ xs rfl HOw HB A ys.length cap ys rfl rfl HA HY hl3 ?_; intro v2 w2 hown2 hg2; obtain ⟨A7, c7, rfl⟩ := own_sl hown2.out; obtain ⟨hm1, hm2, hm3⟩ := HM.out _ w2 hown2.out hg2.out; have HM1 := hid hm1; have HM2 := hid hm2; have k0 : w2.cell? ⟨q, 0, none⟩ = some (.slice A2 xs.length cap2) := hm3.cell (i := 0) (by omega); have k1 : (w2.setCell ⟨q, 0, none⟩ (.slice A7 (xs ++ ys).length c7)).cell? ⟨q, 1, none⟩ = some (.int .i64 0) := (hm1.self).cell (i := 1) (by omega); have q0 := hm3.frozen 0; have hlt := hm3.lt; clear hm1 hm2 hm3 hown2 hg2; generalize (xs ++ ys).length = N7 at k1 HM1 HM2 ⊢)
      go_ret
      exact ⟨rfl, hid ⟨⟨_, HM1.out⟩, HM2.out⟩⟩
  · have HE : Hid (putB (e, xs) ys = (e, xs)) := hid (by simp [putB, putAll, he])
    have HN := hid h
    have hb : (e == 0) = false := beq_eq_false_iff_ne.2 he
    rw [HE.out]
    clear h hy hA he
    go_enter Try.func10, Try.ntmps10
    go_wp2
    go_ret
    exact ⟨rfl, hid ⟨⟨_, HN.out⟩, FrT.refl _ _ _⟩⟩
end Go.Proofs.Ytgdfiopdkidhfaa

namespace Go.Proofs.Ytgdfiopdkidhfaa
open Go.RowKit

theorem rd_dgs {w W : World} {wd n : Nat} (h : DgS w W wd n wd) : RdB W (some ⟨w.heap.size, 0, none⟩) (dgs wd n) := by
  have h1 := (RdV.of_row h.1).congr (V' := vB (dgs wd n)) fun j hj => by
    have h2 : decide (wd ≤ j + wd) = true := decide_eq_true (by omega)
    unfold dgV vB
    rw [h2, Bool.true_and]
    exact congrArg Value.bool (dgs_bf n hj).symm
  unfold RdB
  rw [dgs_len]
  exact h1
/-- Bits that are laid side by side, the call's own. -/
structure NuS (w wr : World) (z : Value) (ys : List Bool) : Prop where
  own : wr.ownsRow w.heap.size 4 1 z ys.length (bvals ys)
  only : Only (fun _ => False) w wr
theorem NuS.begin (w : World) : NuS w w (.slice none 0 0) [] := ⟨World.ownsRow_nil _ _ _ _, Only.refl _ w⟩
theorem NuS.ahead {w wr w2 : World} {z : Value} {ys : List Bool} (h : NuS w wr z ys) (o : Only (fun _ => False) wr w2) : NuS w w2 z ys := ⟨own_keep h.own o fun _ _ h => h, h.only.trans o⟩
theorem NuS.more {w wr w2 : World} {z z2 : Value} {ys ys2 : List Bool} (h : NuS w wr z ys) (ho : w2.ownsRow w.heap.size 4 1 z2 ys2.length (bvals ys2)) (hg : wr.grownBy w2 z.ownBlock) : NuS w w2 z2 ys2 :=
  ⟨ho, h.only.grown hg fun _ hk => .inr (own_block h.own hk).1⟩
theorem NuS.shape {w wr : World} {z : Value} {ys : List Bool} (h : NuS w wr z ys) : ∃ A cap, z = .slice A ys.length cap ∧ RdB wr A ys ∧ (A = none → ys.length = 0 ∧ cap = 0) := by
  rcases h.own.2 with ⟨rfl, h0⟩ | ⟨g, cap, cur, rfl, hge, hh, hle, hcm, hsz, ht⟩
  · exact ⟨none, 0, by rw [h0], by show RdV wr none ys.length _; rw [h0]; exact RdV.nil _, fun _ => ⟨h0, rfl⟩⟩
  · obtain ⟨F, hF, hFV⟩ := own_rowV (V := vB ys) hh hsz (by rw [ht, bvals_vals])
    exact ⟨_, cap, rfl, fun _ => ⟨g, 0, rfl, fun j hj => by rw [Nat.zero_add, hF.cell (by omega), hFV j hj]⟩, fun h => by cases h⟩
theorem numB_succ {wd k : Nat} {zs : List Int} (h : k < zs.length) : numB wd (zs.take (k + 1)) = numB wd (zs.take k) ++ dgs wd (zs.getD k 0).toNat := flat_take h
theorem numB_room {wd k : Nat} {zs : List Int} (hw : wd ≤ 60) (hl : zs.length ≤ 600) : (numB wd (zs.take k)).length ≤ 36000 := by
  rw [numB_len, List.length_take]
  have h1 : min k zs.length ≤ 600 := by omega
  have := Nat.mul_le_mul hw h1
  omega
theorem getI_mem {zs : List Int} {k : Nat} (h : k < zs.length) : zs.getD k 0 ∈ zs := by simp [List.getD, h]
theorem okN_bad {wd : Int} {zs : List Int} {k : Nat} (hk : k < zs.length) (h : fitB (zs.getD k 0) wd = false) : okN wd zs = false := by
  unfold okN
  rw [Bool.and_eq_false_iff]
  right
  rw [List.all_eq_false]
  exact ⟨_, getI_mem hk, by rw [h]; simp⟩
theorem okN_good {wd : Int} {zs : List Int} (hw : okW wd = true) (h : ∀ j, j < zs.length → fitB (zs.getD j 0) wd = true) : okN wd zs = true := by
  unfold okN
  rw [hw, Bool.true_and, List.all_eq_true]
  intro z hz
  obtain ⟨i, hi, rfl⟩ := List.getElem_of_mem hz
  have := h i hi
  simpa [List.getD, hi] using this
theorem fitB_nat (n wd : Nat) : fitB (n : Int) (wd : Int) = decide (n < 2 ^ wd) := by
  unfold fitB
  have h := Nat.div_eq_zero_iff_lt (x := n) (k := 2 ^ wd) (Nat.two_pow_pos _)
  rw [Bool.eq_iff_iff]
  simp only [Bool.and_eq_true, decide_eq_true_eq, Int.toNat_natCast]
  rw [← h, show (n : Int) / 2 ^ wd = ((n / 2 ^ wd : Nat) : Int) by simp]
  omega
/-- What is told where the numbers may not be. -/
theorem WqS.bad {B q : Nat} {w wr : World} {v : Value} {xs : List Bool} (h : WqS B w q 0 v xs) (o : Only (fun _ => False) w wr) : IsWq B (wr.setCell ⟨q, 1, none⟩ (.int .i64 2)) q 2 xs ∧ FrT TWq B w (wr.setCell ⟨q, 1, none⟩ (.int .i64 2)) :=
  ⟨⟨v, ((h.same o).err 2).1⟩, (FrT.of_only o).trans ((h.same o).err 2).2⟩
set_option maxHeartbeats 1000000 in
theorem rnumber_spoilt {B q cap : Nat} {e wd : Int} {xs : List Bool} {zs : List Int} {A : Option Addr} {w : World} (h : IsWq B w q e xs) (he : e ≠ 0) :
    Calls Try.prog 12 #[.pointer (some ⟨q, 0, none⟩), .int .i64 wd, .slice A zs.length cap] w (PutQ B w q (putN (e, xs) wd zs)) := by
  have HN := hid h
  obtain ⟨v, h⟩ := h
  obtain ⟨c0, c1, f0, f1, hq⟩ := h.cells
  have HE : Hid (putN (e, xs) wd zs = (e, xs)) := hid (by simp [putN, putAll, he])
  have hb : (e != 0) = true := bne_iff_ne.2 he
  unfold PutQ
  rw [HE.out]
  clear h he
  generalize zs.length = n
  go_enter Try.func12, Try.ntmps12
  go_wp2
  go_ret
  exact ⟨rfl, hid ⟨HN.out, FrT.refl _ _ _⟩⟩
set_option maxHeartbeats 1000000 in
theorem rnumber_width {B q cap : Nat} {wd : Int} {xs : List Bool} {zs : List Int} {A : Option Addr} {w : World} (h : IsWq B w q 0 xs) (hw : okW wd = false) :
    Calls Try.prog 12 #[.pointer (some ⟨q, 0, none⟩), .int .i64 wd, .slice A zs.length cap] w (PutQ B w q (putN (0, xs) wd zs)) := by
  obtain ⟨v, h⟩ := h
  obtain ⟨c0, c1, f0, f1, hq⟩ := h.cells
  have HE : Hid (putN (0, xs) wd zs = (2, xs)) := hid (by simp [putN, putAll, okN, hw])
  have HN := hid (h.bad (Only.refl _ w))
  have hw2 : wd < 0 ∨ (0 ≤ wd ∧ 60 < wd) := by
    simp [okW] at hw
    omega
  unfold PutQ
  rw [HE.out]
  clear h hw
  generalize zs.length = n
  by_cases hn : 0 < n
  · have hn2 : (0 : Int) < (n : Int) := by omega
    rcases hw2 with h1 | ⟨h1, h2⟩
    · go_enter Try.func12, Try.ntmps12
      go_wp2
      go_loopw [7, 8] (fun z s wr => z = .slice none 0 0 ∧ s = .int .i64 0 ∧ w = wr) (fun _ _ _ => 0)
      case atStart => exact ⟨rfl, rfl, rfl⟩
      case round =>
        obtain ⟨rfl, rfl, rfl⟩ := hrel
        go_wp2
        go_ret
        exact ⟨rfl, HN⟩
    · go_enter Try.func12, Try.ntmps12
      go_wp2
      go_loopw [7, 8] (fun z s wr => z = .slice none 0 0 ∧ s = .int .i64 0 ∧ w = wr) (fun _ _ _ => 0)
      case atStart => exact ⟨rfl, rfl, rfl⟩
      case round =>
        obtain ⟨rfl, rfl, rfl⟩ := hrel
        go_wp2
        go_ret
        exact ⟨rfl, HN⟩
  · obtain rfl : n = 0 := by omega
    rcases hw2 with h1 | ⟨h1, h2⟩
    · go_enter Try.func12, Try.ntmps12
      go_wp2
      go_loopw [7, 8] (fun z s wr => z = .slice none 0 0 ∧ s = .int .i64 0 ∧ w = wr) (fun _ _ _ => 0)
      case atStart => exact ⟨rfl, rfl, rfl⟩
      case round =>
        obtain ⟨rfl, rfl, rfl⟩ := hrel
        go_wp2
        go_ret
        exact ⟨rfl, HN⟩
    · go_enter Try.func12, Try.ntmps12
      go_wp2
      go_loopw [7, 8] (fun z s wr => z = .slice none 0 0 ∧ s = .int .i64 0 ∧ w = wr) (fun _ _ _ => 0)
      case atStart => exact ⟨rfl, rfl, rfl⟩
      case round =>
        obtain ⟨rfl, rfl, rfl⟩ := hrel
        go_wp2
        go_ret
        exact ⟨rfl, HN⟩

/-- How far the numbers have been laid. -/
def NumR (w wr : World) (z : Value) (wd : Nat) (zs : List Int) (k : Nat) : Prop := NuS w wr z (numB wd (zs.take (min k zs.length)))
set_option maxHeartbeats 2000000 in
theorem rnumber_ok {B q cap wd : Nat} {xs : List Bool} {zs : List Int} {A : Option Addr} {w : World} (h : IsWq B w q 0 xs) (hB : B ≤ w.heap.size) (hw : wd ≤ 60) (hz : RdI w A zs) (hi : I64s zs) (hl : zs.length ≤ 600) :
    Calls Try.prog 12 #[.pointer (some ⟨q, 0, none⟩), .int .i64 (wd : Int), .slice A zs.length cap] w (PutQ B w q (putN (0, xs) (wd : Int) zs)) := by
  obtain ⟨v, h⟩ := h
  obtain ⟨c0, c1, f0, f1, hq⟩ := h.cells
  have HW := hid h
  have HZ := hid hz
  have HI := hid hi
  have HB := hid hB
  have HL := hid hl
  have hokw : okW (wd : Int) = true := by simp [okW]; omega
  have HBad : Hid (∀ k, k < zs.length → fitB (zs.getD k 0) (wd : Int) = false → putN (0, xs) (wd : Int) zs = (2, xs)) := hid fun k hk h => by simp [putN, putAll, okN_bad hk h]
  have HGood : Hid ((∀ j, j < zs.length → fitB (zs.getD j 0) (wd : Int) = true) → putN (0, xs) (wd : Int) zs = putB (0, xs) (numB wd zs)) := hid fun h => by simp [putN, putB, okN_good hokw h]
  have HRoom := hid fun k => numB_room (wd := wd) (k := k) (zs := zs) hw hl
  have HSuc := hid fun k (hk : k < zs.length) => numB_succ (wd := wd) hk
  have H0 : Hid (NuS w w (.slice none 0 0) (numB wd (zs.take 0))) := hid (NuS.begin w)
  obtain ⟨r, hr⟩ : ∃ r, r = putN (0, xs) (wd : Int) zs := ⟨_, rfl⟩
  unfold PutQ
  rw [← hr] at HBad HGood ⊢
  clear h hz hi hB hokw hr
  obtain ⟨n, hn⟩ : ∃ n, n = zs.length := ⟨_, rfl⟩
  have HNn := hid hn
  rw [← hn] at hl ⊢
  clear hn
  have hw0 : ¬ (wd : Int) < 0 := by omega
  have hw6 : ¬ (60 : Int) < (wd : Int) := by omega
  go_enter Try.func12, Try.ntmps12
  go_wp2
  go_loopw [7, 8] (fun z s wr => ∃ k : Nat, k ≤ n + 1 ∧ s = .int .i64 (k : Int) ∧ (n < k → n = 0) ∧ Hid (∀ j, j < k → j < n → fitB (zs.getD j 0) (wd : Int) = true) ∧ Hid (NumR w wr z wd zs k)) (fun _ s _ => n + 1 - (intOf s).toNat)
  case atStart => exact ⟨0, by omega, rfl, fun h => by omega, hid fun j h => absurd h (by omega), hid (by unfold NumR; rw [Nat.zero_min]; exact H0.out)⟩
  case round =>
    obtain ⟨k, hk, rfl, hk0, HF, HS⟩ := hrel
    clear H0
    by_cases hp : k < n
    · have hpz : k < zs.length := by rw [← HNn.out]; exact hp
      have HS1 : Hid (NuS w wr _ (numB wd (zs.take k))) := hid (by have h := HS.out; unfold NumR at h; rwa [Nat.min_eq_left (by omega)] at h)
      have d1 := (HW.out.same HS1.out.only)
      obtain ⟨k0, k1, q0, q1, hq2⟩ := d1.cells
      clear d1
      obtain ⟨b, off, hA, dz, _⟩ := (HZ.out.only HS1.out.only fun _ _ _ => no_).at hpz
      have hzi := HI.out _ (getI_mem hpz)
      have HFk : Hid (fitB (zs.getD k 0) (wd : Int) = false → r = (2, xs)) := hid (HBad.out k hpz)
      subst hA
      unfold vI at dz
      have hk1 : (k : Int) < (n : Int) := by omega
      have HFn : Hid (fitB (zs.getD k 0) (wd : Int) = true → ∀ j, j < k + 1 → j < n → fitB (zs.getD j 0) (wd : Int) = true) := hid fun h j hj hjn => by
        rcases Nat.lt_or_ge j k with h2 | h2
        · exact HF.out j h2 hjn
        · obtain rfl : j = k := by omega
          exact h
      have HSn : Hid (∀ w2 w3 z2, NuS w w2 z2 (numB wd (zs.take k) ++ dgs wd (zs.getD k 0).toNat) → w3 = w2 → NumR w w3 z2 wd zs (k + 1)) := hid fun w2 w3 z2 h e => by
        subst e
        unfold NumR
        rw [Nat.min_eq_left (by omega), HSuc.out k hpz]
        exact h
      have hroom := HRoom.out k
      clear HF HS hpz
      generalize zs.getD k 0 = z at dz hzi HFk HFn HSn
      generalize numB wd (zs.take k) = pre at HS1 HSn hroom
      by_cases hz0 : z < 0
      · have HN := hid (HW.out.bad HS1.out.only)
        have HE : Hid (r = (2, xs)) := hid (HFk.out (by unfold fitB; simp; omega))
        clear HS1 HFk HFn HSn
        go_wp2
        go_ret
        rw [HE.out]
        exact ⟨rfl, HN⟩
      · obtain ⟨m, rfl⟩ : ∃ m : Nat, z = (m : Int) := ⟨z.toNat, by omega⟩
        rw [fitB_nat] at HFk HFn
        rw [Int.toNat_natCast] at HSn
        have HDg := hid (rdigits_any wd m wr hw (by omega))
        have hz1 : ¬ (m : Int) < 0 := by omega
        generalize decide (m < 2 ^ wd) = dd at HFk HFn HDg
        clear hz0 hzi
        go_wp2_with fail
        refine HDg.out.mono ?_
        rintro e' w2 ⟨rfl, HD2⟩
        have HS2 := hid (HS1.out.ahead HD2.out.2)
        have HR2 := hid (rd_dgs HD2.out)
        obtain ⟨j0, j1, p0, p1, hq3⟩ := (HW.out.same HS2.out.only).cells
        have hlen : wd = (dgs wd m).length := (dgs_len _ _).symm
        have HLen := hid hlen
        have hlr : pre.length + (dgs wd m).length ≤ 33554432 := by rw [← hlen]; omega
        have HLr := hid hlr
        clear hlen hlr HDg HD2 k0 k1 q0 q1 hq2 dz
        cases dd
        · have HN := hid (HW.out.bad HS2.out.only)
          have HE : Hid (r = (2, xs)) := hid (HFk.out rfl)
          clear HS1 HS2 HFk HFn HSn HR2
          go_wp2_with fail
          go_ret
          rw [HE.out]
          exact ⟨rfl, HN⟩
        · have HFn2 := hid (HFn.out rfl)
          have HOw := hid HS2.out.own
          have HBw : Hid (w.heap.size ≤ w2.heap.size) := hid HS2.out.only.size
          clear HFk HFn
          go_wp2_with (at_builtin; refine wpList_addB w.heap.size w2 rfl (.tmp 78) (.tmp 79) rfl _ pre rfl HOw HBw (some ⟨wr.heap.size, 0, none⟩) wd wd (dgs wd m) rfl HLen.out (hid (fun h => by cases h)) HR2 HLr.out ?_; intro z3 w3 hown3 hg3)
          have HN3 := hid (HS2.out.more hown3.out hg3.out)
          clear hown3 hg3
          go_roundw
          case rel => exact ⟨k + 1, by omega, by go_num, fun h => by omega, HFn2, hid (HSn.out _ _ _ HN3.out rfl)⟩
          case measure => simp [intOf]; omega
    · by_cases hn0 : n = 0 ∧ k = 0
      · obtain ⟨rfl, rfl⟩ := hn0
        go_wp2_with fail
        go_roundw
        case rel => exact ⟨1, by omega, by go_num, fun _ => trivial, hid fun j _ h => absurd h (by omega), hid (by have h := HS.out; unfold NumR at h ⊢; rw [← HNn.out, Nat.min_zero] at h ⊢; exact h)⟩
        case measure => simp [intOf]
      · have HS1 : Hid (NuS w wr _ (numB wd zs)) := hid (by have h := HS.out; unfold NumR at h; rwa [Nat.min_eq_right (by rw [← HNn.out]; omega), List.take_length] at h)
        obtain ⟨Az, cz, rfl, hrz, hnz⟩ := HS1.out.shape
        have HE : Hid (r = putB (0, xs) (numB wd zs)) := hid (HGood.out fun j hj => HF.out j (by have := HNn.out; omega) (by rw [HNn.out]; exact hj))
        have hroom : (numB wd zs).length ≤ 36000 := by have := HRoom.out zs.length; rwa [List.take_length] at this
        have HP := hid (rput_any (cap := cz) ⟨v, HW.out.same HS1.out.only⟩ (Nat.le_trans HB.out HS1.out.only.size) hrz hnz (by omega))
        have HO := hid HS1.out.only
        have hk1 : ¬ (k : Int) < (n : Int) := by omega
        have hk2 : ((k : Int) == 0) = false := by rw [beq_eq_false_iff_ne]; omega
        unfold PutQ at HP
        rw [← HE.out] at HP
        clear hrz hnz HS1 HS HF HGood HBad
        generalize (numB wd zs).length = nn at HP hroom ⊢
        go_wp2_with fail
        refine HP.out.mono ?_
        rintro e' w2 ⟨rfl, hw2⟩
        go_wp2_with fail
        go_ret
        exact ⟨rfl, hid ⟨hw2.out.1, (FrT.of_only HO.out).trans hw2.out.2⟩⟩
theorem rnumber_any {B q cap : Nat} {e wd : Int} {xs : List Bool} {zs : List Int} {A : Option Addr} {w : World} (h : IsWq B w q e xs) (hB : B ≤ w.heap.size) (hz : RdI w A zs) (hi : I64s zs) (hl : zs.length ≤ 600) :
    Calls Try.prog 12 #[.pointer (some ⟨q, 0, none⟩), .int .i64 wd, .slice A zs.length cap] w (PutQ B w q (putN (e, xs) wd zs)) := by
  by_cases he : e = 0
  · subst he
    cases hw : okW wd
    · exact rnumber_width h hw
    · obtain ⟨n, rfl⟩ : ∃ n : Nat, wd = (n : Int) := ⟨wd.toNat, by simp [okW] at hw; omega⟩
      exact rnumber_ok h hB (by simp [okW] at hw; omega) hz hi hl
  · exact rnumber_spoilt h he
end Go.Proofs.Ytgdfiopdkidhfaa

namespace Go.Proofs.Ytgdfiopdkidhfaa
open Go.RowKit

def zB (m : Nat) : List Bool := List.replicate m false
theorem bvals_z (m : Nat) : bvals (zB m) = List.replicate m (Value.bool false) := by simp [bvals, zB]
theorem zc_list (m : Nat) : (Builtin.zeroCells #[Value.bool false] m).toList = List.replicate m (Value.bool false) := by
  have h : ∀ i : Nat, [Value.bool false][i % 1]?.getD default = Value.bool false := fun i => by rw [Nat.mod_one]; rfl
  simp only [Builtin.zeroCells]
  apply List.ext_getElem
  · simp
  · intro i h1 h2
    simp [Nat.mod_one]
theorem run_addZ {B m : Nat} {v : Value} {xs : List Bool} {w : World} (ty : TypeId) (hown : w.ownsRow B 4 1 v xs.length (bvals xs)) (hm : xs.length + m ≤ 33554432) (hB : B ≤ w.heap.size) :
    ∃ v' w', (Builtin.append_ #[28, 3] ty #[v, .int .i64 (m : Int)]).run Try.prog w = .ok v' w' ∧ w'.ownsRow B 4 1 v' (xs ++ zB m).length (bvals (xs ++ zB m)) ∧ w.grownBy w' v.ownBlock := by
  obtain ⟨i0, hi0, hz0, hz1, hz2⟩ := info_parts boolInfoW
  have ht := Try.underlying28
  have htn := Try.underlying3
  have hw : IntKind.i64.wrap (m : Int) = m := by rw [IntKind.wrap_i64]; omega
  have hneg : ¬ ((m : Int) < 0) := by omega
  have hb48 : ¬ (281474976710656 < (m : Int) * (i0.bytes : Int)) := by rw [hz2]; omega
  have hlz : (xs ++ zB m).length = xs.length + m := by rw [List.length_append]; simp [zB]
  have hbz : bvals (xs ++ zB m) = bvals xs ++ List.replicate m (Value.bool false) := by unfold bvals; rw [List.map_append]; congr 1; simp [zB]
  rw [hlz, hbz]
  by_cases hm0 : m = 0
  · subst hm0
    refine ⟨v, w, ?_, by simpa using hown, ⟨rfl, rfl, rfl, Nat.le_refl _, fun _ _ _ => rfl⟩⟩
    have hw0 : IntKind.i64.wrap 0 = 0 := rfl
    rcases hown.2 with ⟨rfl, h0⟩ | ⟨g, cap, cur, rfl, _, hg, hle, _⟩
    · simp [Builtin.append_, run_underlying ht, run_underlying htn, sizeOf, typeInfo, hi0, asInt, asIntOf, hz2, hw0]
    · simp [Builtin.append_, run_underlying ht, run_underlying htn, sizeOf, typeInfo, hi0, asInt, asIntOf, hz2, hle, hw0, storeCells]
  · have hns : ¬ (m * i0.size = 0) := by rw [hz1]; omega
    have grown : ∀ (old : Nat), old < xs.length + m → ∀ (row : Option Nat),
        (w.drew.alloc (.cells ((bvals xs).toArray ++ Builtin.zeroCells #[Value.bool false] m ++ Builtin.zeroCells #[Value.bool false] (grownCap w (xs.length + m) old 4 - (xs.length + m))) 4)).ownsRow B 4 1
          (.slice (some ⟨w.heap.size, 0, none⟩) (xs.length + m) (grownCap w (xs.length + m) old 4)) (xs.length + m) (bvals xs ++ List.replicate m (Value.bool false)) ∧
        w.grownBy (w.drew.alloc (.cells ((bvals xs).toArray ++ Builtin.zeroCells #[Value.bool false] m ++ Builtin.zeroCells #[Value.bool false] (grownCap w (xs.length + m) old 4 - (xs.length + m))) 4)) row := by
      intro old ho row
      have hge := grownCap_ge w (xs.length + m) old 4
      have hcm : grownCap w (xs.length + m) old 4 ≤ maxLen := grownCap_le_maxLen w (xs.length + m) old 4 (by unfold maxLen; omega)
      refine ⟨⟨by simp [bvals], .inr ⟨w.heap.size, _, _, rfl, hB, heap_alloc_new w.drew _, hge, hcm, ?_, ?_⟩⟩, ⟨rfl, rfl, rfl, by simp, fun k hk _ => Below.heap_alloc w.drew _ k hk⟩⟩
      · simp [size_zeroCells, bvals]; omega
      · simp only [Array.toList_append, zc_list, List.append_assoc]
        rw [← List.append_assoc, show (xs.length + m) * 1 = (bvals xs ++ List.replicate m (Value.bool false)).length by simp [bvals]]
        exact List.take_left
    rcases hown.2 with ⟨rfl, h0⟩ | ⟨g, cap, cur, rfl, hbg, hg, hnc, hcm, hcs, htake⟩
    · have hx : xs = [] := List.eq_nil_of_length_eq_zero h0
      subst hx
      have hr := Lib.run_append_nil_zeros (P := Try.prog) w 28 3 ty 4 i0 (.bool false) .i64 .i64 ht htn hi0 hz0 m (by omega) (by omega) (by omega) (by rw [hz2]; omega)
      have hgr := grown 0 (by simp; omega) (Value.ownBlock (.slice none 0 0))
      simp only [List.length_nil, Nat.zero_add, bvals, List.map_nil, List.nil_append, Array.empty_append] at hgr ⊢
      exact ⟨_, _, hr, hgr.1, hgr.2⟩
    · by_cases hroom : xs.length + m ≤ cap
      · have hst := run_storeCells_at Try.prog g (xs.length * 1) 4 (List.replicate m (Value.bool false)) 0 cur w hg (by simp; omega) (fun u hu => by rw [List.eq_of_mem_replicate hu]; rfl)
        simp only [Nat.add_zero, Nat.mul_one] at hst
        have hzc : (Value.bool false).cells = #[Value.bool false] := rfl
        have hr : (Builtin.append_ #[28, 3] ty #[.slice (some ⟨g, 0, none⟩) xs.length cap, .int .i64 (m : Int)]).run Try.prog w = .ok (.slice (some ⟨g, 0, none⟩) (xs.length + m) cap) (w.setRow g (cur.toList.take xs.length ++ List.replicate m (Value.bool false) ++ cur.toList.drop (xs.length + (List.replicate m (Value.bool false)).length)).toArray) := by
          simp only [hz1, Nat.mul_one] at hns
          simp [Builtin.append_, run_underlying ht, run_underlying htn, sizeOf, typeInfo, zeroValue, hi0, hz0, hz1, hz2, asInt, asIntOf, hw, hneg, hns, hroom, Addr.add_lit, hzc, zc_list]
          rw [if_neg (by omega), hst]
          simp [Result.andThen]
        refine ⟨_, _, hr, ⟨by simp [bvals], .inr ⟨g, cap, _, rfl, hbg, setRow_heap w g cur _ 4 _ hg, hroom, hcm, ?_, ?_⟩⟩, ⟨rfl, rfl, rfl, by simp, fun k hk hne => setRow_other w g k _ (fun e => hne (by simp [Value.ownBlock, e]))⟩⟩
        · simp; omega
        · simp only [Nat.mul_one] at htake
          rw [htake]
          rw [show (xs.length + m) * 1 = (bvals xs ++ List.replicate m (Value.bool false)).length by simp [bvals]]
          exact List.take_left
      · have holds : ∀ j u, (bvals xs)[j]? = some u → w.cell? ((⟨g, 0, none⟩ : Addr).add j) = some u := hown.cells (g := g) rfl
        have hf := run_firstCells_some (P := Try.prog) w.drew i0.size xs.length ⟨g, 0, none⟩ xs.length cap (bvals xs) (by rw [bvals_len, hz1]; omega) (by simpa using holds)
        have hr := Lib.run_append_grow_zeros (P := Try.prog) w 28 3 ty 4 i0 (.bool false) .i64 .i64 ht htn hi0 hz0 (some ⟨g, 0, none⟩) xs.length cap (bvals xs) hf m (by omega) (by omega) (by omega) (by omega) (by rw [hz2]; omega) (growslice_fits (by omega) (by rw [hz2]; omega))
        have hgr := grown cap (by omega) (Value.ownBlock (.slice (some ⟨g, 0, none⟩) xs.length cap))
        exact ⟨_, _, hr, hgr.1, hgr.2⟩
theorem wpList_addZ {ops : Array Oper} {rest : List Oper} {o : Oper} {a : Act} {Q : Exit → Act → World → Prop} (B : Nat) (w : World) (hgd : o.guard = none) (s x : Operand)
    (hop : o.op = Op.call { callee := Callee.builtin Builtin.append, args := #[s, x], argTypes := #[28, 3] })
    (v : Value) (xs : List Bool) (hs : a.eval s = v) (h : Hid (w.ownsRow B 4 1 v xs.length (bvals xs))) (hB : Hid (B ≤ w.heap.size)) (m : Nat) (hx : a.eval x = .int .i64 (m : Int)) (hb : xs.length + m ≤ 33554432)
    (K : ∀ v' w', Hid (w'.ownsRow B 4 1 v' (xs ++ zB m).length (bvals (xs ++ zB m))) → Hid (w.grownBy w' v.ownBlock) → wpList Try.prog ops Q rest (a.put o.dst v') w') :
    wpList Try.prog ops Q (o :: rest) a w := by
  obtain ⟨v', w', hr, h1, h2⟩ := run_addZ o.type h.out hb hB.out
  exact Lib.wpList_append_run w hgd s x _ _ hop v _ hs hx v' w' hr (K v' w' (hid h1) (hid h2))
end Go.Proofs.Ytgdfiopdkidhfaa

namespace Go.Proofs.Ytgdfiopdkidhfaa
open Go.RowKit

theorem gma_split {n : Nat} (h1 : 1 ≤ n) (h2 : n < 18446744073709551616) : gma n = zB (nd n - 1) ++ dgs (nd n) n := by
  have hp := nd_pos (by omega : 0 < n) h2
  have hlt := nd_lt n h2
  have hz : (zB (nd n - 1)).length = nd n - 1 := by simp [zB]
  refine bf_ext ?_ fun i hi => ?_
  · rw [gma_len, List.length_append, hz, dgs_len]; unfold gln; omega
  · rw [gma_len] at hi
    have hi2 := hi
    unfold gln at hi2
    unfold gma
    rw [dgs_bf n hi, bf_append, hz]
    by_cases h : i < nd n - 1
    · rw [if_pos h, Nat.testBit_lt_two_pow (Nat.lt_of_lt_of_le hlt (Nat.pow_le_pow_right (by decide) (by unfold gln; omega)))]
      simp [bf, zB, List.getD, h]
    · rw [if_neg h, dgs_bf n (by omega)]
      congr 1
      unfold gln; omega
theorem gamB_succ {k : Nat} {zs : List Int} (h : k < zs.length) : gamB (zs.take (k + 1)) = gamB (zs.take k) ++ gma (zs.getD k 0).toNat := flat_take h
theorem gamB_len_le {zs : List Int} (hi : I64s zs) : (gamB zs).length ≤ 127 * zs.length := by
  induction zs with
  | nil => simp [gamB]
  | cons z zs ih =>
    have e : gamB (z :: zs) = gma z.toNat ++ gamB zs := rfl
    have h1 := ih fun x hx => hi x (List.mem_cons_of_mem _ hx)
    have h2 := hi z (List.mem_cons_self ..)
    have h3 := nd_le z.toNat (by omega)
    rw [e, List.length_append, gma_len, List.length_cons]
    unfold gln
    omega
theorem okG_bad {zs : List Int} {k : Nat} (hk : k < zs.length) (h : zs.getD k 0 < 1 ∨ 1152921504606846975 < zs.getD k 0) : okG zs = false := by
  cases hg : okG zs
  · rfl
  · have := okG_all hg _ (getI_mem hk)
    omega
theorem okG_good {zs : List Int} (h : ∀ j, j < zs.length → 1 ≤ zs.getD j 0 ∧ zs.getD j 0 ≤ 1152921504606846975) : okG zs = true := by
  unfold okG
  rw [List.all_eq_true]
  intro z hz
  obtain ⟨i, hi, rfl⟩ := List.getElem_of_mem hz
  have h1 := h i hi
  have e : zs.getD i 0 = zs[i] := by simp [List.getD, hi]
  rw [e] at h1
  generalize zs[i] = z at h1
  obtain ⟨n, rfl⟩ : ∃ n : Nat, z = (n : Int) := ⟨z.toNat, by omega⟩
  rw [show (60 : Int) = ((60 : Nat) : Int) by rfl, fitB_nat]
  simp
  omega
theorem NuS.away {w wr w2 w3 : World} {z : Value} {ys ds : List Bool} (h : NuS w wr z ys) (hr : RdB w2 (some ⟨wr.heap.size, 0, none⟩) ds) (hg : w2.grownBy w3 z.ownBlock) : RdB w3 (some ⟨wr.heap.size, 0, none⟩) ds := by
  refine hr.only (S := fun k => z.ownBlock = some k) ((Only.refl _ w2).grown hg fun k e => .inl e) fun b off e hb => ?_
  injection e with e
  injection e with e
  subst e
  have := (own_block h.own hb).2.1
  omega
set_option maxHeartbeats 1000000 in
theorem rgamma_spoilt {B q cap : Nat} {e : Int} {xs : List Bool} {zs : List Int} {A : Option Addr} {w : World} (h : IsWq B w q e xs) (he : e ≠ 0) :
    Calls Try.prog 14 #[.pointer (some ⟨q, 0, none⟩), .slice A zs.length cap] w (PutQ B w q (putG (e, xs) zs)) := by
  have HN := hid h
  obtain ⟨v, h⟩ := h
  obtain ⟨c0, c1, f0, f1, hq⟩ := h.cells
  have HE : Hid (putG (e, xs) zs = (e, xs)) := hid (by simp [putG, putAll, he])
  have hb : (e != 0) = true := bne_iff_ne.2 he
  unfold PutQ
  rw [HE.out]
  clear h he
  generalize zs.length = n
  go_enter Try.func14, Try.ntmps14
  go_wp2
  go_ret
  exact ⟨rfl, hid ⟨HN.out, FrT.refl _ _ _⟩⟩
set_option maxHeartbeats 2000000 in
theorem rgamma_ok {B q cap : Nat} {xs : List Bool} {zs : List Int} {A : Option Addr} {w : World} (h : IsWq B w q 0 xs) (hB : B ≤ w.heap.size) (hz : RdI w A zs) (hi : I64s zs) (hl : zs.length ≤ 600) :
    Calls Try.prog 14 #[.pointer (some ⟨q, 0, none⟩), .slice A zs.length cap] w (PutQ B w q (putG (0, xs) zs)) := by
  obtain ⟨v, h⟩ := h
  obtain ⟨c0, c1, f0, f1, hq⟩ := h.cells
  have HW := hid h
  have HZ := hid hz
  have HB := hid hB
  have HBad : Hid (∀ k, k < zs.length → (zs.getD k 0 < 1 ∨ 1152921504606846975 < zs.getD k 0) → putG (0, xs) zs = (2, xs)) := hid fun k hk h => by simp [putG, putAll, okG_bad hk h]
  have HGood : Hid ((∀ j, j < zs.length → 1 ≤ zs.getD j 0 ∧ zs.getD j 0 ≤ 1152921504606846975) → putG (0, xs) zs = putB (0, xs) (gamB zs)) := hid fun h => by simp [putG, putB, okG_good h]
  have HRoom : Hid (∀ k, (gamB (zs.take k)).length ≤ 76200) := hid fun k => by
    have h1 := gamB_len_le (zs := zs.take k) fun z hz => hi z (List.mem_of_mem_take hz)
    have h2 : (zs.take k).length ≤ 600 := by rw [List.length_take]; omega
    omega
  have HSuc := hid fun k (hk : k < zs.length) => gamB_succ hk
  have H0 : Hid (NuS w w (.slice none 0 0) (gamB (zs.take 0))) := hid (NuS.begin w)
  obtain ⟨r, hr⟩ : ∃ r, r = putG (0, xs) zs := ⟨_, rfl⟩
  unfold PutQ
  rw [← hr] at HBad HGood ⊢
  clear h hz hi hB hr
  obtain ⟨n, hn⟩ : ∃ n, n = zs.length := ⟨_, rfl⟩
  have HNn := hid hn
  rw [← hn] at hl ⊢
  clear hn
  go_enter Try.func14, Try.ntmps14
  go_wp2
  go_loopw [5, 6] (fun z s wr => ∃ k : Nat, k ≤ n ∧ s = .int .i64 (k : Int) ∧ Hid (∀ j, j < k → 1 ≤ zs.getD j 0 ∧ zs.getD j 0 ≤ 1152921504606846975) ∧ Hid (NuS w wr z (gamB (zs.take k)))) (fun _ s _ => n - (intOf s).toNat)
  case atStart => exact ⟨0, by omega, rfl, hid fun j h => absurd h (by omega), H0⟩
  case round =>
    obtain ⟨k, hk, rfl, HF, HS1⟩ := hrel
    clear H0
    by_cases hp : k < n
    · have hpz : k < zs.length := by rw [← HNn.out]; exact hp
      obtain ⟨k0, k1, q0, q1, hq2⟩ := (HW.out.same HS1.out.only).cells
      obtain ⟨b, off, hA, dz, _⟩ := (HZ.out.only HS1.out.only fun _ _ _ => no_).at hpz
      have HFk := hid (HBad.out k hpz)
      subst hA
      unfold vI at dz
      have hk1 : (k : Int) < (n : Int) := by omega
      have HFn : Hid (1 ≤ zs.getD k 0 ∧ zs.getD k 0 ≤ 1152921504606846975 → ∀ j, j < k + 1 → 1 ≤ zs.getD j 0 ∧ zs.getD j 0 ≤ 1152921504606846975) := hid fun h j hj => by
        rcases Nat.lt_or_ge j k with h2 | h2
        · exact HF.out j h2
        · obtain rfl : j = k := by omega
          exact h
      have HSn := hid (HSuc.out k hpz)
      have hroom := HRoom.out k
      clear HF hpz
      generalize zs.getD k 0 = z at dz HFk HFn HSn
      by_cases hz0 : z < 1
      · have HN := hid (HW.out.bad HS1.out.only)
        have HE : Hid (r = (2, xs)) := hid (HFk.out (.inl hz0))
        clear HS1 HFk HFn HSn
        go_wp2
        go_ret
        rw [HE.out]
        exact ⟨rfl, HN⟩
      · by_cases hz6 : 1152921504606846975 < z
        · have HN := hid (HW.out.bad HS1.out.only)
          have HE : Hid (r = (2, xs)) := hid (HFk.out (.inr hz6))
          clear HS1 HFk HFn HSn
          go_wp2
          go_ret
          rw [HE.out]
          exact ⟨rfl, HN⟩
        · obtain ⟨m, rfl⟩ : ∃ m : Nat, z = (m : Int) := ⟨z.toNat, by omega⟩
          have HFn2 := hid (HFn.out (by omega))
          have hm1 : 1 ≤ m := by omega
          have hm2 : m < 1152921504606846976 := by omega
          rw [Int.toNat_natCast, gma_split hm1 (by omega)] at HSn
          have hnd1 := nd_pos (by omega : 0 < m) (by omega)
          have HNl : Hid (∀ c, m / 2 ^ c = 0 → c ≤ 64 → nd m ≤ c) := hid fun c h hc => by
            have h2 := (Nat.div_eq_zero_iff_lt (Nat.two_pow_pos c)).1 h
            exact Lib.bitLen_le m c hc h2
          have HNg : Hid (∀ c, m / 2 ^ c ≠ 0 → c < nd m) := hid fun c h => by
            rcases Nat.lt_or_ge c (nd m) with h2 | h2
            · exact h2
            · exact absurd (Nat.div_eq_of_lt (Nat.lt_of_lt_of_le (nd_lt m (by omega)) (Nat.pow_le_pow_right (by decide) h2))) h
          have hnd60 : nd m ≤ 60 := Lib.bitLen_le m 60 (by omega) (by omega)
          have HDg := hid (rdigits_any (nd m) m wr hnd60 (by omega))
          clear HFk HFn hz6
          obtain ⟨N, hN⟩ : ∃ N, N = nd m := ⟨_, rfl⟩
          have HNd := hid hN
          rw [← hN] at HSn hnd1 HNl HNg hnd60 HDg
          clear hN
          have HLen : Hid (N = (dgs N m).length) := hid (dgs_len _ _).symm
          generalize decide (m < 2 ^ N) = dd at HDg
          have hz1 : ¬ (m : Int) < 1 := by omega
          have hz7 : ¬ (1152921504606846975 : Int) < (m : Int) := by omega
          go_wp2_with fail
          go_loopw [7] (fun s wr2 => ∃ c : Nat, 1 ≤ c ∧ c ≤ N ∧ s = .int .i64 (c : Int) ∧ wr = wr2) (fun s _ => N - (intOf s).toNat)
          case atStart => exact ⟨1, by omega, hnd1, rfl, rfl⟩
          case round =>
            obtain ⟨c, hc1, hcN, rfl, rfl⟩ := hrel
            have hc64 : c < 64 := by omega
            obtain ⟨y, hy⟩ : ∃ y, y = m / 2 ^ c := ⟨_, rfl⟩
            have hyI : (m : Int) / 2 ^ c = (y : Int) := by rw [hy]; simp
            by_cases hy0 : y = 0
            · have hcN2 : N ≤ c := HNl.out c (by rw [← hy]; exact hy0) (by omega)
              obtain rfl : c = N := by omega
              have hy1 : ¬ (0 : Int) < (m : Int) / 2 ^ c := by rw [hyI]; omega
              obtain ⟨c1, hcc⟩ : ∃ c1, c1 = c - 1 := ⟨_, rfl⟩
              have hcm : (c : Int) - 1 = (c1 : Int) := by omega
              have HCc : Hid (c - 1 = c1) := hid hcc.symm
              clear hy hyI hcc
              go_wp2_with fail
              refine HDg.out.mono ?_
              rintro e' w2 ⟨rfl, HD2⟩
              have HS2 := hid (HS1.out.ahead HD2.out.2)
              have HR2 := hid (rd_dgs HD2.out)
              have HOw := hid HS2.out.own
              have HBw : Hid (w.heap.size ≤ w2.heap.size) := hid HS2.out.only.size
              have HCb : Hid ((gamB (zs.take k)).length + c1 ≤ 33554432) := hid (by omega)
              have HCd : Hid ((gamB (zs.take k) ++ zB c1).length + (dgs c m).length ≤ 33554432) := hid (by rw [List.length_append, dgs_len]; simp [zB]; omega)
              clear HDg HD2 hroom k0 k1 q0 q1 hq2
              go_wp2_with (at_builtin; first
                | (refine wpList_addZ w.heap.size w2 rfl (.tmp 62) (.tmp 64) rfl _ _ rfl HOw HBw c1 rfl HCb.out ?_; intro v3 w3 hown3 hg3; have HS3 := hid (HS2.out.more hown3.out hg3.out); have HR3 := hid (HS1.out.away HR2.out hg3.out); clear hown3 hg3)
                | (refine wpList_addB w.heap.size w3 rfl (.tmp 65) (.tmp 66) rfl _ _ rfl (hid HS3.out.own) (hid HS3.out.only.size) (some ⟨wr.heap.size, 0, none⟩) c c (dgs c m) rfl HLen.out (hid (fun h => by cases h)) HR3 HCd.out ?_; intro v4 w4 hown4 hg4; have HS4 := hid (HS3.out.more hown4.out hg4.out); clear hown4 hg4))
              have HS5 : Hid (NuS w w4 v4 (gamB (zs.take (k + 1)))) := hid (by rw [HSn.out, HCc.out, ← List.append_assoc]; exact HS4.out)
              go_roundw
              case rel => exact ⟨k + 1, by omega, by go_num, HFn2, HS5⟩
              case measure => simp [intOf]; omega
            · have hy1 : (0 : Int) < (m : Int) / 2 ^ c := by rw [hyI]; omega
              have hcl := HNg.out c (by rw [← hy]; exact hy0)
              clear hy hyI
              go_wp2_with fail
              go_roundw
              case rel => exact ⟨c + 1, by omega, by omega, by go_num, trivial⟩
              case measure => simp [intOf]; omega
    · obtain rfl : k = n := by omega
      have HS2 : Hid (NuS w wr _ (gamB zs)) := hid (by have h := HS1.out; rw [HNn.out, List.take_length] at h; exact h)
      obtain ⟨Az, cz, rfl, hrz, hnz⟩ := HS2.out.shape
      have HE : Hid (r = putB (0, xs) (gamB zs)) := hid (HGood.out fun j hj => HF.out j (by rw [HNn.out]; exact hj))
      have hroom : (gamB zs).length ≤ 76200 := by have := HRoom.out zs.length; rwa [List.take_length] at this
      have HP := hid (rput_any (cap := cz) ⟨v, HW.out.same HS2.out.only⟩ (Nat.le_trans HB.out HS2.out.only.size) hrz hnz (by omega))
      have HO := hid HS2.out.only
      unfold PutQ at HP
      rw [← HE.out] at HP
      clear hrz hnz HS1 HS2 HF HGood HBad
      generalize (gamB zs).length = nn at HP hroom ⊢
      go_wp2_with fail
      refine HP.out.mono ?_
      rintro e' w2 ⟨rfl, hw2⟩
      go_wp2_with fail
      go_ret
      exact ⟨rfl, hid ⟨hw2.out.1, (FrT.of_only HO.out).trans hw2.out.2⟩⟩
theorem rgamma_any {B q cap : Nat} {e : Int} {xs : List Bool} {zs : List Int} {A : Option Addr} {w : World} (h : IsWq B w q e xs) (hB : B ≤ w.heap.size) (hz : RdI w A zs) (hi : I64s zs) (hl : zs.length ≤ 600) :
    Calls Try.prog 14 #[.pointer (some ⟨q, 0, none⟩), .slice A zs.length cap] w (PutQ B w q (putG (e, xs) zs)) := by
  by_cases he : e = 0
  · subst he
    exact rgamma_ok h hB hz hi hl
  · exact rgamma_spoilt h he
end Go.Proofs.Ytgdfiopdkidhfaa

namespace Go.Proofs.Ytgdfiopdkidhfaa
open Go.ChangeShapes Go.WideShapes Go.ChangeAt Go.RowKit Go.Deep

theorem cellsBool : Try.prog.cellsOf 4 = 1 := by kernel_rfl
theorem cellsInts : Try.prog.cellsOf 32 = 1 := by kernel_rfl
theorem cellsBools : Try.prog.cellsOf 28 = 1 := by kernel_rfl
theorem cellsDeed : Try.prog.cellsOf 35 = 4 := by kernel_rfl
section
variable {H : Type} {enc : TypeId × Value → H} {W : World} {sp : Nat → Bool} {hd : Bool} {A : Option Addr} {len cap : Nat} {d : DataW H} {p : List MemPlace}
theorem bits_in (h : DataW.Trod enc Try.prog W 0 sp hd 28 (.slice A len cap) d p) :
    SliceOf d len ∧ len ≤ maxLen ∧ (A = none → len = 0 ∧ cap = 0) ∧ ∃ xs : List Bool, xs.length = len ∧ RdB W A xs := by
  obtain ⟨h1, h2, h3, V, hV, hc⟩ := row_in Try.underlying28 cellsBool h
  refine ⟨h1, h2, h3, (List.range len).map (fun i => match V i with | .bool b => b | _ => false), by simp, ?_⟩
  have hc' : RdV W A ((List.range len).map (fun i => match V i with | .bool b => b | _ => false)).length V := by simpa using hc
  refine hc'.congr fun j hj => ?_
  have hj' : j < len := by simpa using hj
  obtain ⟨n, D, Pl, ht⟩ := hV j hj'
  obtain ⟨x, hx, _⟩ := DataW.trod_bool Try.underlying4 ht
  have hv : V j = .bool x := by simpa using hx
  rw [hv]
  unfold vB
  simp [List.getD, hj', hv]
end
section
variable {H : Type} {enc : TypeId × Value → H} {W : World} {sp : Nat → Bool} {hd : Bool} {A : Option Addr} {len cap : Nat} {d : DataW H} {p : List MemPlace}
theorem cap_in {t e : TypeId} (ht : Try.prog.underlying t = some (.slice e)) (he : Try.prog.cellsOf e = 1) (h : DataW.Trod enc Try.prog W 0 sp hd t (.slice A len cap) d p) : len ≤ cap := by
  obtain ⟨fuel, hf⟩ := h
  rcases open_slice1 ht he hf with ⟨hcs, hx⟩ | ⟨a, l, c, m, n, V, D, Pl, hcs, _, hl, _⟩
  · simp [Value.cells] at hcs
    omega
  · simp [Value.cells] at hcs
    omega
end
theorem weights_all {H : Type} {P : Program} {e : TypeId} {x : Nat} : ∀ {l : List (DataW H)} {d : DataW H}, d ∈ l → x ∈ d.weights P e → x ∈ DataW.weightsAll P e l
  | [], _, h, _ => by cases h
  | a :: r, d, h, hx => by
    simp only [DataW.weightsAll, List.mem_append]
    rcases List.mem_cons.1 h with rfl | h
    · exact .inl hx
    · exact .inr (weights_all h hx)
theorem weights_of {H : Type} {P : Program} {ts : List TypeId} {ds : List (DataW H)} (h : (DataW.weightsEach P ts ds).all (· ≤ reachBytes) = true) {j : Nat} {t : TypeId} {d : DataW H} (ht : ts[j]? = some t) (hd : ds[j]? = some d) : ∀ x ∈ d.weights P t, x ≤ reachBytes := fun x hx => by
  have := List.all_eq_true.1 h _ (DataW.weights_mem_each ht hd x hx)
  simpa using this
section
variable {H : Type} {enc : TypeId × Value → H} {W : World} {sp : Nat → Bool} {hd : Bool} {A : Option Addr} {len cap : Nat} {d : DataW H} {p : List MemPlace}
/-- One deed. -/
def DeedAt (W : World) (a : Addr) (i : Nat) (q : Dd) : Prop :=
  W.cell? (a.add (i * 4)) = some (.int .i64 q.what) ∧ W.cell? (a.add (i * 4 + 1)) = some (.int .i64 q.width) ∧ W.cell? (a.add (i * 4 + 2)) = some (.slice q.oa q.ys.length q.oc) ∧ W.cell? (a.add (i * 4 + 3)) = some (.slice q.na q.zs.length q.nc) ∧
  I64 q.what ∧ I64 q.width ∧ RdB W q.oa q.ys ∧ RdI W q.na q.zs ∧ I64s q.zs ∧ q.ys.length ≤ 140737488355328 ∧ q.zs.length ≤ 140737488355328 ∧ (q.oa = none → q.ys.length = 0 ∧ q.oc = 0) ∧ (q.na = none → q.zs.length = 0 ∧ q.nc = 0)
theorem slice_shape {n : Nat} {t e : TypeId} {V : Value} {D : DataW H} {P : List MemPlace} (ht : Try.prog.underlying t = some (.slice e)) (he : Try.prog.cellsOf e = 1) (h : DataW.trod enc Try.prog W 0 sp hd n t [V] = some (D, P)) : ∃ A' l' c', V = .slice A' l' c' := by
  rcases open_slice1 ht he h with ⟨hcs, _⟩ | ⟨a', l, c, m, k, V, D, Pl, hcs, _⟩
  · exact ⟨none, 0, 0, by simpa using hcs⟩
  · exact ⟨some a', l, c, by simpa using hcs⟩
theorem len_room {l : Nat} {D : DataW H} {t e : TypeId} (hso : SliceOf D l) (hu : Try.prog.underlying t = some (.slice e)) (h1 : 1 ≤ Try.prog.bytesOf e) (hw : ∀ x ∈ D.weights Try.prog t, x ≤ reachBytes) : l ≤ 140737488355328 := by
  rcases hso with ⟨_, h0⟩ | ⟨el, spr, rfl, hl⟩
  · omega
  · have h2 := hw ((el.length + spr.length) * Try.prog.bytesOf e) (by simp [DataW.weights, hu])
    have h3 := reachBytes_lt
    have h5 : el.length + spr.length ≤ (el.length + spr.length) * Try.prog.bytesOf e := Nat.le_mul_of_pos_right _ h1
    omega
theorem deed_at {a : Addr} {i n : Nat} {V0 V1 V2 V3 : Value} {D0 D1 D2 D3 : DataW H} {P0 P1 P2 P3 : List MemPlace} (h0 : W.cell? (a.add (i * 4)) = some V0) (h1 : W.cell? (a.add (i * 4 + 1)) = some V1) (h2 : W.cell? (a.add (i * 4 + 2)) = some V2) (h3 : W.cell? (a.add (i * 4 + 3)) = some V3)
    (t0 : DataW.trod enc Try.prog W 0 sp hd n 3 [V0] = some (D0, P0)) (t1 : DataW.trod enc Try.prog W 0 sp hd n 3 [V1] = some (D1, P1)) (t2 : DataW.trod enc Try.prog W 0 sp hd n 28 [V2] = some (D2, P2)) (t3 : DataW.trod enc Try.prog W 0 sp hd n 32 [V3] = some (D3, P3))
    (hw2 : ∀ x ∈ D2.weights Try.prog 28, x ≤ reachBytes) (hw3 : ∀ x ∈ D3.weights Try.prog 32, x ≤ reachBytes) : ∃ q, DeedAt W a i q := by
  obtain ⟨x, hx, _, wx⟩ := DataW.trod_int Try.underlying3 t0
  obtain ⟨y, hy, _, wy⟩ := DataW.trod_int Try.underlying3 t1
  have hv0 : V0 = .int .i64 x := by simpa using hx
  have hv1 : V1 = .int .i64 y := by simpa using hy
  subst hv0
  subst hv1
  have bx : I64 x := by simpa [I64, Lit.wf, IntKind.min, IntKind.max, IntKind.signed, IntKind.bits] using wx
  have by_ : I64 y := by simpa [I64, Lit.wf, IntKind.min, IntKind.max, IntKind.signed, IntKind.bits] using wy
  obtain ⟨A2, l2, c2, rfl⟩ := slice_shape Try.underlying28 cellsBool t2
  obtain ⟨A3, l3, c3, rfl⟩ := slice_shape Try.underlying32 cellsInt t3
  have r2 : DataW.Trod enc Try.prog W 0 sp hd 28 (.slice A2 l2 c2) D2 P2 := ⟨n, by simpa [Value.cells] using t2⟩
  have r3 : DataW.Trod enc Try.prog W 0 sp hd 32 (.slice A3 l3 c3) D3 P3 := ⟨n, by simpa [Value.cells] using t3⟩
  obtain ⟨hs2, _, hn2, xs, rfl, hxs⟩ := bits_in r2
  obtain ⟨hs3, _, hn3, zs, rfl, hzs, hi⟩ := ints_in r3
  exact ⟨⟨x, y, A2, c2, xs, A3, c3, zs⟩, h0, h1, h2, h3, bx, by_, hxs, hzs, hi, len_room hs2 Try.underlying28 (of_decide_eq_true (by kernel_rfl)) hw2, len_room hs3 Try.underlying32 (of_decide_eq_true (by kernel_rfl)) hw3, hn2, hn3⟩
instance : Inhabited Dd := ⟨⟨0, 0, none, 0, [], none, 0, []⟩⟩
set_option maxRecDepth 100000 in
theorem deeds_in (h : DataW.Trod enc Try.prog W 0 sp hd 22 (.slice A len cap) d p) : SliceOf d len ∧ len ≤ maxLen ∧ ((∀ x ∈ d.weights Try.prog 22, x ≤ reachBytes) → ∃ q, DsIn W A len q) := by
  obtain ⟨fuel, hf⟩ := h
  rcases open_slice Try.underlying22 hf with ⟨hcs, hx⟩ | ⟨a, l, c, m, n, D, Pl, hcs, _, hl, hm, hmm, hx, hi⟩
  · simp [Value.cells] at hcs
    obtain ⟨rfl, rfl, rfl⟩ := hcs
    simp only [Prod.mk.injEq] at hx
    exact ⟨.inl ⟨hx.1, rfl⟩, by simp [maxLen], fun _ => ⟨fun _ => ⟨0, 0, none, 0, [], none, 0, []⟩, fun j hj => absurd hj (by omega), fun j hj => absurd hj (by omega), fun j hj => absurd hj (by omega), fun j hj => absurd hj (by omega), fun j hj => absurd hj (by omega), fun j hj => absurd hj (by omega), fun j hj => absurd hj (by omega), fun j hj => absurd hj (by omega), fun j hj => absurd hj (by omega), fun j hj => absurd hj (by omega)⟩⟩
  · simp [Value.cells] at hcs
    obtain ⟨rfl, rfl, rfl⟩ := hcs
    simp only [Prod.mk.injEq] at hx
    have hlm : len ≤ m := by rw [hmm]; split <;> omega
    refine ⟨.inr ⟨_, _, hx.1, by simp⟩, by omega, fun hw => ?_⟩
    have each : ∀ i, i < len → ∃ q, DeedAt W a i q := fun i hil => by
      obtain ⟨cs', h1, h2⟩ := hi i (by omega)
      rw [cellsDeed] at h1
      obtain ⟨_, hlen, hcell⟩ := World.cells?_some h1
      obtain ⟨xs, k, hk, hxy, _, hxl, hff⟩ := DataW.trod_struct Try.underlying35 h2
      match xs, hxl, cs', hlen with
      | [y0, y1, y2, y3], _, [v0, v1, v2, v3], _ =>
        have g0 := hff 0 _ rfl
        have g1 := hff 1 _ rfl
        have g2 := hff 2 _ rfl
        have g3 := hff 3 _ rfl
        simp [cellsInt, cellsInts, cellsBools] at g0 g1 g2 g3
        have e0 := hcell 0 (by omega)
        have e1 := hcell 1 (by omega)
        have e2 := hcell 2 (by omega)
        have e3 := hcell 3 (by omega)
        rw [add_add] at e0 e1 e2 e3
        simp only [Prod.mk.injEq] at hxy
        have hD : D i = .agg [y0.1, y1.1, y2.1, y3.1] := by simpa using hxy.1
        have hmem : ∀ x ∈ (D i).weights Try.prog 35, x ≤ reachBytes := fun x hxw => hw x (by
          rw [hx.1]
          simp only [DataW.weights, Try.underlying22, List.mem_cons, List.mem_append]
          exact .inr (.inl (weights_all (d := D i) (List.mem_map.2 ⟨i, List.mem_range.2 hil, rfl⟩) hxw)))
        rw [hD] at hmem
        simp only [DataW.weights, Try.underlying35, DataW.weightsEach, List.map_cons, List.map_nil, List.mem_append] at hmem
        exact deed_at (by simpa using e0) (by simpa using e1) (by simpa using e2) (by simpa using e3) g0 g1 g2 g3 (fun x hx => hmem x (by simp [hx])) (fun x hx => hmem x (by simp [hx]))
    obtain ⟨q, hq⟩ := choose_lt each
    refine ⟨q, fun j hj => ?_, fun j hj => (hq j hj).2.2.2.2.1, fun j hj => (hq j hj).2.2.2.2.2.1, fun j hj => (hq j hj).2.2.2.2.2.2.1, fun j hj => (hq j hj).2.2.2.2.2.2.2.1, fun j hj => (hq j hj).2.2.2.2.2.2.2.2.1, fun j hj => (hq j hj).2.2.2.2.2.2.2.2.2.1, fun j hj => (hq j hj).2.2.2.2.2.2.2.2.2.2.1, fun j hj => (hq j hj).2.2.2.2.2.2.2.2.2.2.2.1, fun j hj => (hq j hj).2.2.2.2.2.2.2.2.2.2.2.2⟩
    obtain ⟨b, off, spot⟩ := a
    have hs : spot = none := by
      have := (hq 0 (by omega)).1
      simpa [Addr.add] using World.cell?_spot this
    subst hs
    have ha : ∀ k, (⟨b, off, none⟩ : Addr).add k = ⟨b, off + k, none⟩ := fun k => by
      unfold Addr.add
      by_cases e : k = 0 <;> simp [e]
    obtain ⟨h0, h1, h2, h3, _⟩ := hq j hj
    rw [ha] at h0 h1 h2 h3
    exact ⟨b, off, rfl, h0, by rw [Nat.add_assoc]; exact h1, by rw [Nat.add_assoc]; exact h2, by rw [Nat.add_assoc]; exact h3⟩
end
end Go.Proofs.Ytgdfiopdkidhfaa

namespace Go.Proofs.Ytgdfiopdkidhfaa
open Go.RowKit

theorem rdB_v1' {w : World} {A : Option Addr} {xs : List Bool} (h : RdB w A xs) : V1.RdB w A xs := fun j hj => h (by omega)
theorem IsWr.fr {B g : Nat} {a w : World} {e : Int} {xs : List Bool} {T : TypeId → Prop} {B' : Nat} (h : IsWr B a g e xs) (o : FrT T B' a w) (h1 : ¬ T 64) (h2 : ¬ T 5) : IsWr B w g e xs := by
  obtain ⟨v, h⟩ := h
  exact ⟨v, h.ty o h1 h2⟩
/-- Both writers; what was lent. -/
structure Ps (w0 W : World) (g q gl : Nat) (zs : List Int) (s t : WSt) : Prop where
  wr : IsWr w0.heap.size W g s.1 s.2
  wq : IsWq w0.heap.size W q t.1 t.2
  row : W.rowIs gl 3 (zs.length + 12) (lentV zs.length (vI zs) mI)
  bel : Below w0.heap.size w0 W
section
variable {w0 W W' : World} {g q gl : Nat} {zs : List Int} {s t : WSt}
theorem Ps.same (h : Ps w0 W g q gl zs s t) (o : Only (fun _ => False) W W') : Ps w0 W' g q gl zs s t := ⟨h.wr.same o, h.wq.same o, o.row h.row no_, h.bel.trans (o.to_below (fun _ h => h.elim) h.bel.size)⟩
theorem Ps.drew (h : Ps w0 W g q gl zs s t) : Ps w0 W.drew g q gl zs s t := h.same (Only.refl _ _).drew
theorem Ps.stepW (h : Ps w0 W g q gl zs s t) {s2 : WSt} (hr : IsWr w0.heap.size W' g s2.1 s2.2) (o : FrT TW w0.heap.size W W') : Ps w0 W' g q gl zs s2 t :=
  ⟨hr, h.wq.ty o (by unfold TW; decide) (by unfold TW; decide), o.row h.row (by unfold TW; decide), h.bel.trans (o.below h.bel.size)⟩
theorem Ps.stepQ (h : Ps w0 W g q gl zs s t) {t2 : WSt} (hr : IsWq w0.heap.size W' q t2.1 t2.2) (o : FrT TWq w0.heap.size W W') : Ps w0 W' g q gl zs s t2 :=
  ⟨h.wr.fr o (by unfold TWq; decide) (by unfold TWq; decide), hr, o.row h.row (by unfold TWq; decide), h.bel.trans (o.below h.bel.size)⟩
theorem Ps.inn (h : Ps w0 W g q gl zs s t) : RdI W (some ⟨gl, 0, none⟩) zs := ((RdV.of_row h.row).take (by omega)).congr fun i hi => by unfold lentV; rw [if_pos hi]
theorem Ps.argOk (h : Ps w0 W g q gl zs s t) : ArgOk W (some ⟨gl, 0, none⟩) w0.heap.size := fun b off e _ => by
  injection e with e
  injection e with e
  subst e
  exact .inr (TyAt.not_row h.row (by unfold TW; decide))
theorem Ps.put (h : Ps w0 W g q gl zs s t) {A : Option Addr} {cap : Nat} {ys : List Bool} (hy : RdB W A ys) (ho : 0 < ys.length → ArgOk W A w0.heap.size) (hl : ys.length ≤ 600) : Calls Try.prog 9 #[.pointer (some ⟨g, 0, none⟩), .slice A ys.length cap] W fun e' W' => e' = .returned (.int .i64 (putB s ys).1) ∧ Hid (Ps w0 W' g q gl zs (putB s ys) t) :=
  (put_any h.wr h.bel.size hy ho (by omega)).mono fun _ _ hh => ⟨hh.1, hid (h.stepW hh.2.out.1 hh.2.out.2)⟩
theorem Ps.qput (h : Ps w0 W g q gl zs s t) {A : Option Addr} {cap : Nat} {ys : List Bool} (hy : RdB W A ys) (hA : A = none → ys.length = 0 ∧ cap = 0) (hl : ys.length ≤ 600) : Calls Try.prog 10 #[.pointer (some ⟨q, 0, none⟩), .slice A ys.length cap] W fun e' W' => e' = .returned (.int .i64 (putB t ys).1) ∧ Hid (Ps w0 W' g q gl zs s (putB t ys)) :=
  (rput_any h.wq h.bel.size hy hA (by omega)).mono fun _ _ hh => ⟨hh.1, hid (h.stepQ hh.2.out.1 hh.2.out.2)⟩
theorem Ps.num (h : Ps w0 W g q gl zs s t) (wd : Int) {cap : Nat} (hi : I64s zs) (hl : zs.length ≤ 600) : Calls Try.prog 11 #[.pointer (some ⟨g, 0, none⟩), .int .i64 wd, .slice (some ⟨gl, 0, none⟩) zs.length cap] W fun e' W' => e' = .returned (.int .i64 (putN s wd zs).1) ∧ Hid (Ps w0 W' g q gl zs (putN s wd zs) t) :=
  (number_any h.wr h.bel.size h.inn (fun _ => h.argOk) hi (by omega)).mono fun _ _ hh => ⟨hh.1, hid (h.stepW hh.2.out.1 hh.2.out.2)⟩
theorem Ps.qnum (h : Ps w0 W g q gl zs s t) (wd : Int) {A : Option Addr} {cap : Nat} (hz : RdI W A zs) (hi : I64s zs) (hl : zs.length ≤ 600) : Calls Try.prog 12 #[.pointer (some ⟨q, 0, none⟩), .int .i64 wd, .slice A zs.length cap] W fun e' W' => e' = .returned (.int .i64 (putN t wd zs).1) ∧ Hid (Ps w0 W' g q gl zs s (putN t wd zs)) :=
  (rnumber_any h.wq h.bel.size hz hi hl).mono fun _ _ hh => ⟨hh.1, hid (h.stepQ hh.2.out.1 hh.2.out.2)⟩
theorem Ps.gam (h : Ps w0 W g q gl zs s t) {cap : Nat} (hi : I64s zs) (hl : zs.length ≤ 600) : Calls Try.prog 13 #[.pointer (some ⟨g, 0, none⟩), .slice (some ⟨gl, 0, none⟩) zs.length cap] W fun e' W' => e' = .returned (.int .i64 (putG s zs).1) ∧ Hid (Ps w0 W' g q gl zs (putG s zs) t) :=
  (gamma_any h.wr h.bel.size h.inn (fun _ => h.argOk) hi (by omega)).mono fun _ _ hh => ⟨hh.1, hid (h.stepW hh.2.out.1 hh.2.out.2)⟩
theorem Ps.qgam (h : Ps w0 W g q gl zs s t) {A : Option Addr} {cap : Nat} (hz : RdI W A zs) (hi : I64s zs) (hl : zs.length ≤ 600) : Calls Try.prog 14 #[.pointer (some ⟨q, 0, none⟩), .slice A zs.length cap] W fun e' W' => e' = .returned (.int .i64 (putG t zs).1) ∧ Hid (Ps w0 W' g q gl zs s (putG t zs)) :=
  (rgamma_any h.wq h.bel.size hz hi hl).mono fun _ _ hh => ⟨hh.1, hid (h.stepQ hh.2.out.1 hh.2.out.2)⟩
end
def E023 (e : Int) : Prop := e = 0 ∨ e = 2 ∨ e = 3
theorem putAll_e {s : WSt} (ok : Bool) (ys : List Bool) (h : E023 s.1) : E023 (putAll s ok ys).1 := by
  unfold putAll
  split
  · exact h
  · split
    · exact .inr (.inl rfl)
    · split
      · exact .inr (.inr rfl)
      · exact .inl rfl
/-- The writers between two deeds. -/
structure Pz (w0 W : World) (g q : Nat) (s : WSt) : Prop where
  wr : IsWr w0.heap.size W g s.1 s.2
  wq : IsWq w0.heap.size W q s.1 s.2
  bel : Below w0.heap.size w0 W
  er : E023 s.1
set_option maxRecDepth 100000 in
set_option maxHeartbeats 8000000 in
theorem flowPuts_any {C : Option Addr} {N ccap : Nat} {d : Nat → Dd} {w : World} (hd : DsIn w C N d) (hN : N ≤ 140737488355328) :
    Calls Try.prog 3 #[.slice C N ccap] w fun e' w' => e' = .returned (.bool true) ∧ Hid (Below w.heap.size w w') := by
  have HD := hid hd
  have HS := hid (size_any (cap := ccap) hd hN)
  clear hd
  go_enter Try.func3, Try.ntmps3
  go_wp2_with fail
  refine HS.out.mono ?_
  rintro e' w1 ⟨sz, rfl, hq, hs, hfew⟩
  have HB1 := hid ((quiet_only hq).to_below (B := w.heap.size) (fun _ h => h.elim) (Nat.le_refl _))
  clear hq HS
  by_cases hgt : (600 : Int) < (sz : Int)
  · clear hfew
    go_wp2_with fail
    refine (awake_any w1).mono ?_
    rintro e' w2 ⟨rfl, h2⟩
    go_wp2_with fail
    go_ret
    exact ⟨rfl, hid (HB1.out.trans (h2.out.mono HB1.out.size))⟩
  · have HF := hid (hfew (by omega))
    clear hfew
    go_wp2_with fail
    refine (newWriter_any w1).mono ?_
    rintro e' w2 ⟨g, rfl, h2⟩
    have HP0 : Hid (Pz w (w2.alloc (Obj.cells #[.slice none 0 0, .int .i64 0] 31)) g w2.heap.size (0, [])) := hid (by
      obtain ⟨h3, h4, h5⟩ := h2.out
      have o : Only (fun _ => False) w2 (w2.alloc (Obj.cells #[.slice none 0 0, .int .i64 0] 31)) := (Only.refl _ w2).alloc _
      have hrow := World.rowIs_alloc w2 #[.slice none 0 0, .int .i64 0] 31 (wqc (.slice none 0 0) 0) (fun i hi => by
        match i, hi with
        | 0, _ => rfl
        | 1, _ => rfl
        | i + 2, hi => exact absurd (show i + 2 < 2 from hi) (by omega))
      have hb2 : Below w.heap.size w w2 := HB1.out.trans (h5.to_below (fun _ h => h.elim) HB1.out.size)
      exact ⟨(h4 _ HB1.out.size).same o, ⟨_, by simp, hrow, World.ownsRow_nil _ _ _ _, hb2.size⟩, hb2.trans (o.to_below (fun _ h => h.elim) hb2.size), .inl rfl⟩)
    clear h2 HB1
    go_wp2_with fail
    go_loopw [5] (fun s wr => ∃ i : Nat, i ≤ N ∧ s = .int .i64 (i : Int) ∧ Hid (∃ s, Pz w wr g w2.heap.size s)) (fun s _ => N - (intOf s).toNat)
    case atStart => exact ⟨0, by omega, rfl, hid ⟨_, HP0.out⟩⟩
    case round =>
      obtain ⟨i, hi, rfl, HI⟩ := hrel
      obtain ⟨s, hI⟩ := HI.out
      have HI2 := hid hI
      clear HI hI HP0
      by_cases hp : i < N
      · obtain ⟨b, off, hC, hk0, hk1, hk2, hk3⟩ := HD.out.cells i hp
        have HC := hid (And.intro hk0 (And.intro hk1 (And.intro hk2 hk3)))
        have HCW : Hid (∀ W, Below w.heap.size w W → W.cell? ⟨b, off + i * 4, none⟩ = some (.int .i64 (d i).what) ∧ W.cell? ⟨b, off + i * 4 + 1, none⟩ = some (.int .i64 (d i).width) ∧ W.cell? ⟨b, off + i * 4 + 2, none⟩ = some (.slice (d i).oa (d i).ys.length (d i).oc) ∧ W.cell? ⟨b, off + i * 4 + 3, none⟩ = some (.slice (d i).na (d i).zs.length (d i).nc)) := hid fun W o =>
          ⟨by rw [o.cell (cell_lt HC.out.1), HC.out.1], by rw [o.cell (cell_lt HC.out.2.1), HC.out.2.1], by rw [o.cell (cell_lt HC.out.2.2.1), HC.out.2.2.1], by rw [o.cell (cell_lt HC.out.2.2.2), HC.out.2.2.2]⟩
        have k3 := (HCW.out wr HI2.out.bel).2.2.2
        have hyl := (HF.out.2 i hp).1
        have hzl := (HF.out.2 i hp).2
        subst hC
        clear hk0 hk1 hk2 hk3 HC
        have HRB : Hid (∀ W, Below w.heap.size w W → RdB W (d i).oa (d i).ys) := hid fun W o => (HD.out.ones i hp).below o
        have HRI : Hid (∀ W, Below w.heap.size w W → RdI W (d i).na (d i).zs) := hid fun W o => (HD.out.nums i hp).below o
        have HOo : Hid (∀ W : World, 0 < (d i).ys.length → ArgOk W (d i).oa w.heap.size) := hid fun W => HD.out.okO hp
        have HNo := hid (HD.out.on i hp)
        have HNn := hid (HD.out.nn i hp)
        have HI64 := hid (HD.out.i64 i hp)
        have HPk : Hid (∀ W : World, Calls Try.prog 8 #[.int .i64 (d i).what, .int .i64 3] W fun e w' => e = .returned (.int .i64 ((d i).what % 3)) ∧ W = w') := hid fun W => pickM (d i).what 3 W (by omega) (by omega) (HD.out.what i hp).1 (HD.out.what i hp).2
        have hm := Int.emod_nonneg (d i).what (show (3 : Int) ≠ 0 by omega)
        have hm2 := Int.emod_lt_of_pos (d i).what (show (0 : Int) < 3 by omega)
        generalize (d i).what % 3 = m at HPk hm hm2
        have hc : m = 0 ∨ m = 1 ∨ m = 2 := by omega
        clear hm hm2
        have HLt := hid (lentInts_any (cap := (d i).nc) (HRI.out wr HI2.out.bel) (fun _ => rfl) HNn.out (by omega))
        go_wp2_with fail
        refine HLt.out.mono ?_
        rintro e' w3 ⟨gl, rfl, hle⟩
        have HP3 : Hid (Ps w w3 g w2.heap.size gl (d i).zs s s) := hid ⟨HI2.out.wr.same (Only.of_below hle.out.2.2 _), HI2.out.wq.same (Only.of_below hle.out.2.2 _), hle.out.2.1, HI2.out.bel.trans (hle.out.2.2.mono HI2.out.bel.size)⟩
        have HE := hid HI2.out.er
        clear HLt hle HI2 k3
        obtain ⟨k0, k1, k2, k3⟩ := HCW.out w3 HP3.out.bel
        go_wp2_with fail
        refine (HPk.out _).mono ?_
        rintro e' w4 ⟨rfl, rfl⟩
        rcases hc with rfl | rfl | rfl
        · go_wp2_with fail
          go_region_held3 (fun w' => w'.cell? ⟨b, off + i * 4 + 2, none⟩ = some (.slice (d i).oa (d i).ys.length (d i).oc))
            (first | assumption | exact (HCW.out _ h5.out.bel).2.2.1 | exact (HCW.out _ h6.out.bel).2.2.1 | exact (HCW.out _ HP3.out.drew.bel).2.2.1)
            (first
              | (go_at_call 9; refine (HP3.out.drew.put (HRB.out _ HP3.out.drew.bel) (HOo.out _) hyl).mono ?_; rintro e' w5 ⟨rfl, h5⟩)
              | (go_at_call 10; refine (h5.out.qput (HRB.out _ h5.out.bel) HNo.out hyl).mono ?_; rintro e' w6 ⟨rfl, h6⟩))
          have HE2 : Hid (E023 (putB s (d i).ys).1) := hid (putAll_e _ _ HE.out)
          clear h5
          generalize putB s (d i).ys = u at h6 HE2 ⊢
          have k3' := (HCW.out w6 h6.out.bel).2.2.2
          obtain ⟨u1, u2⟩ := u
          obtain ⟨v6, hv6⟩ := h6.out.wq
          obtain ⟨Aq, cq, rfl, -⟩ := hv6.shape
          have c0 : w6.cell? ⟨w2.heap.size, 0, none⟩ = some (.slice Aq u2.length cq) := hv6.cells.1
          have hq6 := hv6.cells.2.2.2.2
          have HLn : Hid (∀ k, Calls Try.prog 15 #[.pointer (some ⟨g, 0, none⟩)] (w6.drewN k) fun e' w' => e' = .returned (.int .i64 ((u2.length : Nat) : Int)) ∧ w6.drewN k = w') := hid fun k => wlen_any ((h6.out.same (quiet_only ⟨k, rfl⟩)).wr) (by have := HE2.out; unfold E023 at this; omega)
          have HKp : Hid (∀ k, Calls Try.prog 16 #[.slice (some ⟨gl, 0, none⟩) (d i).zs.length ((d i).zs.length + 12), .slice (d i).na (d i).zs.length (d i).nc] (w6.drewN k) fun e' w' => e' = .returned (.bool true) ∧ ∃ m, w' = (w6.drewN k).drewN m) := hid fun k => keptInts_any (x := fun j => (d i).zs.getD j 0) (w := w6.drewN k) (by omega) (HRI.out w6 h6.out.bel) h6.out.row
          clear hv6 HP3 HRB HRI HOo HNo HNn HI64 HCW
          generalize u2.length = un at HLn c0 ⊢
          go_wp2_with fail
          go_quiet ((first | (go_at_call 15; exact quiet_left (HLn.out _)) | (go_at_call 16; exact quiet_more (HKp.out _))))
          go_wp2_with fail
          go_roundw
          case rel => exact ⟨i + 1, by omega, by go_num, hid ⟨_, (h6.out.same (quiet_only ⟨_, rfl⟩)).wr, (h6.out.same (quiet_only ⟨_, rfl⟩)).wq, (h6.out.same (quiet_only ⟨_, rfl⟩)).bel, HE2.out⟩⟩
          case measure => simp [intOf]; omega
        · go_wp2_with fail
          go_region_held3 (fun w' => w'.cell? ⟨b, off + i * 4 + 1, none⟩ = some (.int .i64 (d i).width) ∧ w'.cell? ⟨b, off + i * 4 + 3, none⟩ = some (.slice (d i).na (d i).zs.length (d i).nc))
            (first | assumption | exact ⟨(HCW.out _ h5.out.bel).2.1, (HCW.out _ h5.out.bel).2.2.2⟩ | exact ⟨(HCW.out _ h6.out.bel).2.1, (HCW.out _ h6.out.bel).2.2.2⟩ | exact ⟨(HCW.out _ HP3.out.drew.bel).2.1, (HCW.out _ HP3.out.drew.bel).2.2.2⟩)
            (first
              | (go_at_call 11; refine (HP3.out.drew.num (d i).width HI64.out hzl).mono ?_; rintro e' w5 ⟨rfl, h5⟩)
              | (go_at_call 12; refine (h5.out.qnum (d i).width (HRI.out _ h5.out.bel) HI64.out hzl).mono ?_; rintro e' w6 ⟨rfl, h6⟩))
          have HE2 : Hid (E023 (putN s (d i).width (d i).zs).1) := hid (putAll_e _ _ HE.out)
          clear h5
          generalize putN s (d i).width (d i).zs = u at h6 HE2 ⊢
          have k3' := (HCW.out w6 h6.out.bel).2.2.2
          obtain ⟨u1, u2⟩ := u
          obtain ⟨v6, hv6⟩ := h6.out.wq
          obtain ⟨Aq, cq, rfl, -⟩ := hv6.shape
          have c0 : w6.cell? ⟨w2.heap.size, 0, none⟩ = some (.slice Aq u2.length cq) := hv6.cells.1
          have hq6 := hv6.cells.2.2.2.2
          have HLn : Hid (∀ k, Calls Try.prog 15 #[.pointer (some ⟨g, 0, none⟩)] (w6.drewN k) fun e' w' => e' = .returned (.int .i64 ((u2.length : Nat) : Int)) ∧ w6.drewN k = w') := hid fun k => wlen_any ((h6.out.same (quiet_only ⟨k, rfl⟩)).wr) (by have := HE2.out; unfold E023 at this; omega)
          have HKp : Hid (∀ k, Calls Try.prog 16 #[.slice (some ⟨gl, 0, none⟩) (d i).zs.length ((d i).zs.length + 12), .slice (d i).na (d i).zs.length (d i).nc] (w6.drewN k) fun e' w' => e' = .returned (.bool true) ∧ ∃ m, w' = (w6.drewN k).drewN m) := hid fun k => keptInts_any (x := fun j => (d i).zs.getD j 0) (w := w6.drewN k) (by omega) (HRI.out w6 h6.out.bel) h6.out.row
          clear hv6 HP3 HRB HRI HOo HNo HNn HI64 HCW
          generalize u2.length = un at HLn c0 ⊢
          go_wp2_with fail
          go_quiet ((first | (go_at_call 15; exact quiet_left (HLn.out _)) | (go_at_call 16; exact quiet_more (HKp.out _))))
          go_wp2_with fail
          go_roundw
          case rel => exact ⟨i + 1, by omega, by go_num, hid ⟨_, (h6.out.same (quiet_only ⟨_, rfl⟩)).wr, (h6.out.same (quiet_only ⟨_, rfl⟩)).wq, (h6.out.same (quiet_only ⟨_, rfl⟩)).bel, HE2.out⟩⟩
          case measure => simp [intOf]; omega
        · go_wp2_with fail
          go_region_held3 (fun w' => w'.cell? ⟨b, off + i * 4 + 3, none⟩ = some (.slice (d i).na (d i).zs.length (d i).nc))
            (first | assumption | exact (HCW.out _ h5.out.bel).2.2.2 | exact (HCW.out _ h6.out.bel).2.2.2 | exact (HCW.out _ HP3.out.drew.bel).2.2.2)
            (first
              | (go_at_call 13; refine (HP3.out.drew.gam HI64.out hzl).mono ?_; rintro e' w5 ⟨rfl, h5⟩)
              | (go_at_call 14; refine (h5.out.qgam (HRI.out _ h5.out.bel) HI64.out hzl).mono ?_; rintro e' w6 ⟨rfl, h6⟩))
          have HE2 : Hid (E023 (putG s (d i).zs).1) := hid (putAll_e _ _ HE.out)
          clear h5
          generalize putG s (d i).zs = u at h6 HE2 ⊢
          have k3' := (HCW.out w6 h6.out.bel).2.2.2
          obtain ⟨u1, u2⟩ := u
          obtain ⟨v6, hv6⟩ := h6.out.wq
          obtain ⟨Aq, cq, rfl, -⟩ := hv6.shape
          have c0 : w6.cell? ⟨w2.heap.size, 0, none⟩ = some (.slice Aq u2.length cq) := hv6.cells.1
          have hq6 := hv6.cells.2.2.2.2
          have HLn : Hid (∀ k, Calls Try.prog 15 #[.pointer (some ⟨g, 0, none⟩)] (w6.drewN k) fun e' w' => e' = .returned (.int .i64 ((u2.length : Nat) : Int)) ∧ w6.drewN k = w') := hid fun k => wlen_any ((h6.out.same (quiet_only ⟨k, rfl⟩)).wr) (by have := HE2.out; unfold E023 at this; omega)
          have HKp : Hid (∀ k, Calls Try.prog 16 #[.slice (some ⟨gl, 0, none⟩) (d i).zs.length ((d i).zs.length + 12), .slice (d i).na (d i).zs.length (d i).nc] (w6.drewN k) fun e' w' => e' = .returned (.bool true) ∧ ∃ m, w' = (w6.drewN k).drewN m) := hid fun k => keptInts_any (x := fun j => (d i).zs.getD j 0) (w := w6.drewN k) (by omega) (HRI.out w6 h6.out.bel) h6.out.row
          clear hv6 HP3 HRB HRI HOo HNo HNn HI64 HCW
          generalize u2.length = un at HLn c0 ⊢
          go_wp2_with fail
          go_quiet ((first | (go_at_call 15; exact quiet_left (HLn.out _)) | (go_at_call 16; exact quiet_more (HKp.out _))))
          go_wp2_with fail
          go_roundw
          case rel => exact ⟨i + 1, by omega, by go_num, hid ⟨_, (h6.out.same (quiet_only ⟨_, rfl⟩)).wr, (h6.out.same (quiet_only ⟨_, rfl⟩)).wq, (h6.out.same (quiet_only ⟨_, rfl⟩)).bel, HE2.out⟩⟩
          case measure => simp [intOf]; omega
      · obtain ⟨e, xs⟩ := s
        have HE := hid HI2.out.er
        obtain ⟨v6, hv6⟩ := HI2.out.wq
        obtain ⟨Aq, cq, rfl, hrd, hle, hnil, -⟩ := hv6.shape
        obtain ⟨c0, c1, -, -, hq6⟩ := hv6.cells
        have HRd := hid hrd
        have HNl := hid hnil
        have hsm : xs.length ≤ 16777216 := hv6.small
        have HB := hid HI2.out.bel
        have HWr := hid HI2.out.wr
        clear hv6 hrd hnil HI2 HF HD
        by_cases he : e = 0
        · subst he
          have HVc := hid (wvec_ok HWr.out)
          go_wp2_with fail
          refine HVc.out.mono ?_
          rintro e' w4 ⟨g1, gs1, gw1, rfl, hv, hg, hgs, hgw, hb⟩
          have HV := hid hv
          have HB4 := hid (HB.out.trans (hb.mono HB.out.size))
          have d0 : w4.cell? ⟨w2.heap.size, 0, none⟩ = some (.slice Aq xs.length cq) := by rw [hb.cell (cell_lt c0), c0]
          have d1 : w4.cell? ⟨w2.heap.size, 1, none⟩ = some (.int .i64 0) := by rw [hb.cell (cell_lt c1), c1]
          have HOf : Hid (Calls Try.prog 18 #[.slice Aq xs.length cq] w4 (V1.RMade w4 xs.length (bf xs))) := hid (V1.refOf_any Aq cq xs.length xs w4 (rdB_v1' (HRd.out.below hb)) HNl.out rfl hsm)
          clear hv hg hgs hgw hb c0 c1 HVc HB HWr HRd
          go_wp2_with fail
          refine HOf.out.mono ?_
          rintro e' w5 ⟨r, rl, rc, rfl, hr, hr1, hr2, hr3, hb⟩
          have HVl := hid (HV.out.below' hb)
          have HRr := hid hr
          have HB5 := hid (HB4.out.trans (hb.mono HB4.out.size))
          have d0' : w5.cell? ⟨w2.heap.size, 0, none⟩ = some (.slice Aq xs.length cq) := by rw [hb.cell (cell_lt d0), d0]
          have HC0 : Hid (∀ W, Only (fun _ => False) w5 W → W.cell? ⟨w2.heap.size, 0, none⟩ = some (.slice Aq xs.length cq)) := hid fun W o => by rw [o.cell (cell_lt d0') no_, d0']
          have HBy := hid fun W (o : Only (fun _ => False) w5 W) => V1.bytes_any (HVl.out.only o no_ no_ no_)
          have HRy := hid fun W (o : Only (fun _ => False) w5 W) => V1.refBytes_any (HRr.out.only o no_ no_)
          have HLn := hid fun W (o : Only (fun _ => False) w5 W) => V1.len_any (HVl.out.only o no_ no_ no_)
          obtain ⟨m, hm⟩ : ∃ m, m = (xs.length + 7) / 8 := ⟨_, rfl⟩
          rw [← hm] at HBy HRy
          have HSm : Hid (∀ W a b, RdV W (some ⟨a, 0, none⟩) m (fun i => .int .u8 ((if i < m then V1.byteOf (bf xs) i else 0 : Nat) : Int)) → RdV W (some ⟨b, 0, none⟩) m (fun i => .int .u8 ((if i < m then V1.byteOf (bf xs) i else 0 : Nat) : Int)) → Calls Try.prog 19 #[.slice (some ⟨a, 0, none⟩) m m, .slice (some ⟨b, 0, none⟩) m m] W (Quiet1 (.bool true) W)) := hid fun W a b h1 h2 => sameBytes_eq (fun j => by split; exact V1.byteOf_lt _ _; omega) h1 h2 (by omega)
          clear hm hr hr1 hr2 hr3 hb d0 d1 d0' HOf HV HB4
          generalize xs.length = n at HC0 HLn hsm ⊢
          go_wp2_with fail
          go_region_held3 (fun W => W.cell? ⟨w2.heap.size, 0, none⟩ = some (.slice Aq n cq))
            (first | assumption | exact HC0.out _ ((Only.refl _ _).drew) | exact HC0.out _ ((Only.refl _ _).drew.trans h6.out.2.2) | exact HC0.out _ (((Only.refl _ _).drew.trans h6.out.2.2).trans h7.out.2.2) | exact HC0.out _ ((((Only.refl _ _).drew.trans h6.out.2.2).trans h7.out.2.2).drewN _) | exact HC0.out _ (((((Only.refl _ _).drew.trans h6.out.2.2).trans h7.out.2.2).drewN _).trans (Only.of_below h9.out _)))
            (first
              | (go_at_call 20; refine (HBy.out _ (Only.refl _ _).drew).mono ?_; rintro e' w6 ⟨rfl, h6⟩)
              | (go_at_call 21; refine (HRy.out _ ((Only.refl _ _).drew.trans h6.out.2.2)).mono ?_; rintro e' w7 ⟨rfl, h7⟩)
              | (go_at_call 19; refine (HSm.out _ _ _ ((RdV.of_row h6.out.2.1).only h7.out.2.2 fun _ _ _ => no_) (RdV.of_row h7.out.2.1)).mono ?_; rintro e' w8 ⟨rfl, k8, rfl⟩)
              | (go_at_call 22; refine (HLn.out _ ((((Only.refl _ _).drew.trans h6.out.2.2).trans h7.out.2.2).drewN _)).mono ?_; rintro e' w8 ⟨rfl, rfl⟩)
              | (go_at_call 5; refine (awake_any _).mono ?_; rintro e' w9 ⟨rfl, h9⟩))
          go_wp2_with fail
          go_ret
          exact ⟨rfl, hid (HB5.out.trans ((((((Only.refl _ _).drew.trans h6.out.2.2).trans h7.out.2.2).drewN _).trans (Only.of_below h9.out _)).to_below (fun _ h => h.elim) HB5.out.size))⟩
        · have HVb := hid (wvec_bad HWr.out he)
          have hb2 : (e != 0) = true := bne_iff_ne.2 he
          clear HRd HWr HE
          go_wp2_with fail
          refine HVb.out.mono ?_
          rintro e' w4 ⟨rfl, rfl⟩
          go_wp2_with fail
          refine (awake_any _).mono ?_
          rintro e' w5 ⟨rfl, h5⟩
          go_wp2_with fail
          go_ret
          exact ⟨rfl, hid (HB.out.trans (h5.out.mono HB.out.size))⟩
end Go.Proofs.Ytgdfiopdkidhfaa

namespace Go.Proofs.Ytgdfiopdkidhfaa.fputsLaw
open Go.ChangeShapes Go.WideShapes Go.ChangeAt Go.RowKit

set_option maxRecDepth 100000 in
theorem contract (H : Type) (enc : TypeId × Value → H) (W : World) (base : Nat) (args : Array Value) (ds gs : List (DataW H)) (before : List MemPlace)
    (hval : ∀ (j : Nat) t v, Try.f3.params[j]? = some t → args[j]? = some v → Value.okWide Try.prog W .any base t v)
    (hW : DataW.Whole enc Try.prog Try.f3.params.toList Rows.flowPutsSpec.vars false W args.toList ds gs before) (hsz0 : (DataW.weightsEach Try.prog (Try.f3.params.toList ++ Rows.flowPutsSpec.plain.varTypes Try.prog) (ds ++ gs)).all (· ≤ reachBytes) = true) :
    Calls Try.prog 3 args W fun e W' => ∃ v, e = .returned v ∧ Rows.flowPutsSpec.post enc Try.prog Try.f3 false true false false W args v W' := by
  have hW' := hW
  obtain ⟨p, q, hA0, hV, rfl, hfz, hnd⟩ := hW
  have hA : DataW.TrodAll enc Try.prog W 0 (fun _ => true) true Try.f3.params.toList args.toList ds p := hA0
  have hsz := hsz0
  rw [Try.params3] at hA hval hsz
  obtain ⟨v0, vs0, d0, ds0, p0, q0, hargs, rfl, rfl, h0, r0⟩ := trodAll_cons hA
  obtain ⟨rfl, rfl, rfl⟩ := trodAll_nil r0
  obtain rfl : args = #[v0] := by cases args; simp_all
  obtain ⟨rfl, rfl⟩ := trodVars_none hV
  obtain ⟨a0, len0, cap0, rfl⟩ := okWide_slice Try.underlying22 (hval 0 22 v0 rfl rfl)
  have k0 := h0
  have lt0 : ∀ x ∈ p0, x.block < W.heap.size := by obtain ⟨m, hm⟩ := k0; exact DataW.trod_lt m _ _ _ hm
  have in0 := deeds_in h0
  have room0 := room_of hsz (j := 0) rfl rfl Try.underlying22 (of_decide_eq_true (by kernel_rfl)) in0.1
  clear hA0 hsz0
  have walk : Calls Try.prog 3 #[.slice a0 len0 cap0] W fun e w' => e = .returned (.bool true) ∧ Hid (Below W.heap.size W w') := by
    obtain ⟨q, hq⟩ := in0.2.2 (weights_of hsz (j := 0) rfl rfl)
    exact flowPuts_any hq room0
  refine walk.mono fun e W' ⟨he, hbel⟩ => ?_
  subst he
  have bel := hbel.out
  exact ⟨_, rfl, _, _, _, [], _, [], hW', trodAll_mk1 (shut_bool Try.underlying4 _), (trodAll_cons_mk (Below.trod laidOut (by kernel_rfl) (of_decide_eq_true (by kernel_rfl)) k0 bel lt0) trodAll_mk0), rfl, bel.frame _, fun h => by cases h⟩

theorem laid_met (os : Os) : laidMet Try.prog Rows.flowPutsRow.laid ((laidWorld os).forCall (fun _ _ => 0) ⟨#[], #[.slice none 0 0], []⟩).memory :=
  ⟨[], rfl, List.nodup_nil, fun _ _ h => by cases h⟩
theorem reads (os : Os) {H : Type} (enc : TypeId × Value → H) : ∃ places, DataW.whole enc Try.prog ((laidWorld os).forCall (fun _ _ => 0) ⟨#[], #[.slice none 0 0], []⟩).memory Try.f3.params.toList Rows.flowPutsSpec.vars false #[Value.slice none 0 0].toList 8 = some ([.nil], [], places) :=
  ⟨[], by kernel_rfl⟩

set_option maxRecDepth 100000 in
theorem lifted (os : Os) (started : os.Started) (H : Type) (enc : TypeId × Value → H) (F : Stop.Interp) :
    ReturnsInHanded {} Try.checked os 3 .any ((OpenSpec.ofChange Rows.flowPutsSpec).preRow enc Try.prog Try.f3 Rows.flowPutsRow.domain false Rows.flowPutsRow.laid) (((OpenSpec.ofChange Rows.flowPutsSpec).at F).post enc Try.prog Try.f3 false true false false) := by
  obtain ⟨places, hx⟩ := reads os enc
  refine returnsInHanded_of_row (C := Try.checked) (s := OpenSpec.ofChange Rows.flowPutsSpec) own started (by kernel_rfl) Try.func3
    (witness_row_at (enc := enc) (C := Try.checked) false (laidWorld os) #[.slice none 0 0] rfl (by kernel_rfl) (by kernel_rfl) (by kernel_rfl)
      (OpenSpec.preRow_of_cond 8 hx (by kernel_rfl) (fun k hk => by cases hk) (by kernel_rfl) (laid_met os))) ?_
  intro W base args ds gs before hval hW _ _ hsz _ _ _
  exact contract H enc W base args ds gs before hval hW hsz

theorem said : Rows.FlowPutsSaid :=
  OpenClaim.holds_of_cond 3 Try.f3 rfl rfl rfl rfl rfl rfl rfl ⟨rfl, rfl, rfl, rfl, rfl⟩ rfl rfl rfl rfl rfl (by kernel_rfl) Try.func3 (by kernel_rfl)
    (of_decide_eq_true (by kernel_rfl)) (by unfold Func.isWrapper; first | (rw [if_pos (by decide +kernel)]; kernel_rfl) | (rw [if_neg (by decide +kernel)]; exact ⟨rfl, rfl⟩))
    (fun os started H enc _ F => by rw [OpenClaim.pre_eq_preRow]; exact lifted os started H enc F)

end Go.Proofs.Ytgdfiopdkidhfaa.fputsLaw
