/- Two slices of the call's own that lie apart; appends to one of them. -/
import Derived.Test.YtmbcinbkijnblaaTk9
import Derived.Test.YtmbcinbkijnblaaKt
import Derived.Test.YtmbcinbkijnblaaTk6
import Derived.Maps.OwnIn
namespace Go.Proofs.Ytmbcinbkijnblaa
open Go.RowKit

theorem rd_cells (w : World) (zs : List Int) (arr : Array Value) (h : arr = (zs.map iv).toArray) : RdI (w.alloc (.cells arr 3)) (some ⟨w.heap.size, 0, none⟩) zs := by
  subst h
  have hr := World.rowIs_alloc w (zs.map iv).toArray 3 (vI zs) (fun i hi => by
    have hi' : i < zs.length := by simpa using hi
    simp [vI, iv, List.getD, hi'])
  have e : (zs.map iv).toArray.size = zs.length := by simp
  rw [e] at hr
  exact RdV.of_row hr
theorem RdI.st {w w' : World} {A : Option Addr} {zs : List Int} (h : RdI w A zs) (ho : StO w w') : RdI w' A zs := RdV.only h ho.out fun _ _ _ => no_
theorem same_rd {A B : Option Addr} {c1 c2 : Nat} {zs : List Int} {u : World} (ha : RdI u A zs) (hb : RdI u B zs) (hl : zs.length ≤ 9223372036854775807) :
    Calls Try.prog 39 #[.slice A zs.length c1, .slice B zs.length c2] u fun e w' => e = .returned (.bool true) ∧ StO u w' :=
  (sameInts_eq (y := fun j => zs.getD j 0) ha hb hl).mono fun _ _ ⟨he, hk⟩ => ⟨he, hid (quiet_only hk)⟩

theorem same_rd' {zs : List Int} {n : Nat} (hn : zs.length = n) (h1 : n ≤ 1000000) (A B : Option Addr) (u : World) (ha : RdI u A zs) (hb : RdI u B zs) :
    Calls Try.prog 39 #[.slice A n n, .slice B n n] u fun e w' => e = .returned (.bool true) ∧ StO u w' := by
  subst hn
  exact same_rd ha hb (by omega)
theorem best1 : bestL [1, 2, 3] = [2, 2, 1] := by decide +kernel
theorem best2 : bestL [5, 1, 1, 5] = [1, 3, 3, 2] := by decide +kernel
theorem cost3 : costE [5, 1, 1, 5] [2, 3, 3, 1] = .tuple #[.int .i64 21, .int .i64 0] := by
  have ht : Tr 0 [2, 3, 3, 1] := by
    have h1 : Tr 2 [3, 3] := Tr.two (l := [3]) (.one 3) (.one 3)
    have h2 : Tr 1 [2, 3, 3] := Tr.two (l := [2]) (.one 2) h1
    exact Tr.two (l := [2, 3, 3]) h2 (.one 1)
  have hf : fitB [2, 3, 3, 1] = true := fitB_true.2 (.inr ⟨by simp, by simp, ht⟩)
  have hok : okC [5, 1, 1, 5] [2, 3, 3, 1] = true := by
    unfold okC
    rw [hf]
    decide +kernel
  unfold costE
  rw [if_pos hok]
  have : costL [5, 1, 1, 5] [2, 3, 3, 1] = 21 := by decide +kernel
  rw [this]
theorem len_case {zs ls : List Int} {n : Nat} (hw : isW zs = true) (hb : bestL zs = ls) (hn : zs.length = n) (hn2 : n ≤ 1000) :
    ∀ u A c, RdI u A zs → Calls Try.prog 10 #[.slice A n c] u fun e w' => ∃ B, e = .returned (.tuple #[.slice B n n, .int .i64 0]) ∧ Hid (RdI w' B ls) ∧ StO u w' := by
  intro u A c h
  subst hn
  refine (Lengths_any (cap := c) h (by omega)).mono ?_
  rintro e w' ⟨B, n, c2, he, hn, hc, hr, _, _, ho⟩
  have hn := hn.out
  have hc := hc.out
  have hr := hr.out
  rw [hw, if_pos rfl] at hn hr
  rw [hw, if_pos rfl] at he
  rw [bestL_len] at hn
  subst hc
  subst hn
  rw [hb] at hr
  exact ⟨B, he, hid hr, ho⟩

set_option maxHeartbeats 1000000 in
theorem tkAwake (w : World) : Calls Try.prog 11 #[] w fun e w' => e = .returned (.bool true) ∧ StO w w' := by
  have H1 := hid (len_case (zs := [1, 2, 3]) (ls := [2, 2, 1]) (n := 3) (by decide +kernel) best1 rfl (by omega))
  have H2 := hid (len_case (zs := [5, 1, 1, 5]) (ls := [1, 3, 3, 2]) (n := 4) (by decide +kernel) best2 rfl (by omega))
  have H3 : Hid (∀ u A B, RdI u A [5, 1, 1, 5] → RdI u B [2, 3, 3, 1] → Calls Try.prog 41 #[.slice A 4 4, .slice B 4 4] u fun e w' => e = .returned (.tuple #[.int .i64 21, .int .i64 0]) ∧ StO u w') := hid fun u A B ha hb => by
    have := cost_any (c1 := 4) (c2 := 4) ha hb (by intro z hz; simp at hz; omega) (by simp) (by simp)
    rw [cost3] at this
    exact this
  have H4 : Hid (∀ u A B, RdI u A [2, 2, 1] → RdI u B [2, 2, 1] → Calls Try.prog 39 #[.slice A 3 3, .slice B 3 3] u fun e w' => e = .returned (.bool true) ∧ StO u w') := hid fun u A B ha hb => same_rd' (zs := [2, 2, 1]) (n := 3) rfl (by omega) A B u ha hb
  have H5 : Hid (∀ u A B, RdI u A [1, 3, 3, 2] → RdI u B [1, 3, 3, 2] → Calls Try.prog 39 #[.slice A 4 4, .slice B 4 4] u fun e w' => e = .returned (.bool true) ∧ StO u w') := hid fun u A B ha hb => same_rd' (zs := [1, 3, 3, 2]) (n := 4) rfl (by omega) A B u ha hb
  go_enter Try.func11, Try.ntmps11
  go_wp2_with fail
  refine (H1.out _ _ _ (rd_cells w [1, 2, 3] #[.int .i64 1, .int .i64 2, .int .i64 3] rfl)).mono ?_
  rintro e w1 ⟨B1, rfl, HB1, HO1⟩
  have HO1' : StO w w1 := hid (((Only.refl _ w).alloc _).trans HO1.out)
  clear HO1
  go_wp2_with fail
  refine (H2.out _ _ _ (rd_cells w1 [5, 1, 1, 5] #[.int .i64 5, .int .i64 1, .int .i64 1, .int .i64 5] rfl)).mono ?_
  rintro e w2 ⟨B2, rfl, HB2, HO2⟩
  have HO12 : StO w1 w2 := hid (((Only.refl _ w1).alloc _).trans HO2.out)
  clear HO2
  go_wp2_with fail
  refine (H3.out _ _ _ (RdI.st (rd_cells w2 [5, 1, 1, 5] #[.int .i64 5, .int .i64 1, .int .i64 1, .int .i64 5] rfl) (hid ((Only.refl _ _).alloc _))) (by
    have := rd_cells (w2.alloc (.cells #[.int .i64 5, .int .i64 1, .int .i64 1, .int .i64 5] 3)) [2, 3, 3, 1] #[.int .i64 2, .int .i64 3, .int .i64 3, .int .i64 1] rfl
    simpa using this)).mono ?_
  rintro e w3 ⟨rfl, HO3⟩
  have HO23 : StO w2 w3 := hid ((((Only.refl _ w2).alloc _).alloc _).trans HO3.out)
  clear HO3
  go_wp2_with fail
  refine (H4.out _ _ _ ((HB1.out.st (hid (HO12.out.trans HO23.out))).st (hid ((Only.refl _ _).alloc _))) (rd_cells w3 [2, 2, 1] #[.int .i64 2, .int .i64 2, .int .i64 1] rfl)).mono ?_
  rintro e w4 ⟨rfl, HO4⟩
  have HO34 : StO w3 w4 := hid (((Only.refl _ w3).alloc _).trans HO4.out)
  clear HO4
  go_wp2_with fail
  refine (H5.out _ _ _ ((HB2.out.st (hid (HO23.out.trans HO34.out))).st (hid ((Only.refl _ _).alloc _))) (rd_cells w4 [1, 3, 3, 2] #[.int .i64 1, .int .i64 3, .int .i64 3, .int .i64 2] rfl)).mono ?_
  rintro e w5 ⟨rfl, HO5⟩
  have HO45 : StO w4 w5 := hid (((Only.refl _ w4).alloc _).trans HO5.out)
  clear HO5
  go_wp2_with fail
  go_ret
  exact ⟨rfl, hid ((((HO1'.out.trans HO12.out).trans HO23.out).trans HO34.out).trans HO45.out)⟩
end Go.Proofs.Ytmbcinbkijnblaa

namespace Go.Proofs.Ytmbcinbkijnblaa
open Go.RowKit

/-! Rows that wait, the last one first: their sizes, their depths. -/
def tot : List (Nat × Int) → Nat
  | [] => 0
  | p :: r => p.1 + tot r
def pos : List (Nat × Int) → List (Int × Int)
  | [] => []
  | p :: r => pos r ++ [(((tot r : Nat) : Int), ((tot r + p.1 : Nat) : Int))]
def outL : List (Nat × Int) → List Int → List Int
  | [], t => t
  | p :: r, t => outL r (List.replicate p.1 p.2 ++ t)
/-- Whatever trees the rows that wait become, all is a tree. -/
def JJ : List (Nat × Int) → List Int → Prop
  | [], t => Tr 0 t
  | p :: r, t => ∀ l, l.length = p.1 → Tr p.2 l → JJ r (l ++ t)
def cntL : List (Nat × Int) → Nat
  | [] => 0
  | p :: r => 2 * p.1 - 1 + cntL r
theorem pos_len : ∀ L, (pos L).length = L.length
  | [] => rfl
  | p :: r => by simp [pos, pos_len r]
theorem outL_app : ∀ L s, outL L s = outL L [] ++ s
  | [], s => rfl
  | p :: r, s => by
    show outL r (List.replicate p.1 p.2 ++ s) = outL r (List.replicate p.1 p.2 ++ []) ++ s
    rw [outL_app r (List.replicate p.1 p.2 ++ s), outL_app r (List.replicate p.1 p.2 ++ []), List.append_nil, List.append_assoc]
theorem outL_len : ∀ L s, (outL L s).length = tot L + s.length
  | [], s => by simp [outL, tot]
  | p :: r, s => by
    show (outL r _).length = p.1 + tot r + _
    rw [outL_len r, List.length_append, List.length_replicate]
    omega
theorem outL_mid {r : List (Nat × Int)} {m : Nat} {d : Int} {t : List Int} (k : Nat) (h : tot r ≤ k) (h2 : k < tot r + m) : (outL ((m, d) :: r) t).getD k 0 = d := by
  show (outL r (List.replicate m d ++ t)).getD k 0 = d
  rw [outL_app]
  have e : (outL r []).length = tot r := by rw [outL_len]; rfl
  simp only [List.getD]
  rw [List.getElem?_append_right (by omega), e, List.getElem?_append_left (by rw [List.length_replicate]; omega), List.getElem?_replicate, if_pos (by omega)]
  rfl
theorem outL_up {r : List (Nat × Int)} {m : Nat} {d : Int} {t : List Int} (k : Nat) : upF (fun j => (outL ((m, d) :: r) t).getD j 0) (tot r) (tot r + m) k = (outL ((m, d + 1) :: r) t).getD k 0 := by
  unfold upF
  by_cases h : tot r ≤ k ∧ k < tot r + m
  · rw [if_pos h]
    show (outL ((m, d) :: r) t).getD k 0 + 1 = _
    rw [outL_mid k h.1 h.2, outL_mid k h.1 h.2]
  · rw [if_neg h]
    show (outL r (List.replicate m d ++ t)).getD k 0 = (outL r (List.replicate m (d + 1) ++ t)).getD k 0
    rw [outL_app r (List.replicate m d ++ t), outL_app r (List.replicate m (d + 1) ++ t)]
    have e : (outL r []).length = tot r := by rw [outL_len]; rfl
    simp only [List.getD]
    by_cases h1 : k < tot r
    · rw [List.getElem?_append_left (by omega), List.getElem?_append_left (by omega)]
    · have e2 : (List.replicate m d).length = m := List.length_replicate
      have e3 : (List.replicate m (d + 1)).length = m := List.length_replicate
      rw [List.getElem?_append_right (by omega), List.getElem?_append_right (l₁ := outL r []) (by omega), List.getElem?_append_right (l₁ := List.replicate m d) (by omega), List.getElem?_append_right (l₁ := List.replicate m (d + 1)) (by omega), e2, e3]
theorem outL_split {r : List (Nat × Int)} {m1 m2 : Nat} {d : Int} {t : List Int} : outL ((m2, d) :: (m1, d) :: r) t = outL ((m1 + m2, d) :: r) t := by
  show outL r (List.replicate m1 d ++ (List.replicate m2 d ++ t)) = outL r (List.replicate (m1 + m2) d ++ t)
  rw [← List.append_assoc, List.replicate_append_replicate]
theorem outL_single {r : List (Nat × Int)} {d : Int} {t : List Int} : outL ((1, d) :: r) t = outL r (d :: t) := rfl
theorem JJ.single {r : List (Nat × Int)} {d : Int} {t : List Int} (h : JJ ((1, d) :: r) t) : JJ r (d :: t) := h [d] rfl (.one d)
theorem JJ.split {r : List (Nat × Int)} {m1 m2 : Nat} {d : Int} {t : List Int} (h : JJ ((m1 + m2, d) :: r) t) : JJ ((m2, d + 1) :: (m1, d + 1) :: r) t := by
  intro l2 hl2 ht2 l1 hl1 ht1
  rw [← List.append_assoc]
  exact h (l1 ++ l2) (by rw [List.length_append, hl1, hl2]) (.two ht1 ht2)

def pv : List (Int × Int) → List Value
  | [] => []
  | p :: r => iv p.1 :: iv p.2 :: pv r
theorem pv_len : ∀ l, (pv l).length = l.length * 2
  | [] => rfl
  | p :: r => by simp [pv, pv_len r]; omega
theorem pv_app : ∀ l r, pv (l ++ r) = pv l ++ pv r
  | [], r => rfl
  | p :: l, r => by simp [pv, pv_app l r]
theorem pv_one : ∀ l, ∀ u ∈ pv l, u.oneCell' = true
  | [], u, h => by simp [pv] at h
  | p :: l, u, h => by
    simp only [pv, List.mem_cons] at h
    rcases h with rfl | rfl | h
    · rfl
    · rfl
    · exact pv_one l u h
theorem len_tot : ∀ L : List (Nat × Int), (∀ p ∈ L, 1 ≤ p.1) → L.length ≤ tot L
  | [], _ => Nat.le_refl _
  | p :: r, h => by
    have h1 := h p (by simp)
    have h2 := len_tot r fun q hq => h q (by simp [hq])
    simp only [List.length_cons, tot]
    omega
end Go.Proofs.Ytmbcinbkijnblaa

namespace Go.Proofs.Ytmbcinbkijnblaa
open Go.RowKit

theorem OwI.of_row {w0 w : World} {g cap n : Nat} {zs : List Int} {F : Nat → Value} (hr : w.rowIs g 3 cap F) (hF : ∀ j, j < n → F j = vI zs j) (hn : zs.length = n) (hle : n ≤ cap) (hc : cap ≤ maxLen) (hg : w0.heap.size ≤ g) (ho : Only (fun _ => False) w0 w) : OwI w0 w (.slice (some ⟨g, 0, none⟩) n cap) zs := by
  subst hn
  refine ⟨?_, ho⟩
  rw [← vals_mapI]
  exact own_mk hg hr hF hle hc
theorem pairs4 (w : World) (a b c d : Int) (t : TypeId) : ∀ j u, (pv [(a, b), (c, d)])[j]? = some u → (w.alloc (.cells #[.int .i64 a, .int .i64 b, .int .i64 c, .int .i64 d] t)).cell? ((⟨w.heap.size, 0, none⟩ : Addr).add j) = some u := by
  intro j u hu
  match j, hu with
  | 0, hu => simp [pv, iv] at hu; subst hu; simp [Addr.add]
  | 1, hu => simp [pv, iv] at hu; subst hu; simp [Addr.add]
  | 2, hu => simp [pv, iv] at hu; subst hu; simp [Addr.add]
  | 3, hu => simp [pv, iv] at hu; subst hu; simp [Addr.add]
  | j + 4, hu => simp [pv] at hu
theorem wrap_cut (a k : Nat) (h1 : a ≤ 1000) (h2 : k ≤ 1000) : IntKind.i64.wrap (IntKind.i64.wrap ((a : Int) + 1) + (k : Int)) = ((a + 1 + k : Nat) : Int) := by rw [IntKind.wrap_i64, IntKind.wrap_i64]; omega
/-- What grown answers. -/
def GrownE (n : Nat) (w : World) (e : Ending) (w' : World) : Prop :=
  ∃ l B c, e = .returned (.slice B n c) ∧ Hid (l.length = n) ∧ Hid (if n = 1 then l = [1] else Tr 0 l) ∧ Hid (OwI w w' (.slice B n c) l)

end Go.Proofs.Ytmbcinbkijnblaa

namespace Go.Proofs.Ytmbcinbkijnblaa
open Go.RowKit

theorem run_addI {w0 w : World} (ty : TypeId) {v : Value} {xs : List Int} (h : OwI w0 w v xs) {A : Option Addr} {n c : Nat} {ys : List Int} (hn : n = ys.length) (hA : A = none → n = 0 ∧ c = 0) (hr : RdI w A ys) (hb : xs.length + ys.length ≤ 16777216) :
    ∃ v' w', (Builtin.append_ #[22, 22] ty #[v, .slice A n c]).run Try.prog w = .ok v' w' ∧ OwI w0 w' v' (xs ++ ys) := by
  subst hn
  obtain ⟨i0, hi0, hz0, hz1, hz2⟩ := info_parts intInfoK
  cases A with
  | some ad =>
    obtain ⟨v', w', hrun, hown, hg, _, _⟩ := run_append_own_at (P := Try.prog) w w0.heap.size 22 ty 3 i0 (.int .i64 0) 1 8 Try.underlying22 hi0 hz0 hz1 hz2 rfl (by omega) v xs.length _ h.own ad ys.length c (ys.map iv) (by simp) (by rw [← vals_mapI]; exact hr.news ad rfl) (iv_one ys) (by unfold maxLen; omega) (by omega) h.only.size
    refine ⟨v', w', hrun, ⟨by rw [List.length_append, List.map_append]; exact hown, h.only.grown hg fun k e => .inr ?_⟩⟩
    rcases h.own.2 with ⟨rfl, _⟩ | ⟨g, cap, cur, rfl, hge, _⟩
    · cases e
    · simp [Value.ownBlock] at e; omega
  | none =>
    obtain ⟨h0, rfl⟩ := hA rfl
    obtain rfl : ys = [] := List.eq_nil_of_length_eq_zero h0
    exact ⟨v, w, run_append_owned_none (P := Try.prog) w w0.heap.size 22 ty 3 i0 1 Try.underlying22 hi0 v xs.length _ h.own, by simpa using h⟩
theorem wpList_addG {ops : Array Oper} {rest : List Oper} {o : Oper} {a : Act} {Q : Exit → Act → World → Prop} (w0 w : World) (hw : Region.wanted o (yielded ops a.tmps) = true) (s x : Operand)
    (hop : o.op = Op.call { callee := Callee.builtin Builtin.append, args := #[s, x], argTypes := #[22, 22] })
    (v : Value) (xs : List Int) (hs : a.eval s = v) (h : Hid (OwI w0 w v xs)) (A : Option Addr) (n c : Nat) (ys : List Int) (hx : a.eval x = .slice A n c) (hn : n = ys.length) (hA : Hid (A = none → n = 0 ∧ c = 0)) (hr : Hid (RdI w A ys)) (hb : xs.length + ys.length ≤ 16777216)
    (K : ∀ v' w', Hid (OwI w0 w' v' (xs ++ ys)) → wpList Try.prog ops Q rest (a.put o.dst v') w') :
    wpList Try.prog ops Q (o :: rest) a w := by
  refine wpList_step fun K' hK => ?_
  rw [if_pos hw]
  obtain ⟨v', w', hrun, hown⟩ := run_addI o.type h.out hn hA.out hr.out hb
  unfold Oper.wp
  simp [execOp, hop, resolve, invoke, builtin, hs, hx, hrun, Result.andThen]
  exact hK _ _ (K v' w' (hid hown))
theorem step_addI {ops : Array Oper} {o : Oper} {a : Act} {w : World} {K : Act → World → Prop} {Q : Exit → Act → World → Prop} {E : Prop} (hw : Region.wanted o (yielded ops a.tmps) = true) (w0 : World) (s x : Operand)
    (hop : o.op = Op.call { callee := Callee.builtin Builtin.append, args := #[s, x], argTypes := #[22, 22] })
    (v : Value) (xs : List Int) (hs : a.eval s = v) (h : Hid (OwI w0 w v xs)) (A : Option Addr) (n c : Nat) (ys : List Int) (hx : a.eval x = .slice A n c) (hn : n = ys.length) (hA : Hid (A = none → n = 0 ∧ c = 0)) (hr : Hid (RdI w A ys)) (hb : xs.length + ys.length ≤ 16777216)
    (K' : ∀ v' w', Hid (OwI w0 w' v' (xs ++ ys)) → K (a.put o.dst v') w') :
    if Region.wanted o (yielded ops a.tmps) = true then Oper.wp Try.prog o a w K Q else E := by
  rw [if_pos hw]
  obtain ⟨v', w', hrun, hown⟩ := run_addI o.type h.out hn hA.out hr.out hb
  unfold Oper.wp
  simp [execOp, hop, resolve, invoke, builtin, hs, hx, hrun, Result.andThen]
  exact K' v' w' (hid hown)
theorem OwI.rd {w0 w : World} {A : Option Addr} {n c : Nat} {zs : List Int} (h : OwI w0 w (.slice A n c) zs) : RdI w A zs ∧ n = zs.length ∧ (A = none → n = 0 ∧ c = 0) := by
  obtain ⟨A', c', e, h1, h2, _⟩ := h.shape
  injection e with e1 e2 e3
  subst e1
  subst e2
  subst e3
  exact ⟨h1, rfl, h2⟩
theorem OwI.put {w0 w : World} {A : Option Addr} {n c k : Nat} {zs : List Int} (h : OwI w0 w (.slice A n c) zs) (hk : k < n) : ∃ g, A = some ⟨g, 0, none⟩ ∧ w.cell? ⟨g, k, none⟩ = some (.int .i64 (zs.getD k 0)) ∧ w.frozen? ⟨g, k, none⟩ = false ∧ g < w.heap.size ∧ ∀ x : Int, OwI w0 (w.setCell ⟨g, k, none⟩ (.int .i64 x)) (.slice A n c) (zs.set k x) := by
  obtain ⟨A', c', e, _, _, hx, h1, h2⟩ := h.shape
  injection e with e1 e2 e3
  subst e1
  subst e2
  subst e3
  obtain ⟨g, F, rfl, hge, hr, hF, hle⟩ := hx (by omega)
  refine ⟨g, rfl, by rw [hr.cell (by omega), hF k hk]; rfl, hr.frozen k, hr.lt, fun x => ?_⟩
  refine OwI.of_row (hr.set k (.int .i64 x)) (fun j hj => ?_) (by simp) hle h2 hge (h.only.setCell (p := ⟨g, k, none⟩) (.inr hge) _)
  by_cases e : j = k
  · subst e
    rw [if_pos rfl]
    unfold vI
    simp [List.getD, hj]
  · rw [if_neg e, hF j hj]
    unfold vI
    simp only [List.getD, List.getElem?_set]
    rw [if_neg (fun h => e h.symm)]
theorem fits_of {A : Option Addr} {c n : Nat} {zs : List Int} {u : World} (hz : RdI u A zs) (hi : InI zs) (hn : n = zs.length) (hl : n ≤ 1000000) :
    Calls Try.prog 43 #[.slice A n c] u fun e w' => e = .returned (.bool (fitB zs)) ∧ StO u w' := by
  subst hn
  exact fits_any hz hi (by omega)

/-! What is filled. -/
theorem tr_inI {l : List Int} (h : Tr 0 l) (hl : l.length ≤ 1000000) : InI l := fun z hz => by
  have := h.ge z hz
  omega
theorem fil_take {l : List Int} {k : Nat} (hk : k < l.length) : fil 40 (l.take (k + 1)) = fil 40 (l.take k) + 2 ^ (40 - (l.getD k 0).toNat) := by
  rw [take_getD hk, fil_append]
  simp [fil]
theorem fil_le {l : List Int} (k : Nat) : fil 40 (l.take k) ≤ fil 40 l := by
  have h : fil 40 l = fil 40 (l.take k) + fil 40 (l.drop k) := by rw [← fil_append, List.take_append_drop]
  omega
theorem fil_set {l : List Int} {k : Nat} (hk : k < l.length) (h0 : 0 ≤ l.getD k 0) (h1 : l.getD k 0 ≤ 39) : fil 40 (l.set k (l.getD k 0 + 1)) < fil 40 l := by
  have e1 : l = l.take k ++ l.getD k 0 :: l.drop (k + 1) := by
    have : l.drop k = l.getD k 0 :: l.drop (k + 1) := by
      rw [List.drop_eq_getElem_cons hk]
      simp [List.getD, hk]
    rw [← this, List.take_append_drop]
  have e2 : l.set k (l.getD k 0 + 1) = l.take k ++ (l.getD k 0 + 1) :: l.drop (k + 1) := List.set_eq_take_append_cons_drop .. ▸ (by rw [if_pos hk])
  generalize l.getD k 0 = e at *
  have f1 : fil 40 l = fil 40 (l.take k) + (2 ^ (40 - e.toNat) + fil 40 (l.drop (k + 1))) := by
    conv => lhs; rw [e1]
    rw [fil_append]
    rfl
  rw [e2, fil_append, f1]
  show fil 40 (l.take k) + (2 ^ (40 - (e + 1).toNat) + fil 40 (l.drop (k + 1))) < _
  have hlt : 2 ^ (40 - (e + 1).toNat) < 2 ^ (40 - e.toNat) := Nat.pow_lt_pow_right (by omega) (by omega)
  omega
theorem set_not {l : List Int} {k : Nat} (h : Tr 0 l) (h2 : 2 ≤ l.length) (hl : l.length ≤ 40) (hk : k < l.length) : fitB (l.set k (l.getD k 0 + 1)) = false := by
  have hg := h.ge _ (getD_mem hk)
  cases hf : fitB (l.set k (l.getD k 0 + 1)) with
  | false => rfl
  | true =>
    rcases fitB_true.1 hf with ⟨h3, _⟩ | ⟨_, _, h4⟩
    · rw [List.length_set] at h3; omega
    · have a := h.fil 40 (by omega) (by omega)
      have b := h4.fil 40 (by omega) (by rw [List.length_set]; omega)
      have c := fil_set hk (by omega) (by omega)
      omega
theorem more_not {l : List Int} {e : Int} (h : Tr 0 l) (h2 : 2 ≤ l.length) (hl : l.length ≤ 40) : fitB (l ++ [e]) = false := by
  cases hf : fitB (l ++ [e]) with
  | false => rfl
  | true =>
    rcases fitB_true.1 hf with ⟨h3, _⟩ | ⟨_, _, h4⟩
    · have : (l ++ [e]).length = l.length + 1 := by simp
      omega
    · have a := h.fil 40 (by omega) (by omega)
      have b := h4.fil 40 (by omega) (by have : (l ++ [e]).length = l.length + 1 := by simp
                                         omega)
      rw [fil_append] at b
      have : 0 < 2 ^ (40 - e.toNat) := Nat.pow_pos (by omega)
      simp only [fil] at b
      omega

theorem OwI.made {w0 w : World} {v : Value} {zs : List Int} {n : Nat} (h : OwI w0 w v zs) (hl : zs.length = n) : ∃ A c, v = .slice A n c ∧ Hid (OwI w0 w (.slice A n c) zs) := by
  subst hl
  obtain ⟨A, c, rfl, _⟩ := h.shape
  exact ⟨A, c, rfl, hid h⟩
theorem OwI.more {w0 w : World} {v : Value} {l : List Int} {j p : Nat} {e0 : Int} (he : e0 = l.getD p 0) (h : OwI w0 w v ([] ++ l)) (hl : l.length = j) (hp : p < j) :
    ∃ g c, v = .slice (some ⟨g, 0, none⟩) j c ∧ w.cell? ⟨g, p, none⟩ = some (.int .i64 e0) ∧ w.frozen? ⟨g, p, none⟩ = false ∧ g < w.heap.size ∧ Hid (∀ x : Int, OwI w0 (w.setCell ⟨g, p, none⟩ (.int .i64 x)) (.slice (some ⟨g, 0, none⟩) j c) (l.set p x)) := by
  subst he
  rw [List.nil_append] at h
  obtain ⟨A, c, rfl, _⟩ := h.shape
  rw [hl] at h
  obtain ⟨g, rfl, h1, h2, h3, h4⟩ := h.put hp
  rw [hl]
  exact ⟨g, c, rfl, h1, h2, h3, hid h4⟩
theorem set_inI {l : List Int} {k : Nat} (h : Tr 0 l) (hl : l.length ≤ 40) (hk : k < l.length) : InI (l.set k (l.getD k 0 + 1)) := fun z hz => by
  have hg := h.ge _ (getD_mem hk)
  rcases List.mem_or_eq_of_mem_set hz with hz | rfl
  · have := h.ge z hz
    omega
  · omega
theorem two40 : 2 ^ (40 - (0 : Int).toNat) = 1099511627776 := by decide
theorem fil_wrap {f0 f1 x : Nat} (h : f1 = f0 + 2 ^ (40 - x)) (hb : f1 ≤ 1099511627776) : wrap64 ((f0 : Int) + wrap64 ((2 : Int) ^ (40 - x))) = (f1 : Int) := by
  have e : (2 : Int) ^ (40 - x) = ((2 ^ (40 - x) : Nat) : Int) := by simp
  rw [e]
  generalize 2 ^ (40 - x) = p at *
  unfold wrap64
  omega
end Go.Proofs.Ytmbcinbkijnblaa

namespace Go.Proofs.Ytmbcinbkijnblaa
open Go.RowKit

theorem wt_rev {l : List Int} {k : Nat} (hk : k < l.length) : wt l.reverse k = wt l (l.length - 1 - k) := by
  unfold wt
  simp only [List.getD]
  rw [List.getElem?_reverse hk]
/-- Turned round, the same cost. -/
theorem wsum_rev (w : Nat → Int) : ∀ (ls : List Int) (a : Nat), wsum (fun k => w (a + ls.length - 1 - k)) 0 ls.reverse = wsum w a ls
  | [], a => rfl
  | x :: t, a => by
    have ih := wsum_rev w t (a + 1)
    rw [List.reverse_cons, wsum_append, List.length_reverse]
    have e1 : wsum (fun k => w (a + (x :: t).length - 1 - k)) 0 t.reverse = wsum (fun k => w (a + 1 + t.length - 1 - k)) 0 t.reverse := by
      congr 1
      funext k
      congr 1
      simp only [List.length_cons]
      omega
    rw [e1, ih]
    show wsum w (a + 1) t + (w (a + (t.length + 1) - 1 - (0 + t.length)) * x + 0) = w a * x + wsum w (a + 1) t
    have e2 : a + (t.length + 1) - 1 - (0 + t.length) = a := by omega
    rw [e2]
    omega
theorem wsum_congr {w v : Nat → Int} : ∀ (ls : List Int) (a : Nat), (∀ k, a ≤ k → k < a + ls.length → w k = v k) → wsum w a ls = wsum v a ls
  | [], _, _ => rfl
  | x :: t, a, h => by
    show w a * x + wsum w (a + 1) t = v a * x + wsum v (a + 1) t
    rw [h a (Nat.le_refl _) (by simp only [List.length_cons]; omega), wsum_congr t (a + 1) fun k k1 k2 => h k (by omega) (by simp only [List.length_cons]; omega)]
theorem costL_rev {w l : List Int} (h : w.length = l.length) : costL w.reverse l.reverse = costL w l := by
  unfold costL
  rw [← wsum_rev (wt w) l 0]
  refine wsum_congr _ _ fun k _ k2 => ?_
  rw [List.length_reverse] at k2
  rw [wt_rev (by omega)]
  congr 1
  omega
theorem fit_rev {l : List Int} (h : Fit l) : Fit l.reverse := by
  rcases h with ⟨h1, rfl⟩ | ⟨h1, h2, h3⟩
  · exact .inl ⟨rfl, rfl⟩
  · exact .inr ⟨by rw [List.length_reverse]; exact h1, by rw [List.length_reverse]; exact h2, h3.reverse⟩
theorem isW_rev {l : List Int} (h : isW l = true) : isW l.reverse = true := by
  unfold isW at h ⊢
  rw [List.length_reverse, List.all_reverse]
  exact h
theorem best_rev {w : List Int} (h : isW w = true) : costL w.reverse (bestL w.reverse) = costL w (bestL w) := by
  have h1 := bestL_least (w := w.reverse) (l := (bestL w).reverse) (by rw [List.length_reverse, List.length_reverse, bestL_len]) (fit_rev (bestL_fit h))
  rw [costL_rev (by rw [bestL_len])] at h1
  have h2 := bestL_least (w := w) (l := (bestL w.reverse).reverse) (by rw [List.length_reverse, bestL_len, List.length_reverse]) (fit_rev (bestL_fit (isW_rev h)))
  have h3 : costL w (bestL w.reverse).reverse = costL w.reverse (bestL w.reverse) := by
    have := costL_rev (w := w.reverse) (l := bestL w.reverse) (by rw [bestL_len])
    rw [List.reverse_reverse] at this
    exact this
  omega
theorem okC_of {w l : List Int} (hw : isW w = true) (hf : Fit l) (hl : w.length = l.length) : okC w l = true := by
  unfold okC
  rw [hw, fitB_true.2 hf, decide_eq_true hl]
  rfl
theorem costE_of {w l : List Int} (hw : isW w = true) (hf : Fit l) (hl : w.length = l.length) : costE w l = .tuple #[.int .i64 (costL w l), .int .i64 0] := by
  unfold costE
  rw [if_pos (okC_of hw hf hl)]
theorem fit_inI {l : List Int} (h : Fit l) : InI l := fun z hz => by
  have := h.small z hz
  omega
theorem rev_take {l : List Int} {k : Nat} (h : k < l.length) : (l.drop k).reverse = (l.drop (k + 1)).reverse ++ [l.getD k 0] := by
  rw [List.drop_eq_getElem_cons h, List.reverse_cons]
  simp [List.getD, h]
theorem cost_of {A B : Option Addr} {c1 c2 n m : Nat} {ws ls : List Int} {u : World} (hw : RdI u A ws) (hl : RdI u B ls) (hi : InI ls) (hn : n = ws.length) (hm : m = ls.length) (h1 : n ≤ 1000000) (h2 : m ≤ 1000000) :
    Calls Try.prog 41 #[.slice A n c1, .slice B m c2] u fun e w' => e = .returned (costE ws ls) ∧ StO u w' := by
  subst hn
  subst hm
  exact cost_any hw hl hi (by omega) (by omega)
/-- Lengths of weights. -/
theorem len_ok {A : Option Addr} {c n : Nat} {zs : List Int} {u : World} (hw : isW zs = true) (hz : RdI u A zs) (hn : n = zs.length) : Calls Try.prog 10 #[.slice A n c] u fun e w' => ∃ B c', e = .returned (.tuple #[.slice B n c', .int .i64 0]) ∧ Hid (RdI w' B (bestL zs)) ∧ StO u w' := by
  have h := isW_of hw
  subst hn
  refine (Lengths_any (cap := c) hz (by omega)).mono ?_
  rintro e w' ⟨B, n, c2, he, hn, hc, hr, _, _, ho⟩
  have hn := hn.out
  have hr := hr.out
  rw [hw, if_pos rfl] at hn hr
  rw [hw, if_pos rfl] at he
  rw [bestL_len] at hn
  subst hn
  exact ⟨B, c2, he, hid hr, ho⟩

end Go.Proofs.Ytmbcinbkijnblaa

namespace Go.Proofs.Ytmbcinbkijnblaa
open Go.RowKit

/-- Two slices of the call's own that lie apart. -/
structure TwoI (wb w : World) (v : Value) (xs : List Int) (u : Value) (ys : List Int) : Prop where
  a : OwI wb w v xs
  b : OwI wb w u ys
  ne : ∀ g, v.ownBlock = some g → u.ownBlock ≠ some g
theorem TwoI.swap {wb w : World} {v u : Value} {xs ys : List Int} (h : TwoI wb w v xs u ys) : TwoI wb w u ys v xs := ⟨h.b, h.a, fun g h1 h2 => h.ne g h2 h1⟩
theorem TwoI.st {wb w w' : World} {v u : Value} {xs ys : List Int} (h : TwoI wb w v xs u ys) (ho : Only (fun _ => False) w w') : TwoI wb w' v xs u ys := ⟨h.a.carry ho, h.b.carry ho, h.ne⟩
theorem TwoI.nil {w : World} : TwoI w w (.slice none 0 0) [] (.slice none 0 0) [] := ⟨OwI.nil (Only.refl _ w), OwI.nil (Only.refl _ w), fun g h => by cases h⟩
theorem OwI.block_lt {wb w : World} {u : Value} {ys : List Int} (h : OwI wb w u ys) {g : Nat} (hg : u.ownBlock = some g) : g < w.heap.size := by
  rcases h.own.2 with ⟨rfl, _⟩ | ⟨b, cap, cur, rfl, hge, hh, _⟩
  · cases hg
  · simp [Value.ownBlock] at hg
    subst hg
    rcases Nat.lt_or_ge b w.heap.size with a | a
    · exact a
    · rw [Array.getElem?_eq_none a] at hh; cases hh
theorem wpList_add2 {ops : Array Oper} {rest : List Oper} {o : Oper} {a : Act} {Q : Exit → Act → World → Prop} (wb w : World) (hgd : o.guard = none) (s x : Operand)
    (hop : o.op = Op.call { callee := Callee.builtin Builtin.append, args := #[s, x], argTypes := #[22, 22] })
    (v : Value) (xs : List Int) (u : Value) (ys : List Int) (hs : a.eval s = v) (h : Hid (TwoI wb w v xs u ys)) (ad : Addr) (c : Nat) (z : Int) (hx : a.eval x = .slice (some ad) 1 c) (hr : Hid (RdI w (some ad) [z])) (hb : xs.length ≤ 16777000)
    (K : ∀ v' w', Hid (TwoI wb w' v' (xs ++ [z]) u ys) → wpList Try.prog ops Q rest (a.put o.dst v') w') :
    wpList Try.prog ops Q (o :: rest) a w := by
  obtain ⟨i0, hi0, hz0, hz1, hz2⟩ := info_parts intInfoK
  refine wpList_append_own_at w hgd s x 22 hop wb.heap.size 3 i0 (.int .i64 0) 1 8 Try.underlying22 hi0 hz0 hz1 hz2 rfl (by omega) v xs.length _ hs h.out.a.own ad 1 c ([z].map iv) hx (by simp) (by rw [← vals_mapI]; exact hr.out.news ad rfl) (iv_one [z]) (by unfold maxLen; omega) (by omega) h.out.a.only.size ?_
  intro v' w' hown hg _ hat
  have hab : ∀ k, v.ownBlock = some k → wb.heap.size ≤ k := fun k e => by
    rcases h.out.a.own.2 with ⟨rfl, _⟩ | ⟨g, cap, cur, rfl, hge, _⟩
    · cases e
    · simp [Value.ownBlock] at e; omega
  have ho : Only (fun _ => False) wb w' := h.out.a.only.grown hg fun k e => .inr (hab k e)
  refine K v' w' (hid ⟨⟨by rw [List.length_append, List.map_append]; exact hown, ho⟩, ⟨⟨h.out.b.own.1, ?_⟩, ho⟩, fun g h1 h2 => ?_⟩)
  · rcases h.out.b.own.2 with h0 | ⟨g, cap, cur, e, hge, hh, hrest⟩
    · exact .inl h0
    · refine .inr ⟨g, cap, cur, e, hge, ?_, hrest⟩
      have hg1 : u.ownBlock = some g := by rw [e]; rfl
      have hlt := h.out.b.block_lt hg1
      rw [hg.block g hlt (fun e2 => h.out.ne g e2.symm hg1)]
      exact hh
  · have hlt := h.out.b.block_lt h2
    rcases hat with e | e
    · exact h.out.ne g (by rw [← e]; exact h1) h2
    · rw [e] at h1
      injection h1 with h1
      omega
theorem wpListIn_add2 {F : Fence} {nF : Nat} {ops : Array Oper} {rest : List Oper} {o : Oper} {a : Act} {Q : Exit → Act → World → Prop} (wb w : World) (hgd : o.guard = none) (s x : Operand)
    (hop : o.op = Op.call { callee := Callee.builtin Builtin.append, args := #[s, x], argTypes := #[22, 22] })
    (v : Value) (xs : List Int) (u : Value) (ys : List Int) (hs : a.eval s = v) (h : Hid (TwoI wb w v xs u ys)) (ad : Addr) (c : Nat) (z : Int) (hx : a.eval x = .slice (some ad) 1 c) (hr : Hid (RdI w (some ad) [z])) (hb : xs.length ≤ 16777000)
    (K : ∀ v' w', Hid (TwoI wb w' v' (xs ++ [z]) u ys) → wpListIn F nF Try.prog ops Q rest (a.put o.dst v') w') :
    wpListIn F nF Try.prog ops Q (o :: rest) a w := by
  obtain ⟨i0, hi0, hz0, hz1, hz2⟩ := info_parts intInfoK
  refine wpListIn_append_own_at w hgd s x 22 hop wb.heap.size 3 i0 (.int .i64 0) 1 8 Try.underlying22 hi0 hz0 hz1 hz2 rfl (by omega) v xs.length _ hs h.out.a.own ad 1 c ([z].map iv) hx (by simp) (by rw [← vals_mapI]; exact hr.out.news ad rfl) (iv_one [z]) (by unfold maxLen; omega) (by omega) h.out.a.only.size ?_
  intro v' w' hown hg _ hat
  have hab : ∀ k, v.ownBlock = some k → wb.heap.size ≤ k := fun k e => by
    rcases h.out.a.own.2 with ⟨rfl, _⟩ | ⟨g, cap, cur, rfl, hge, _⟩
    · cases e
    · simp [Value.ownBlock] at e; omega
  have ho : Only (fun _ => False) wb w' := h.out.a.only.grown hg fun k e => .inr (hab k e)
  refine K v' w' (hid ⟨⟨by rw [List.length_append, List.map_append]; exact hown, ho⟩, ⟨⟨h.out.b.own.1, ?_⟩, ho⟩, fun g h1 h2 => ?_⟩)
  · rcases h.out.b.own.2 with h0 | ⟨g, cap, cur, e, hge, hh, hrest⟩
    · exact .inl h0
    · refine .inr ⟨g, cap, cur, e, hge, ?_, hrest⟩
      have hg1 : u.ownBlock = some g := by rw [e]; rfl
      have hlt := h.out.b.block_lt hg1
      rw [hg.block g hlt (fun e2 => h.out.ne g e2.symm hg1)]
      exact hh
  · have hlt := h.out.b.block_lt h2
    rcases hat with e | e
    · exact h.out.ne g (by rw [← e]; exact h1) h2
    · rw [e] at h1
      injection h1 with h1
      omega
end Go.Proofs.Ytmbcinbkijnblaa
