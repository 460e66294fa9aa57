/- TuckerFull: lengths that fit fill a row of all ways. -/
import Derived.Test.YthfnpgmjbfbocaaTkC
namespace Go.Proofs.Ythfnpgmjbfbocaa
open Go.RowKit

theorem run_addI {w0 w : World} (ty : TypeId) {v : Value} {xs : List Int} (h : OwI w0 w v xs) {A : Option Addr} {n c : Nat} {ys : List Int} (hn : n = ys.length) (hA : A = none → n = 0 ∧ c = 0) (hr : RdI w A ys) (hb : xs.length + ys.length ≤ 16777216) :
    ∃ v' w', (Builtin.append_ #[22, 22] ty #[v, .slice A n c]).run Try.prog w = .ok v' w' ∧ OwI w0 w' v' (xs ++ ys) := by
  subst hn
  obtain ⟨i0, hi0, hz0, hz1, hz2⟩ := info_parts intInfoK
  cases A with
  | some ad =>
    obtain ⟨v', w', hrun, hown, hg, _, _⟩ := run_append_own_at (P := Try.prog) w w0.heap.size 22 ty 3 i0 (.int .i64 0) 1 8 Try.underlying22 hi0 hz0 hz1 hz2 rfl (by omega) v xs.length _ h.own ad ys.length c (ys.map iv) (by simp) (by rw [← vals_mapI]; exact hr.news ad rfl) (iv_one ys) (by unfold maxLen; omega) (by omega) h.only.size
    refine ⟨v', w', hrun, ⟨by rw [List.length_append, List.map_append]; exact hown, h.only.grown hg fun k e => .inr ?_⟩⟩
    rcases h.own.2 with ⟨rfl, _⟩ | ⟨g, cap, cur, rfl, hge, _⟩
    · cases e
    · simp [Value.ownBlock] at e; omega
  | none =>
    obtain ⟨h0, rfl⟩ := hA rfl
    obtain rfl : ys = [] := List.eq_nil_of_length_eq_zero h0
    exact ⟨v, w, run_append_owned_none (P := Try.prog) w w0.heap.size 22 ty 3 i0 1 Try.underlying22 hi0 v xs.length _ h.own, by simpa using h⟩
theorem wpList_addG {ops : Array Oper} {rest : List Oper} {o : Oper} {a : Act} {Q : Exit → Act → World → Prop} (w0 w : World) (hw : Region.wanted o (yielded ops a.tmps) = true) (s x : Operand)
    (hop : o.op = Op.call { callee := Callee.builtin Builtin.append, args := #[s, x], argTypes := #[22, 22] })
    (v : Value) (xs : List Int) (hs : a.eval s = v) (h : Hid (OwI w0 w v xs)) (A : Option Addr) (n c : Nat) (ys : List Int) (hx : a.eval x = .slice A n c) (hn : n = ys.length) (hA : Hid (A = none → n = 0 ∧ c = 0)) (hr : Hid (RdI w A ys)) (hb : xs.length + ys.length ≤ 16777216)
    (K : ∀ v' w', Hid (OwI w0 w' v' (xs ++ ys)) → wpList Try.prog ops Q rest (a.put o.dst v') w') :
    wpList Try.prog ops Q (o :: rest) a w := by
  refine wpList_step fun K' hK => ?_
  rw [if_pos hw]
  obtain ⟨v', w', hrun, hown⟩ := run_addI o.type h.out hn hA.out hr.out hb
  unfold Oper.wp
  simp [execOp, hop, resolve, invoke, builtin, hs, hx, hrun, Result.andThen]
  exact hK _ _ (K v' w' (hid hown))
theorem step_addI {ops : Array Oper} {o : Oper} {a : Act} {w : World} {K : Act → World → Prop} {Q : Exit → Act → World → Prop} {E : Prop} (hw : Region.wanted o (yielded ops a.tmps) = true) (w0 : World) (s x : Operand)
    (hop : o.op = Op.call { callee := Callee.builtin Builtin.append, args := #[s, x], argTypes := #[22, 22] })
    (v : Value) (xs : List Int) (hs : a.eval s = v) (h : Hid (OwI w0 w v xs)) (A : Option Addr) (n c : Nat) (ys : List Int) (hx : a.eval x = .slice A n c) (hn : n = ys.length) (hA : Hid (A = none → n = 0 ∧ c = 0)) (hr : Hid (RdI w A ys)) (hb : xs.length + ys.length ≤ 16777216)
    (K' : ∀ v' w', Hid (OwI w0 w' v' (xs ++ ys)) → K (a.put o.dst v') w') :
    if Region.wanted o (yielded ops a.tmps) = true then Oper.wp Try.prog o a w K Q else E := by
  rw [if_pos hw]
  obtain ⟨v', w', hrun, hown⟩ := run_addI o.type h.out hn hA.out hr.out hb
  unfold Oper.wp
  simp [execOp, hop, resolve, invoke, builtin, hs, hx, hrun, Result.andThen]
  exact K' v' w' (hid hown)
theorem OwI.rd {w0 w : World} {A : Option Addr} {n c : Nat} {zs : List Int} (h : OwI w0 w (.slice A n c) zs) : RdI w A zs ∧ n = zs.length ∧ (A = none → n = 0 ∧ c = 0) := by
  obtain ⟨A', c', e, h1, h2, _⟩ := h.shape
  injection e with e1 e2 e3
  subst e1
  subst e2
  subst e3
  exact ⟨h1, rfl, h2⟩
theorem OwI.put {w0 w : World} {A : Option Addr} {n c k : Nat} {zs : List Int} (h : OwI w0 w (.slice A n c) zs) (hk : k < n) : ∃ g, A = some ⟨g, 0, none⟩ ∧ w.cell? ⟨g, k, none⟩ = some (.int .i64 (zs.getD k 0)) ∧ w.frozen? ⟨g, k, none⟩ = false ∧ g < w.heap.size ∧ ∀ x : Int, OwI w0 (w.setCell ⟨g, k, none⟩ (.int .i64 x)) (.slice A n c) (zs.set k x) := by
  obtain ⟨A', c', e, _, _, hx, h1, h2⟩ := h.shape
  injection e with e1 e2 e3
  subst e1
  subst e2
  subst e3
  obtain ⟨g, F, rfl, hge, hr, hF, hle⟩ := hx (by omega)
  refine ⟨g, rfl, by rw [hr.cell (by omega), hF k hk]; rfl, hr.frozen k, hr.lt, fun x => ?_⟩
  refine OwI.of_row (hr.set k (.int .i64 x)) (fun j hj => ?_) (by simp) hle h2 hge (h.only.setCell (p := ⟨g, k, none⟩) (.inr hge) _)
  by_cases e : j = k
  · subst e
    rw [if_pos rfl]
    unfold vI
    simp [List.getD, hj]
  · rw [if_neg e, hF j hj]
    unfold vI
    simp only [List.getD, List.getElem?_set]
    rw [if_neg (fun h => e h.symm)]
theorem fits_of {A : Option Addr} {c n : Nat} {zs : List Int} {u : World} (hz : RdI u A zs) (hi : InI zs) (hn : n = zs.length) (hl : n ≤ 1000000) :
    Calls Try.prog 43 #[.slice A n c] u fun e w' => e = .returned (.bool (fitB zs)) ∧ StO u w' := by
  subst hn
  exact fits_any hz hi (by omega)

/-! What is filled. -/
theorem tr_inI {l : List Int} (h : Tr 0 l) (hl : l.length ≤ 1000000) : InI l := fun z hz => by
  have := h.ge z hz
  omega
theorem fil_take {l : List Int} {k : Nat} (hk : k < l.length) : fil 40 (l.take (k + 1)) = fil 40 (l.take k) + 2 ^ (40 - (l.getD k 0).toNat) := by
  rw [take_getD hk, fil_append]
  simp [fil]
theorem fil_le {l : List Int} (k : Nat) : fil 40 (l.take k) ≤ fil 40 l := by
  have h : fil 40 l = fil 40 (l.take k) + fil 40 (l.drop k) := by rw [← fil_append, List.take_append_drop]
  omega
theorem fil_set {l : List Int} {k : Nat} (hk : k < l.length) (h0 : 0 ≤ l.getD k 0) (h1 : l.getD k 0 ≤ 39) : fil 40 (l.set k (l.getD k 0 + 1)) < fil 40 l := by
  have e1 : l = l.take k ++ l.getD k 0 :: l.drop (k + 1) := by
    have : l.drop k = l.getD k 0 :: l.drop (k + 1) := by
      rw [List.drop_eq_getElem_cons hk]
      simp [List.getD, hk]
    rw [← this, List.take_append_drop]
  have e2 : l.set k (l.getD k 0 + 1) = l.take k ++ (l.getD k 0 + 1) :: l.drop (k + 1) := List.set_eq_take_append_cons_drop .. ▸ (by rw [if_pos hk])
  generalize l.getD k 0 = e at *
  have f1 : fil 40 l = fil 40 (l.take k) + (2 ^ (40 - e.toNat) + fil 40 (l.drop (k + 1))) := by
    conv => lhs; rw [e1]
    rw [fil_append]
    rfl
  rw [e2, fil_append, f1]
  show fil 40 (l.take k) + (2 ^ (40 - (e + 1).toNat) + fil 40 (l.drop (k + 1))) < _
  have hlt : 2 ^ (40 - (e + 1).toNat) < 2 ^ (40 - e.toNat) := Nat.pow_lt_pow_right (by omega) (by omega)
  omega
theorem set_not {l : List Int} {k : Nat} (h : Tr 0 l) (h2 : 2 ≤ l.length) (hl : l.length ≤ 40) (hk : k < l.length) : fitB (l.set k (l.getD k 0 + 1)) = false := by
  have hg := h.ge _ (getD_mem hk)
  cases hf : fitB (l.set k (l.getD k 0 + 1)) with
  | false => rfl
  | true =>
    rcases fitB_true.1 hf with ⟨h3, _⟩ | ⟨_, _, h4⟩
    · rw [List.length_set] at h3; omega
    · have a := h.fil 40 (by omega) (by omega)
      have b := h4.fil 40 (by omega) (by rw [List.length_set]; omega)
      have c := fil_set hk (by omega) (by omega)
      omega
theorem more_not {l : List Int} {e : Int} (h : Tr 0 l) (h2 : 2 ≤ l.length) (hl : l.length ≤ 40) : fitB (l ++ [e]) = false := by
  cases hf : fitB (l ++ [e]) with
  | false => rfl
  | true =>
    rcases fitB_true.1 hf with ⟨h3, _⟩ | ⟨_, _, h4⟩
    · have : (l ++ [e]).length = l.length + 1 := by simp
      omega
    · have a := h.fil 40 (by omega) (by omega)
      have b := h4.fil 40 (by omega) (by have : (l ++ [e]).length = l.length + 1 := by simp
                                         omega)
      rw [fil_append] at b
      have : 0 < 2 ^ (40 - e.toNat) := Nat.pow_pos (by omega)
      simp only [fil] at b
      omega

theorem OwI.made {w0 w : World} {v : Value} {zs : List Int} {n : Nat} (h : OwI w0 w v zs) (hl : zs.length = n) : ∃ A c, v = .slice A n c ∧ Hid (OwI w0 w (.slice A n c) zs) := by
  subst hl
  obtain ⟨A, c, rfl, _⟩ := h.shape
  exact ⟨A, c, rfl, hid h⟩
theorem OwI.more {w0 w : World} {v : Value} {l : List Int} {j p : Nat} {e0 : Int} (he : e0 = l.getD p 0) (h : OwI w0 w v ([] ++ l)) (hl : l.length = j) (hp : p < j) :
    ∃ g c, v = .slice (some ⟨g, 0, none⟩) j c ∧ w.cell? ⟨g, p, none⟩ = some (.int .i64 e0) ∧ w.frozen? ⟨g, p, none⟩ = false ∧ g < w.heap.size ∧ Hid (∀ x : Int, OwI w0 (w.setCell ⟨g, p, none⟩ (.int .i64 x)) (.slice (some ⟨g, 0, none⟩) j c) (l.set p x)) := by
  subst he
  rw [List.nil_append] at h
  obtain ⟨A, c, rfl, _⟩ := h.shape
  rw [hl] at h
  obtain ⟨g, rfl, h1, h2, h3, h4⟩ := h.put hp
  rw [hl]
  exact ⟨g, c, rfl, h1, h2, h3, hid h4⟩
theorem set_inI {l : List Int} {k : Nat} (h : Tr 0 l) (hl : l.length ≤ 40) (hk : k < l.length) : InI (l.set k (l.getD k 0 + 1)) := fun z hz => by
  have hg := h.ge _ (getD_mem hk)
  rcases List.mem_or_eq_of_mem_set hz with hz | rfl
  · have := h.ge z hz
    omega
  · omega
theorem two40 : 2 ^ (40 - (0 : Int).toNat) = 1099511627776 := by decide
theorem fil_wrap {f0 f1 x : Nat} (h : f1 = f0 + 2 ^ (40 - x)) (hb : f1 ≤ 1099511627776) : wrap64 ((f0 : Int) + wrap64 ((2 : Int) ^ (40 - x))) = (f1 : Int) := by
  have e : (2 : Int) ^ (40 - x) = ((2 ^ (40 - x) : Nat) : Int) := by simp
  rw [e]
  generalize 2 ^ (40 - x) = p at *
  unfold wrap64
  omega
end Go.Proofs.Ythfnpgmjbfbocaa
