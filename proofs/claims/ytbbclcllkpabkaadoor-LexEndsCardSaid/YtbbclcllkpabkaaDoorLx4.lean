/- A reader of a line: signs put; the library's ParseUint of up to eight digits. -/
import Derived.Test.YtbbclcllkpabkaaDoorLx3
import Derived.Deep.Upon
namespace Go.Proofs.YtbbclcllkpabkaaDoor.X
open Go.RowKit Go.Lib U G

theorem wpList_addNil {ops : Array Oper} {rest : List Oper} {o : Oper} {a : Act} {Q : Exit → Act → World → Prop} (w : World) (t e : TypeId) (z : Value) (bytes : Nat) (ht : Tryd.prog.underlying t = some (.slice e)) (hinfo : (Tryd.prog.info? e).map (fun i => (i.zero, i.size, i.bytes)) = some (some z, 1, bytes))
    (hgd : o.guard = none) (s x : Operand) (hop : o.op = Op.call { callee := Callee.builtin Builtin.append, args := #[s, x], argTypes := #[t, t] })
    (base : Option Addr) (m cap c : Nat) (hs : a.eval s = .slice base m cap) (hle : m ≤ cap) (hx : a.eval x = .slice none 0 c)
    (K : wpList Tryd.prog ops Q rest (a.put o.dst (.slice base m cap)) w) :
    wpList Tryd.prog ops Q (o :: rest) a w := by
  obtain ⟨i0, hi0, _⟩ := info_parts hinfo
  have hr := run_append_nothing (P := Tryd.prog) w t t o.type e i0 ht hi0 base m cap hle (.slice none 0 c) (Go.Src.ofNil w ht c)
  refine wpList_plain hgd fun K' hK => ?_
  unfold Oper.wp execOp
  simp only [hop, resolve, invoke, builtin, Sem.run_bind, Sem.run_pure, Result.andThen_ok, List.map_toArray, List.map_cons, List.map_nil, hs, hx, hr]
  exact hK _ _ K
theorem wpList_addAs {ops : Array Oper} {rest : List Oper} {o : Oper} {a : Act} {Q : Exit → Act → World → Prop} (w0 w : World) (t e : TypeId) (z : Value) (bytes : Nat) (ht : Tryd.prog.underlying t = some (.slice e)) (hinfo : (Tryd.prog.info? e).map (fun i => (i.zero, i.size, i.bytes)) = some (some z, 1, bytes)) (hby : bytes ≤ 24)
    (hz1 : z.cells = #[z]) (hgd : o.guard = none) (s x : Operand) (hop : o.op = Op.call { callee := Callee.builtin Builtin.append, args := #[s, x], argTypes := #[t, t] })
    (v : Value) (xs : List Value) (hs : a.eval s = v) (h : Hid (OwG e w0 w v xs)) (ys : List Value) (hy : ∀ y ∈ ys, y.oneCell' = true) (ad : Addr) (n c : Nat) (hx : a.eval x = .slice (some ad) n c) (hn : ys.length = n) (hb : xs.length + n ≤ 1000000) (hrd : Hid (∀ j y, ys[j]? = some y → w.cell? (ad.add j) = some y))
    (K : ∀ v' w', Hid (OwG e w0 w' v' (xs ++ ys)) → Hid (FrT (fun k => k = e) w0.heap.size w w') → wpList Tryd.prog ops Q rest (a.put o.dst v') w') :
    wpList Tryd.prog ops Q (o :: rest) a w := by
  obtain ⟨i0, hi0, hq0, hq1, hq2⟩ := info_parts hinfo
  refine wpList_append_own_at w hgd s x t hop w0.heap.size e i0 z 1 bytes ht hi0 hq0 hq1 hq2 (by rw [hz1]; rfl) (by omega) v xs.length _ hs h.out.own ad n c ys hx (by omega) hrd.out hy (by unfold maxLen; omega) (Nat.le_trans (Nat.mul_le_mul (show xs.length + n ≤ 1000000 by omega) hby) (by decide)) h.out.ge ?_
  intro v' w' hown hg _ hat
  refine K v' w' (hid ⟨by rw [List.length_append, hn]; exact hown, Nat.le_trans h.out.ge hg.size⟩) (hid ((FrT.refl _ _ w).grown hg fun k hk => ?_))
  have := own_block h.out.own hk
  exact ⟨this.1, this.2.2 _ rfl⟩
theorem ivs_app (a b : List Nat) : ivs (a ++ b) = ivs a ++ ivs b := by simp [ivs]
theorem RdS.end_ {w0 w w1 : World} {c : Nat} {s : ByteArray} {a : Nat} {ns ys : List Nat} {v v' : Value} (h : RdS w0 w c s a ns) (hr : RwS w c s a v) (hown : OwG 3 w0 w1 v' (ivs (ns ++ ys))) (o : FrT (fun k => k = 3) w0.heap.size w w1) :
    RwS w1 c s a v ∧ RdS w0 (w1.setCell ⟨c, 2, none⟩ v') c s a (ns ++ ys) ∧ FrT Tr w0.heap.size w (w1.setCell ⟨c, 2, none⟩ v') := by
  have h1 : RwS w1 c s a v := o.row hr (by decide)
  have h2 : FrT Tr w0.heap.size w (w1.setCell ⟨c, 2, none⟩ v') := FrT.setCell (T := Tr) (p := ⟨c, 2, none⟩) (o.mono (T' := Tr) (fun t ht => Or.inr ht) (Nat.le_refl _)) h.ge (TyAt.of_row (T := Tr) h1 (Or.inl rfl)) _
  refine ⟨h1, ⟨h.ge, ⟨v', h1.put v', hown.fr (S := fun j => j = c) (Only.setCell (S := fun j => j = c) (p := ⟨c, 2, none⟩) (Only.refl _ w1) (Or.inl rfl) _) fun j hj _ => ty_ne h1 (by decide) j hj⟩, frx_only h.only h2⟩, h2⟩
def PutE (w0 w : World) (c : Nat) (s : ByteArray) (a : Nat) (ns : List Nat) (w' : World) : Prop := Hid (RdS w0 w' c s a ns ∧ FrT Tr w0.heap.size w w')
set_option maxHeartbeats 1000000 in
theorem put_some {w0 w : World} {c : Nat} {s : ByteArray} {a n cap : Nat} {ns ys : List Nat} {ad : Addr} (h : RdS w0 w c s a ns) (hy : ∀ j y, (ivs ys)[j]? = some y → w.cell? (ad.add j) = some y) (hn : ys.length = n) (hl : ns.length + n ≤ 500000) :
    Calls Tryd.prog 59 #[.pointer (some ⟨c, 0, none⟩), .slice (some ad) n cap] w fun e w' => e = .returned (.tuple #[]) ∧ PutE w0 w c s a (ns ++ ys) w' := by
  obtain ⟨v, hr, hown⟩ := h.at_
  have d2 := hr.cells.2.2
  obtain ⟨A0, cap0, hv, _⟩ := hown.rd
  have HO := hid hown
  have HE : Hid (∀ v' w1, OwG 3 w0 w1 v' (ivs (ns ++ ys)) → FrT (fun k => k = 3) w0.heap.size w w1 → w1.cell? ⟨c, 2, none⟩ = some v ∧ c < w1.heap.size ∧ w1.frozen? ⟨c, 2, none⟩ = false ∧ (∃ a2 c2, v' = .slice a2 (ivs (ns ++ ys)).length c2) ∧ PutE w0 w c s a (ns ++ ys) (w1.setCell ⟨c, 2, none⟩ v')) := hid fun v' w1 ho o => by
    obtain ⟨r1, r2, r3⟩ := h.end_ hr ho o
    obtain ⟨a2, c2, hv2, _⟩ := ho.rd
    exact ⟨r1.cells.2.2, r1.lt, r1.frozen 2, ⟨a2, c2, hv2⟩, hid ⟨r2, r3⟩⟩
  have HY := hid hy
  have h1 : (ivs ns).length + n ≤ 1000000 := by rw [ivs_len]; omega
  have h2 : (ivs ys).length = n := by rw [ivs_len]; exact hn
  have H3 := hid (ivs_app ns ys)
  have HC : Hid (∀ y ∈ ivs ys, y.oneCell' = true) := hid fun y hy => by
    obtain ⟨x, _, rfl⟩ := List.mem_map.1 hy
    rfl
  generalize ivs (ns ++ ys) = zs at *
  generalize hxs : ivs ns = xs at *
  generalize hys : ivs ys = us at *
  have H1 := hid h1
  have H2 := hid h2
  clear h hr hown hy hn hl hxs hys h1 h2
  obtain ⟨k0, hk0⟩ : ∃ k0, xs.length = k0 := ⟨_, rfl⟩
  rw [hk0] at hv
  have Hk0 := hid hk0
  clear hk0
  go_enter Tryd.func59, Tryd.ntmps59
  subst hv
  go_wp2_with (at_builtin; refine wpList_addAs w0 _ 30 3 (.int .i64 0) 8 Tryd.underlying30 intInfoU (by decide) rfl rfl _ _ rfl _ xs rfl HO us HC.out ad _ _ rfl H2.out H1.out HY ?_)
  intro v3 w3 Ho3 Hf3
  obtain ⟨e1, l1, f1, ⟨a2, c2, hv2⟩, HF⟩ := HE.out v3 w3 (by rw [H3.out]; exact Ho3.out) Hf3.out
  subst hv2
  go_wp2
  go_end0
  exact ⟨rfl, HF⟩
theorem put_none {w0 w : World} {c : Nat} {s : ByteArray} {a : Nat} {ns : List Nat} (h : RdS w0 w c s a ns) :
    Calls Tryd.prog 59 #[.pointer (some ⟨c, 0, none⟩), .slice none 0 0] w fun e w' => e = .returned (.tuple #[]) ∧ PutE w0 w c s a ns w' := by
  obtain ⟨v, hr, hown⟩ := h.at_
  have d2 := hr.cells.2.2
  obtain ⟨A0, cap0, hv, _, _, hle, _⟩ := hown.rd
  have hlt := hr.lt
  have hfz := hr.frozen 2
  have HF : PutE w0 w c s a ns (w.setCell ⟨c, 2, none⟩ v) := hid (by
    have := h.end_ (ys := []) hr (v' := v) (by simpa using hown) (FrT.refl _ _ _)
    rw [List.append_nil] at this
    exact this.2)
  generalize (ivs ns).length = k0 at *
  clear h hr hown
  go_enter Tryd.func59, Tryd.ntmps59
  subst hv
  go_wp2_with (at_builtin; refine wpList_addNil _ 30 3 (.int .i64 0) 8 Tryd.underlying30 intInfoU rfl _ _ rfl _ _ _ _ rfl hle rfl ?_)
  go_end0
  exact ⟨rfl, HF⟩
/-- Signs put: the row that came holds them. -/
theorem put_any {w0 w : World} {c : Nat} {s : ByteArray} {a n cap : Nat} {ns ys : List Nat} {A : Option Addr} (h : RdS w0 w c s a ns) (hy : RdI w A (iNs ys)) (hA : A = none → n = 0 ∧ cap = 0) (hn : ys.length = n) (hl : ns.length + n ≤ 500000) :
    Calls Tryd.prog 59 #[.pointer (some ⟨c, 0, none⟩), .slice A n cap] w fun e w' => e = .returned (.tuple #[]) ∧ PutE w0 w c s a (ns ++ ys) w' := by
  cases A with
  | none =>
    obtain ⟨rfl, rfl⟩ := hA rfl
    have : ys = [] := List.length_eq_zero_iff.1 hn
    subst this
    rw [List.append_nil]
    exact put_none h
  | some ad =>
    refine put_some h (fun j y hj => ?_) hn hl
    have hj2 : j < (iNs ys).length := by
      have := List.getElem?_eq_some_iff.1 hj
      rw [iNs_len, ← ivs_len]
      exact this.1
    obtain ⟨b, off, e, hc, _⟩ := hy.at hj2
    injection e with e
    subst e
    have hv : y = .int .i64 ((iNs ys).getD j 0) := by
      unfold ivs at hj
      rw [List.getElem?_map] at hj
      unfold iNs
      rw [List.getD_eq_getElem?_getD, List.getElem?_map]
      cases hq : ys[j]? with
      | none => rw [hq] at hj; cases hj
      | some q => rw [hq] at hj; injection hj with hj; rw [← hj]; rfl
    rw [hv]
    by_cases e0 : j = 0
    · subst e0; simpa [Addr.add, vI] using hc
    · simpa [Addr.add, vI, e0] using hc
theorem put_one {w0 w : World} {c : Nat} {s : ByteArray} {a n : Nat} {ns : List Nat} (h : RdS w0 w c s a ns) (hl : ns.length + 1 ≤ 500000) (k : Nat) (hk : k = w.heap.size) :
    Calls Tryd.prog 59 #[.pointer (some ⟨c, 0, none⟩), .slice (some ⟨k, 0, none⟩) 1 1] (w.alloc (.cells #[.int .i64 (n : Int)] 3)) fun e w' => e = .returned (.tuple #[]) ∧ PutE w0 w c s a (ns ++ [n]) w' := by
  subst hk
  have h2 : RdS w0 (w.alloc (.cells #[.int .i64 (n : Int)] 3)) c s a ns := h.same (hid ((Only.refl _ w).alloc _))
  refine (put_some (ys := [n]) h2 (fun j y hj => cell_one _ w _ _ 3 rfl rfl j y hj) rfl hl).mono fun e w' hh => ⟨hh.1, hid ⟨hh.2.out.1, ?_⟩⟩
  exact FrT.trans ((FrT.refl _ _ w).alloc _) hh.2.out.2

/-! The library's ParseUint of up to eight digits. -/
end Go.Proofs.YtbbclcllkpabkaaDoor.X
