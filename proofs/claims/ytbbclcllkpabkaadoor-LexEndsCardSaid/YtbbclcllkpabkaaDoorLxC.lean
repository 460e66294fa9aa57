/- Rows of tokens; the tokens of a line. -/
import Derived.Test.YtbbclcllkpabkaaDoorLxB
namespace Go.Proofs.YtbbclcllkpabkaaDoor.X
open Go.RowKit U G

def tkv (ts : List Tk) : List Value := ts.flatMap fun q => [.int .i64 (q.1 : Int), .string (strB q.2.1), .int .i64 (q.2.2 : Int)]
theorem tkv_len : ∀ ts, (tkv ts).length = ts.length * 3
  | [] => rfl
  | q :: ts => by
    have := tkv_len ts
    unfold tkv at this ⊢
    rw [List.flatMap_cons, List.length_append, this]
    simp
    omega
theorem tkv_app (a b : List Tk) : tkv (a ++ b) = tkv a ++ tkv b := by simp [tkv]
theorem tkv_get : ∀ (ts : List Tk) (j : Nat), j < ts.length → (tkv ts)[j * 3]? = some (.int .i64 ((ts.getD j (0, [], 0)).1 : Int)) ∧ (tkv ts)[j * 3 + 1]? = some (.string (strB (ts.getD j (0, [], 0)).2.1)) ∧ (tkv ts)[j * 3 + 2]? = some (.int .i64 ((ts.getD j (0, [], 0)).2.2 : Int))
  | [], _, h => absurd h (Nat.not_lt_zero _)
  | q :: ts, 0, _ => by simp [tkv]
  | q :: ts, j + 1, h => by
    have := tkv_get ts j (by simpa using h)
    have e : tkv (q :: ts) = [.int .i64 (q.1 : Int), .string (strB q.2.1), .int .i64 (q.2.2 : Int)] ++ tkv ts := by simp [tkv]
    rw [e, show (j + 1) * 3 = 3 + j * 3 by omega, show 3 + j * 3 + 1 = 3 + (j * 3 + 1) by omega, show 3 + j * 3 + 2 = 3 + (j * 3 + 2) by omega]
    rw [List.getElem?_append_right (by simp), List.getElem?_append_right (by simp), List.getElem?_append_right (by simp)]
    simp only [List.length_cons, List.length_nil]
    rw [show 3 + j * 3 - (0 + 1 + 1 + 1) = j * 3 by omega, show 3 + (j * 3 + 1) - (0 + 1 + 1 + 1) = j * 3 + 1 by omega, show 3 + (j * 3 + 2) - (0 + 1 + 1 + 1) = j * 3 + 2 by omega]
    simpa using this
/-- Tokens in a row of the call's own. -/
structure OwK (e : TypeId) (w0 w : World) (v : Value) (ts : List Tk) : Prop where
  own : w.ownsRow w0.heap.size e 3 v ts.length (tkv ts)
  ge : w0.heap.size ≤ w.heap.size
theorem OwK.fr {e : TypeId} {w0 w w' : World} {v : Value} {ts : List Tk} {T : TypeId → Prop} {B : Nat} (h : OwK e w0 w v ts) (o : FrT T B w w') (he : ¬ T e) : OwK e w0 w' v ts := ⟨own_ty h.own o he, Nat.le_trans h.ge (Only.size o)⟩
theorem OwK.nil {e : TypeId} {w0 w : World} (h : w0.heap.size ≤ w.heap.size) : OwK e w0 w (.slice none 0 0) [] := ⟨⟨rfl, .inl ⟨rfl, rfl⟩⟩, h⟩
/-- A row that reads as tokens. -/
def RdK (w : World) (A : Option Addr) (ts : List Tk) : Prop := ∀ j, j < ts.length → ∃ b off, A = some ⟨b, off, none⟩ ∧ b < w.heap.size ∧ w.cell? ⟨b, off + j * 3, none⟩ = some (.int .i64 ((ts.getD j (0, [], 0)).1 : Int)) ∧ w.cell? ⟨b, off + j * 3 + 1, none⟩ = some (.string (strB (ts.getD j (0, [], 0)).2.1)) ∧ w.cell? ⟨b, off + j * 3 + 2, none⟩ = some (.int .i64 ((ts.getD j (0, [], 0)).2.2 : Int))
theorem RdK.only {w w' : World} {A : Option Addr} {ts : List Tk} (h : RdK w A ts) (o : StU w w') : RdK w' A ts := fun j hj => by
  obtain ⟨b, off, e, hb, h1, h2, h3⟩ := h j hj
  exact ⟨b, off, e, Nat.lt_of_lt_of_le hb o.out.size, (o.out.cell (p := ⟨b, off + j * 3, none⟩) hb no_).trans h1, (o.out.cell (p := ⟨b, off + j * 3 + 1, none⟩) hb no_).trans h2, (o.out.cell (p := ⟨b, off + j * 3 + 2, none⟩) hb no_).trans h3⟩
theorem OwK.done {e : TypeId} {w0 w : World} {v : Value} {ts : List Tk} (h : OwK e w0 w v ts) : ∃ A cap, v = .slice A ts.length cap ∧ RdK w A ts ∧ (A = none → ts.length = 0 ∧ cap = 0) ∧ ts.length ≤ cap := by
  rcases h.own.2 with ⟨rfl, h0⟩ | ⟨g, cap, cur, rfl, hge, hh, hle, hcm, hsz, ht⟩
  · refine ⟨none, 0, by rw [h0], fun j hj => by omega, fun _ => ⟨h0, rfl⟩, by omega⟩
  · refine ⟨some ⟨g, 0, none⟩, cap, rfl, fun j hj => ⟨g, 0, rfl, Lib.lt_of_heap hh, ?_⟩, (fun h => by cases h), hle⟩
    obtain ⟨g1, g2, g3⟩ := tkv_get ts j hj
    have key : ∀ i u, i < ts.length * 3 → (tkv ts)[i]? = some u → w.cell? ⟨g, i, none⟩ = some u := fun i u hi hu => by
      have h2 : (cur.toList.take (ts.length * 3))[i]? = (tkv ts)[i]? := by rw [ht]
      rw [List.getElem?_take_of_lt hi] at h2
      have h3 : cur[i]? = some u := by rw [← hu, ← h2]; simp
      simp [World.cell?, hh, h3]
    simp only [Nat.zero_add]
    exact ⟨key _ _ (by omega) g1, key _ _ (by omega) g2, key _ _ (by omega) g3⟩
theorem wpList_addT {ops : Array Oper} {rest : List Oper} {o : Oper} {a : Act} {Q : Exit → Act → World → Prop} (w0 w : World) (t e : TypeId) (z : Value) (ht : Tryd.prog.underlying t = some (.slice e)) (hinfo : (Tryd.prog.info? e).map (fun i => (i.zero, i.size, i.bytes)) = some (some z, 3, 32))
    (hz1 : z.cells.size = 3) (hgd : o.guard = none) (s x : Operand) (hop : o.op = Op.call { callee := Callee.builtin Builtin.append, args := #[s, x], argTypes := #[t, t] })
    (v : Value) (ts : List Tk) (hs : a.eval s = v) (h : Hid (OwK e w0 w v ts)) (q : Tk) (b c : Nat) (hx : a.eval x = .slice (some ⟨b, 0, none⟩) 1 c) (hb : ts.length ≤ 1000000)
    (u : World) (hbu : b = u.heap.size) (xs : ByteArray) (hxs : Hid (strB q.2.1 = xs)) (hwu : w = u.alloc (.cells #[.int .i64 (q.1 : Int), .string xs, .int .i64 (q.2.2 : Int)] e))
    (K : ∀ v' w', Hid (OwK e w0 w' v' (ts ++ [q])) → Hid (FrT (fun k => k = e) w0.heap.size w w') → wpList Tryd.prog ops Q rest (a.put o.dst v') w') :
    wpList Tryd.prog ops Q (o :: rest) a w := by
  obtain ⟨i0, hi0, hq0, hq1, hq2⟩ := info_parts hinfo
  have hrd : ∀ j y, (tkv [q])[j]? = some y → w.cell? ((⟨b, 0, none⟩ : Addr).add j) = some y := by
    have e : tkv [q] = [.int .i64 (q.1 : Int), .string xs, .int .i64 (q.2.2 : Int)] := by rw [← hxs.out]; rfl
    rw [e]
    subst hbu
    subst hwu
    intro j y hj
    match j, hj with
    | 0, hj => simp at hj; subst hj; simp [Addr.add]
    | 1, hj => simp at hj; subst hj; simp [Addr.add]
    | 2, hj => simp at hj; subst hj; simp [Addr.add]
    | j + 3, hj => simp at hj
  refine wpList_append_own_at w hgd s x t hop w0.heap.size e i0 z 3 32 ht hi0 hq0 hq1 hq2 hz1 (by omega) v ts.length _ hs h.out.own ⟨b, 0, none⟩ 1 c (tkv [q]) hx (by rw [tkv_len]; rfl) hrd (by
    intro u hu
    unfold tkv at hu
    simp at hu
    rcases hu with rfl | rfl | rfl <;> rfl) (by unfold maxLen; omega) (by omega) h.out.ge ?_
  intro v' w' hown hg _ hat
  refine K v' w' (hid ⟨by rw [tkv_app, List.length_append]; exact hown, Nat.le_trans h.out.ge hg.size⟩) (hid ((FrT.refl _ _ w).grown hg fun k hk => ?_))
  have := own_block h.out.own hk
  exact ⟨this.1, this.2.2 _ rfl⟩
theorem tokInfo : (Tryd.prog.info? 35).map (fun i => (i.zero, i.size, i.bytes)) = some (some (.agg #[.int .i64 0, .string ByteArray.empty, .int .i64 0]), 3, 32) := by kernel_rfl
/-- What Line answers. -/
def LineE (w : World) (s : ByteArray) (e : Ending) (w' : World) : Prop := StU w w' ∧
  (((sgsL (bl s)).2 < s.size ∧ e = .returned (.tuple #[.slice none 0 0, .int .i64 (((sgsL (bl s)).2 : Nat) : Int), .int .i64 11])) ∨
   ((sgsL (bl s)).2 = s.size ∧ (∃ p, (lin (bl s) 0).2 = p + 2 ∧ e = .returned (.tuple #[.slice none 0 0, .int .i64 (p : Int), .int .i64 10]))) ∨
   ((sgsL (bl s)).2 = s.size ∧ (lin (bl s) 0).2 < 2 ∧ ∃ A n cap, e = .returned (.tuple #[.slice A n cap, .int .i64 0, .int .i64 0]) ∧ Hid (n = (lin (bl s) 0).1.length ∧ RdK w' A (lin (bl s) 0).1 ∧ n ≤ cap ∧ (A = none → n = 0 ∧ cap = 0))))
theorem rw_new (w : World) (s : ByteArray) : RwS (w.alloc (.cells #[.string s, .int .i64 0, .slice none 0 0] 47)) w.heap.size s 0 (.slice none 0 0) :=
  World.rowIs_alloc w #[.string s, .int .i64 0, .slice none 0 0] 47 (rdF s 0 (.slice none 0 0)) (fun i hi => by
    match i, hi with
    | 0, _ => rfl
    | 1, _ => rfl
    | 2, _ => rfl
    | i + 3, hi => exact absurd (show i + 3 < 3 from hi) (by omega))
theorem rd_new (w : World) (s : ByteArray) : RdS w (w.alloc (.cells #[.string s, .int .i64 0, .slice none 0 0] 47)) w.heap.size s 0 [] :=
  ⟨Nat.le_refl _, ⟨.slice none 0 0, rw_new w s, OwG.nil ((Only.refl (fun _ => False) w).alloc _).size⟩, (Only.refl _ w).alloc _⟩
theorem RdS.frT {w0 w w' : World} {c : Nat} {s : ByteArray} {a : Nat} {ns : List Nat} {T : TypeId → Prop} (h : RdS w0 w c s a ns) (o : FrT T w0.heap.size w w') (h1 : ¬ T 47) (h2 : ¬ T 3) : RdS w0 w' c s a ns := by
  obtain ⟨v, k1, k2⟩ := h.at_
  exact ⟨h.ge, ⟨v, o.row k1 h1, ⟨own_ty k2.own o h2, Nat.le_trans k2.ge (Only.size o)⟩⟩, frx_only h.only o⟩
structure LnS (w wr : World) (c : Nat) (s : ByteArray) (b : Nat) (v : Value) (ts : List Tk) : Prop where
  rd : ∃ ns, RdS w wr c s b ns
  own : OwK 35 w wr v ts
  val : Val ((bl s).drop b)
  eq : lin (bl s) 0 = (ts ++ (lin ((bl s).drop b) b).1, (lin ((bl s).drop b) b).2)
theorem LnS.cellA {w wr : World} {c : Nat} {s : ByteArray} {b : Nat} {v : Value} {ts : List Tk} (h : LnS w wr c s b v ts) : cellA wr c = b := by
  obtain ⟨ns, hr⟩ := h.rd
  exact hr.cellA
theorem lin_more {l : List Nat} (hv : Val l) (hn : l.getD 0 0 ≠ 32 ∧ l.getD 0 0 ≠ 9) (a : Nat) : (mor l = false → (lin l a).1 = [] ∧ (lin l a).2 < 2) ∧ (mor l = true → l ≠ [] ∧ (tok l = none → lin l a = ([], a + 2))) := by
  cases l with
  | nil => exact ⟨fun _ => ⟨rfl, by simp [lin_nil]⟩, fun h => (by cases h)⟩
  | cons c t =>
    simp only [List.getD_cons_zero] at hn
    by_cases h : c = 35
    · subst h
      exact ⟨fun _ => ⟨rfl, by simp [lin_rem]⟩, fun h => (by cases h)⟩
    · have e : mor (c :: t) = true := by simp [mor, h]
      rw [e]
      exact ⟨fun h => (by cases h), fun _ => ⟨by simp, fun ht => lin_none rfl h (by omega) ht a⟩⟩
theorem line_char {s : ByteArray} {w : World} (hT : Tb w) (hs : s.size ≤ 100000) (h : (sgsL (bl s)).2 < s.size) :
    Calls Tryd.prog 9 #[.string s] w (LineE w s) := by
  have HS : Hid (Calls Tryd.prog 10 #[.string s] w fun e w' => StU w w' ∧ e = .returned (.tuple #[.slice none 0 0, .int .i64 (((sgsL (bl s)).2 : Nat) : Int), .int .i64 11])) := hid ((signs_any hT (by omega)).mono fun e w' hh => ⟨hh.1, by
    rcases hh.2 with ⟨h1, _⟩ | ⟨_, h1⟩
    · omega
    · exact h1⟩)
  have HF : Hid (∀ w', StU w w' → LineE w s (.returned (.tuple #[.slice none 0 0, .int .i64 (((sgsL (bl s)).2 : Nat) : Int), .int .i64 11])) w') := hid fun w' h1 => ⟨h1, .inl ⟨h, rfl⟩⟩
  clear hT hs h
  generalize (sgsL (bl s)).2 = n at *
  go_enter Tryd.func9, Tryd.ntmps9
  go_wp2_with (go_at_call 10; refine HS.out.mono ?_; rintro e w1 ⟨HO, rfl⟩)
  go_ret3
  exact HF.out _ HO
set_option maxHeartbeats 4000000 in
theorem line_ok {s : ByteArray} {w : World} (hT : Tb w) (hE : XerrAt w) (hs : s.size ≤ 100000) (h : (sgsL (bl s)).2 = s.size) :
    Calls Tryd.prog 9 #[.string s] w (LineE w s) := by
  have hv : Val (bl s) := val_of (bl_bys s) (by rw [h, bl_len])
  have HS : Hid (Calls Tryd.prog 10 #[.string s] w fun e w' => StU w w' ∧ ∃ A n cap, e = .returned (.tuple #[.slice A n cap, .int .i64 0, .int .i64 0])) := hid ((signs_any hT (by omega)).mono fun e w' hh => ⟨hh.1, by
    rcases hh.2 with ⟨_, A, cap, h1, _⟩ | ⟨h1, _⟩
    · exact ⟨A, _, cap, h1⟩
    · omega⟩)
  have HI : Hid (∀ w1, LnS w1 (w1.alloc (.cells #[.string s, .int .i64 0, .slice none 0 0] 47)) w1.heap.size s 0 (.slice none 0 0) []) := hid fun w1 => ⟨⟨[], rd_new w1 s⟩, OwK.nil ((Only.refl (fun _ => False) w1).alloc _).size, by simpa using hv, by simp⟩
  have HTE : Hid (∀ W, StU w W → Tb W ∧ XerrAt W) := hid fun W hW => ⟨hT.stu hW, hE.stu hW⟩
  have HH := hid h
  clear hT hE hv h
  go_enter Tryd.func9, Tryd.ntmps9
  go_wp2_with (go_at_call 10; refine HS.out.mono ?_; rintro e w1 ⟨HO, A, n, cap, rfl⟩)
  have HI1 := hid (HI.out w1)
  obtain ⟨hT1, hE1⟩ := HTE.out w1 HO
  have HT := hid hT1
  have HEr := hid hE1
  clear HS HTE HI hT1 hE1
  have hsz2 : s.size ≤ 900000 := by omega
  generalize w1.alloc (.cells #[.string s, .int .i64 0, .slice none 0 0] 47) = w2 at *
  go_loopw [2] (fun v wr => ∃ (b : Nat) (ts : List Tk) (v0 : Value), v0 = v ∧ b ≤ s.size ∧ ts.length ≤ b ∧ Hid (LnS w1 wr w1.heap.size s b v0 ts)) (fun _ wr => s.size - cellA wr w1.heap.size)
  case atStart => exact ⟨0, [], _, rfl, by omega, by simp, HI1⟩
  case round =>
    obtain ⟨b, ts, v0, rfl, hb, hts, HL⟩ := hrel
    clear HI1
    obtain ⟨ns, hrd⟩ := HL.out.rd
    have HM := hid (more_any hrd hb hs)
    have hnb := nb_le ((bl s).drop b)
    rw [List.length_drop, bl_len] at hnb
    have hv2 := nb_val HL.out.val
    have hnh := nb_head ((bl s).drop b)
    have hlin := lin_nb ((bl s).drop b) b
    rw [List.drop_drop] at hv2 hnh hlin
    have hlm := lin_more hv2 hnh (b + nb ((bl s).drop b))
    have hb2 : b ≤ b + nb ((bl s).drop b) ∧ b + nb ((bl s).drop b) ≤ s.size := by omega
    have heq := HL.out.eq
    rw [hlin] at heq
    unfold MorE at HM
    have Hca : Hid (cellA wr w1.heap.size = b) := hid HL.out.cellA
    have HKp : Hid (∀ W, FrT Tr w1.heap.size wr W → OwK 35 w1 W v0 ts) := hid fun W hW => HL.out.own.fr hW (by decide)
    generalize b + nb ((bl s).drop b) = b2 at *
    clear hnb hnh hlin hrd
    cases hm : mor ((bl s).drop b2) with
    | false =>
      rw [hm] at HM
      obtain ⟨l1, l2⟩ := hlm.1 hm
      rw [l1, List.append_nil] at heq
      obtain ⟨A2, cap2, hv0, _⟩ := HL.out.own.done
      have HF : Hid (∀ w3, PutE w1 wr w1.heap.size s b2 ns w3 → LineE w s (.returned (.tuple #[.slice A2 ts.length cap2, .int .i64 0, .int .i64 0])) w3) := hid fun w3 h3 => by
        obtain ⟨A3, cap3, hv3, hr3, h4, h5⟩ := (HKp.out _ h3.out.2).done
        rw [hv0] at hv3
        injection hv3 with e1 e2 e3
        subst e1; subst e3
        refine ⟨hid (HO.out.trans h3.out.1.only), .inr (.inr ⟨HH.out, by rw [heq]; exact l2, A2, ts.length, cap2, rfl, hid ?_⟩)⟩
        rw [heq]
        exact ⟨rfl, hr3, h5, h4⟩
      subst hv0
      clear hlm hv2 heq l1 l2 hm HKp HL HT HEr HO HH
      go_wp2_with (go_at_call 15; refine HM.out.mono ?_; rintro e w3 ⟨rfl, HO3⟩)
      go_ret3
      exact HF.out _ HO3
    | true =>
      rw [hm] at HM
      obtain ⟨l1, l2⟩ := hlm.2 hm
      have HTk : Hid (∀ W, RdS w1 W w1.heap.size s b2 ns → Calls Tryd.prog 16 #[.pointer (some ⟨w1.heap.size, 0, none⟩)] W (TokE w1 W w1.heap.size s b2 (tok ((bl s).drop b2)))) := hid fun W hW => token_any HT.out HEr.out hW hb2.2 hs hv2
      have HD : Hid (∀ W, RdS w1 W w1.heap.size s b2 ns → W.cell? ⟨w1.heap.size, 1, none⟩ = some (.int .i64 (b2 : Int))) := hid fun W hW => by
        obtain ⟨v, hr, _⟩ := hW.at_
        exact hr.cells.2.1
      cases ht : tok ((bl s).drop b2) with
      | none =>
        rw [ht] at HTk
        have l3 := l2 ht
        rw [l3] at heq
        have HF : Hid (∀ w3, Only (fun _ => False) w1 w3 → LineE w s (.returned (.tuple #[.slice none 0 0, .int .i64 (b2 : Int), .int .i64 10])) w3) := hid fun w3 h3 => ⟨hid (HO.out.trans h3), .inr (.inl ⟨HH.out, b2, by rw [heq], rfl⟩)⟩
        clear hlm hv2 heq l1 l2 l3 hm HKp HL HT HEr HO HH ht
        go_wp2_with (first
          | (go_at_call 15; refine HM.out.mono ?_; rintro e w3 ⟨rfl, HO3⟩; have d3 := HD.out _ HO3.out.1)
          | (go_at_call 16; refine (HTk.out _ HO3.out.1).mono ?_; rintro e w4 ⟨rfl, HO4⟩; have HO5 := hid HO4.out.2))
        go_ret3
        exact HF.out _ (HO5.out.alloc _)
      | some q =>
        obtain ⟨k, x, m⟩ := q
        rw [ht] at HTk
        obtain ⟨z1, z2, _⟩ := tok_size hv2.bys ht
        rw [List.length_drop, bl_len] at z2
        have l3 := lin_tok ht b2
        rw [List.drop_drop] at l3
        rw [l3] at heq
        have hvt := hv2.tail ht
        rw [List.drop_drop] at hvt
        have HEnd : Hid (∀ w4 w5 v5 ns', RdS w1 w4 w1.heap.size s (b2 + m) ns' → FrT (fun t => t = 35) w1.heap.size w4 w5 → OwK 35 w1 w5 v5 (ts ++ [(k, x, b2)]) → LnS w1 w5 w1.heap.size s (b2 + m) v5 (ts ++ [(k, x, b2)])) := hid fun w4 w5 v5 ns' h1 h2 h3 =>
          ⟨⟨ns', h1.frT h2 (by decide) (by decide)⟩, h3, hvt, by rw [heq, List.append_assoc]; rfl⟩
        obtain ⟨xs, hxs⟩ : ∃ xs, strB x = xs := ⟨_, rfl⟩
        have HTk2 : Hid (∀ W, RdS w1 W w1.heap.size s b2 ns → Calls Tryd.prog 16 #[.pointer (some ⟨w1.heap.size, 0, none⟩)] W fun e w' => e = .returned (.tuple #[.agg #[.int .i64 (k : Int), .string xs, .int .i64 (b2 : Int)], .bool true]) ∧ ∃ ns', PutE w1 W w1.heap.size s (b2 + m) ns' w') := hid fun W hW => by rw [← hxs]; exact HTk.out W hW
        have Hxs : Hid (strB (k, x, b2).2.1 = xs) := hid hxs
        clear hlm hv2 heq l1 l2 l3 hm HL HT HEr HO HH ht HTk hvt hxs
        go_wp2_with (first
          | (go_at_call 15; refine HM.out.mono ?_; rintro e w3 ⟨rfl, HO3⟩; have d3 := HD.out _ HO3.out.1)
          | (go_at_call 16; refine (HTk2.out _ HO3.out.1).mono ?_; rintro e w4 ⟨rfl, ns4, HO4⟩; have HF4 : Hid (FrT Tr w1.heap.size wr w4) := hid (HO3.out.2.trans HO4.out.2))
          | (at_builtin; refine wpList_addT w1 _ 26 35 (.agg #[.int .i64 0, .string ByteArray.empty, .int .i64 0]) Tryd.underlying26 tokInfo rfl rfl _ _ rfl _ ts rfl (hid (HKp.out _ ((HF4.out.alloc _).alloc _))) (k, x, b2) _ _ rfl (by omega) _ (by simp) xs Hxs rfl ?_; intro v5 w5 Hown Hfr))
        have HL5 : Hid (LnS w1 w5 w1.heap.size s (b2 + m) v5 (ts ++ [(k, x, b2)])) := hid (HEnd.out _ _ _ _ (HO4.out.1.same (hid (((Only.refl _ w4).alloc _).alloc _))) Hfr.out Hown.out)
        have Hca2 : Hid (cellA w5 w1.heap.size = b2 + m) := hid HL5.out.cellA
        go_roundw
        case rel => exact ⟨b2 + m, ts ++ [(k, x, b2)], _, rfl, by omega, by rw [List.length_append, List.length_singleton]; omega, HL5⟩
        case measure => rw [Hca.out, Hca2.out]; omega
theorem line_any {s : ByteArray} {w : World} (hT : Tb w) (hE : XerrAt w) (hs : s.size ≤ 100000) : Calls Tryd.prog 9 #[.string s] w (LineE w s) := by
  have h := sgsL_le (bl_bys s)
  rw [bl_len] at h
  rcases Nat.lt_or_ge (sgsL (bl s)).2 s.size with h1 | h1
  · exact line_char hT hs h1
  · exact line_ok hT hE hs (by omega)
end Go.Proofs.YtbbclcllkpabkaaDoor.X
