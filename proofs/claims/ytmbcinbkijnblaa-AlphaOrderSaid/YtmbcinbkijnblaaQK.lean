/- Texts and their bits: how they stand; what is put is got. -/
import Derived.Test.YtmbcinbkijnblaaQB
import Derived.Test.YtmbcinbkijnblaaQF
import Derived.Laws.BytesArg
import Derived.Test.YtmbcinbkijnblaaQG
import Derived.Test.YtmbcinbkijnblaaQC
namespace Go.Proofs.Ytmbcinbkijnblaa
open Go.RowKit

theorem CodeS.frT {B B' : Nat} {w w' : World} {g : Nat} {sg : List Nat} {ws : List (List Bool)} {T : TypeId → Prop} (h : CodeS B w g sg ws) (o : FrT T B' w w') (h1 : ¬ T 107) (h2 : ¬ T 151) (h3 : ¬ T 4) : CodeS B w' g sg ws := by
  obtain ⟨F, P, hc⟩ := h.is
  exact ⟨⟨F, P, hc.fr o h1 h2 h3⟩, h.ok, h.len, h.long, h.few⟩
/-- What reading a word comes to: a sign; the end; nowhere. -/
def RdO (sg : List Nat) (ws : List (List Bool)) (f : Nat → Bool) (n at_ : Nat) (s er e2 : Int) (at2 : Nat) : Prop :=
  (∃ i, i < ws.length ∧ at_ + (wAt ws i).length ≤ n ∧ sgm f at_ (wAt ws i).length = wAt ws i ∧ s = ((sg.getD i 0 : Nat) : Int) ∧ er = 0 ∧ e2 = 0 ∧ at2 = at_ + (wAt ws i).length) ∨
  (∃ k, at_ + k = n ∧ (∃ x ∈ ws, ∃ c t, x = sgm f at_ k ++ c :: t) ∧ s = 0 ∧ er = 4 ∧ e2 = 4 ∧ at2 = n) ∨
  (∃ k, at_ + k + 1 ≤ n ∧ (∃ x ∈ ws, ∃ c t, x = sgm f at_ k ++ c :: t) ∧ (∀ x ∈ ws, ∀ t, x ≠ sgm f at_ (k + 1) ++ t) ∧ s = 0 ∧ er = 13 ∧ e2 = 0 ∧ at2 = at_ + k + 1)
theorem Ts.down {P : List (List Bool)} {D : DL} {X : List (List Bool)} (h : Ts P D X) (l : List Bool) : ∀ t : List Bool, l ++ t ∈ P → l ∈ P := by
  intro t
  induction ht : t.length generalizing t with
  | zero => intro hm; rw [List.length_eq_zero_iff.1 ht, List.append_nil] at hm; exact hm
  | succ m ih =>
    intro hm
    obtain ⟨t', b, rfl⟩ : ∃ t' b, t = t' ++ [b] := ⟨t.dropLast, t.getLast (by intro e; subst e; simp at ht), (List.dropLast_concat_getLast _).symm⟩
    rw [← List.append_assoc] at hm
    exact ih t' (by simpa using ht) (h.par _ _ hm)
theorem zip_at {sg : List Nat} {ws : List (List Bool)} (h : sg.length = ws.length) {i : Nat} (hi : i < ws.length) : (sg.getD i 0, wAt ws i) ∈ sg.zip ws := by
  rw [List.mem_iff_getElem]
  refine ⟨i, by simp; omega, ?_⟩
  simp [wAt, List.getD, hi, show i < sg.length by omega]
theorem zip_in {sg : List Nat} {ws : List (List Bool)} (h : sg.length = ws.length) {d : Nat × List Bool} (hd : d ∈ sg.zip ws) : ∃ i, i < ws.length ∧ d = (sg.getD i 0, wAt ws i) := by
  obtain ⟨i, hi, e⟩ := List.mem_iff_getElem.1 hd
  have hi2 : i < ws.length := by simp at hi; omega
  refine ⟨i, hi2, ?_⟩
  rw [← e]
  simp [wAt, List.getD, hi2, show i < sg.length by omega]
/-- Where a step leads. -/
theorem way_cases {sg : List Nat} {ws : List (List Bool)} {ls : List Int} {P : List (List Bool)} (hw : WordsOf ls ws) (hlen : sg.length = ws.length) (hT : Ts P (sg.zip ws) ws) (l : List Bool) (hl : l ≠ []) :
    (∃ j : Nat, 0 < j ∧ j < P.length ∧ P[j]? = some l ∧ wayOf P (sg.zip ws) l = (j : Int)) ∨ (∃ i, i < ws.length ∧ wAt ws i = l ∧ wayOf P (sg.zip ws) l = -1 - ((sg.getD i 0 : Nat) : Int)) ∨
    ((∀ x ∈ ws, ∀ t, x ≠ l ++ t) ∧ wayOf P (sg.zip ws) l = 0) := by
  by_cases hm : l ∈ P
  · have hix : P.idxOf l < P.length := List.idxOf_lt_length_of_mem hm
    exact .inl ⟨P.idxOf l, hT.idx_pos hm hl, hix, by rw [List.getElem?_eq_getElem hix]; simp, wayOf_fork hm⟩
  · by_cases hi : ∃ i, i < ws.length ∧ wAt ws i = l
    · obtain ⟨i, hi, e⟩ := hi
      refine .inr (.inl ⟨i, hi, e, wayOf_sign hm (by rw [← e]; exact zip_at hlen hi) fun d hd he => ?_⟩)
      obtain ⟨j, hj, rfl⟩ := zip_in hlen hd
      by_cases hij : j = i
      · rw [hij]
      · exact absurd (show wAt ws i = wAt ws j ++ [] by rw [List.append_nil, e]; exact he.symm) (hw.no_begin hj hi hij [])
    · refine .inr (.inr ⟨fun x hx t e => ?_, wayOf_none hm fun d hd he => ?_⟩)
      · obtain ⟨i, hil, rfl⟩ := List.mem_iff_getElem.1 hx
        have e2 : wAt ws i = ws[i] := by simp [wAt, List.getD, hil]
        by_cases ht : t = []
        · subst ht
          exact hi ⟨i, hil, by rw [e2, e, List.append_nil]⟩
        · obtain ⟨l', b, h1, h2⟩ := hT.dpar _ (zip_at hlen hil)
          have h1' : wAt ws i = l' ++ [b] := h1
          rw [e2, e] at h1'
          obtain ⟨t', c, rfl⟩ : ∃ t' c, t = t' ++ [c] := ⟨t.dropLast, t.getLast ht, (List.dropLast_concat_getLast _).symm⟩
          rw [← List.append_assoc] at h1'
          have := (snoc_inj h1').1
          rw [← this] at h2
          exact hm (hT.down l t' h2)
      · obtain ⟨j, hj, rfl⟩ := zip_in hlen hd
        exact hi ⟨j, hj, he⟩
theorem next_no {f : Nat → Bool} {n at_ : Nat} (hn : n < at_ + 1) : numR f n (0, at_) 1 = (0, 4, at_) := by
  simp only [numR, takeR]
  rw [if_neg (by simp), if_pos (.inr (by simpa using hn))]
def cellN (w : World) (g : Nat) : Nat := match w.cell? ⟨g, 4, none⟩ with | some (.int _ z) => z.toNat | _ => 0
theorem cellN_at {B g gb : Nat} {e : Int} {f : Nat → Bool} {n at_ : Nat} {w : World} (h : IsRd B w g gb e f n at_) : cellN w g = at_ := by
  have := h.self.cell (i := 4) (by omega)
  unfold cellN
  rw [this]
  rfl
theorem bit_eq (b : Bool) : (((b.toNat : Nat) : Int) == 1) = b := by cases b <;> rfl
set_option maxHeartbeats 4000000 in
theorem read_any {B B0 g gr gb n at_ : Nat} {f : Nat → Bool} {sg : List Nat} {ws : List (List Bool)} {ls : List Int} {w : World} (hw : WordsOf ls ws) (h : CodeS B w g sg ws) (hr : IsRd B0 w gr gb 0 f n at_) :
    Calls Try.prog 69 #[.pointer (some ⟨g, 0, none⟩), .pointer (some ⟨gr, 0, none⟩)] w fun e' w' => ∃ s er e2 at2, e' = .returned (.tuple #[.int .i64 s, .int .i64 er]) ∧ Hid (RdO sg ws f n at_ s er e2 at2) ∧ Hid (IsRd B0 w' gr gb e2 f n at2 ∧ FrT TR B0 w w') := by
  obtain ⟨F, P, hc⟩ := h.is
  obtain ⟨hR, hT, hPl⟩ := hc.code (by have := hw.pos; omega)
  have hzl : (sg.zip ws).take ws.length = sg.zip ws := List.take_of_length_le (by simp [h.len])
  rw [hzl, List.take_of_length_le (Nat.le_refl _)] at hT
  have hP0 : 0 < P.length := (List.getElem?_eq_some_iff.1 hT.root).1
  obtain ⟨gf, cap, hv, hmc, _⟩ := hR.cells hP0
  have HCells : Hid (∀ u, FrT TR B0 w u → u.cell? ⟨g, 0, none⟩ = some (.slice (some ⟨gf, 0, none⟩) P.length cap) ∧ ∀ k p b, P[k]? = some p → u.cell? ⟨gf, k * 2 + b.toNat, none⟩ = some (.int .i64 (wayOf P (sg.zip ws) (p ++ [b])))) := hid fun u hu => by
    have hR2 := ((hc.fr hu (by unfold TR; decide) (by unfold TR; decide) (by unfold TR; decide)).code (by have := hw.pos; omega)).1
    obtain ⟨gf', cap', hv', _, _, c0, _, _, _, hcc, _⟩ := hR2.cells hP0
    rw [hv] at hv'
    injection hv' with e1 _ e3
    injection e1 with e1
    injection e1 with e1 _ _
    subst e1 e3
    refine ⟨c0, fun k p b hk => ?_⟩
    have := (hcc k p b hk).1
    rwa [hzl] at this
  have HWay := hid fun l hl => way_cases hw h.len hT l hl
  have HPr : Hid (∀ l ∈ P, ∃ x ∈ ws, ∃ b t, x = l ++ b :: t) := hid hT.pref
  have HRoot := hid hT.root
  have hle := hr.le
  have hsm := hr.small
  have HNx : Hid (∀ u a, IsRd B0 u gr gb 0 f n a → Calls Try.prog 101 #[.pointer (some ⟨gr, 0, none⟩)] u (RdB1 B0 u gr gb f n (numR f n (0, a) 1))) := hid fun u a hu => rnext_any hu
  have HSgl : Hid (∀ i, i < ws.length → sg.getD i 0 < 257) := hid fun i hi => h.ok.2 i (by rw [h.len]; exact hi)
  have hP9 : P.length ≤ 1000000 := by have := h.few; omega
  have HR0 := hid hr
  obtain ⟨m, hm⟩ : ∃ m, m = P.length := ⟨_, rfl⟩
  rw [← hm] at hP0 hP9 hmc HCells HWay
  generalize hD : sg.zip ws = D at *
  clear hR hT hPl hzl hc hv h hr hw hm hD
  go_enter Try.func69, Try.ntmps69
  go_wp2_with fail
  go_loopw [6] (fun s wr => ∃ (i k : Nat), s = .int .i64 (i : Int) ∧ at_ + k ≤ n ∧ i < m ∧ Hid (P[i]? = some (sgm f at_ k)) ∧ Hid (IsRd B0 wr gr gb 0 f n (at_ + k) ∧ FrT TR B0 w wr)) (fun _ wr => n - cellN wr gr)
  case atStart => exact ⟨0, 0, rfl, by omega, by omega, HRoot, hid ⟨HR0.out, FrT.refl _ _ _⟩⟩
  case round =>
    obtain ⟨i, k, rfl, hk, him, HP, HI⟩ := hrel
    have HPre : Hid (∃ x ∈ ws, ∃ c t, x = sgm f at_ k ++ c :: t) := hid (HPr.out _ (List.mem_iff_getElem?.2 ⟨_, HP.out⟩))
    have HN := hid (HNx.out wr _ HI.out.1)
    clear HNx HPr HRoot HR0
    by_cases hend : at_ + k + 1 ≤ n
    · rw [next_has rfl hend] at HN
      unfold RdB1 at HN
      rw [bit_eq] at HN
      have hs1 := sgm_snoc f at_ k
      generalize f (at_ + k) = b at *
      have HW := HWay.out (sgm f at_ k ++ [b]) (by simp)
      have HC2 : Hid (∀ u, FrT TR B0 wr u → u.cell? ⟨g, 0, none⟩ = some (.slice (some ⟨gf, 0, none⟩) m cap) ∧ u.cell? ⟨gf, i * 2 + b.toNat, none⟩ = some (.int .i64 (wayOf P D (sgm f at_ k ++ [b])))) := hid fun u hu => by
        obtain ⟨q1, q2⟩ := HCells.out u (HI.out.2.trans hu)
        exact ⟨q1, q2 _ _ b HP.out⟩
      have HDg := hid fun u => digit_any b u
      have hI2 : Hid (FrT TR B0 w wr) := hid HI.out.2
      have hk1 : cellN wr gr = at_ + k := cellN_at HI.out.1
      have hbn : b.toNat ≤ 1 := by cases b <;> simp
      have him' : (i : Int) < (m : Int) := by omega
      clear HCells HWay HI HP
      rw [← hs1] at HW HC2
      clear hs1
      obtain ⟨z, hz⟩ : ∃ z, z = wayOf P D (sgm f at_ (k + 1)) := ⟨_, rfl⟩
      rw [← hz] at HC2 HW
      clear hz
      have hb2 : ((b.toNat : Nat) : Int) < 2 := by omega
      generalize b.toNat = bn at *
      go_wp2_with fail
      refine HN.out.mono ?_
      rintro e w1 ⟨rfl, H1⟩
      have HE := hid (rerr_any H1.out.1)
      clear HN
      go_wp2_with fail
      refine HE.out.mono ?_
      rintro e w1' ⟨rfl, rfl⟩
      clear HE
      obtain ⟨c0, cw⟩ := HC2.out w1 H1.out.2
      clear HC2
      go_wp2_with fail
      go_quiet ((go_at_call 102; exact quiet_left (HDg.out _)))
      have HO2 : StO w1 (w1.drewN nq) := hid (quiet_only ⟨_, rfl⟩)
      have H2 : Hid (IsRd B0 (w1.drewN nq) gr gb 0 f n (at_ + k + 1) ∧ FrT TR B0 w (w1.drewN nq)) := hid ⟨H1.out.1.same HO2.out, hI2.out.trans (H1.out.2.trans (FrT.of_only HO2.out))⟩
      generalize w1.drewN nq = w2 at HO2 H2 ⊢
      clear HO2 H1 c0 cw hI2 HDg
      rcases HW with ⟨j, hj0, hjm, hjP, rfl⟩ | ⟨i2, hi2, hwi, rfl⟩ | ⟨hno, rfl⟩
      · have hj1 : ((j : Int) == 0) = false := by rw [beq_eq_false_iff_ne]; omega
        have HS := hid fun u => waySign_pos j (by omega) u
        have HjP := hid hjP
        clear hjP
        go_wp2_with fail
        refine (HS.out _).mono ?_
        rintro e w3 ⟨rfl, rfl⟩
        go_wp2_with fail
        go_roundw
        case rel => exact ⟨j, k + 1, rfl, by omega, by omega, HjP, H2⟩
        case measure =>
          have := cellN_at H2.out.1
          omega
      · have hs2 := HSgl.out i2 hi2
        have HRd : Hid (RdO sg ws f n at_ ((sg.getD i2 0 : Nat) : Int) 0 0 (at_ + k + 1)) := hid (by
          have hl : (wAt ws i2).length = k + 1 := by rw [hwi, sgm_len]
          exact .inl ⟨i2, hi2, by omega, by rw [hl, hwi], rfl, rfl, rfl, by omega⟩)
        clear hwi
        generalize sg.getD i2 0 = s at *
        have HS := hid fun u => waySign_neg s (by omega) u
        have hs3 : ((-1 - (s : Int)) == 0) = false := by rw [beq_eq_false_iff_ne]; omega
        go_wp2_with fail
        refine (HS.out _).mono ?_
        rintro e w3 ⟨rfl, rfl⟩
        go_wp2_with fail
        go_ret2
        exact ⟨_, _, _, _, rfl, HRd, H2⟩
      · have HRd : Hid (RdO sg ws f n at_ 0 13 0 (at_ + k + 1)) := hid (.inr (.inr ⟨k, hend, HPre.out, hno, rfl, rfl, rfl, rfl⟩))
        clear hno
        go_wp2_with fail
        go_ret2
        exact ⟨_, _, _, _, rfl, HRd, H2⟩
    · rw [next_no (by omega)] at HN
      unfold RdB1 at HN
      have HRd : Hid (RdO sg ws f n at_ 0 4 4 n) := hid (.inr (.inl ⟨k, by omega, HPre.out, rfl, rfl, rfl, rfl⟩))
      have hI2 : Hid (FrT TR B0 w wr) := hid HI.out.2
      have hkn : at_ + k = n := by omega
      rw [hkn] at HN
      clear HI HCells HWay
      go_wp2_with fail
      refine HN.out.mono ?_
      rintro e w1 ⟨rfl, H1⟩
      have HE := hid (rerr_any H1.out.1)
      clear HN
      go_wp2_with fail
      refine HE.out.mono ?_
      rintro e w1' ⟨rfl, rfl⟩
      clear HE
      go_wp2_with fail
      go_ret2
      exact ⟨_, _, _, _, rfl, HRd, hid ⟨H1.out.1, hI2.out.trans H1.out.2⟩⟩
end Go.Proofs.Ytmbcinbkijnblaa

namespace Go.Proofs.Ytmbcinbkijnblaa
open Go.RowKit

def yvC (b : Nat) : Value := .int .u8 (b : Int)
theorem byteInfoC : (Try.prog.info? 5).map (fun i => (i.zero, i.size, i.bytes)) = some (some (.int .u8 0), 1, 1) := by kernel_rfl
theorem wpList_addC {ops : Array Oper} {rest : List Oper} {o : Oper} {a : Act} {Q : Exit → Act → World → Prop} (w0 w : World) (hgd : o.guard = none) (s x : Operand)
    (hop : o.op = Op.call { callee := Callee.builtin Builtin.append, args := #[s, x], argTypes := #[94, 94] })
    (v : Value) (l : List Nat) (hs : a.eval s = v) (h : Hid (OwG 5 w0 w v (l.map yvC))) (b : Nat) (k c : Nat) (hx : a.eval x = .slice (some ⟨k, 0, none⟩) 1 c) (hb : l.length ≤ 16777216) (u : World) (hbu : k = u.heap.size) (hwu : w = u.alloc (.cells #[.int .u8 (b : Int)] 5))
    (K : ∀ g' c' w', Hid (OwG 5 w0 w' (.slice (some ⟨g', 0, none⟩) (l.length + 1) c') ((l ++ [b]).map yvC) ∧ FrT (fun k => k = 5) w0.heap.size w w') → wpList Try.prog ops Q rest (a.put o.dst (.slice (some ⟨g', 0, none⟩) (l.length + 1) c')) w') :
    wpList Try.prog ops Q (o :: rest) a w := by
  obtain ⟨i0, hi0, hq0, hq1, hq2⟩ := info_parts byteInfoC
  refine wpList_append_own_at w hgd s x 94 hop w0.heap.size 5 i0 (.int .u8 0) 1 1 Try.underlying94 hi0 hq0 hq1 hq2 rfl (by omega) v (l.map yvC).length _ hs h.out.own ⟨k, 0, none⟩ 1 c [yvC b] hx (by simp) (cell_one w u k _ 5 hbu hwu) (by intro q hq; simp at hq; subst hq; rfl) (by rw [List.length_map]; unfold maxLen; omega) (by rw [List.length_map]; omega) h.out.ge ?_
  intro v' w' hown hg _ hat
  have hO : OwG 5 w0 w' v' ((l ++ [b]).map yvC) := ⟨by rw [List.map_append, List.length_append]; exact hown, Nat.le_trans h.out.ge hg.size⟩
  have hF : FrT (fun k => k = 5) w0.heap.size w w' := (FrT.refl _ _ w).grown hg fun k hk => by
    have := own_block h.out.own hk
    exact ⟨this.1, this.2.2 _ rfl⟩
  obtain ⟨g', c', F, rfl, _⟩ := hO.shape (n := l.length + 1) (by simp) (by omega)
  exact K g' c' w' (hid ⟨hO, hF⟩)
/-- Bytes got, one by one. -/
inductive Gp (sg : List Nat) (ws : List (List Bool)) (f : Nat → Bool) (n at_ : Nat) : List Nat → Nat → Prop
  | nil : Gp sg ws f n at_ [] at_
  | more {l : List Nat} {a a' b : Nat} : Gp sg ws f n at_ l a → b < 256 → RdO sg ws f n a ((b : Int) + 1) 0 0 a' → Gp sg ws f n at_ (l ++ [b]) a'
def strB (l : List Nat) : ByteArray := strOfNums (l.map fun b => ((b : Nat) : Int))
theorem over {S : Nat → Prop} {T : TypeId → Prop} {a b c : World} (h : Only S a b) (k : FrT T a.heap.size b c) : Only S a c :=
  ⟨k.os.trans h.os, k.tape.trans h.tape, k.output.trans h.output, Nat.le_trans h.size k.size, fun i hi hs => (k.block i (Nat.lt_of_lt_of_le hi h.size) (fun hk => by have := hk.1; omega)).trans (h.block i hi hs)⟩
theorem IsRd.over {B N g gb n at_ : Nat} {e : Int} {f : Nat → Bool} {T : TypeId → Prop} {a w : World} (h : IsRd B a g gb e f n at_) (h1 : g < N) (h2 : gb < N) (o : FrT T N a w) : IsRd B w g gb e f n at_ :=
  ⟨h.small, h.le, Only.row o h.self (fun hk => by have := hk.1; omega), Only.row o h.bytes (fun hk => by have := hk.1; omega), h.ge⟩
structure GtS (B0 : Nat) (w0 w : World) (gr gb : Nat) (f : Nat → Bool) (n a : Nat) (v : Value) (l : List Nat) : Prop where
  own : OwG 5 w0 w v (l.map yvC)
  rd : IsRd B0 w gr gb 0 f n a
  fr : FrT TR B0 w0 w
theorem OwG.rd {w0 w : World} {g c n : Nat} {l : List Nat} (h : OwG 5 w0 w (.slice (some ⟨g, 0, none⟩) n c) (l.map yvC)) (hn : n = l.length) : ∀ i, i < n → w.cell? ⟨g, 0 + i, none⟩ = some (.int .u8 ((l.map fun b => ((b : Nat) : Int)).getD i 0)) := fun i hi => by
  obtain ⟨g', cap, F, e, _, hr, hF, hc, _⟩ := h.shape (n := n) (by simp [hn]) (by omega)
  injection e with e1 _ _
  injection e1 with e1
  injection e1 with e1 _ _
  subst e1
  rw [Nat.zero_add, hr.cell (by omega), hF i hi]
  have : i < l.length := by omega
  simp [List.getD, this, yvC]
theorem RdO.far {sg : List Nat} {ws : List (List Bool)} {f : Nat → Bool} {n a : Nat} {s er e2 : Int} {a2 : Nat} (h : RdO sg ws f n a s er e2 a2) (hl : ∀ i, i < ws.length → 1 ≤ (wAt ws i).length) (hs : ∀ i, i < ws.length → sg.getD i 0 < 257) :
    (er = 0 ∧ e2 = 0 ∧ a < a2 ∧ a2 ≤ n ∧ (s = 0 ∨ ∃ b : Nat, b < 256 ∧ s = (b : Int) + 1)) ∨ er = 4 ∨ er = 13 := by
  rcases h with ⟨i, hi, h1, h2, rfl, rfl, rfl, rfl⟩ | ⟨k, _, _, _, rfl, _⟩ | ⟨k, _, _, _, _, rfl, _⟩
  · have := hl i hi
    have := hs i hi
    refine .inl ⟨rfl, rfl, by omega, by omega, ?_⟩
    by_cases h0 : sg.getD i 0 = 0
    · exact .inl (by omega)
    · exact .inr ⟨sg.getD i 0 - 1, by omega, by omega⟩
  · exact .inr (.inl rfl)
  · exact .inr (.inr rfl)
def GtE (B0 : Nat) (w : World) (sg : List Nat) (ws : List (List Bool)) (gr gb : Nat) (f : Nat → Bool) (n at_ : Nat) (e' : Ending) (w' : World) : Prop :=
  ∃ l a s er e2 at2, e' = .returned (.tuple #[.string (if er = 0 then strB l else ByteArray.empty), .int .i64 er]) ∧ Hid (Gp sg ws f n at_ l a ∧ RdO sg ws f n a s er e2 at2 ∧ (er = 0 → s = 0)) ∧ Hid (IsRd B0 w' gr gb e2 f n at2 ∧ FrT TR B0 w w')
set_option maxHeartbeats 4000000 in
theorem get_any {B B0 g gr gb n at_ : Nat} {f : Nat → Bool} {sg : List Nat} {ws : List (List Bool)} {ls : List Int} {w : World} (hw : WordsOf ls ws) (h : CodeS B w g sg ws) (hr : IsRd B0 w gr gb 0 f n at_) :
    Calls Try.prog 28 #[.pointer (some ⟨g, 0, none⟩), .pointer (some ⟨gr, 0, none⟩)] w (GtE B0 w sg ws gr gb f n at_) := by
  have HAn := hid h.answered
  have hgl := hr.self.lt
  have hbl := hr.bytes.lt
  have HRd : Hid (∀ u a, FrT TR B0 w u → IsRd B0 u gr gb 0 f n a → Calls Try.prog 69 #[.pointer (some ⟨g, 0, none⟩), .pointer (some ⟨gr, 0, none⟩)] u fun e' w' => ∃ s er e2 at2, e' = .returned (.tuple #[.int .i64 s, .int .i64 er]) ∧ Hid (RdO sg ws f n a s er e2 at2) ∧ Hid (IsRd B0 w' gr gb e2 f n at2 ∧ FrT TR B0 u w')) := hid fun u a hu hr => read_any hw (h.frT hu (by unfold TR; decide) (by unfold TR; decide) (by unfold TR; decide)) hr
  have HLo : Hid (∀ i, i < ws.length → 1 ≤ (wAt ws i).length) := hid fun i hi => (h.long i hi).1
  have HSg : Hid (∀ i, i < ws.length → sg.getD i 0 < 257) := hid fun i hi => h.ok.2 i (by rw [h.len]; exact hi)
  have HS0 : Hid (GtS B0 w w gr gb f n at_ (.slice none 0 0) []) := hid ⟨⟨World.ownsRow_nil _ _ _ _, Nat.le_refl _⟩, hr, FrT.refl _ _ _⟩
  have hsm := hr.small
  have hle := hr.le
  clear h hr hw
  go_enter Try.func28, Try.ntmps28
  go_wp2_with fail
  refine HAn.out.mono ?_
  rintro e w1 ⟨rfl, rfl⟩
  clear HAn
  go_wp2_with fail
  go_loopw [6] (fun v0 wr => ∃ (l : List Nat) (a : Nat) (v : Value), v = v0 ∧ at_ + l.length ≤ a ∧ a ≤ n ∧ ((l = [] ∧ v = .slice none 0 0) ∨ ∃ g' c', v = .slice (some ⟨g', 0, none⟩) l.length c') ∧ Hid (Gp sg ws f n at_ l a) ∧ Hid (GtS B0 w wr gr gb f n a v l)) (fun _ wr => n - cellN wr gr)
  case atStart => exact ⟨[], at_, _, rfl, by simp, hle, .inl ⟨rfl, rfl⟩, hid .nil, HS0⟩
  case round =>
    obtain ⟨l, a, v, rfl, hla, han, hv, HG, HS⟩ := hrel
    have HN := hid (HRd.out wr a HS.out.fr HS.out.rd)
    have hcn : cellN wr gr = a := cellN_at HS.out.rd
    clear HRd HS0
    go_wp2_with fail
    refine HN.out.mono ?_
    rintro e w1 ⟨s, er, e2, a2, rfl, HO, H1⟩
    clear HN
    have hfar := HO.out.far HLo.out HSg.out
    have HFr : Hid (FrT TR B0 w w1) := hid (HS.out.fr.trans H1.out.2)
    rcases hfar with ⟨rfl, rfl, ha2, ha3, hs⟩ | rfl | rfl
    · have HOw : Hid (OwG 5 w w1 v (l.map yvC)) := hid ⟨own_ty HS.out.own.own H1.out.2 (by unfold TR; decide), Nat.le_trans HS.out.own.ge H1.out.2.size⟩
      rcases hs with rfl | ⟨b, hb, rfl⟩
      · have HFin : Hid (GtE B0 w sg ws gr gb f n at_ (.returned (.tuple #[.string (strB l), .int .i64 0])) w1) := hid ⟨l, a, 0, 0, 0, a2, rfl, hid ⟨HG.out, HO.out, fun _ => rfl⟩, hid ⟨H1.out.1, HFr.out⟩⟩
        clear HG HO HS H1 HFr HLo HSg hcn
        rcases hv with ⟨rfl, rfl⟩ | ⟨g', c', rfl⟩
        · have hcv := run_convert_bytes_nil (P := Try.prog) w1 94 5 Try.underlying94 Try.underlying5 0 0 9 Try.underlying9
          clear HOw hla
          go_wp2_with fail
          go_ret2
          exact HFin
        · have hcv := run_convert_bytes_arg (P := Try.prog) w1 94 5 Try.underlying94 Try.underlying5 g' 0 l.length c' (l.map fun b => ((b : Nat) : Int)) (by simp) (HOw.out.rd rfl) 9 Try.underlying9
          rw [show strOfNums (l.map fun b => ((b : Nat) : Int)) = strB l from rfl] at hcv
          clear HOw hla
          generalize strB l = S at *
          generalize l.length = m at *
          go_wp2_with fail
          go_ret2
          exact HFin
      · have HB : Hid (∀ u, Calls Try.prog 70 #[.int .i64 ((b : Int) + 1)] u fun e w' => e = .returned (.int .u8 (b : Int)) ∧ u = w') := hid fun u => by
          have := byteOf_any b hb u
          rwa [show ((b + 1 : Nat) : Int) = (b : Int) + 1 by omega] at this
        have HG2 : Hid (Gp sg ws f n at_ (l ++ [b]) a2) := hid (.more HG.out hb HO.out)
        have hb1 : ((b : Int) + 1 == 0) = false := by rw [beq_eq_false_iff_ne]; omega
        have HOw2 : Hid (OwG 5 w (w1.alloc (.cells #[.int .u8 (b : Int)] 5)) v (l.map yvC)) := hid (HOw.out.same ((Only.refl _ _).alloc _))
        clear HG HO HLo HSg HOw
        have hlen : (l ++ [b]).length = l.length + 1 := by simp
        have Hlen := hid hlen
        clear hlen
        rcases hv with ⟨rfl, rfl⟩ | ⟨g', c', rfl⟩
        · go_wp2_with (first
            | (go_at_call 70; refine (HB.out _).mono ?_; rintro e w2 ⟨rfl, rfl⟩)
            | (at_builtin; refine wpList_addC w _ rfl (.tmp 29) (.tmp 32) rfl _ [] rfl HOw2 b w1.heap.size 1 rfl (by simp) w1 rfl rfl ?_; intro g2 c2 w3 H3))
          have HS3 : Hid (GtS B0 w w3 gr gb f n a2 (.slice (some ⟨g2, 0, none⟩) (([] : List Nat).length + 1) c2) ([] ++ [b])) := hid ⟨H3.out.1, (H1.out.1.same ((Only.refl _ _).alloc _)).over hgl hbl H3.out.2, over (Only.alloc HFr.out _) H3.out.2⟩
          go_roundw
          case rel => exact ⟨[] ++ [b], a2, _, rfl, by simp; omega, ha3, .inr ⟨g2, c2, rfl⟩, HG2, HS3⟩
          case measure =>
            have := cellN_at HS3.out.rd
            omega
        · generalize hm : l.length = m at *
          have Hm := hid hm
          clear hm
          go_wp2_with (first
            | (go_at_call 70; refine (HB.out _).mono ?_; rintro e w2 ⟨rfl, rfl⟩)
            | (at_builtin; refine wpList_addC w _ rfl (.tmp 29) (.tmp 32) rfl _ l rfl HOw2 b w1.heap.size 1 rfl (by rw [Hm.out]; omega) w1 rfl rfl ?_; rw [Hm.out]; intro g2 c2 w3 H3))
          have HS3 : Hid (GtS B0 w w3 gr gb f n a2 (.slice (some ⟨g2, 0, none⟩) (m + 1) c2) (l ++ [b])) := hid ⟨H3.out.1, (H1.out.1.same ((Only.refl _ _).alloc _)).over hgl hbl H3.out.2, over (Only.alloc HFr.out _) H3.out.2⟩
          go_roundw
          case rel => exact ⟨l ++ [b], a2, _, rfl, by rw [Hlen.out]; omega, ha3, .inr ⟨g2, c2, by rw [Hlen.out]⟩, HG2, HS3⟩
          case measure =>
            have := cellN_at HS3.out.rd
            omega
    · have HFin : Hid (GtE B0 w sg ws gr gb f n at_ (.returned (.tuple #[.string ByteArray.empty, .int .i64 4])) w1) := hid ⟨l, a, s, 4, e2, a2, rfl, hid ⟨HG.out, HO.out, fun h => by omega⟩, hid ⟨H1.out.1, HFr.out⟩⟩
      clear HG HO HS H1 HFr HLo HSg hcn
      go_wp2_with fail
      go_ret2
      exact HFin
    · have HFin : Hid (GtE B0 w sg ws gr gb f n at_ (.returned (.tuple #[.string ByteArray.empty, .int .i64 13])) w1) := hid ⟨l, a, s, 13, e2, a2, rfl, hid ⟨HG.out, HO.out, fun h => by omega⟩, hid ⟨H1.out.1, HFr.out⟩⟩
      clear HG HO HS H1 HFr HLo HSg hcn
      go_wp2_with fail
      go_ret2
      exact HFin
end Go.Proofs.Ytmbcinbkijnblaa

namespace Go.Proofs.Ytmbcinbkijnblaa
open Go.RowKit

/-- The signs of a text's bytes. -/
def sg1 (b : UInt8) : Fin 257 := ⟨b.toNat + 1, by have := b.toNat_lt; omega⟩
def sgL (l : List UInt8) : List (Fin 257) := l.map sg1 ++ [0]
theorem sgT_sgL (s : ByteArray) : sgT s = sgL s.data.toList := by
  unfold sgT sgL
  congr 1
  refine List.ext_getElem (by rw [List.length_map, List.length_range, List.length_map, Array.length_toList]; rfl) fun i h1 h2 => ?_
  have hi : i < s.size := by rw [List.length_map, List.length_range] at h1; exact h1
  rw [List.getElem_map, List.getElem_map, List.getElem_range]
  unfold sg1
  apply Fin.ext
  show s[i]!.toNat + 1 = _
  have e : s[i]! = s.data.toList[i]'(by rw [Array.length_toList]; exact hi) := by
    rw [getElem!_pos s i hi]
    rfl
  rw [e]
theorem Ahd.app {u v : List Bool} (h : Ahd u v) (s t : List Bool) : Ahd (u ++ s) (v ++ t) := by
  obtain ⟨q, a, b, rfl, rfl⟩ := h
  exact ⟨q, a ++ s, b ++ t, by simp, by simp⟩
theorem Ahd.pre {u v : List Bool} (h : Ahd u v) (p : List Bool) : Ahd (p ++ u) (p ++ v) := by
  obtain ⟨q, a, b, rfl, rfl⟩ := h
  exact ⟨p ++ q, a, b, by simp, by simp⟩
theorem mem_at {sg : List Nat} {s : Nat} (h : s ∈ sg) : ∃ i, i < sg.length ∧ sg.getD i 0 = s := by
  obtain ⟨i, hi, e⟩ := List.mem_iff_getElem.1 h
  exact ⟨i, hi, by simp [List.getD, hi, e]⟩
theorem word_ahd {sg : List Nat} {ws : List (List Bool)} {ls : List Int} (hw : WordsOf ls ws) (hs : SgOk sg) (hl : sg.length = ws.length) {s t : Nat} (h1 : s ∈ sg) (h2 : t ∈ sg) (h : s < t) : Ahd (wordZ sg ws s) (wordZ sg ws t) := by
  obtain ⟨i, hi, rfl⟩ := mem_at h1
  obtain ⟨j, hj, rfl⟩ := mem_at h2
  have hij : i < j := by
    rcases Nat.lt_trichotomy i j with q | q | q
    · exact q
    · subst q; omega
    · have := hs.1 j i q hi; omega
  rw [wordZ_at hs hi, wordZ_at hs hj]
  exact hw.apart i j hij (by omega)
theorem bits_cons (sg : List Nat) (ws : List (List Bool)) (x : Fin 257) (l : List (Fin 257)) : bitsT sg ws (x :: l) = wordZ sg ws x.val ++ bitsT sg ws l := by simp [bitsT]
theorem okT_cons (sg : List Nat) (x : Fin 257) (l : List (Fin 257)) : okT sg (x :: l) = true ↔ x.val ∈ sg ∧ okT sg l = true := by simp [okT]
theorem texts_stand {sg : List Nat} {ws : List (List Bool)} {ls : List Int} (hw : WordsOf ls ws) (hs : SgOk sg) (hl : sg.length = ws.length) : ∀ x y : List UInt8, okT sg (sgL x) = true → okT sg (sgL y) = true →
    (x = y ∧ Op.bytesLess x y = false) ∨ (x ≠ y ∧ Op.bytesLess x y = true ∧ Ahd (bitsT sg ws (sgL x)) (bitsT sg ws (sgL y))) ∨ (x ≠ y ∧ Op.bytesLess x y = false ∧ Ahd (bitsT sg ws (sgL y)) (bitsT sg ws (sgL x)))
  | [], [], _, _ => .inl ⟨rfl, rfl⟩
  | [], b :: y, h1, h2 => by
    have h1' := (okT_cons sg 0 []).1 h1
    have h2' := (okT_cons sg (sg1 b) (sgL y)).1 h2
    refine .inr (.inl ⟨by simp, rfl, ?_⟩)
    have e1 : sgL [] = 0 :: [] := rfl
    have e2 : sgL (b :: y) = sg1 b :: sgL y := rfl
    rw [e1, e2, bits_cons, bits_cons]
    exact (word_ahd hw hs hl h1'.1 h2'.1 (by show 0 < b.toNat + 1; omega)).app _ _
  | a :: x, [], h1, h2 => by
    have h2' := (okT_cons sg 0 []).1 h2
    have h1' := (okT_cons sg (sg1 a) (sgL x)).1 h1
    refine .inr (.inr ⟨by simp, rfl, ?_⟩)
    have e1 : sgL [] = 0 :: [] := rfl
    have e2 : sgL (a :: x) = sg1 a :: sgL x := rfl
    rw [e1, e2, bits_cons, bits_cons]
    exact (word_ahd hw hs hl h2'.1 h1'.1 (by show 0 < a.toNat + 1; omega)).app _ _
  | a :: x, b :: y, h1, h2 => by
    have h1' := (okT_cons sg (sg1 a) (sgL x)).1 h1
    have h2' := (okT_cons sg (sg1 b) (sgL y)).1 h2
    have e1 : sgL (a :: x) = sg1 a :: sgL x := rfl
    have e2 : sgL (b :: y) = sg1 b :: sgL y := rfl
    rw [e1, e2, bits_cons, bits_cons]
    have hlt : a < b ↔ a.toNat < b.toNat := UInt8.lt_iff_toNat_lt
    rcases Nat.lt_trichotomy a.toNat b.toNat with q | q | q
    · refine .inr (.inl ⟨?_, ?_, (word_ahd hw hs hl h1'.1 h2'.1 (by show a.toNat + 1 < b.toNat + 1; omega)).app _ _⟩)
      · rintro e; injection e with e _; subst e; omega
      · simp [Op.bytesLess, hlt, q]
    · obtain rfl : a = b := UInt8.toNat_inj.1 q
      rcases texts_stand hw hs hl x y h1'.2 h2'.2 with ⟨rfl, h⟩ | ⟨hn, h, ha⟩ | ⟨hn, h, ha⟩
      · exact .inl ⟨rfl, by simp [Op.bytesLess, h, hlt]⟩
      · exact .inr (.inl ⟨by simpa using hn, by simp [Op.bytesLess, h], ha.pre _⟩)
      · exact .inr (.inr ⟨by simpa using hn, by simp [Op.bytesLess, h, hlt], ha.pre _⟩)
    · refine .inr (.inr ⟨?_, ?_, (word_ahd hw hs hl h2'.1 h1'.1 (by show b.toNat + 1 < a.toNat + 1; omega)).app _ _⟩)
      · rintro e; injection e with e _; subst e; omega
      · have hne : a ≠ b := by intro e; subst e; omega
        simp [Op.bytesLess, hlt, hne]; omega
theorem cmpB_same : ∀ u : List Bool, cmpB u u = 0
  | [] => rfl
  | x :: u => by simp [cmpB, cmpB_same u]
theorem cmpB_back {u v : List Bool} (h : Ahd u v) : cmpB v u = 1 := by
  obtain ⟨q, s, t, rfl, rfl⟩ := h
  induction q with
  | nil => simp [cmpB]
  | cons x q ih => simpa [cmpB] using ih
theorem begB_back {u v : List Bool} (h : Ahd u v) : begB v u = false := by
  obtain ⟨q, s, t, rfl, rfl⟩ := h
  induction q with
  | nil => simp [begB]
  | cons x q ih => simpa [begB] using ih
/-- All that the law asks of two texts. -/
theorem texts_law {sg : List Nat} {ws : List (List Bool)} {ls : List Int} (hw : WordsOf ls ws) (hs : SgOk sg) (hl : sg.length = ws.length) {x y : List UInt8} (h1 : okT sg (sgL x) = true) (h2 : okT sg (sgL y) = true) :
    (decide (cmpB (bitsT sg ws (sgL x)) (bitsT sg ws (sgL y)) < 0) = Op.bytesLess x y) ∧ ((cmpB (bitsT sg ws (sgL x)) (bitsT sg ws (sgL y)) == 0) = (x == y)) ∧ (cmpB (bitsT sg ws (sgL x)) (bitsT sg ws (sgL y)) ≠ 0 → begB (bitsT sg ws (sgL x)) (bitsT sg ws (sgL y)) = false) := by
  rcases texts_stand hw hs hl x y h1 h2 with ⟨rfl, h⟩ | ⟨hn, h, ha⟩ | ⟨hn, h, ha⟩
  · rw [cmpB_same, h]; simp
  · rw [cmpB_ahd ha, h, begB_ahd ha]; simp [hn]
  · rw [cmpB_back ha, h, begB_back ha]; simp [hn]
/-! What is put is got. -/
theorem sgm_add (f : Nat → Bool) (a m k : Nat) : sgm f a (m + k) = sgm f a m ++ sgm f (a + m) k := by
  induction k with
  | zero => simp [sgm]
  | succ k ih => rw [← Nat.add_assoc, sgm_snoc, ih, sgm_snoc, List.append_assoc, Nat.add_assoc]
theorem wAt_mem {ws : List (List Bool)} {x : List Bool} (h : x ∈ ws) : ∃ j, j < ws.length ∧ wAt ws j = x := by
  obtain ⟨j, hj, e⟩ := List.mem_iff_getElem.1 h
  exact ⟨j, hj, by simp [wAt, List.getD, hj, e]⟩
theorem mem_wAt {ws : List (List Bool)} {j : Nat} (h : j < ws.length) : wAt ws j ∈ ws := by
  have e : wAt ws j = ws[j] := by simp [wAt, List.getD, h]
  rw [e]
  exact List.getElem_mem h
theorem read_det {sg : List Nat} {ws : List (List Bool)} {ls : List Int} {f : Nat → Bool} {n a i : Nat} {s er e2 : Int} {a2 : Nat} (hw : WordsOf ls ws) (hi : i < ws.length) (hh : sgm f a (wAt ws i).length = wAt ws i) (hn : a + (wAt ws i).length ≤ n) (h : RdO sg ws f n a s er e2 a2) :
    s = ((sg.getD i 0 : Nat) : Int) ∧ er = 0 ∧ e2 = 0 ∧ a2 = a + (wAt ws i).length := by
  have long : ∀ k, (wAt ws i).length ≤ k → ∃ r, sgm f a k = wAt ws i ++ r := fun k hk => by
    obtain ⟨d, rfl⟩ := Nat.exists_eq_add_of_le hk
    exact ⟨_, by rw [sgm_add, hh]⟩
  have noext : ∀ x ∈ ws, ∀ r c t, x ≠ wAt ws i ++ r ++ c :: t := fun x hx r c t e => by
    obtain ⟨j, hj, rfl⟩ := wAt_mem hx
    by_cases hij : i = j
    · subst hij
      have := congrArg List.length e
      simp at this
    · exact hw.no_begin hi hj hij (r ++ c :: t) (by show wAt ws j = wAt ws i ++ (r ++ c :: t); rw [e, List.append_assoc])
  rcases h with ⟨j, hj, h1, h2, rfl, rfl, rfl, rfl⟩ | ⟨k, h1, ⟨x, hx, c, t, e⟩, _⟩ | ⟨k, h1, ⟨x, hx, c, t, e⟩, h3, _⟩
  · have hij : i = j := by
      refine Classical.byContradiction fun hij => ?_
      rcases Nat.le_total (wAt ws i).length (wAt ws j).length with q | q
      · obtain ⟨r, hr⟩ := long _ q
        rw [h2] at hr
        exact hw.no_begin hi hj hij r hr
      · obtain ⟨d, hd⟩ := Nat.exists_eq_add_of_le q
        rw [hd, sgm_add, h2] at hh
        exact hw.no_begin hj hi (fun e => hij e.symm) _ hh.symm
    subst hij
    exact ⟨rfl, rfl, rfl, rfl⟩
  · obtain ⟨r, hr⟩ := long k (by omega)
    rw [hr] at e
    exact absurd e (noext x hx r c t)
  · rcases Nat.lt_or_ge k (wAt ws i).length with q | q
    · obtain ⟨d, hd⟩ := Nat.exists_eq_add_of_le (show k + 1 ≤ (wAt ws i).length from q)
      rw [hd, sgm_add] at hh
      exact absurd hh.symm (h3 _ (mem_wAt hi) _)
    · obtain ⟨r, hr⟩ := long k q
      rw [hr] at e
      exact absurd e (noext x hx r c t)
theorem Has.app {f : Nat → Bool} {a : Nat} {xs ys : List Bool} (h : Has f a (xs ++ ys)) : Has f a xs ∧ Has f (a + xs.length) ys := by
  refine ⟨fun i hi => ?_, fun i hi => ?_⟩
  · have := h i (by simp; omega)
    rwa [bf_append, if_pos hi] at this
  · have := h (xs.length + i) (by simp; omega)
    rw [bf_append, if_neg (by omega), Nat.add_sub_cancel_left] at this
    rwa [← Nat.add_assoc] at this
/-- One sign, read where its word lies. -/
theorem read_sign {sg : List Nat} {ws : List (List Bool)} {ls : List Int} {f : Nat → Bool} {n a : Nat} {x : Fin 257} {l : List (Fin 257)} {s er e2 : Int} {a2 : Nat} (hw : WordsOf ls ws) (hs : SgOk sg) (hl : sg.length = ws.length) (hx : x.val ∈ sg) (hh : Has f a (bitsT sg ws (x :: l))) (hn : a + (bitsT sg ws (x :: l)).length ≤ n) (h : RdO sg ws f n a s er e2 a2) :
    s = ((x.val : Nat) : Int) ∧ er = 0 ∧ e2 = 0 ∧ a2 = a + (wordZ sg ws x.val).length ∧ Has f a2 (bitsT sg ws l) ∧ a2 + (bitsT sg ws l).length ≤ n := by
  rw [bits_cons] at hh hn
  rw [List.length_append] at hn
  obtain ⟨i, hi, e⟩ := mem_at hx
  have hz : wordZ sg ws x.val = wAt ws i := by rw [← e]; exact wordZ_at hs hi
  have h2 := hh.app
  rw [hz] at h2 hn ⊢
  obtain ⟨q1, q2, q3, q4⟩ := read_det hw (by omega) h2.1.seg (by omega) h
  rw [e] at q1
  subst q4
  exact ⟨q1, q2, q3, rfl, h2.2, by omega⟩
theorem gp_det {sg : List Nat} {ws : List (List Bool)} {ls : List Int} {f : Nat → Bool} {n a0 : Nat} (hw : WordsOf ls ws) (hs : SgOk sg) (hl : sg.length = ws.length) {x : List UInt8} (hok : okT sg (sgL x) = true) (hh : Has f a0 (bitsT sg ws (sgL x))) (hn : a0 + (bitsT sg ws (sgL x)).length ≤ n) {l : List Nat} {a : Nat} (h : Gp sg ws f n a0 l a) :
    ∃ y, x.map UInt8.toNat = l ++ y.map UInt8.toNat ∧ okT sg (sgL y) = true ∧ Has f a (bitsT sg ws (sgL y)) ∧ a + (bitsT sg ws (sgL y)).length = a0 + (bitsT sg ws (sgL x)).length := by
  induction h with
  | nil => exact ⟨x, rfl, hok, hh, rfl⟩
  | @more l a a' b _ hb hr ih =>
    obtain ⟨y, e, h1, h2, h3⟩ := ih
    cases y with
    | nil =>
      have e1 : sgL [] = 0 :: [] := rfl
      rw [e1] at h1 h2 h3
      obtain ⟨q, _⟩ := read_sign hw hs hl ((okT_cons sg 0 []).1 h1).1 h2 (by omega) hr
      have : ((0 : Fin 257).val : Int) = 0 := rfl
      omega
    | cons c y =>
      have e1 : sgL (c :: y) = sg1 c :: sgL y := rfl
      rw [e1] at h1 h2 h3
      have h1' := (okT_cons sg (sg1 c) (sgL y)).1 h1
      obtain ⟨q1, _, _, q4, q5, q6⟩ := read_sign hw hs hl h1'.1 h2 (by omega) hr
      have hbc : b = c.toNat := by
        have : ((sg1 c).val : Int) = (c.toNat : Int) + 1 := by show ((c.toNat + 1 : Nat) : Int) = _; omega
        omega
      refine ⟨y, by rw [e, hbc]; simp, h1'.2, q5, ?_⟩
      rw [bits_cons, List.length_append] at h3
      omega
theorem strB_of (x : List UInt8) : strB (x.map UInt8.toNat) = ⟨x.toArray⟩ := by
  unfold strB strOfNums
  congr 1
  congr 1
  rw [List.map_map, List.map_map]
  conv => rhs; rw [← List.map_id x]
  refine List.map_congr_left fun b _ => ?_
  simp
theorem get_det {sg : List Nat} {ws : List (List Bool)} {ls : List Int} {f : Nat → Bool} {n a0 a a2 : Nat} {l : List Nat} {s er e2 : Int} (hw : WordsOf ls ws) (hs : SgOk sg) (hl : sg.length = ws.length) {x : List UInt8} (hok : okT sg (sgL x) = true) (hh : Has f a0 (bitsT sg ws (sgL x))) (hn : a0 + (bitsT sg ws (sgL x)).length ≤ n)
    (h : Gp sg ws f n a0 l a ∧ RdO sg ws f n a s er e2 a2 ∧ (er = 0 → s = 0)) : er = 0 ∧ e2 = 0 ∧ strB l = ⟨x.toArray⟩ ∧ a2 = a0 + (bitsT sg ws (sgL x)).length := by
  obtain ⟨y, e, h1, h2, h3⟩ := gp_det hw hs hl hok hh hn h.1
  cases y with
  | cons c y =>
    have e1 : sgL (c :: y) = sg1 c :: sgL y := rfl
    rw [e1] at h1 h2 h3
    obtain ⟨q1, q2, _⟩ := read_sign hw hs hl ((okT_cons sg (sg1 c) (sgL y)).1 h1).1 h2 (by omega) h.2.1
    have := h.2.2 q2
    have h5 : ((sg1 c).val : Int) = (c.toNat : Int) + 1 := by show ((c.toNat + 1 : Nat) : Int) = _; omega
    omega
  | nil =>
    have e1 : sgL [] = 0 :: [] := rfl
    rw [e1] at h1 h2 h3
    obtain ⟨q1, q2, q3, q4, _⟩ := read_sign hw hs hl ((okT_cons sg 0 []).1 h1).1 h2 (by omega) h.2.1
    refine ⟨q2, q3, ?_, ?_⟩
    · rw [List.map_nil, List.append_nil] at e
      rw [← e, strB_of]
    · rw [bits_cons, List.length_append] at h3
      have : (bitsT sg ws []).length = 0 := rfl
      omega
end Go.Proofs.Ytmbcinbkijnblaa
