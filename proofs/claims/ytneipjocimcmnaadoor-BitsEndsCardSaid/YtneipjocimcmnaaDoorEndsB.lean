/- BitsEnds: what its parts ask, by what is known of slices alone. -/
import Derived.Test.YtneipjocimcmnaaDoorEndsA
import Derived.ArgAppend
import Derived.Maps.AppendAt
import Derived.Deep.RegionLaw
namespace Go.Proofs.YtneipjocimcmnaaDoor
open Go.RowKit
open Fen

def BR (w : World) (A : Option Addr) (n : Nat) : Prop := ∃ xs : List Bool, xs.length = n ∧ RdB w A xs
def YR (w : World) (A : Option Addr) (n : Nat) : Prop := ∃ bs : List Nat, bs.length = n ∧ RdY w A bs
def DR (w : World) (A : Option Addr) (N : Nat) : Prop := ∃ one pa pc pz, DeedsIn w A N one pa pc pz
theorem BR.below {w w' : World} {A : Option Addr} {n : Nat} (h : BR w A n) (hb : Below w.heap.size w w') : BR w' A n := by
  obtain ⟨xs, h1, h2⟩ := h
  exact ⟨xs, h1, h2.below hb⟩
theorem YR.below {w w' : World} {A : Option Addr} {n : Nat} (h : YR w A n) (hb : Below w.heap.size w w') : YR w' A n := by
  obtain ⟨xs, h1, h2⟩ := h
  exact ⟨xs, h1, h2.below hb⟩
theorem YR.nil (w : World) : YR w none 0 := ⟨[], rfl, rdy_none w⟩
theorem YR.of_cells {w : World} {b n : Nat} {V : Nat → Int} (h : ∀ j, j < n → w.cell? ⟨b, 0 + j, none⟩ = some (.int .u8 (V j)) ∧ 0 ≤ V j ∧ V j ≤ 255) : YR w (some ⟨b, 0, none⟩) n := by
  refine ⟨(List.range n).map fun j => (V j).toNat, by simp, fun j => ?_, fun j _ => ⟨b, 0, rfl, fun i hi => ?_⟩⟩
  · by_cases hj : j < n
    · have := (h j hj).2
      simp [List.getD, hj]; omega
    · rw [getDn_far _ _ (by simp; omega)]; omega
  · have hi' : i < n := by simpa using hi
    rw [(h i hi').1]
    have := (h i hi').2
    simp [List.getD, hi']; omega
theorem YR.cell {w : World} {b n : Nat} (h : YR w (some ⟨b, 0, none⟩) n) {j : Nat} (hj : j < n) : ∃ y : Nat, w.cell? ⟨b, 0 + j, none⟩ = some (.int .u8 (y : Int)) ∧ y < 256 := by
  obtain ⟨bs, rfl, h1, h2⟩ := h
  obtain ⟨b', off, hA, hc⟩ := h2 j hj
  injection hA with hA
  injection hA with e1 e2
  subst e1
  subst e2
  exact ⟨_, hc j hj, h1 j⟩

def Fine (W : World) (e : Ending) (w' : World) : Prop := e = .returned (.bool true) ∧ Hid (Below W.heap.size W w')
theorem doE {A B : Option Addr} {n cap N c2 : Nat} {i : Int} {W : World} (h : BR W A n) (hA : A = none → n = 0 ∧ cap = 0) (hd : DR W B N) (hT : Tab W) (hn : n ≤ 2000) (hN : N ≤ 2000) :
    Calls Tryd.prog 3 #[.slice A n cap, .slice B N c2, .int .i64 i] W (Fine W) := by
  obtain ⟨xs, h1, h2⟩ := h
  obtain ⟨one, pa, pc, pz, hd⟩ := hd
  exact bitsDo_any A B n N cap c2 xs one pa pc pz i W h2 hA h1.symm hd hT (by omega) (by omega)
theorem readE {A : Option Addr} {m cap : Nat} {n i : Int} {W : World} (h : YR W A m) (hA : A = none → m = 0 ∧ cap = 0) (hT : Tab W) (hm : m ≤ 3000) (hg : n ≤ 24000 ∨ 16777216 < n) :
    Calls Tryd.prog 4 #[.int .i64 n, .slice A m cap, .int .i64 i] W (Fine W) := by
  obtain ⟨bs, rfl, h2⟩ := h
  exact bitsRead_all n i A bs cap W hT h2 hA hm hg

/-! Deeds laid by the call. -/
theorem rdi1 {w : World} {b : Nat} {z : Int} (h : w.cell? ⟨b, 0, none⟩ = some (.int .i64 z)) : RdI w (some ⟨b, 0, none⟩) [z] := fun _ _ => ⟨b, 0, rfl, fun i hi => by
  have : i = 0 := by simp at hi; omega
  subst this
  exact h⟩
theorem rdi2 {w : World} {b : Nat} {y z : Int} (h : w.cell? ⟨b, 0, none⟩ = some (.int .i64 y)) (h2 : w.cell? ⟨b, 1, none⟩ = some (.int .i64 z)) : RdI w (some ⟨b, 0, none⟩) [y, z] := fun _ _ => ⟨b, 0, rfl, fun i hi => by
  match i, hi with
  | 0, _ => exact h
  | 1, _ => exact h2
  | i + 2, hi => exact absurd hi (by simp)⟩
theorem rdi0 (w : World) : RdI w none [] := fun j hj => absurd hj (by simp)
theorem dr1 {w : World} {b p c n : Nat} {o : Bool} {zs : List Int} (hl : zs.length = n) (hn : n ≤ 2000) (h0 : w.cell? ⟨b, 0, none⟩ = some (.bool o)) (h1 : w.cell? ⟨b, 1, none⟩ = some (.slice (some ⟨p, 0, none⟩) n c)) (hz : RdI w (some ⟨p, 0, none⟩) zs) : DR w (some ⟨b, 0, none⟩) 1 := by
  subst hl
  refine ⟨fun _ => o, fun _ => some ⟨p, 0, none⟩, fun _ => c, fun _ => zs, fun j hj => ?_, fun _ _ => hz, (fun _ _ h => by cases h), (fun _ _ => by omega)⟩
  obtain rfl : j = 0 := by omega
  exact ⟨b, 0, rfl, h0, h1⟩
theorem dr3 {w : World} {b p q r c1 c2 c3 : Nat} {o1 o2 o3 : Bool} {z1 z2 z3 : Int} (h0 : w.cell? ⟨b, 0, none⟩ = some (.bool o1)) (h1 : w.cell? ⟨b, 1, none⟩ = some (.slice (some ⟨p, 0, none⟩) 1 c1)) (h2 : w.cell? ⟨b, 2, none⟩ = some (.bool o2)) (h3 : w.cell? ⟨b, 3, none⟩ = some (.slice (some ⟨q, 0, none⟩) 1 c2))
    (h4 : w.cell? ⟨b, 4, none⟩ = some (.bool o3)) (h5 : w.cell? ⟨b, 5, none⟩ = some (.slice (some ⟨r, 0, none⟩) 1 c3)) (hz1 : RdI w (some ⟨p, 0, none⟩) [z1]) (hz2 : RdI w (some ⟨q, 0, none⟩) [z2]) (hz3 : RdI w (some ⟨r, 0, none⟩) [z3]) : DR w (some ⟨b, 0, none⟩) 3 := by
  refine ⟨fun j => match j with | 0 => o1 | 1 => o2 | _ => o3, fun j => match j with | 0 => some ⟨p, 0, none⟩ | 1 => some ⟨q, 0, none⟩ | _ => some ⟨r, 0, none⟩, fun j => match j with | 0 => c1 | 1 => c2 | _ => c3, fun j => match j with | 0 => [z1] | 1 => [z2] | _ => [z3], fun j hj => ?_, fun j hj => ?_, fun j hj h => ?_, fun j hj => ?_⟩
  · match j, hj with
    | 0, _ => exact ⟨b, 0, rfl, h0, h1⟩
    | 1, _ => exact ⟨b, 0, rfl, h2, h3⟩
    | 2, _ => exact ⟨b, 0, rfl, h4, h5⟩
    | j + 3, hj => exact absurd hj (by omega)
  · match j, hj with
    | 0, _ => exact hz1
    | 1, _ => exact hz2
    | 2, _ => exact hz3
    | j + 3, hj => exact absurd hj (by omega)
  · match j, hj with
    | 0, _ => cases h
    | 1, _ => cases h
    | 2, _ => cases h
    | j + 3, hj => exact absurd hj (by omega)
  · match j, hj with
    | 0, _ => simp
    | 1, _ => simp
    | 2, _ => simp
    | j + 3, hj => exact absurd hj (by omega)
theorem dr2 {w : World} {b p c1 : Nat} {o1 o2 : Bool} {z1 z2 : Int} (h0 : w.cell? ⟨b, 0, none⟩ = some (.bool o1)) (h1 : w.cell? ⟨b, 1, none⟩ = some (.slice (some ⟨p, 0, none⟩) 2 c1)) (h2 : w.cell? ⟨b, 2, none⟩ = some (.bool o2)) (h3 : w.cell? ⟨b, 3, none⟩ = some (.slice none 0 0))
    (hz1 : RdI w (some ⟨p, 0, none⟩) [z1, z2]) : DR w (some ⟨b, 0, none⟩) 2 := by
  refine ⟨fun j => match j with | 0 => o1 | _ => o2, fun j => match j with | 0 => some ⟨p, 0, none⟩ | _ => none, fun j => match j with | 0 => c1 | _ => 0, fun j => match j with | 0 => [z1, z2] | _ => [], fun j hj => ?_, fun j hj => ?_, fun j hj h => ?_, fun j hj => ?_⟩
  · match j, hj with
    | 0, _ => exact ⟨b, 0, rfl, h0, h1⟩
    | 1, _ => exact ⟨b, 0, rfl, h2, h3⟩
    | j + 2, hj => exact absurd hj (by omega)
  · match j, hj with
    | 0, _ => exact hz1
    | 1, _ => exact rdi0 w
    | j + 2, hj => exact absurd hj (by omega)
  · match j, hj with
    | 0, _ => cases h
    | 1, _ => exact ⟨rfl, rfl⟩
    | j + 2, hj => exact absurd hj (by omega)
  · match j, hj with
    | 0, _ => simp
    | 1, _ => simp
    | j + 2, hj => exact absurd hj (by omega)

/-! Three lists that grow side by side. -/
def OwnBZ (w : World) (base : Nat) (v : Value) (k : Nat) : Prop := ∃ xs : List Bool, xs.length = k ∧ w.ownsRow base 4 1 v k (xs.map Value.bool)
theorem own_base {w : World} {b : Nat} {t : TypeId} {v : Value} {n : Nat} {xs : List Value} (h : w.ownsRow b t 1 v n xs) : ∀ k, v.ownBlock = some k → b ≤ k ∧ k < w.heap.size := by
  rcases h.2 with ⟨rfl, _⟩ | ⟨g, cap, cur, rfl, hge, hh, _⟩
  · intro k hk; cases hk
  · intro k hk
    injection hk with hk
    subst hk
    refine ⟨hge, ?_⟩
    rcases Nat.lt_or_ge g w.heap.size with a | a
    · exact a
    · rw [Array.getElem?_eq_none a] at hh; cases hh
theorem own_of_blk {w w' : World} {base : Nat} {e : TypeId} {s : Nat} {v : Value} {n : Nat} {xs : List Value} (h : w.ownsRow base e s v n xs) (hb : ∀ g, v.ownBlock = some g → w'.heap[g]? = w.heap[g]?) : w'.ownsRow base e s v n xs := by
  refine ⟨h.1, ?_⟩
  rcases h.2 with h2 | ⟨g, cap, cur, hv, hge, hh, hr⟩
  · exact .inl h2
  · exact .inr ⟨g, cap, cur, hv, hge, by rw [hb g (by rw [hv]; rfl)]; exact hh, hr⟩
structure L3 (w wr : World) (va vb vc : Value) (ka kb kc : Nat) : Prop where
  bel : Below w.heap.size w wr
  a : OwnBZ wr w.heap.size va ka
  b : OwnBZ wr w.heap.size vb kb
  c : OwnBZ wr w.heap.size vc kc
  ab : ∀ g, va.ownBlock = some g → vb.ownBlock ≠ some g
  bc : ∀ g, vb.ownBlock = some g → vc.ownBlock ≠ some g
  ca : ∀ g, vc.ownBlock = some g → va.ownBlock ≠ some g
theorem L3.begin {w wr : World} (h : Below w.heap.size w wr) : L3 w wr (.slice none 0 0) (.slice none 0 0) (.slice none 0 0) 0 0 0 :=
  ⟨h, ⟨[], rfl, rfl, .inl ⟨rfl, rfl⟩⟩, ⟨[], rfl, rfl, .inl ⟨rfl, rfl⟩⟩, ⟨[], rfl, rfl, .inl ⟨rfl, rfl⟩⟩, (fun _ h => by cases h), (fun _ h => by cases h), (fun _ h => by cases h)⟩
theorem L3.rot {w wr : World} {va vb vc : Value} {ka kb kc : Nat} (h : L3 w wr va vb vc ka kb kc) : L3 w wr vb vc va kb kc ka := ⟨h.bel, h.b, h.c, h.a, h.bc, h.ca, h.ab⟩
theorem OwnBZ.alloc {w : World} {base : Nat} {v : Value} {k : Nat} (h : OwnBZ w base v k) (o : Obj) : OwnBZ (w.alloc o) base v k := by
  obtain ⟨xs, h1, h2⟩ := h
  exact ⟨xs, h1, h2.alloc _⟩
theorem L3.push {w wr w2 : World} {va vb vc va' : Value} {ka kb kc : Nat} {o : Obj} (h : L3 w wr va vb vc ka kb kc) (ho : OwnBZ w2 w.heap.size va' (ka + 1)) (hg : (wr.alloc o).grownBy w2 va.ownBlock) (hb : va'.ownBlock = va.ownBlock ∨ va'.ownBlock = some (wr.alloc o).heap.size) : L3 w w2 va' vb vc (ka + 1) kb kc := by
  obtain ⟨xa, _, owa⟩ := h.a
  obtain ⟨xb, hxb, owb⟩ := h.b
  obtain ⟨xc, hxc, owc⟩ := h.c
  have hva := own_base owa
  have hvb := own_base owb
  have hvc := own_base owc
  have hz : (wr.alloc o).heap.size = wr.heap.size + 1 := by simp
  have hold : ∀ g, g < wr.heap.size → (wr.alloc o).heap[g]? = wr.heap[g]? := fun g hg => Below.heap_alloc wr o g hg
  refine ⟨?_, ho, ⟨xb, hxb, ?_⟩, ⟨xc, hxc, ?_⟩, fun g hgg hbb => ?_, h.bc, fun g hgg haa => ?_⟩
  · exact ((((Only.refl (fun _ => False) w).trans (Only.of_below h.bel _)).alloc o).grown hg (fun b he => .inr (hva b he).1)).to_below (fun _ h => h.elim) (Nat.le_refl _)
  · refine own_of_blk owb fun g hgb => ?_
    have hl := (hvb g hgb).2
    rw [hg.block g (by rw [hz]; omega) (fun e => h.ab g e.symm hgb), hold g hl]
  · refine own_of_blk owc fun g hgc => ?_
    have hl := (hvc g hgc).2
    rw [hg.block g (by rw [hz]; omega) (fun e => h.ca g hgc e.symm), hold g hl]
  · rcases hb with e | e
    · exact h.ab g (by rw [← e]; exact hgg) hbb
    · have : g = (wr.alloc o).heap.size := by rw [e] at hgg; injection hgg with hgg; exact hgg.symm
      have := (hvb g hbb).2
      omega
  · rcases hb with e | e
    · exact h.ca g hgg (by rw [← e]; exact haa)
    · have : g = (wr.alloc o).heap.size := by rw [e] at haa; injection haa with haa; exact haa.symm
      have := (hvc g hgg).2
      omega
theorem one_cell (w : World) {ad : Addr} {v : Value} (h : w.cell? ad = some v) : ∀ j u, [v][j]? = some u → w.cell? (ad.add j) = some u := by
  intro j u hu
  cases j with
  | zero => simp at hu; subst hu; cases ad; simp only [Addr.add, Nat.add_zero]; exact h
  | succ j => simp at hu
theorem cell_new1 (w : World) (v : Value) (t : TypeId) : (w.alloc (.cells #[v] t)).cell? ⟨w.heap.size, 0, none⟩ = some v := by simp
theorem wpList_snoc_bool {ops : Array Oper} {rest : List Oper} {o : Oper} {a : Act} {Q : Exit → Act → World → Prop} (w : World) (hgd : o.guard = none) (s x : Operand)
    (hop : o.op = Op.call { callee := Callee.builtin Builtin.append, args := #[s, x], argTypes := #[22, 22] }) (base n : Nat) (v : Value) (hs : a.eval s = v) (hr : Hid (OwnBZ w base v n))
    (ad : Addr) (c : Nat) (z : Bool) (hx : a.eval x = .slice (some ad) 1 c) (hc : w.cell? ad = some (.bool z)) (hn : n ≤ 2000) (hbase : base ≤ w.heap.size)
    (h : ∀ v' w', Hid (OwnBZ w' base v' (n + 1)) → Hid (w.grownBy w' v.ownBlock) → Hid (v'.ownBlock = v.ownBlock ∨ v'.ownBlock = some w.heap.size) → wpList Tryd.prog ops Q rest (a.put o.dst v') w') : wpList Tryd.prog ops Q (o :: rest) a w := by
  obtain ⟨i0, hi0, hz0, hz1, hz2⟩ := info_parts boolInfo
  obtain ⟨xs, hl, hown⟩ := hr.out
  refine wpList_append_own_at _ hgd s x _ hop base 4 i0 (.bool false) 1 1 Tryd.underlying22 hi0 hz0 hz1 hz2 rfl (by omega) v n _ hs hown ad 1 c [.bool z] hx rfl (one_cell w hc) (by intro u hu; simp at hu; subst hu; rfl) (by unfold maxLen; omega) (by omega) hbase ?_
  intro v' w' hown' hg _ hblk
  have e : xs.map Value.bool ++ [.bool z] = (xs ++ [z]).map Value.bool := by simp
  rw [e] at hown'
  exact h v' w' (hid ⟨_, by simp [hl], hown'⟩) (hid hg) (hid hblk)
theorem OwnBZ.read {w : World} {base : Nat} {v : Value} {n : Nat} (h : OwnBZ w base v n) : ∃ A cap, v = .slice A n cap ∧ BR w A n ∧ (A = none → n = 0 ∧ cap = 0) := by
  obtain ⟨xs, hl, ho⟩ := h
  obtain ⟨A, cap, h1, h2, h3⟩ := own_rdb ho hl.symm
  exact ⟨A, cap, h1, ⟨xs, hl, h2⟩, h3⟩

/-! append of one byte, where there is no room, in a region that draws. -/
theorem grown_below {w w' : World} (h : w.grownBy w' none) : Below w.heap.size w w' := ⟨h.os, h.tape, h.output, h.size, fun k hk => h.block k hk (by simp)⟩
theorem own_rowG {w' : World} {t : TypeId} {g cap n : Nat} {cur : Array Value} {L : List Value} (hh : w'.heap[g]? = some (.cells cur t (0, 0))) (hs : cur.size = cap * 1) (ht : cur.toList.take (n * 1) = L) :
    ∃ F, w'.rowIs g t cap F ∧ ∀ j, j < L.length → L[j]? = some (F j) := by
  have hc : ∀ i, i < cap → cur[i]? = some (cur.toList.getD i undef) := fun i hi => by
    have h1 : i < cur.toList.length := by rw [Array.length_toList]; omega
    have : cur[i]? = cur.toList[i]? := by simp
    rw [this, List.getD, List.getElem?_eq_getElem h1]; rfl
  refine ⟨fun j => cur.toList.getD j undef, ⟨cur, hh, by omega, hc⟩, fun j hj => ?_⟩
  subst ht
  have h2 : j < n * 1 ∧ j < cur.toList.length := by rw [List.length_take] at hj; omega
  rw [List.getElem?_take_of_lt h2.1]
  have h3 := hc j (by rw [Array.length_toList] at h2; omega)
  rw [← h3]; simp
theorem byteInfoE : (Tryd.prog.info? 5).map (fun i => (i.zero, i.size, i.bytes)) = some (some (.int .u8 0), 1, 1) := by kernel_rfl
theorem step_snoc_bytes {ops : Array Oper} {o : Oper} {a : Act} {w : World} {K : Act → World → Prop} {Q : Exit → Act → World → Prop} {E : Prop} (hw : Region.wanted o (yielded ops a.tmps) = true) (s x : Operand)
    (hop : o.op = Op.call { callee := Callee.builtin Builtin.append, args := #[s, x], argTypes := #[41, 41] }) (b n cap c : Nat) (hs : a.eval s = .slice (some ⟨b, 0, none⟩) n cap) (hr : Hid (YR w (some ⟨b, 0, none⟩) n))
    (ad : Addr) (y : Int) (hx : a.eval x = .slice (some ad) 1 c) (hc : Hid (w.cell? ad = some (.int .u8 y))) (hy : 0 ≤ y ∧ y ≤ 255) (hfull : cap < n + 1) (hn : n ≤ 2000)
    (h : ∀ g cap' w', Hid (YR w' (some ⟨g, 0, none⟩) (n + 1)) → Hid (Below w.heap.size w w') → K (a.put o.dst (.slice (some ⟨g, 0, none⟩) (n + 1) cap')) w') :
    if Region.wanted o (yielded ops a.tmps) = true then Oper.wp Tryd.prog o a w K Q else E := by
  obtain ⟨i0, hi0, hz0, hz1, hz2⟩ := info_parts byteInfoE
  obtain ⟨bs, hl, hb, hr2⟩ := hr.out
  have hV : ∀ j, j < n → w.cell? ⟨b, 0 + j, none⟩ = some (.int .u8 ((bs.getD j 0 : Nat) : Int)) := fun j hj => by
    obtain ⟨b', off, hA, hc⟩ := hr2 j (by omega)
    injection hA with hA
    injection hA with e1 e2
    subst e1
    subst e2
    exact hc j (by omega)
  have hol : ∀ (j : Nat) (u : Value), ((List.range n).map fun j => Value.int .u8 ((bs.getD j 0 : Nat) : Int))[j]? = some u → w.cell? ((⟨b, 0, none⟩ : Addr).add j) = some u := by
    intro j u hu
    have hj : j < n := by
      rcases Nat.lt_or_ge j n with a | a
      · exact a
      · rw [List.getElem?_eq_none (by simpa using a)] at hu; cases hu
    rw [List.getElem?_map, List.getElem?_range hj] at hu
    simp only [Option.map_some] at hu
    injection hu with hu
    subst hu
    have h9 := hV j hj
    rw [Nat.zero_add] at h9
    cases j with
    | zero => exact h9
    | succ j => simpa [Addr.add] using h9
  rw [if_pos hw]
  obtain ⟨v', w', hrun, hown, hg⟩ := run_append_arg_grows (P := Tryd.prog) w 41 o.type 5 i0 (.int .u8 0) 1 1 Tryd.underlying41 hi0 hz0 hz1 hz2 rfl (by omega) ⟨b, 0, none⟩ n cap _ (by simp) hol ad 1 c [.int .u8 y] rfl (one_cell w hc.out) hfull (by unfold maxLen; omega) (by omega)
  rcases hown.2 with ⟨_, h0⟩ | ⟨g, cap', cur, rfl, _, hh, hle, _, hsz, ht⟩
  · exact absurd h0 (by omega)
  obtain ⟨F, hF, hF2⟩ := own_rowG hh hsz ht
  unfold Oper.wp
  simp [execOp, hop, resolve, invoke, builtin, hs, hx, hrun, Result.andThen]
  refine h g cap' w' (hid (YR.of_cells (V := fun j => if j < n then ((bs.getD j 0 : Nat) : Int) else y) fun j hj => ?_)) (hid (grown_below hg))
  have h1 := hF2 j (by simp; omega)
  rw [Nat.zero_add, hF.cell (by omega)]
  by_cases hl2 : j < n
  · rw [List.getElem?_append_left (by simpa using hl2), List.getElem?_map, List.getElem?_range hl2] at h1
    simp only [Option.map_some] at h1
    injection h1 with h1
    rw [← h1, if_pos hl2]
    have := hb j
    exact ⟨rfl, by omega, by omega⟩
  · rw [List.getElem?_append_right (by simp; omega)] at h1
    have e : j - n = 0 := by omega
    simp [e] at h1
    rw [← h1, if_neg hl2]
    exact ⟨rfl, hy⟩
end Go.Proofs.YtneipjocimcmnaaDoor
