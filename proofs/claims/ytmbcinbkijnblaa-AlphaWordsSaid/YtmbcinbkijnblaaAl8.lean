/- The code of signs and lengths. -/
import Derived.Test.YtmbcinbkijnblaaAl7
namespace Go.Proofs.Ytmbcinbkijnblaa
open Go.RowKit

/-- A word that lies somewhere. -/
def WordB (w : World) (v : Value) (u : List Bool) : Prop := ∃ g, v = .slice (some ⟨g, 0, none⟩) u.length u.length ∧ w.rowIs g 4 u.length (vB u)
theorem WordB.fr {w w' : World} {v : Value} {u : List Bool} {T : TypeId → Prop} {B : Nat} (h : WordB w v u) (o : FrT T B w w') (hT : ¬ T 4) : WordB w' v u := by
  obtain ⟨g, h1, h2⟩ := h
  exact ⟨g, h1, o.row h2 hT⟩
theorem WordB.rd {w : World} {v : Value} {u : List Bool} (h : WordB w v u) : ∃ g, v = .slice (some ⟨g, 0, none⟩) u.length u.length ∧ RdB w (some ⟨g, 0, none⟩) u := by
  obtain ⟨g, h1, h3⟩ := h
  exact ⟨g, h1, RdV.of_row h3⟩
theorem WordV.b {w0 w : World} {v : Value} {u : List Bool} (h : WordV w0 w v u) : WordB w v u := by
  obtain ⟨g, h1, _, h3⟩ := h
  exact ⟨g, h1, h3⟩
/-- Signs: they rise, and are below 257. -/
def SgOk (sg : List Nat) : Prop := (∀ i j, i < j → j < sg.length → sg.getD i 0 < sg.getD j 0) ∧ ∀ i, i < sg.length → sg.getD i 0 < 257
theorem sg_zip {sg : List Nat} {ws : List (List Bool)} {k : Nat} (h : sg.length = ws.length) (hk : k < ws.length) : (sg.zip ws).take (k + 1) = (sg.zip ws).take k ++ [(sg.getD k 0, wAt ws k)] := by
  rw [List.take_add_one]
  congr 1
  have h1 : k < sg.length := by omega
  simp [List.getElem?_zip_eq_some, List.getD, h1, hk]
/-- A code so far: k words. -/
structure CodK (B : Nat) (w : World) (g : Nat) (sg : List Nat) (ws : List (List Bool)) (k : Nat) (F : Nat → Value) (P : List (List Bool)) : Prop where
  row : w.rowIs g 107 259 F
  ge : B ≤ g
  nil0 : k = 0 → F 0 = .slice none 0 0
  code : 0 < k → CodeR B w g F P ((sg.zip ws).take k) ∧ Ts P ((sg.zip ws).take k) (ws.take k) ∧ P.length ≤ 1 + 300 * k
  self : F 1 = .pointer (some ⟨g, 0, none⟩)
  wd : ∀ i, i < k → WordB w (F (2 + sg.getD i 0)) (wAt ws i)
  out : ∀ s, s < 257 → (∀ i, i < k → sg.getD i 0 ≠ s) → F (2 + s) = .slice none 0 0
/-- A code that the package answered: its signs, its words. -/
def IsCode (B : Nat) (w : World) (g : Nat) (sg : List Nat) (ws : List (List Bool)) : Prop := ∃ F P, CodK B w g sg ws ws.length F P
theorem CodK.fr {B B' : Nat} {w w' : World} {g k : Nat} {sg : List Nat} {ws : List (List Bool)} {F : Nat → Value} {P : List (List Bool)} {T : TypeId → Prop} (h : CodK B w g sg ws k F P) (o : FrT T B' w w') (h1 : ¬ T 107) (h2 : ¬ T 151) (h3 : ¬ T 4) : CodK B w' g sg ws k F P :=
  ⟨o.row h.row h1, h.ge, h.nil0, fun hk => ⟨⟨o.row (h.code hk).1.self h1, own_ty (h.code hk).1.own o h2, h.ge, Nat.le_trans (h.code hk).1.le o.size⟩, (h.code hk).2⟩, h.self, fun i hi => (h.wd i hi).fr o h3, h.out⟩
theorem zero1 : (Try.zeroCells107).size = 259 := by kernel_rfl
theorem zero2 : (Try.zeroCells107).toList = .slice none 0 0 :: .pointer none :: List.replicate 257 (.slice none 0 0) := by kernel_rfl
def zF (g : Nat) (i : Nat) : Value := if i = 1 then .pointer (some ⟨g, 0, none⟩) else .slice none 0 0
theorem zero_row (w : World) (g : Nat) (hg : g = w.heap.size) : (w.alloc (.cells ((Try.zeroCells107).setIfInBounds 1 (.pointer (some ⟨g, 0, none⟩))) 107)).rowIs g 107 259 (zF g) := by
  subst hg
  refine ⟨_, Go.Deep.blk_alloc_new _ _, by rw [Array.size_setIfInBounds, zero1], fun i hi => ?_⟩
  unfold zF
  by_cases e : i = 1
  · subst e
    rw [if_pos rfl, Array.getElem?_setIfInBounds_self, if_pos (by rw [zero1]; omega)]
  · rw [if_neg e, Array.getElem?_setIfInBounds_ne (fun h => e h.symm), ← Array.getElem?_toList, zero2]
    match i, e, hi with
    | 0, _, _ => rfl
    | 1, e, _ => exact absurd rfl e
    | k + 2, _, hi => rw [List.getElem?_cons_succ, List.getElem?_cons_succ, List.getElem?_replicate, if_pos (by omega)]
/-- A word more: its cell, then the tree. -/
theorem CodK.word {B : Nat} {w : World} {g k : Nat} {sg : List Nat} {ws : List (List Bool)} {F : Nat → Value} {P : List (List Bool)} (h : CodK B w g sg ws k F P) {s : Nat} (y : Value) :
    (w.setCell ⟨g, 2 + s, none⟩ y).rowIs g 107 259 (fun i => if i = 2 + s then y else F i) ∧ FrT TCd B w (w.setCell ⟨g, 2 + s, none⟩ y) ∧ (0 < k → CodeR B (w.setCell ⟨g, 2 + s, none⟩ y) g (fun i => if i = 2 + s then y else F i) P ((sg.zip ws).take k)) := by
  have hF : FrT TCd B w (w.setCell ⟨g, 2 + s, none⟩ y) := (FrT.refl _ _ w).setCell (p := ⟨g, 2 + s, none⟩) h.ge (TyAt.of_row (T := TCd) h.row rfl) _
  refine ⟨h.row.set (2 + s) y, hF, fun hk => ⟨h.row.set (2 + s) y, ?_, h.ge, Nat.le_trans (h.code hk).1.le hF.size⟩⟩
  have := own_ty (h.code hk).1.own hF (by decide)
  rw [if_neg (by omega)]
  exact this
theorem lay_any {B : Nat} {ls : List Int} {sg : List Nat} {ws : List (List Bool)} {w w1 : World} {g k gu : Nat} {F : Nat → Value} {P : List (List Bool)} (hw : WordsOf ls ws) (hsg : SgOk sg) (hlen : sg.length = ws.length) (hn : ws.length ≤ 257) (hk : k < ws.length) (hb : ∀ i, i < ws.length → (wAt ws i).length ≤ 256)
    (h : CodK B w g sg ws k F P) (hy : w.rowIs gu 4 (wAt ws k).length (vB (wAt ws k))) (hw1 : StO (w.setCell ⟨g, 2 + sg.getD k 0, none⟩ (.slice (some ⟨gu, 0, none⟩) (wAt ws k).length (wAt ws k).length)) w1) :
    Calls Try.prog 86 #[.pointer (some ⟨g, 0, none⟩), .int .i64 ((sg.getD k 0 : Nat) : Int), .slice (some ⟨gu, 0, none⟩) (wAt ws k).length (wAt ws k).length] w1 fun e w' => ∃ F' P', e = .returned (.tuple #[]) ∧ Hid (CodK B w' g sg ws (k + 1) F' P' ∧ FrT TC B w w') := by
  have hs256 : sg.getD k 0 < 257 := hsg.2 k (by omega)
  obtain ⟨c1, c2, c3⟩ := h.word (s := sg.getD k 0) (.slice (some ⟨gu, 0, none⟩) (wAt ws k).length (wAt ws k).length)
  replace c1 := hw1.out.row c1 no_
  replace c2 := c2.trans (FrT.of_only hw1.out)
  replace c3 := fun h => (c3 h).same hw1.out
  have hu1 := c2.row hy (by decide)
  have hlk := hb k hk
  have hpos := hw.long hk
  have hD1 : (sg.zip ws).take (k + 1) = (sg.zip ws).take k ++ [(sg.getD k 0, wAt ws k)] := sg_zip hlen hk
  have hX1 : ws.take (k + 1) = ws.take k ++ [wAt ws k] := by
    rw [List.take_add_one]
    simp [hk]
  have key : ∀ (P' : List (List Bool)) (v : Value) (w' : World), Ts P' ((sg.zip ws).take (k + 1)) (ws.take (k + 1)) → CodeR B w' g (fun i => if i = 0 then v else if i = 2 + sg.getD k 0 then .slice (some ⟨gu, 0, none⟩) (wAt ws k).length (wAt ws k).length else F i) P' ((sg.zip ws).take (k + 1)) → FrT TC B w1 w' → P'.length ≤ 1 + 300 * (k + 1) → ∃ F' P', CodK B w' g sg ws (k + 1) F' P' ∧ FrT TC B w w' := fun P' v w' h1 h2 h3 h4 => by
    refine ⟨_, P', ⟨h2.self, h.ge, fun e => by omega, fun _ => ⟨h2, h1, h4⟩, ?_, fun i hi => ?_, fun s hs ho => ?_⟩, (c2.mono (fun t ht => .inl ht) (Nat.le_refl _)).trans h3⟩
    · show (if (1 : Nat) = 0 then v else if 1 = 2 + sg.getD k 0 then _ else F 1) = _
      rw [if_neg (by omega), if_neg (by omega)]
      exact h.self
    · have hu := h3.row hu1 (by decide)
      show WordB w' (if 2 + sg.getD i 0 = 0 then v else if 2 + sg.getD i 0 = 2 + sg.getD k 0 then _ else F (2 + sg.getD i 0)) _
      rw [if_neg (by omega)]
      by_cases e : i = k
      · subst e
        rw [if_pos rfl]
        exact ⟨gu, rfl, hu⟩
      · have := hsg.1 i k (by omega) (by omega)
        rw [if_neg (by omega)]
        exact ((h.wd i (by omega)).fr c2 (by decide)).fr h3 (by decide)
    · show (if 2 + s = 0 then v else if 2 + s = 2 + sg.getD k 0 then _ else F (2 + s)) = _
      have := ho k (by omega)
      rw [if_neg (by omega), if_neg (by omega)]
      exact h.out s hs fun i hi => ho i (by omega)
  by_cases hk0 : k = 0
  · subst hk0
    have hF0 : (fun i => if i = 2 + sg.getD 0 0 then Value.slice (some ⟨gu, 0, none⟩) (wAt ws 0).length (wAt ws 0).length else F i) 0 = .slice none 0 0 := by
      show (if 0 = 2 + sg.getD 0 0 then _ else F 0) = _
      rw [if_neg (by omega)]
      exact h.nil0 rfl
    refine (lay_first (s := sg.getD 0 0) c1 hF0 h.ge hu1 hpos (by omega) (by omega)).mono ?_
    rintro e w' ⟨P', v, rfl, hH⟩
    obtain ⟨q1, q2, q3, q4⟩ := hH.out
    have hD0 : (sg.zip ws).take 1 = [(sg.getD 0 0, wAt ws 0)] := by rw [hD1]; simp
    have hX0 : ws.take 1 = [wAt ws 0] := by rw [hX1]; simp
    obtain ⟨F', P2, k1, k2⟩ := key P' v w' (by rw [hD0, hX0]; exact q1) (by rw [hD0]; exact q2) q3 (by omega)
    exact ⟨F', P2, rfl, hid ⟨k1, k2⟩⟩
  · obtain ⟨r1, r2, r3⟩ := h.code (by omega)
    have hmem : ∀ d ∈ (sg.zip ws).take k, ∃ i, i < k ∧ d = (sg.getD i 0, wAt ws i) := fun d hd => by
      obtain ⟨i, hi, e⟩ := List.mem_iff_getElem.1 hd
      have hi2 : i < k := by rw [List.length_take] at hi; omega
      refine ⟨i, hi2, ?_⟩
      rw [← e, List.getElem_take, List.getElem_zip]
      simp [List.getD, show i < sg.length by omega, show i < ws.length by omega]
    have hmem2 : ∀ i, i < k → (sg.getD i 0, wAt ws i) ∈ (sg.zip ws).take k := fun i hi => by
      refine List.mem_iff_getElem.2 ⟨i, by rw [List.length_take, List.length_zip]; omega, ?_⟩
      rw [List.getElem_take, List.getElem_zip]
      simp [List.getD, show i < sg.length by omega, show i < ws.length by omega]
    have hT2 : Ts P ((sg.zip ws).take k) (ws.take (k + 1)) := r2.more fun x hx => by rw [hX1]; exact List.mem_append_left _ hx
    refine (lay_old (s := sg.getD k 0) (c3 (by omega)) hT2 hu1 hpos (by omega) (by rw [hX1]; simp) (fun d hd => ?_) (fun x hx => ?_) (by omega) (by omega)).mono ?_
    · obtain ⟨i, hi, rfl⟩ := hmem d hd
      exact ⟨hw.no_begin (by omega) hk (by omega), hw.no_begin hk (by omega) (by omega)⟩
    · rw [hX1] at hx
      rcases List.mem_append.1 hx with hx | hx
      · right
        obtain ⟨i, hi, e⟩ := List.mem_iff_getElem.1 hx
        have hi2 : i < k := by rw [List.length_take] at hi; omega
        refine ⟨_, hmem2 i hi2, ?_⟩
        rw [← e, List.getElem_take]
        simp [show i < ws.length by omega]
      · left; simpa using hx
    · rintro e w' ⟨P', v, rfl, hH⟩
      obtain ⟨q1, q2, q3, q4⟩ := hH.out
      rw [← hD1] at q1 q2
      obtain ⟨F', P2, k1, k2⟩ := key P' v w' q1 q2 q3 (by omega)
      exact ⟨F', P2, rfl, hid ⟨k1, k2⟩⟩
end Go.Proofs.Ytmbcinbkijnblaa
