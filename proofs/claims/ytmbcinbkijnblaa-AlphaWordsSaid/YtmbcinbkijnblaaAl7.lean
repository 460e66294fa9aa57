/- A word is laid into the tree. -/
import Derived.Test.YtmbcinbkijnblaaAl6
namespace Go.Proofs.Ytmbcinbkijnblaa
open Go.RowKit

theorem onward_any {B : Nat} {w : World} {g k : Nat} {F : Nat → Value} {P : List (List Bool)} {D : DL} {X : List (List Bool)} {p : List Bool} {b : Bool} (h : CodeR B w g F P D) (hT : Ts P D X) (hk : P[k]? = some p) (hD : ∀ d ∈ D, d.2 ≠ p ++ [b]) (hx : ∃ x ∈ X, ∃ c t, x = p ++ [b] ++ c :: t) (hl : P.length ≤ 1000000) :
    Calls Try.prog 108 #[.pointer (some ⟨g, 0, none⟩), .int .i64 (k : Int), .bool b] w (OnE B w g F P D X (p ++ [b])) := by
  by_cases hm : p ++ [b] ∈ P
  · exact onward_old h hT hk hm hl
  · exact onward_new h hT hk hm hD hx hl
theorem takeB_snoc {u : List Bool} {k : Nat} (h : k < u.length) : u.take (k + 1) = u.take k ++ [u.getD k false] := by
  rw [List.take_add_one]
  simp [List.getD, h]
theorem if_if (v v' : Value) (F : Nat → Value) : (fun i => if i = 0 then v' else (fun i => if i = 0 then v else F i) i) = fun i => if i = 0 then v' else F i := by
  funext i
  by_cases e : i = 0 <;> simp [e]
/-- In the midst of laying a word. -/
structure LayK (B : Nat) (w wr : World) (g : Nat) (F : Nat → Value) (P : List (List Bool)) (D : DL) (X : List (List Bool)) (u : List Bool) (N k j : Nat) (v : Value) : Prop where
  at_ : P[j]? = some (u.take k)
  ts : Ts P D X
  code : CodeR B wr g (fun i => if i = 0 then v else F i) P D
  fr : FrT TC B w wr
  len : P.length ≤ N + k
/-- A word's end is laid. -/
theorem leaf_cells {B : Nat} {w : World} {g j s : Nat} {F : Nat → Value} {P : List (List Bool)} {D : DL} {X : List (List Bool)} {p : List Bool} {b : Bool} (h : CodeR B w g F P D) (hT : Ts P D X) (hj : P[j]? = some p) (hp : p ++ [b] ∉ P) (hD : ∀ d ∈ D, d.2 ≠ p ++ [b]) :
    ∃ gf cap, F 0 = .slice (some ⟨gf, 0, none⟩) P.length cap ∧ P.length ≤ cap ∧ w.cell? ⟨g, 0, none⟩ = some (.slice (some ⟨gf, 0, none⟩) P.length cap) ∧ (w.cell? ⟨gf, j * 2 + b.toNat, none⟩).isSome = true ∧ w.frozen? ⟨gf, j * 2 + b.toNat, none⟩ = false ∧ gf < w.heap.size ∧
      CodeR B (w.setCell ⟨gf, j * 2 + b.toNat, none⟩ (.int .i64 (-1 - (s : Int)))) g F P (D ++ [(s, p ++ [b])]) ∧ FrT TC B w (w.setCell ⟨gf, j * 2 + b.toNat, none⟩ (.int .i64 (-1 - (s : Int)))) := by
  have hjl := (List.getElem?_eq_some_iff.1 hj).1
  obtain ⟨gf, cap, hv, h1, h2, c0, f0, l0, l1, hc, hs⟩ := h.cells (by omega)
  obtain ⟨cw, fw⟩ := hc j p b hj
  have hb : b.toNat ≤ 1 := by cases b <;> simp
  obtain ⟨s1, s2, s3⟩ := hs (2 * j + b.toNat) (-1 - (s : Int)) (by omega)
  rw [ways_leaf hT hj hp hD] at s2
  rw [Nat.mul_comm 2 j] at s1 s2 s3
  exact ⟨gf, cap, hv, h1, c0, by rw [cw]; rfl, fw, l1, ⟨s1, s2, h.ge, Nat.le_trans h.le s3.size⟩, s3⟩
set_option maxHeartbeats 4000000 in
theorem lay_old {B : Nat} {w : World} {g s : Nat} {F : Nat → Value} {P : List (List Bool)} {D : DL} {X : List (List Bool)} {u : List Bool} {gu : Nat} (h : CodeR B w g F P D) (hT : Ts P D X) (hu : w.rowIs gu 4 u.length (vB u)) (hu1 : 1 ≤ u.length) (hu2 : u.length ≤ 1000) (hX : u ∈ X) (hD : ∀ d ∈ D, (∀ t, u ≠ d.2 ++ t) ∧ ∀ t, d.2 ≠ u ++ t) (hXD : ∀ x ∈ X, x = u ∨ ∃ d ∈ D, d.2 = x) (hl : P.length ≤ 500000) (hs : s ≤ 1000) :
    Calls Try.prog 86 #[.pointer (some ⟨g, 0, none⟩), .int .i64 (s : Int), .slice (some ⟨gu, 0, none⟩) u.length u.length] w fun e w' => ∃ P' v, e = .returned (.tuple #[]) ∧ Hid (Ts P' (D ++ [(s, u)]) X ∧ CodeR B w' g (fun i => if i = 0 then v else F i) P' (D ++ [(s, u)]) ∧ FrT TC B w w' ∧ P'.length ≤ P.length + u.length) := by
  obtain ⟨m, hm⟩ : ∃ m, m + 1 = u.length := ⟨u.length - 1, by omega⟩
  have hpos : 0 < P.length := (List.getElem?_eq_some_iff.1 hT.root).1
  obtain ⟨gf, cap, hv, h1, h2, c0, f0, l0, l1, _, _⟩ := h.cells hpos
  have HK0 : Hid (LayK B w w g F P D X u P.length 0 0 (F 0)) := hid ⟨by rw [List.take_zero]; exact hT.root, hT, ⟨h.self.congr fun i _ => by by_cases e : i = 0 <;> simp [e], by simpa using h.own, h.ge, h.le⟩, FrT.refl _ _ w, by omega⟩
  have HU : Hid (∀ W, FrT TC B w W → ∀ k, k < u.length → W.cell? ⟨gu, k, none⟩ = some (.bool (u.getD k false))) := hid fun W hW k hk => (hW.row hu (by decide)).cell hk
  have HOn : Hid (∀ (wr : World) (P' : List (List Bool)) (k j : Nat) (v : Value), k < m → LayK B w wr g F P' D X u P.length k j v → Calls Try.prog 108 #[.pointer (some ⟨g, 0, none⟩), .int .i64 (j : Int), .bool (u.getD k false)] wr fun e w' => ∃ (P2 : List (List Bool)) (j2 : Nat) (v2 : Value), e = .returned (.int .i64 (j2 : Int)) ∧ Hid (LayK B w w' g F P2 D X u P.length (k + 1) j2 v2)) := hid fun wr P' k j v hk hK => by
    have e1 : u.take k ++ [u.getD k false] = u.take (k + 1) := (takeB_snoc (by omega)).symm
    have hon := onward_any (b := u.getD k false) hK.code hK.ts hK.at_ (fun d hd e => by
      rw [e1] at e
      exact (hD d hd).1 (u.drop (k + 1)) (by rw [e, List.take_append_drop])) ⟨u, hX, u.getD (k + 1) false, u.drop (k + 2), by
        rw [e1]
        have : u.drop (k + 1) = u.getD (k + 1) false :: u.drop (k + 2) := by
          rw [List.drop_eq_getElem_cons (show k + 1 < u.length by omega)]
          simp [List.getD, show k + 1 < u.length by omega]
        rw [← this, List.take_append_drop]⟩ (by have := hK.len; omega)
    refine hon.mono ?_
    rintro e w' ⟨P2, j2, v2, he, hH⟩
    obtain ⟨q1, q2, q3, q4, q5⟩ := hH.out
    rw [if_if] at q4
    rw [e1] at q1
    exact ⟨P2, j2, v2, he, hid ⟨q1, q3, q4, hK.fr.trans q5, by have := hK.len; omega⟩⟩
  have HEnd : Hid (∀ (wr : World) (P' : List (List Bool)) (j : Nat) (v : Value), LayK B w wr g F P' D X u P.length m j v → ∃ gf cap, v = .slice (some ⟨gf, 0, none⟩) P'.length cap ∧ j < P'.length ∧ wr.cell? ⟨g, 0, none⟩ = some (.slice (some ⟨gf, 0, none⟩) P'.length cap) ∧ (wr.cell? ⟨gf, j * 2 + (u.getD m false).toNat, none⟩).isSome = true ∧ wr.frozen? ⟨gf, j * 2 + (u.getD m false).toNat, none⟩ = false ∧ gf < wr.heap.size ∧
      Hid (Ts P' (D ++ [(s, u)]) X ∧ CodeR B (wr.setCell ⟨gf, j * 2 + (u.getD m false).toNat, none⟩ (.int .i64 (-1 - (s : Int)))) g (fun i => if i = 0 then v else F i) P' (D ++ [(s, u)]) ∧ FrT TC B w (wr.setCell ⟨gf, j * 2 + (u.getD m false).toNat, none⟩ (.int .i64 (-1 - (s : Int)))) ∧ P'.length ≤ P.length + u.length)) := hid fun wr P' j v hK => by
    have e1 : u.take m ++ [u.getD m false] = u := by rw [← takeB_snoc (by omega), hm, List.take_length]
    have hnm : u ∉ P' := fun hin => by
      obtain ⟨x, hx, b, t, e⟩ := hK.ts.pref u hin
      rcases hXD x hx with rfl | ⟨d, hd, rfl⟩
      · have := congrArg List.length e
        simp at this
      · exact (hD d hd).2 _ e
    obtain ⟨gf, cap, r1, r2, r3, r4, r5, r6, r7, r8⟩ := leaf_cells (s := s) (b := u.getD m false) hK.code hK.ts hK.at_ (by rw [e1]; exact hnm) (fun d hd e => by
      rw [e1] at e
      exact (hD d hd).1 [] (by rw [e, List.append_nil]))
    have hts := hK.ts.leaf (s := s) (b := u.getD m false) hK.at_
    rw [e1] at r7 hts
    rw [if_pos rfl] at r1
    exact ⟨gf, cap, r1, (List.getElem?_eq_some_iff.1 hK.at_).1, r3, r4, r5, r6, hid ⟨hts, r7, hK.fr.trans r8, by have := hK.len; omega⟩⟩
  have HDg := hid fun b u => digit_any b u
  have HWt := hid fun u => wayTo_any s hs u
  have hne : ((P.length : Int) == 0) = false := by rw [beq_eq_false_iff_ne]; omega
  rw [hv] at HK0
  have HR := hid h
  have hml : Hid (m + 1 = u.length) := hid hm
  obtain ⟨n, hn⟩ : ∃ n, n = u.length := ⟨_, rfl⟩
  obtain ⟨q, hq⟩ : ∃ q, q = P.length := ⟨_, rfl⟩
  rw [← hn] at hm hu2 ⊢
  rw [← hq] at c0 hne
  clear h hT hu hD hXD hX hv l1 f0 hu1
  have hnI : IntKind.i64.wrap ((n : Int) - 1) = (m : Int) := by rw [IntKind.wrap_i64]; omega
  have hnI2 : (n : Int) - 1 = (m : Int) := by omega
  have hmn : (m : Int) ≤ (n : Int) := by omega
  have Hnu := hid hn
  have Hq := hid hq
  clear hn hm hq
  go_enter Try.func86, Try.ntmps86
  go_wp2_with fail
  go_loopw [6, 28] (fun s6 s28 wr => ∃ (P' : List (List Bool)) (k j : Nat) (v : Value), k ≤ m ∧ s28 = .int .i64 (k : Int) ∧ s6 = .int .i64 (j : Int) ∧ Hid (LayK B w wr g F P' D X u P.length k j v)) (fun _ s _ => m - (intOf s).toNat)
  case atStart => exact ⟨P, 0, 0, _, by omega, rfl, rfl, HK0⟩
  case round =>
    obtain ⟨P', k, j, v, hk, rfl, rfl, HK⟩ := hrel
    clear HK0 c0
    by_cases hp : k < m
    · have hp' : (k : Int) < (m : Int) := by omega
      have cu := HU.out wr HK.out.fr k (by have := hml.out; omega)
      have HC := hid (HOn.out wr P' k j v hp HK.out)
      generalize u.getD k false = b at *
      go_wp2_with fail
      refine HC.out.mono ?_
      rintro e w2 ⟨P2, j2, v2, rfl, HK2⟩
      go_wp2_with fail
      go_roundw
      case rel => exact ⟨P2, k + 1, j2, v2, by omega, by go_num, rfl, HK2⟩
      case measure => simp [intOf]; omega
    · obtain rfl : k = m := by omega
      obtain ⟨gf2, cap2, rfl, hj2, c2, hsome, f2, l2, HF⟩ := HEnd.out wr P' j v HK.out
      have cu := HU.out wr HK.out.fr k (by have := hml.out; omega)
      generalize hbb : u.getD k false = b at *
      have HDb := hid fun u => HDg.out b u
      have hbn : b.toNat ≤ 1 := by cases b <;> simp
      generalize b.toNat = bn at *
      have hkn : (k : Int) < (n : Int) := by omega
      have hjq : (j : Int) < ((P'.length : Nat) : Int) := by omega
      have hb2 : (bn : Int) < 2 := by omega
      generalize hq2 : P'.length = q2 at *
      have Hq2 := hid hq2
      clear hq2
      have c2' : (wr.setCell ⟨gf2, j * 2 + bn, none⟩ (.int .i64 (-1 - (s : Int)))).drew.cell? ⟨g, 0, none⟩ = some (.slice (some ⟨gf2, 0, none⟩) q2 cap2) := HF.out.2.1.self.cell (i := 0) (by omega)
      have cu' : (wr.setCell ⟨gf2, j * 2 + bn, none⟩ (.int .i64 (-1 - (s : Int)))).drew.cell? ⟨gu, k, none⟩ = some (.bool b) := (HU.out _ HF.out.2.2.1 k (by have := hml.out; omega)).trans (by rw [hbb])
      clear HK
      obtain ⟨cv, ccv⟩ := Option.isSome_iff_exists.1 hsome
      go_wp2_with fail
      go_region_held3 (fun w' => w'.cell? ⟨g, 0, none⟩ = some (.slice (some ⟨gf2, 0, none⟩) q2 cap2) ∧ w'.cell? ⟨gu, k, none⟩ = some (.bool b))
        (first | assumption | exact ⟨c2, cu⟩ | exact ⟨c2', cu'⟩)
        (first
          | (go_at_call 102; refine (HDb.out _).mono ?_; rintro e w3 ⟨rfl, rfl⟩)
          | (go_at_call 109; refine (HWt.out _).mono ?_; rintro e w4 ⟨rfl, rfl⟩))
      clear c2 cu c2' cu' ccv f2
      go_wp2_with fail
      go_end0
      obtain ⟨r1, r2, r3, r4⟩ := HF.out
      exact ⟨P', _, rfl, hid ⟨r1, r2.same (Only.refl _ _).drew, r3.drew, by rw [Hq2.out, Hnu.out]; exact r4⟩⟩
set_option maxHeartbeats 4000000 in
theorem lay_first {B : Nat} {w : World} {g s : Nat} {F : Nat → Value} {u : List Bool} {gu : Nat} (h : w.rowIs g 107 259 F) (hF0 : F 0 = .slice none 0 0) (hB : B ≤ g) (hu : w.rowIs gu 4 u.length (vB u)) (hu1 : 1 ≤ u.length) (hu2 : u.length ≤ 1000) (hs : s ≤ 1000) :
    Calls Try.prog 86 #[.pointer (some ⟨g, 0, none⟩), .int .i64 (s : Int), .slice (some ⟨gu, 0, none⟩) u.length u.length] w fun e w' => ∃ P' v, e = .returned (.tuple #[]) ∧ Hid (Ts P' [(s, u)] [u] ∧ CodeR B w' g (fun i => if i = 0 then v else F i) P' [(s, u)] ∧ FrT TC B w w' ∧ P'.length ≤ 1 + u.length) := by
  have hune : u ≠ [] := fun e => by rw [e] at hu1; simp at hu1
  obtain ⟨P, hP⟩ : ∃ P : List (List Bool), P = [[]] := ⟨_, rfl⟩
  obtain ⟨D, hDe⟩ : ∃ D : DL, D = [] := ⟨_, rfl⟩
  obtain ⟨X, hXe⟩ : ∃ X : List (List Bool), X = [u] := ⟨_, rfl⟩
  have hPl : P.length = 1 := by rw [hP]; rfl
  have hT : Ts P D X := by rw [hP, hDe, hXe]; exact Ts.start hune
  have hX : u ∈ X := by rw [hXe]; simp
  have hD : ∀ d ∈ D, (∀ t, u ≠ d.2 ++ t) ∧ ∀ t, d.2 ≠ u ++ t := by rw [hDe]; intro d hd; cases hd
  have hXD : ∀ x ∈ X, x = u ∨ ∃ d ∈ D, d.2 = x := by rw [hXe]; intro x hx; left; simpa using hx
  have hl : P.length ≤ 500000 := by omega
  have hDs : [(s, u)] = D ++ [(s, u)] := by rw [hDe]; rfl
  rw [← hXe, hDs, ← hPl]
  obtain ⟨m, hm⟩ : ∃ m, m + 1 = u.length := ⟨u.length - 1, by omega⟩
  have hpos : 0 < P.length := (List.getElem?_eq_some_iff.1 hT.root).1
  have c0 := h.cell (i := 0) (by omega)
  rw [hF0] at c0
  have f0 := h.frozen 0
  have l0 := h.lt
  have HK0 : Hid (LayK B w ((w.setCell ⟨g, 0, none⟩ (.slice (some ⟨w.heap.size, 0, none⟩) 1 1)).alloc (.cells #[.int .i64 0, .int .i64 0] 151)) g F P D X u P.length 0 0 (.slice (some ⟨w.heap.size, 0, none⟩) 1 1)) := hid (by
    have hF : FrT TCd B w (w.setCell ⟨g, 0, none⟩ (.slice (some ⟨w.heap.size, 0, none⟩) 1 1)) := (FrT.refl _ _ _).setCell (p := ⟨g, 0, none⟩) hB (TyAt.of_row (T := TCd) h rfl) _
    have hBw : B ≤ w.heap.size := by omega
    have hsz : (w.setCell ⟨g, 0, none⟩ (.slice (some ⟨w.heap.size, 0, none⟩) 1 1)).heap.size = w.heap.size := by simp [World.setCell]
    refine ⟨by rw [List.take_zero]; exact hT.root, hT, ⟨(h.set 0 _).alloc _, ?_, hB, ?_⟩, (hF.alloc _).mono (fun t ht => .inl ht) (Nat.le_refl _), by omega⟩
    · rw [hP, hDe]
      refine ⟨rfl, .inr ⟨w.heap.size, 1, #[.int .i64 0, .int .i64 0], rfl, hBw, ?_, Nat.le_refl _, by unfold maxLen; omega, rfl, rfl⟩⟩
      have := Go.Deep.blk_alloc_new (w.setCell ⟨g, 0, none⟩ (.slice (some ⟨w.heap.size, 0, none⟩) 1 1)) (.cells #[.int .i64 0, .int .i64 0] 151)
      rw [hsz] at this
      exact this
    · exact Nat.le_trans hBw (hF.alloc _).size)
  have HU : Hid (∀ W, FrT TC B w W → ∀ k, k < u.length → W.cell? ⟨gu, k, none⟩ = some (.bool (u.getD k false))) := hid fun W hW k hk => (hW.row hu (by decide)).cell hk
  have HOn : Hid (∀ (wr : World) (P' : List (List Bool)) (k j : Nat) (v : Value), k < m → LayK B w wr g F P' D X u P.length k j v → Calls Try.prog 108 #[.pointer (some ⟨g, 0, none⟩), .int .i64 (j : Int), .bool (u.getD k false)] wr fun e w' => ∃ (P2 : List (List Bool)) (j2 : Nat) (v2 : Value), e = .returned (.int .i64 (j2 : Int)) ∧ Hid (LayK B w w' g F P2 D X u P.length (k + 1) j2 v2)) := hid fun wr P' k j v hk hK => by
    have e1 : u.take k ++ [u.getD k false] = u.take (k + 1) := (takeB_snoc (by omega)).symm
    have hon := onward_any (b := u.getD k false) hK.code hK.ts hK.at_ (fun d hd e => by
      rw [e1] at e
      exact (hD d hd).1 (u.drop (k + 1)) (by rw [e, List.take_append_drop])) ⟨u, hX, u.getD (k + 1) false, u.drop (k + 2), by
        rw [e1]
        have : u.drop (k + 1) = u.getD (k + 1) false :: u.drop (k + 2) := by
          rw [List.drop_eq_getElem_cons (show k + 1 < u.length by omega)]
          simp [List.getD, show k + 1 < u.length by omega]
        rw [← this, List.take_append_drop]⟩ (by have := hK.len; omega)
    refine hon.mono ?_
    rintro e w' ⟨P2, j2, v2, he, hH⟩
    obtain ⟨q1, q2, q3, q4, q5⟩ := hH.out
    rw [if_if] at q4
    rw [e1] at q1
    exact ⟨P2, j2, v2, he, hid ⟨q1, q3, q4, hK.fr.trans q5, by have := hK.len; omega⟩⟩
  have HEnd : Hid (∀ (wr : World) (P' : List (List Bool)) (j : Nat) (v : Value), LayK B w wr g F P' D X u P.length m j v → ∃ gf cap, v = .slice (some ⟨gf, 0, none⟩) P'.length cap ∧ j < P'.length ∧ wr.cell? ⟨g, 0, none⟩ = some (.slice (some ⟨gf, 0, none⟩) P'.length cap) ∧ (wr.cell? ⟨gf, j * 2 + (u.getD m false).toNat, none⟩).isSome = true ∧ wr.frozen? ⟨gf, j * 2 + (u.getD m false).toNat, none⟩ = false ∧ gf < wr.heap.size ∧
      Hid (Ts P' (D ++ [(s, u)]) X ∧ CodeR B (wr.setCell ⟨gf, j * 2 + (u.getD m false).toNat, none⟩ (.int .i64 (-1 - (s : Int)))) g (fun i => if i = 0 then v else F i) P' (D ++ [(s, u)]) ∧ FrT TC B w (wr.setCell ⟨gf, j * 2 + (u.getD m false).toNat, none⟩ (.int .i64 (-1 - (s : Int)))) ∧ P'.length ≤ P.length + u.length)) := hid fun wr P' j v hK => by
    have e1 : u.take m ++ [u.getD m false] = u := by rw [← takeB_snoc (by omega), hm, List.take_length]
    have hnm : u ∉ P' := fun hin => by
      obtain ⟨x, hx, b, t, e⟩ := hK.ts.pref u hin
      rcases hXD x hx with rfl | ⟨d, hd, rfl⟩
      · have := congrArg List.length e
        simp at this
      · exact (hD d hd).2 _ e
    obtain ⟨gf, cap, r1, r2, r3, r4, r5, r6, r7, r8⟩ := leaf_cells (s := s) (b := u.getD m false) hK.code hK.ts hK.at_ (by rw [e1]; exact hnm) (fun d hd e => by
      rw [e1] at e
      exact (hD d hd).1 [] (by rw [e, List.append_nil]))
    have hts := hK.ts.leaf (s := s) (b := u.getD m false) hK.at_
    rw [e1] at r7 hts
    rw [if_pos rfl] at r1
    exact ⟨gf, cap, r1, (List.getElem?_eq_some_iff.1 hK.at_).1, r3, r4, r5, r6, hid ⟨hts, r7, hK.fr.trans r8, by have := hK.len; omega⟩⟩
  have HDg := hid fun b u => digit_any b u
  have HWt := hid fun u => wayTo_any s hs u
  have hml : Hid (m + 1 = u.length) := hid hm
  obtain ⟨n, hn⟩ : ∃ n, n = u.length := ⟨_, rfl⟩
  rw [← hn] at hm hu2 ⊢
  clear h hT hu hD hXD hX hu1 hune hXe hDe hP hDs hF0 hPl
  have hnI : IntKind.i64.wrap ((n : Int) - 1) = (m : Int) := by rw [IntKind.wrap_i64]; omega
  have hnI2 : (n : Int) - 1 = (m : Int) := by omega
  have hmn : (m : Int) ≤ (n : Int) := by omega
  have Hnu := hid hn
  clear hn hm
  go_enter Try.func86, Try.ntmps86
  go_wp2_with fail
  generalize (w.setCell ⟨g, 0, none⟩ (.slice (some ⟨w.heap.size, 0, none⟩) 1 1)).alloc (.cells #[.int .i64 0, .int .i64 0] 151) = w1 at *
  generalize Value.slice (some ⟨w.heap.size, 0, none⟩) 1 1 = v1 at *
  clear f0 l0
  go_loopw [6, 28] (fun s6 s28 wr => ∃ (P' : List (List Bool)) (k j : Nat) (v : Value), k ≤ m ∧ s28 = .int .i64 (k : Int) ∧ s6 = .int .i64 (j : Int) ∧ Hid (LayK B w wr g F P' D X u P.length k j v)) (fun _ s _ => m - (intOf s).toNat)
  case atStart => exact ⟨P, 0, 0, _, by omega, rfl, rfl, HK0⟩
  case round =>
    obtain ⟨P', k, j, v, hk, rfl, rfl, HK⟩ := hrel
    clear HK0 c0
    by_cases hp : k < m
    · have hp' : (k : Int) < (m : Int) := by omega
      have cu := HU.out wr HK.out.fr k (by have := hml.out; omega)
      have HC := hid (HOn.out wr P' k j v hp HK.out)
      generalize u.getD k false = b at *
      go_wp2_with fail
      refine HC.out.mono ?_
      rintro e w2 ⟨P2, j2, v2, rfl, HK2⟩
      go_wp2_with fail
      go_roundw
      case rel => exact ⟨P2, k + 1, j2, v2, by omega, by go_num, rfl, HK2⟩
      case measure => simp [intOf]; omega
    · obtain rfl : k = m := by omega
      obtain ⟨gf2, cap2, rfl, hj2, c2, hsome, f2, l2, HF⟩ := HEnd.out wr P' j v HK.out
      have cu := HU.out wr HK.out.fr k (by have := hml.out; omega)
      generalize hbb : u.getD k false = b at *
      have HDb := hid fun u => HDg.out b u
      have hbn : b.toNat ≤ 1 := by cases b <;> simp
      generalize b.toNat = bn at *
      have hkn : (k : Int) < (n : Int) := by omega
      have hjq : (j : Int) < ((P'.length : Nat) : Int) := by omega
      have hb2 : (bn : Int) < 2 := by omega
      generalize hq2 : P'.length = q2 at *
      have Hq2 := hid hq2
      clear hq2
      have c2' : (wr.setCell ⟨gf2, j * 2 + bn, none⟩ (.int .i64 (-1 - (s : Int)))).drew.cell? ⟨g, 0, none⟩ = some (.slice (some ⟨gf2, 0, none⟩) q2 cap2) := HF.out.2.1.self.cell (i := 0) (by omega)
      have cu' : (wr.setCell ⟨gf2, j * 2 + bn, none⟩ (.int .i64 (-1 - (s : Int)))).drew.cell? ⟨gu, k, none⟩ = some (.bool b) := (HU.out _ HF.out.2.2.1 k (by have := hml.out; omega)).trans (by rw [hbb])
      clear HK
      obtain ⟨cv, ccv⟩ := Option.isSome_iff_exists.1 hsome
      go_wp2_with fail
      go_region_held3 (fun w' => w'.cell? ⟨g, 0, none⟩ = some (.slice (some ⟨gf2, 0, none⟩) q2 cap2) ∧ w'.cell? ⟨gu, k, none⟩ = some (.bool b))
        (first | assumption | exact ⟨c2, cu⟩ | exact ⟨c2', cu'⟩)
        (first
          | (go_at_call 102; refine (HDb.out _).mono ?_; rintro e w3 ⟨rfl, rfl⟩)
          | (go_at_call 109; refine (HWt.out _).mono ?_; rintro e w4 ⟨rfl, rfl⟩))
      clear c2 cu c2' cu' ccv f2
      go_wp2_with fail
      go_end0
      obtain ⟨r1, r2, r3, r4⟩ := HF.out
      exact ⟨P', _, rfl, hid ⟨r1, r2.same (Only.refl _ _).drew, r3.drew, by rw [Hq2.out, Hnu.out]; exact r4⟩⟩
end Go.Proofs.Ytmbcinbkijnblaa
