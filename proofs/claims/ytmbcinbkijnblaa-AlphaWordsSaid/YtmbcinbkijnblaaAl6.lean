/- The tree of a code in memory. -/
import Derived.Test.YtmbcinbkijnblaaAl5
import Derived.BigQuiet
import Derived.Deep.RegionHeld3
namespace Go.Proofs.Ytmbcinbkijnblaa
open Go.RowKit

theorem own_of_row {w : World} {B g n s cap : Nat} {e : TypeId} {xs : List Value} {F : Nat → Value} (hr : w.rowIs g e (cap * s) F) (hl : xs.length = n * s) (hF : ∀ j, j < n * s → some (F j) = xs[j]?) (hB : B ≤ g) (h1 : n ≤ cap) (h2 : cap ≤ maxLen) : w.ownsRow B e s (.slice (some ⟨g, 0, none⟩) n cap) n xs := by
  obtain ⟨cur, hh, hsz, hc⟩ := hr
  refine ⟨hl, .inr ⟨g, cap, cur, rfl, hB, hh, h1, h2, hsz, ?_⟩⟩
  apply List.ext_getElem?
  intro j
  by_cases hj : j < n * s
  · have hj2 : j < cap * s := Nat.lt_of_lt_of_le hj (Nat.mul_le_mul_right s h1)
    rw [List.getElem?_take_of_lt hj, ← hF j hj]
    have := hc j hj2
    simpa using this
  · rw [List.getElem?_eq_none (by simp; omega), List.getElem?_eq_none (by omega)]
theorem own2 {w : World} {B n s : Nat} {e : TypeId} {v : Value} {xs : List Value} (h : w.ownsRow B e s v n xs) (hn : 0 < n) : ∃ g cap F, v = .slice (some ⟨g, 0, none⟩) n cap ∧ B ≤ g ∧ w.rowIs g e (cap * s) F ∧ (∀ j, j < n * s → some (F j) = xs[j]?) ∧ n ≤ cap ∧ cap ≤ maxLen := by
  rcases h.2 with ⟨_, h2⟩ | ⟨g, cap, cur, rfl, hge, hh, hle, hcm, hsz, ht⟩
  · omega
  · have hF : ∀ i, i < cap * s → cur[i]? = some (cur.getD i undef) := fun i hi => by simp [Array.getD, show i < cur.size by omega]
    refine ⟨g, cap, fun i => cur.getD i undef, rfl, hge, ⟨cur, hh, hsz, hF⟩, fun j hj => ?_, hle, hcm⟩
    rw [← ht, List.getElem?_take_of_lt hj, ← hF j (Nat.lt_of_lt_of_le hj (Nat.mul_le_mul_right s hle))]
    simp
theorem forkInfo : (Try.prog.info? 151).map (fun i => (i.zero, i.size, i.bytes)) = some (some (.agg #[.int .i64 0, .int .i64 0]), 2, 16) := by kernel_rfl
abbrev TC (k : TypeId) : Prop := k = 107 ∨ k = 151
/-- A code's cells, and its tree. -/
structure CodeR (B : Nat) (w : World) (g : Nat) (F : Nat → Value) (P : List (List Bool)) (D : DL) : Prop where
  self : w.rowIs g 107 259 F
  own : w.ownsRow B 151 2 (F 0) P.length ((waysL P D).map iv)
  ge : B ≤ g
  le : B ≤ w.heap.size
theorem CodeR.cells {B : Nat} {w : World} {g : Nat} {F : Nat → Value} {P : List (List Bool)} {D : DL} (h : CodeR B w g F P D) (hP : 0 < P.length) :
    ∃ gf cap, F 0 = .slice (some ⟨gf, 0, none⟩) P.length cap ∧ P.length ≤ cap ∧ cap ≤ maxLen ∧ w.cell? ⟨g, 0, none⟩ = some (.slice (some ⟨gf, 0, none⟩) P.length cap) ∧ w.frozen? ⟨g, 0, none⟩ = false ∧ g < w.heap.size ∧ gf < w.heap.size ∧
      (∀ k p b, P[k]? = some p → w.cell? ⟨gf, k * 2 + b.toNat, none⟩ = some (.int .i64 (wayOf P D (p ++ [b]))) ∧ w.frozen? ⟨gf, k * 2 + b.toNat, none⟩ = false) ∧
      ∀ i x, i < 2 * P.length → (w.setCell ⟨gf, i, none⟩ (.int .i64 x)).rowIs g 107 259 F ∧ (w.setCell ⟨gf, i, none⟩ (.int .i64 x)).ownsRow B 151 2 (F 0) P.length (((waysL P D).set i x).map iv) ∧ FrT TC B w (w.setCell ⟨gf, i, none⟩ (.int .i64 x)) := by
  obtain ⟨gf, cap, Z, hv, hge, hr, hZ, h1, h2⟩ := own2 h.own hP
  have hne : g ≠ gf := rowIs_ne h.self hr (by decide)
  have hcap : P.length * 2 ≤ cap * 2 := Nat.mul_le_mul_right 2 h1
  refine ⟨gf, cap, hv, h1, h2, by rw [h.self.cell (by omega), hv], h.self.frozen 0, h.self.lt, hr.lt, fun k p b hk => ?_, fun i x hi => ⟨h.self.setOther (a := ⟨gf, i, none⟩) hne _, ?_, (FrT.refl _ _ w).setCell (p := ⟨gf, i, none⟩) hge (TyAt.of_row hr (.inr rfl)) _⟩⟩
  · have hkl := (List.getElem?_eq_some_iff.1 hk).1
    have hb : b.toNat ≤ 1 := by cases b <;> simp
    have hi : k * 2 + b.toNat < P.length * 2 := by omega
    have hz := hZ _ hi
    rw [List.getElem?_map, Nat.mul_comm k 2, waysL_get hk b] at hz
    rw [Nat.mul_comm k 2] at hi ⊢
    refine ⟨?_, hr.frozen _⟩
    rw [hr.cell (by omega)]
    have e := Option.some.inj hz
    rw [e]
    rfl
  · rw [hv]
    refine own_of_row (hr.set i (.int .i64 x)) (by rw [List.length_map, List.length_set, waysL_len]; omega) (fun j hj => ?_) hge h1 h2
    rw [List.getElem?_map]
    by_cases e : j = i
    · subst e
      rw [if_pos rfl, List.getElem?_set_self (by rw [waysL_len]; omega)]
      rfl
    · rw [if_neg e, List.getElem?_set_ne (fun e2 => e e2.symm), hZ j hj, List.getElem?_map]
theorem CodeR.same {B : Nat} {w w' : World} {g : Nat} {F : Nat → Value} {P : List (List Bool)} {D : DL} (h : CodeR B w g F P D) (ho : Only (fun _ => False) w w') : CodeR B w' g F P D :=
  ⟨ho.row h.self no_, own_keep h.own ho fun _ _ => no_, h.ge, Nat.le_trans h.le ho.size⟩
theorem CodeR.set {B : Nat} {w : World} {g gf cap : Nat} {F : Nat → Value} {P : List (List Bool)} {D : DL} (h : CodeR B w g F P D) (hP : 0 < P.length) (hv : F 0 = .slice (some ⟨gf, 0, none⟩) P.length cap) (i : Nat) (x : Int) (hi : i < 2 * P.length) :
    (w.setCell ⟨gf, i, none⟩ (.int .i64 x)).rowIs g 107 259 F ∧ (w.setCell ⟨gf, i, none⟩ (.int .i64 x)).ownsRow B 151 2 (F 0) P.length (((waysL P D).set i x).map iv) ∧ FrT TC B w (w.setCell ⟨gf, i, none⟩ (.int .i64 x)) := by
  obtain ⟨gf', cap', hv', _, _, _, _, _, _, _, hs⟩ := h.cells hP
  rw [hv] at hv'
  injection hv' with e _ _
  injection e with e
  injection e with e _ _
  subst e
  exact hs i x hi
theorem two_new (u : World) (x y : Value) (e : TypeId) (b : Nat) (hb : b = u.heap.size) : ∀ j z, [x, y][j]? = some z → (u.alloc (.cells #[x, y] e)).cell? ((⟨b, 0, none⟩ : Addr).add j) = some z := by
  subst hb
  intro j z hj
  match j with
  | 0 => simp at hj; subst hj; simp [Addr.add]
  | 1 => simp at hj; subst hj; simp [Addr.add]
  | j + 2 => simp at hj
theorem own_slice {w : World} {B n s : Nat} {e : TypeId} {v : Value} {xs : List Value} (h : w.ownsRow B e s v n xs) (hn : 0 < n) : ∃ g cap, v = .slice (some ⟨g, 0, none⟩) n cap := by
  obtain ⟨g, cap, _, hv, _⟩ := own2 h hn
  exact ⟨g, cap, hv⟩
abbrev TFk (k : TypeId) : Prop := k = 151
abbrev TCd (k : TypeId) : Prop := k = 107
theorem grown_fork {B n : Nat} {u w : World} {v : Value} {xs : List Value} (hown : u.ownsRow B 151 2 v n xs) (hg : u.grownBy w v.ownBlock) : FrT TFk B u w :=
  (FrT.refl _ _ u).grown hg fun k hk => by
    have := own_block hown hk
    exact ⟨this.1, this.2.2 _ rfl⟩
/-- What a step onward answers: the fork's place. -/
def OnE (B : Nat) (w : World) (g : Nat) (F : Nat → Value) (P : List (List Bool)) (D : DL) (X : List (List Bool)) (l : List Bool) (e : Ending) (w' : World) : Prop :=
  ∃ (P' : List (List Bool)) (j : Nat) (v : Value), e = .returned (.int .i64 (j : Int)) ∧ Hid (P'[j]? = some l ∧ P'.length ≤ P.length + 1 ∧ Ts P' D X ∧ CodeR B w' g (fun i => if i = 0 then v else F i) P' D ∧ FrT TC B w w')
set_option maxHeartbeats 2000000 in
theorem onward_old {B : Nat} {w : World} {g k : Nat} {F : Nat → Value} {P : List (List Bool)} {D : DL} {X : List (List Bool)} {p : List Bool} {b : Bool} (h : CodeR B w g F P D) (hT : Ts P D X) (hk : P[k]? = some p) (hm : p ++ [b] ∈ P) (hl : P.length ≤ 1000000) :
    Calls Try.prog 108 #[.pointer (some ⟨g, 0, none⟩), .int .i64 (k : Int), .bool b] w (OnE B w g F P D X (p ++ [b])) := by
  have hkl := (List.getElem?_eq_some_iff.1 hk).1
  obtain ⟨gf, cap, hv, h1, h2, c0, f0, l0, l1, hc, hs⟩ := h.cells (by omega)
  obtain ⟨cw, fw⟩ := hc k p b hk
  rw [wayOf_fork hm] at cw
  have hix : P.idxOf (p ++ [b]) < P.length := List.idxOf_lt_length_of_mem hm
  have hpos : 0 < P.idxOf (p ++ [b]) := hT.idx_pos hm (by simp)
  have hE : Hid (P[P.idxOf (p ++ [b])]? = some (p ++ [b])) := hid (by rw [List.getElem?_eq_getElem hix]; simp)
  have HT := hid hT
  have HR := hid h
  have HV := hid hv
  have HD := hid fun u => digit_any b u
  generalize P.idxOf (p ++ [b]) = j at *
  obtain ⟨m, hm2⟩ : ∃ m, m = P.length := ⟨_, rfl⟩
  rw [← hm2] at hkl h1 c0 hix hl
  have Hm2 := hid hm2
  have hbn : b.toNat ≤ 1 := by cases b <;> simp
  generalize b.toNat = bn at *
  clear hs hc hv hT h hm hk hm2
  have hj0 : ((j : Int) == 0) = false := by simp; omega
  have hkm : (k : Int) < (m : Int) := by omega
  have hb2 : (bn : Int) < 2 := by omega
  go_enter Try.func108, Try.ntmps108
  go_wp2_with fail
  go_quiet ((go_at_call 102; exact quiet_left (HD.out _)))
  go_wp2_with fail
  have HO1 : StO w (w.drewN nq) := hid (quiet_only ⟨_, rfl⟩)
  have c0' := (HO1.out.cell (p := ⟨g, 0, none⟩) l0 no_).trans c0
  have cw' := (HO1.out.cell (p := ⟨gf, k * 2 + bn, none⟩) l1 no_).trans cw
  generalize w.drewN nq = w2 at HO1 c0' cw' ⊢
  go_quiet ((go_at_call 102; exact quiet_left (HD.out _)))
  have HO2 : StO w2 (w2.drewN nq) := hid (quiet_only ⟨_, rfl⟩)
  generalize w2.drewN nq = w3 at HO2 ⊢
  go_wp2_with fail
  go_ret
  have HO3 := HO1.out.trans HO2.out
  refine ⟨P, j, F 0, rfl, hid ⟨hE.out, by omega, HT.out, ?_, FrT.of_only HO3⟩⟩
  exact ⟨(HO3.row HR.out.self no_).congr fun i _ => by by_cases e : i = 0 <;> simp [e], own_keep HR.out.own HO3 fun _ _ => no_, HR.out.ge, Nat.le_trans HR.out.le HO3.size⟩
set_option maxHeartbeats 4000000 in
theorem onward_new {B : Nat} {w : World} {g k : Nat} {F : Nat → Value} {P : List (List Bool)} {D : DL} {X : List (List Bool)} {p : List Bool} {b : Bool} (h : CodeR B w g F P D) (hT : Ts P D X) (hk : P[k]? = some p) (hm : p ++ [b] ∉ P) (hD : ∀ d ∈ D, d.2 ≠ p ++ [b]) (hx : ∃ x ∈ X, ∃ c t, x = p ++ [b] ++ c :: t) (hl : P.length ≤ 1000000) :
    Calls Try.prog 108 #[.pointer (some ⟨g, 0, none⟩), .int .i64 (k : Int), .bool b] w (OnE B w g F P D X (p ++ [b])) := by
  have hkl := (List.getElem?_eq_some_iff.1 hk).1
  obtain ⟨gf, cap, hv, h1, h2, c0, f0, l0, l1, hc, hs⟩ := h.cells (by omega)
  obtain ⟨cw, fw⟩ := hc k p b hk
  rw [wayOf_none hm hD] at cw
  have HWs := hid (ways_fork hT hk hm hD)
  have HT2 := hid (hT.fork hk hm hx)
  have HR := hid h
  have HV := hid hv
  have HD := hid fun u => digit_any b u
  have hbn : b.toNat ≤ 1 := by cases b <;> simp
  have HPk := hid hk
  have HPm := hid hm
  have Hbt : Hid (b.toNat = b.toNat) := hid rfl
  have HSet : Hid (∀ u, StO w u → (u.setCell ⟨gf, 2 * k + b.toNat, none⟩ (.int .i64 ((P.length : Nat) : Int))).rowIs g 107 259 F ∧ (u.setCell ⟨gf, 2 * k + b.toNat, none⟩ (.int .i64 ((P.length : Nat) : Int))).ownsRow B 151 2 (F 0) P.length (((waysL P D).set (2 * k + b.toNat) ((P.length : Nat) : Int)).map iv) ∧ FrT TC B u (u.setCell ⟨gf, 2 * k + b.toNat, none⟩ (.int .i64 ((P.length : Nat) : Int)))) := hid fun u hu => (h.same hu.out).set (by omega) hv _ _ (by omega)
  have HPl : Hid ((P ++ [p ++ [b]])[P.length]? = some (p ++ [b])) := hid (by simp)
  rw [Nat.mul_comm 2 k] at HSet HWs
  obtain ⟨m, hm2⟩ : ∃ m, m = P.length := ⟨_, rfl⟩
  rw [← hm2] at hkl h1 c0 hl HSet HWs HPl HV
  have Hm2 := hid hm2
  obtain ⟨bn, hbne⟩ : ∃ bn, bn = b.toNat := ⟨_, rfl⟩
  rw [← hbne] at hbn HSet HWs cw fw HD
  have Hbn := hid hbne
  clear hbne Hbt
  clear hs hc hv hT h hm hk hm2 hD hx
  have hkm : (k : Int) < (m : Int) := by omega
  have hb2 : (bn : Int) < 2 := by omega
  go_enter Try.func108, Try.ntmps108
  go_wp2_with fail
  go_quiet ((go_at_call 102; exact quiet_left (HD.out _)))
  go_wp2_with fail
  have HO1 : StO w (w.drewN nq) := hid (quiet_only ⟨_, rfl⟩)
  have c0' := (HO1.out.cell (p := ⟨g, 0, none⟩) l0 no_).trans c0
  have cw' := (HO1.out.cell (p := ⟨gf, k * 2 + bn, none⟩) l1 no_).trans cw
  have fw' : (w.drewN nq).frozen? ⟨gf, k * 2 + bn, none⟩ = false := fw
  generalize w.drewN nq = w2 at *
  have HS2 := hid (HSet.out w2 HO1)
  have c02 : (w2.setCell ⟨gf, k * 2 + bn, none⟩ (.int .i64 ((m : Nat) : Int))).drew.cell? ⟨g, 0, none⟩ = some (.slice (some ⟨gf, 0, none⟩) m cap) := by
    rw [← HV.out]
    exact HS2.out.1.cell (by omega)
  go_region_held3 (fun w' => w'.cell? ⟨g, 0, none⟩ = some (.slice (some ⟨gf, 0, none⟩) m cap))
    (first | assumption)
    (first
      | (go_at_call 102; refine (HD.out _).mono ?_; rintro e w3 ⟨rfl, rfl⟩))
  obtain ⟨i0, hi0, hz0, hz1, hz2⟩ := info_parts forkInfo
  have HI0 := hid (⟨hi0, hz0, hz1, hz2⟩ : Try.prog.info? 151 = some i0 ∧ i0.zero = some (.agg #[.int .i64 0, .int .i64 0]) ∧ i0.size = 2 ∧ i0.bytes = 16)
  have HS4 : Hid ((w2.setCell ⟨gf, k * 2 + bn, none⟩ (.int .i64 ((m : Nat) : Int))).drew.rowIs g 107 259 F ∧ (w2.setCell ⟨gf, k * 2 + bn, none⟩ (.int .i64 ((m : Nat) : Int))).drew.ownsRow B 151 2 (F 0) m (((waysL P D).set (k * 2 + bn) ((m : Nat) : Int)).map iv) ∧ FrT TC B w (w2.setCell ⟨gf, k * 2 + bn, none⟩ (.int .i64 ((m : Nat) : Int))).drew ∧ B ≤ (w2.setCell ⟨gf, k * 2 + bn, none⟩ (.int .i64 ((m : Nat) : Int))).drew.heap.size) := hid ⟨HS2.out.1, HS2.out.2.1, ((FrT.of_only HO1.out).trans HS2.out.2.2).drew, Nat.le_trans HR.out.le (Nat.le_trans HO1.out.size HS2.out.2.2.size)⟩
  generalize (w2.setCell ⟨gf, k * 2 + bn, none⟩ (.int .i64 ((m : Nat) : Int))).drew = w4 at *
  clear hi0 hz0 hz1 hz2 HS2 HSet HO1 c0' cw' fw' c0 f0 cw fw
  rw [HV.out] at HS4
  go_wp2_with (at_builtin; refine wpList_append_own_at _ rfl (.tmp 36) (.tmp 38) 102 rfl B 151 i0 (.agg #[.int .i64 0, .int .i64 0]) 2 16 Try.underlying102 HI0.out.1 HI0.out.2.1 HI0.out.2.2.1 HI0.out.2.2.2 rfl (by omega) _ m _ rfl (own_keep HS4.out.2.1 ((Only.refl _ _).alloc _) fun _ _ => no_) ⟨w4.heap.size, 0, none⟩ 1 1 [.int .i64 0, .int .i64 0] rfl (by simp) (two_new w4 _ _ _ _ rfl) (by intro q hq; simp at hq; subst hq; rfl) (by unfold maxLen; omega) (by omega) (by have := HS4.out.2.2.2; simp; omega) ?_; intro v' w5 hown hg _ hat; obtain ⟨g5, cap5, rfl⟩ := own_slice hown (by omega); have HG5 : Hid (FrT TFk B w4 w5) := hid ((FrT.of_only ((Only.refl _ w4).alloc _)).trans (grown_fork (own_keep HS4.out.2.1 ((Only.refl _ _).alloc _) fun _ _ => no_) hg)); have hr5 := HG5.out.row HS4.out.1 (by decide); have c50 := hr5.cell (i := 0) (by omega); have f50 := hr5.frozen 0; have l50 := hr5.lt; have HN5 := hid hown; have HR5 := hid hr5; clear hr5 hown hg hat)
  have HN6 : Hid (CodeR B (w5.setCell ⟨g, 0, none⟩ (.slice (some ⟨g5, 0, none⟩) (m + 1) cap5)) g (fun i => if i = 0 then .slice (some ⟨g5, 0, none⟩) (m + 1) cap5 else F i) (P ++ [p ++ [b]]) D ∧ FrT TC B w (w5.setCell ⟨g, 0, none⟩ (.slice (some ⟨g5, 0, none⟩) (m + 1) cap5))) := hid (by
    have hF : FrT TCd B w5 (w5.setCell ⟨g, 0, none⟩ (.slice (some ⟨g5, 0, none⟩) (m + 1) cap5)) := (FrT.refl _ _ w5).setCell (p := ⟨g, 0, none⟩) HR.out.ge (TyAt.of_row (T := TCd) HR5.out rfl) _
    refine ⟨⟨HR5.out.set 0 _, ?_, HR.out.ge, ?_⟩, ?_⟩
    · have h1 := own_ty HN5.out hF (by decide)
      have h2 : ((waysL P D).set (k * 2 + bn) ((m : Nat) : Int)).map iv ++ [.int .i64 0, .int .i64 0] = (waysL (P ++ [p ++ [b]]) D).map iv := by
        rw [← HWs.out, List.map_append]
        rfl
      rw [h2] at h1
      rw [List.length_append, ← Hm2.out]
      exact h1
    · exact Nat.le_trans HS4.out.2.2.2 (Nat.le_trans HG5.out.size hF.size)
    · exact (HS4.out.2.2.1.trans (HG5.out.mono (fun t ht => .inr ht) (Nat.le_refl _))).trans (hF.mono (fun t ht => .inl ht) (Nat.le_refl _)))
  have cw6 : (w5.setCell ⟨g, 0, none⟩ (.slice (some ⟨g5, 0, none⟩) (m + 1) cap5)).cell? ⟨g5, k * 2 + bn, none⟩ = some (.int .i64 ((m : Nat) : Int)) := by
    obtain ⟨gf', cap', hv', _, _, _, _, _, _, hc', _⟩ := HN6.out.1.cells (by simp)
    rw [if_pos rfl] at hv'
    injection hv' with e1 _ _
    injection e1 with e1
    injection e1 with e1 _ _
    subst e1
    have h1 := (hc' k p b (by rw [List.getElem?_append_left (List.getElem?_eq_some_iff.1 HPk.out).1]; exact HPk.out)).1
    rw [← Hbn.out, wayOf_fork (by simp), List.idxOf_append, if_neg HPm.out, ← Hm2.out] at h1
    simpa using h1
  have c06 : (w5.setCell ⟨g, 0, none⟩ (.slice (some ⟨g5, 0, none⟩) (m + 1) cap5)).cell? ⟨g, 0, none⟩ = some (.slice (some ⟨g5, 0, none⟩) (m + 1) cap5) := HN6.out.1.self.cell (by omega)
  clear c50 f50 l50 c02 HI0 HR5 HN5 HG5 HS4 HWs
  generalize w5.setCell ⟨g, 0, none⟩ (.slice (some ⟨g5, 0, none⟩) (m + 1) cap5) = w6 at *
  go_quiet ((go_at_call 102; exact quiet_left (HD.out _)))
  have HO7 : StO w6 (w6.drewN nq) := hid (quiet_only ⟨_, rfl⟩)
  generalize w6.drewN nq = w7 at HO7 ⊢
  go_wp2_with fail
  go_ret
  exact ⟨_, m, _, rfl, hid ⟨HPl.out, by simp, HT2.out, HN6.out.1.same HO7.out, HN6.out.2.trans (FrT.of_only HO7.out)⟩⟩
end Go.Proofs.Ytmbcinbkijnblaa
