/- The document's lengths: its tables, its rows. -/
import Derived.Test.YthfnpgmjbfbocaaTkH
namespace Go.Proofs.Ythfnpgmjbfbocaa
open Go.RowKit

/-- Two tables of ints, n by n: costs and parts. -/
structure TB (w wr : World) (gC gP : Nat) (gc gp : Nat → Nat) (n : Nat) (D P : Nat → Nat → Int) : Prop where
  cO : wr.rowIs gC 22 n (fun i => .slice (some ⟨gc i, 0, none⟩) n n)
  pO : wr.rowIs gP 22 n (fun i => .slice (some ⟨gp i, 0, none⟩) n n)
  c : ∀ i, i < n → wr.rowIs (gc i) 3 n (fun j => .int .i64 (D i j))
  p : ∀ i, i < n → wr.rowIs (gp i) 3 n (fun j => .int .i64 (P i j))
  cc : ∀ i j, i < n → j < n → gc i = gc j → i = j
  pp : ∀ i j, i < n → j < n → gp i = gp j → i = j
  cp : ∀ i j, i < n → j < n → gc i ≠ gp j
  only : Only (fun _ => False) w wr
  newC : ∀ i, i < n → w.heap.size ≤ gc i
  newP : ∀ i, i < n → w.heap.size ≤ gp i
def updD (D : Nat → Nat → Int) (i j : Nat) (x : Int) (a b : Nat) : Int := if a = i ∧ b = j then x else D a b
theorem TB.st {w wr w' : World} {gC gP : Nat} {gc gp : Nat → Nat} {n : Nat} {D P : Nat → Nat → Int} (h : TB w wr gC gP gc gp n D P) (ho : Only (fun _ => False) wr w') : TB w w' gC gP gc gp n D P :=
  ⟨ho.row h.cO no_, ho.row h.pO no_, fun i hi => ho.row (h.c i hi) no_, fun i hi => ho.row (h.p i hi) no_, h.cc, h.pp, h.cp, h.only.trans ho, h.newC, h.newP⟩
theorem TB.congr {w wr : World} {gC gP : Nat} {gc gp : Nat → Nat} {n : Nat} {D P D' P' : Nat → Nat → Int} (h : TB w wr gC gP gc gp n D P) (h1 : ∀ i j, i < n → j < n → D i j = D' i j) (h2 : ∀ i j, i < n → j < n → P i j = P' i j) : TB w wr gC gP gc gp n D' P' :=
  ⟨h.cO, h.pO, fun i hi => (h.c i hi).congr fun j hj => by rw [h1 i j hi hj], fun i hi => (h.p i hi).congr fun j hj => by rw [h2 i j hi hj], h.cc, h.pp, h.cp, h.only, h.newC, h.newP⟩
theorem TB.setC {w wr : World} {gC gP : Nat} {gc gp : Nat → Nat} {n : Nat} {D P : Nat → Nat → Int} (h : TB w wr gC gP gc gp n D P) {i j : Nat} (hi : i < n) (x : Int) : TB w (wr.setCell ⟨gc i, j, none⟩ (.int .i64 x)) gC gP gc gp n (updD D i j x) P := by
  have ho : Only (fun c => c = gc i) wr (wr.setCell ⟨gc i, j, none⟩ (.int .i64 x)) := (Only.refl (fun c => c = gc i) wr).setCell (p := ⟨gc i, j, none⟩) (.inl rfl) _
  have hr := h.c i hi
  refine ⟨ho.row h.cO (rowIs_ne h.cO hr (by decide)), ho.row h.pO (rowIs_ne h.pO hr (by decide)), fun a ha => ?_, fun a ha => ho.row (h.p a ha) (fun e => h.cp i a hi ha e.symm), h.cc, h.pp, h.cp, h.only.setCell (p := ⟨gc i, j, none⟩) (.inr (h.newC i hi)) _, h.newC, h.newP⟩
  by_cases e : a = i
  · subst e
    refine (hr.set j _).congr fun b hb => ?_
    unfold updD
    by_cases e2 : b = j
    · rw [if_pos e2, if_pos ⟨rfl, e2⟩]
    · rw [if_neg e2, if_neg fun h => e2 h.2]
  · refine (ho.row (h.c a ha) fun e2 => e (h.cc a i ha hi e2)).congr fun b hb => ?_
    unfold updD
    rw [if_neg fun h => e h.1]
theorem TB.setP {w wr : World} {gC gP : Nat} {gc gp : Nat → Nat} {n : Nat} {D P : Nat → Nat → Int} (h : TB w wr gC gP gc gp n D P) {i j : Nat} (hi : i < n) (x : Int) : TB w (wr.setCell ⟨gp i, j, none⟩ (.int .i64 x)) gC gP gc gp n D (updD P i j x) := by
  have ho : Only (fun c => c = gp i) wr (wr.setCell ⟨gp i, j, none⟩ (.int .i64 x)) := (Only.refl (fun c => c = gp i) wr).setCell (p := ⟨gp i, j, none⟩) (.inl rfl) _
  have hr := h.p i hi
  refine ⟨ho.row h.cO (rowIs_ne h.cO hr (by decide)), ho.row h.pO (rowIs_ne h.pO hr (by decide)), fun a ha => ho.row (h.c a ha) (h.cp a i ha hi), fun a ha => ?_, h.cc, h.pp, h.cp, h.only.setCell (p := ⟨gp i, j, none⟩) (.inr (h.newP i hi)) _, h.newC, h.newP⟩
  by_cases e : a = i
  · subst e
    refine (hr.set j _).congr fun b hb => ?_
    unfold updD
    by_cases e2 : b = j
    · rw [if_pos e2, if_pos ⟨rfl, e2⟩]
    · rw [if_neg e2, if_neg fun h => e2 h.2]
  · refine (ho.row (h.p a ha) fun e2 => e (h.pp a i ha hi e2)).congr fun b hb => ?_
    unfold updD
    rw [if_neg fun h => e h.1]
/-- What the cost's table has, what the parts' one. -/
def dC (S : Nat → Int) (s f i j : Nat) : Int := (tabD S s f i (j + 1 - i)).1
def dP (S : Nat → Int) (s f i j : Nat) : Int := if 2 ≤ j + 1 - i ∧ (j + 1 - i < s ∨ (j + 1 - i = s ∧ i < f)) then ((rt S i (j + 1) : Nat) : Int) - (i : Int) else 0
theorem dC_of {S : Nat → Int} {s f i j : Nat} (h : i ≤ j) (h2 : j + 1 - i < s) : dC S s f i j = ct S i (j + 1) := by
  unfold dC
  rw [tabD_of (by omega) (.inl h2), show i + (j + 1 - i) = j + 1 by omega]
theorem dC_next {S : Nat → Int} {s f n i j : Nat} (hj : j < n) (hs : 2 ≤ s) (hf : f + s ≤ n) : updD (dC S s f) f (f + s - 1) (ct S f (f + s)) i j = dC S s (f + 1) i j := by
  unfold updD
  by_cases e : i = f ∧ j = f + s - 1
  · obtain ⟨rfl, rfl⟩ := e
    rw [if_pos ⟨rfl, rfl⟩]
    unfold dC
    rw [tabD_of (by omega) (.inr (.inl ⟨by omega, by omega⟩))]
    show _ = ct S i (i + (i + s - 1 + 1 - i))
    congr 1
    omega
  · rw [if_neg e]
    unfold dC tabD
    by_cases e1 : j + 1 - i = 1
    · rw [if_pos e1, if_pos e1]
    · rw [if_neg e1, if_neg e1]
      by_cases e2 : 2 ≤ j + 1 - i ∧ (j + 1 - i < s ∨ j + 1 - i = s ∧ i < f)
      · rw [if_pos e2, if_pos (by omega)]
      · rw [if_neg e2, if_neg (by omega)]
theorem dP_next {S : Nat → Int} {s f n i j : Nat} (hj : j < n) (hs : 2 ≤ s) (hf : f + s ≤ n) : updD (dP S s f) f (f + s - 1) (((rt S f (f + s) : Nat) : Int) - (f : Int)) i j = dP S s (f + 1) i j := by
  unfold updD
  by_cases e : i = f ∧ j = f + s - 1
  · obtain ⟨rfl, rfl⟩ := e
    rw [if_pos ⟨rfl, rfl⟩]
    unfold dP
    rw [if_pos (by omega), show i + s - 1 + 1 = i + s by omega]
  · rw [if_neg e]
    unfold dP
    by_cases e2 : 2 ≤ j + 1 - i ∧ (j + 1 - i < s ∨ j + 1 - i = s ∧ i < f)
    · rw [if_pos e2, if_pos (by omega)]
    · rw [if_neg e2, if_neg (by omega)]
theorem dC_size {S : Nat → Int} {s f n i j : Nat} (hj : j < n) (hf : n + 1 ≤ f + s) : dC S s f i j = dC S (s + 1) 0 i j := by
  unfold dC tabD
  by_cases e1 : j + 1 - i = 1
  · rw [if_pos e1, if_pos e1]
  · rw [if_neg e1, if_neg e1]
    by_cases e2 : 2 ≤ j + 1 - i ∧ (j + 1 - i < s ∨ j + 1 - i = s ∧ i < f)
    · rw [if_pos e2, if_pos (by omega)]
    · rw [if_neg e2, if_neg (by omega)]
theorem dP_size {S : Nat → Int} {s f n i j : Nat} (hj : j < n) (hf : n + 1 ≤ f + s) : dP S s f i j = dP S (s + 1) 0 i j := by
  unfold dP
  by_cases e2 : 2 ≤ j + 1 - i ∧ (j + 1 - i < s ∨ j + 1 - i = s ∧ i < f)
  · rw [if_pos e2, if_pos (by omega)]
  · rw [if_neg e2, if_neg (by omega)]
theorem dC_start (S : Nat → Int) (i j : Nat) : (0 : Int) = dC S 2 0 i j := by
  unfold dC tabD
  split
  · rfl
  · rw [if_neg (by omega)]
theorem dP_start (S : Nat → Int) (i j : Nat) : (0 : Int) = dP S 2 0 i j := by
  unfold dP
  rw [if_neg (by omega)]
theorem dP_all {S : Nat → Int} {n i j : Nat} (h : i < j) (hj : j < n) : dP S (n + 1) 0 i j = ((rt S i (j + 1) : Nat) : Int) - (i : Int) := by
  unfold dP
  rw [if_pos (by omega)]

/-! The document's rows: lengths, from where rows are parted. -/
def outF (F : Nat → Int) (r : Nat → Nat → Nat) (a b : Nat) (d : Int) (k : Nat) : Int := if a ≤ k ∧ k < b then d + dpt r a b k else F k
def RowC (m : Nat) : Prop := ∀ (gP gL n i j : Nat) (gp : Nat → Nat) (S F : Nat → Int) (d : Int) (w : World), j - i ≤ m → i ≤ j → j < n → n ≤ 257 → w.rowIs gP 22 n (fun i => .slice (some ⟨gp i, 0, none⟩) n n) → (∀ i, i < n → w.rowIs (gp i) 3 n (fun j => .int .i64 (dP S (n + 1) 0 i j))) → (∀ i, i < n → gp i ≠ gL) → w.rowIs gL 3 n (fun k => .int .i64 (F k)) → 0 ≤ d → d + ((j - i : Nat) : Int) ≤ 1000 →
  Calls Try.prog 77 #[.slice (some ⟨gP, 0, none⟩) n n, .slice (some ⟨gL, 0, none⟩) n n, .int .i64 (i : Int), .int .i64 (j : Int), .int .i64 d] w fun e w' => e = .returned (.tuple #[]) ∧ Hid (w'.rowIs gL 3 n (fun k => .int .i64 (outF F (rt S) i (j + 1) d k)) ∧ Only (fun c => c = gL) w w')

set_option maxHeartbeats 4000000 in
theorem refRow_step (m : Nat) (IH : ∀ q, q < m → RowC q) : RowC m := by
  intro gP gL n i j gp S F d w hm hij hjn hn hP hp hne hL hd hd2
  by_cases he : i = j
  · subst he
    have HN : Hid ((w.setCell ⟨gL, i, none⟩ (.int .i64 d)).rowIs gL 3 n (fun k => .int .i64 (outF F (rt S) i (i + 1) d k))) := hid ((hL.set i (.int .i64 d)).congr fun k _ => by
      unfold outF
      by_cases e : k = i
      · subst e; rw [if_pos rfl, if_pos (by omega), dpt_small (by omega), Int.add_zero]
      · rw [if_neg e, if_neg (by omega)])
    have cc : ∃ v, w.cell? ⟨gL, i, none⟩ = some v := ⟨_, hL.cell hjn⟩
    obtain ⟨v, cc⟩ := cc
    have fc := hL.frozen i
    have lt := hL.lt
    clear hP hp hL IH
    go_enter Try.func77, Try.ntmps77
    go_wp2_with fail
    refine bodyPost_ret (results_none rfl _ _ _) rfl ?_
    exact ⟨rfl, hid ⟨HN.out, (Only.refl (fun c => c = gL) w).setCell (p := ⟨gL, i, none⟩) (.inl rfl) _⟩⟩
  · have hr := rt_in (S := S) (i := i) (j := j + 1) (by omega)
    have he' : ¬ (i : Int) = (j : Int) := by omega
    have c1 := hP.cell (i := i) (by omega)
    have c2 := (hp i (by omega)).cell (i := j) (by omega)
    rw [dP_all (by omega) hjn] at c2
    have lt1 := hP.lt
    have lt2 := (hp i (by omega)).lt
    have HC1 : Hid (Calls Try.prog 77 #[.slice (some ⟨gP, 0, none⟩) n n, .slice (some ⟨gL, 0, none⟩) n n, .int .i64 (i : Int), .int .i64 ((rt S i (j + 1) : Nat) - 1 : Int), .int .i64 (d + 1)] w fun e w' => e = .returned (.tuple #[]) ∧ Hid (w'.rowIs gL 3 n (fun k => .int .i64 (outF F (rt S) i (rt S i (j + 1)) (d + 1) k)) ∧ Only (fun c => c = gL) w w')) := hid (by
      have := IH (rt S i (j + 1) - 1 - i) (by omega) gP gL n i (rt S i (j + 1) - 1) gp S F (d + 1) w (by omega) (by omega) (by omega) hn hP hp hne hL (by omega) (by omega)
      have e1 : ((rt S i (j + 1) - 1 : Nat) : Int) = (rt S i (j + 1) : Nat) - 1 := by omega
      have e2 : rt S i (j + 1) - 1 + 1 = rt S i (j + 1) := by omega
      rw [e1, e2] at this
      exact this)
    have HC2 : Hid (∀ u, Only (fun c => c = gL) w u → u.rowIs gL 3 n (fun k => .int .i64 (outF F (rt S) i (rt S i (j + 1)) (d + 1) k)) → Calls Try.prog 77 #[.slice (some ⟨gP, 0, none⟩) n n, .slice (some ⟨gL, 0, none⟩) n n, .int .i64 ((rt S i (j + 1) : Nat) : Int), .int .i64 (j : Int), .int .i64 (d + 1)] u fun e w' => e = .returned (.tuple #[]) ∧ Hid (w'.rowIs gL 3 n (fun k => .int .i64 (outF F (rt S) i (j + 1) d k)) ∧ Only (fun c => c = gL) w w')) := hid fun u hu hr2 => by
      have := IH (j - rt S i (j + 1)) (by omega) gP gL n (rt S i (j + 1)) j gp S (outF F (rt S) i (rt S i (j + 1)) (d + 1)) (d + 1) u (by omega) (by omega) hjn hn (hu.row hP (rowIs_ne hP hL (by decide))) (fun a ha => hu.row (hp a ha) (hne a ha)) hne hr2 (by omega) (by omega)
      refine this.mono fun e w' ⟨he, ho⟩ => ⟨he, hid ⟨ho.out.1.congr fun k _ => ?_, hu.trans ho.out.2⟩⟩
      unfold outF
      by_cases k1 : i ≤ k ∧ k < j + 1
      · rw [if_pos k1, dpt_eq (r := rt S) (fun i j h => rt_in h) (a := i) (b := j + 1) (by omega), if_pos k1]
        by_cases k2 : rt S i (j + 1) ≤ k
        · rw [if_pos ⟨k2, k1.2⟩, dpt_out (r := rt S) (fun i j h => rt_in h) (a := i) (b := rt S i (j + 1)) (.inr k2)]
          congr 1
          omega
        · rw [if_neg (by omega), if_pos (by omega), dpt_out (r := rt S) (fun i j h => rt_in h) (a := rt S i (j + 1)) (b := j + 1) (.inl (by omega))]
          congr 1
          omega
      · rw [if_neg (by omega), if_neg (by omega), if_neg k1]
    clear hP hp hL IH
    generalize rt S i (j + 1) = r at *
    obtain ⟨q, hq⟩ : ∃ q, q = (r : Int) - (i : Int) := ⟨_, rfl⟩
    rw [← hq] at c2
    have hq1 : (i : Int) + q = (r : Int) := by omega
    have hq2 : 1 ≤ q ∧ q ≤ 257 := by omega
    clear hq
    go_enter Try.func77, Try.ntmps77
    go_wp2_with fail
    refine HC1.out.mono ?_
    rintro e w2 ⟨rfl, HE⟩
    clear c1 c2 lt1 lt2 HC1
    go_wp2_with fail
    refine (HC2.out _ HE.out.2 HE.out.1).mono ?_
    rintro e w3 ⟨rfl, HE3⟩
    clear HC2 HE
    go_wp2_with fail
    go_end0
    exact ⟨rfl, HE3⟩
theorem refRow_any (m : Nat) : RowC m := by
  induction m using Nat.strongRecOn with
  | _ m ih => exact refRow_step m ih

/-- The tables' rows, so many of them made. -/
structure TI (w wr : World) (gC gP : Nat) (gc gp : Nat → Nat) (n k : Nat) : Prop where
  cO : wr.rowIs gC 22 n (fun i => if i < k then .slice (some ⟨gc i, 0, none⟩) n n else .slice none 0 0)
  pO : wr.rowIs gP 22 n (fun i => if i < k then .slice (some ⟨gp i, 0, none⟩) n n else .slice none 0 0)
  ne : gC ≠ gP
  c : ∀ i, i < k → wr.rowIs (gc i) 3 n (fun _ => .int .i64 0)
  p : ∀ i, i < k → wr.rowIs (gp i) 3 n (fun _ => .int .i64 0)
  cc : ∀ i j, i < k → j < k → gc i = gc j → i = j
  pp : ∀ i j, i < k → j < k → gp i = gp j → i = j
  cp : ∀ i j, i < k → j < k → gc i ≠ gp j
  only : Only (fun _ => False) w wr
  newO : w.heap.size ≤ gC ∧ w.heap.size ≤ gP
  newC : ∀ i, i < k → w.heap.size ≤ gc i
  newP : ∀ i, i < k → w.heap.size ≤ gp i
theorem TI.start {w : World} {n : Nat} : TI w ((w.alloc (.cells (madeCells #[.slice none 0 0] n) 22)).alloc (.cells (madeCells #[.slice none 0 0] n) 22)) w.heap.size (w.heap.size + 1) (fun _ => 0) (fun _ => 0) n 0 := by
  have h2 := World.rowIs_made (w.alloc (.cells (madeCells #[.slice none 0 0] n) 22)) (.slice none 0 0) n 22
  have hs : (w.alloc (.cells (madeCells #[.slice none 0 0] n) 22)).heap.size = w.heap.size + 1 := by simp
  rw [hs] at h2
  exact ⟨(((Only.refl (fun _ => False) _).alloc _).row (World.rowIs_made w _ _ _) no_).congr fun i _ => by rw [if_neg (by omega)], h2.congr fun i _ => by rw [if_neg (by omega)], by omega, fun i h => absurd h (by omega), fun i h => absurd h (by omega), fun i j h => absurd h (by omega), fun i j h => absurd h (by omega), fun i j h => absurd h (by omega), ((Only.refl _ w).alloc _).alloc _, ⟨Nat.le_refl _, Nat.le_succ _⟩, fun i h => absurd h (by omega), fun i h => absurd h (by omega)⟩
theorem TI.done {w wr : World} {gC gP : Nat} {gc gp : Nat → Nat} {n : Nat} (S : Nat → Int) (h : TI w wr gC gP gc gp n n) : TB w wr gC gP gc gp n (dC S 2 0) (dP S 2 0) :=
  ⟨h.cO.congr fun i hi => by rw [if_pos hi], h.pO.congr fun i hi => by rw [if_pos hi], fun i hi => (h.c i hi).congr fun j _ => by rw [← dC_start], fun i hi => (h.p i hi).congr fun j _ => by rw [← dP_start], h.cc, h.pp, h.cp, h.only, h.newC, h.newP⟩
/-- One row more of each table. -/
theorem TI.step {w wr : World} {gC gP : Nat} {gc gp : Nat → Nat} {n k : Nat} (h : TI w wr gC gP gc gp n k) (hk : k < n) {z : World}
    (hz : z = ((((wr.alloc (.cells (madeCells #[.int .i64 0] n) 3)).setCell ⟨gC, k, none⟩ (.slice (some ⟨wr.heap.size, 0, none⟩) n n)).alloc (.cells (madeCells #[.int .i64 0] n) 3)).setCell ⟨gP, k, none⟩ (.slice (some ⟨wr.heap.size + 1, 0, none⟩) n n))) :
    TI w z gC gP (fun i => if i = k then wr.heap.size else gc i) (fun i => if i = k then wr.heap.size + 1 else gp i) n (k + 1) := by
  obtain ⟨v1, hv1⟩ : ∃ v1, v1 = wr.alloc (.cells (madeCells #[.int .i64 0] n) 3) := ⟨_, rfl⟩
  obtain ⟨v2, hv2⟩ : ∃ v2, v2 = v1.setCell ⟨gC, k, none⟩ (.slice (some ⟨wr.heap.size, 0, none⟩) n n) := ⟨_, rfl⟩
  obtain ⟨v3, hv3⟩ : ∃ v3, v3 = v2.alloc (.cells (madeCells #[.int .i64 0] n) 3) := ⟨_, rfl⟩
  have ez : z = v3.setCell ⟨gP, k, none⟩ (.slice (some ⟨wr.heap.size + 1, 0, none⟩) n n) := by rw [hz, hv3, hv2, hv1]
  have s1 : v1.heap.size = wr.heap.size + 1 := by rw [hv1]; simp
  have s2 : v2.heap.size = wr.heap.size + 1 := by rw [hv2]; simp [World.setCell, s1]
  have o1 : Only (fun _ => False) wr v1 := by rw [hv1]; exact (Only.refl _ wr).alloc _
  have o2 : Only (fun c => c = gC) v1 v2 := by rw [hv2]; exact (Only.refl (fun c => c = gC) v1).setCell (p := ⟨gC, k, none⟩) (.inl rfl) _
  have o3 : Only (fun _ => False) v2 v3 := by rw [hv3]; exact (Only.refl _ v2).alloc _
  have o4 : Only (fun c => c = gP) v3 z := by rw [ez]; exact (Only.refl (fun c => c = gP) v3).setCell (p := ⟨gP, k, none⟩) (.inl rfl) _
  have r1 : v1.rowIs wr.heap.size 3 n (fun _ => .int .i64 0) := by rw [hv1]; exact World.rowIs_made wr _ _ _
  have r3 : v3.rowIs (wr.heap.size + 1) 3 n (fun _ => .int .i64 0) := by
    have := World.rowIs_made v2 (.int .i64 0) n 3
    rw [← hv3, s2] at this
    exact this
  have lC := h.cO.lt
  have lP := h.pO.lt
  have nC : gC ≠ wr.heap.size := by omega
  have nP : gP ≠ wr.heap.size := by omega
  have nP1 : gP ≠ wr.heap.size + 1 := by omega
  have hs := h.only.size
  have cT : z.rowIs gC 22 n (fun i => if i = k then .slice (some ⟨wr.heap.size, 0, none⟩) n n else if i < k then .slice (some ⟨gc i, 0, none⟩) n n else .slice none 0 0) := by
    refine o4.row (o3.row ?_ no_) h.ne
    rw [hv2]
    exact (o1.row h.cO no_).set k _
  have pT : z.rowIs gP 22 n (fun i => if i = k then .slice (some ⟨wr.heap.size + 1, 0, none⟩) n n else if i < k then .slice (some ⟨gp i, 0, none⟩) n n else .slice none 0 0) := by
    have h3 := o3.row (o2.row (o1.row h.pO no_) h.ne.symm) no_
    rw [ez]
    exact h3.set k _
  have old : ∀ g f, wr.rowIs g 3 n f → z.rowIs g 3 n f := fun g f hr => by
    have a1 := o1.row hr no_
    have a2 := o2.row a1 (rowIs_ne hr h.cO (by decide))
    have a3 := o3.row a2 no_
    exact o4.row a3 (rowIs_ne hr h.pO (by decide))
  have k1 : z.rowIs wr.heap.size 3 n (fun _ => .int .i64 0) := o4.row (o3.row (o2.row r1 nC.symm) no_) nP.symm
  have k2 : z.rowIs (wr.heap.size + 1) 3 n (fun _ => .int .i64 0) := o4.row r3 nP1.symm
  have lc : ∀ i, i < k → gc i < wr.heap.size := fun i hi => (h.c i hi).lt
  have lp : ∀ i, i < k → gp i < wr.heap.size := fun i hi => (h.p i hi).lt
  refine ⟨cT.congr fun i _ => ?_, pT.congr fun i _ => ?_, h.ne, fun i hi => ?_, fun i hi => ?_, fun i j hi hj e => ?_, fun i j hi hj e => ?_, fun i j hi hj e => ?_, ?_, h.newO, fun i hi => ?_, fun i hi => ?_⟩
  · by_cases e : i = k
    · subst e; simp
    · simp only [if_neg e]
      by_cases e2 : i < k
      · rw [if_pos e2, if_pos (by omega)]
      · rw [if_neg e2, if_neg (by omega)]
  · by_cases e : i = k
    · subst e; simp
    · simp only [if_neg e]
      by_cases e2 : i < k
      · rw [if_pos e2, if_pos (by omega)]
      · rw [if_neg e2, if_neg (by omega)]
  · by_cases e : i = k
    · simp only [e, if_pos]; exact k1
    · simp only [if_neg e]; exact old _ _ (h.c i (by omega))
  · by_cases e : i = k
    · simp only [e, if_pos]; exact k2
    · simp only [if_neg e]; exact old _ _ (h.p i (by omega))
  · by_cases e1 : i = k <;> by_cases e2 : j = k
    · omega
    · simp only [e1, if_pos, if_neg e2] at e
      have := lc j (by omega); omega
    · simp only [e2, if_pos, if_neg e1] at e
      have := lc i (by omega); omega
    · simp only [if_neg e1, if_neg e2] at e
      exact h.cc i j (by omega) (by omega) e
  · by_cases e1 : i = k <;> by_cases e2 : j = k
    · omega
    · simp only [e1, if_pos, if_neg e2] at e
      have := lp j (by omega); omega
    · simp only [e2, if_pos, if_neg e1] at e
      have := lp i (by omega); omega
    · simp only [if_neg e1, if_neg e2] at e
      exact h.pp i j (by omega) (by omega) e
  · by_cases e1 : i = k <;> by_cases e2 : j = k
    · simp only [e1, e2, if_pos] at e; omega
    · simp only [e1, if_pos, if_neg e2] at e
      have := lp j (by omega); omega
    · simp only [e2, if_pos, if_neg e1] at e
      have := lc i (by omega); omega
    · simp only [if_neg e1, if_neg e2] at e
      exact h.cp i j (by omega) (by omega) e
  · have a1 := h.only.trans o1
    have a2 : Only (fun _ => False) w v2 := by rw [hv2]; exact a1.setCell (p := ⟨gC, k, none⟩) (.inr h.newO.1) _
    have a3 := a2.trans o3
    rw [ez]
    exact a3.setCell (p := ⟨gP, k, none⟩) (.inr h.newO.2) _
  · by_cases e : i = k
    · simp only [e, if_pos]; exact hs
    · simp only [if_neg e]; exact h.newC i (by omega)
  · by_cases e : i = k
    · simp only [e, if_pos]; omega
    · simp only [if_neg e]; exact h.newP i (by omega)
end Go.Proofs.Ythfnpgmjbfbocaa
