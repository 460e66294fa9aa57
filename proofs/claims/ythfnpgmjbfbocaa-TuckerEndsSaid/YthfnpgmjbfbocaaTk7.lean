/- The best tree of a row, by the table's shorter rows. -/
import Derived.Test.YthfnpgmjbfbocaaTk6
namespace Go.Proofs.Ythfnpgmjbfbocaa
open Go.RowKit

theorem row_two (w : World) (a b : Value) (t : TypeId) : (w.alloc (.cells #[a, b] t)).rowIs w.heap.size t 2 (fun i => if i = 0 then a else b) :=
  World.rowIs_alloc w #[a, b] t (fun i => if i = 0 then a else b) (fun i hi => by
    match i, hi with
    | 0, _ => rfl
    | 1, _ => rfl
    | i + 2, hi => exact absurd (show i + 2 < 2 from hi) (by omega))
/-- A block of two cells. -/
def Two (w : World) (g : Nat) (t : TypeId) (a b : Value) : Prop := w.rowIs g t 2 (fun i => if i = 0 then a else b)
theorem Two.c0 {w : World} {g : Nat} {t : TypeId} {a b : Value} (h : Two w g t a b) : w.cell? ⟨g, 0, none⟩ = some a := World.rowIs.cell (i := 0) h (by omega)
theorem Two.c1 {w : World} {g : Nat} {t : TypeId} {a b : Value} (h : Two w g t a b) : w.cell? ⟨g, 1, none⟩ = some b := World.rowIs.cell (i := 1) h (by omega)
theorem Two.only {S : Nat → Prop} {w w' : World} {g : Nat} {t : TypeId} {a b : Value} (h : Two w g t a b) (ho : Only S w w') (hS : ¬ S g) : Two w' g t a b := ho.row h hS
theorem Two.put {w : World} {g : Nat} {t : TypeId} {a b : Value} (h : Two w g t a b) (x y : Value) : Two ((w.setCell ⟨g, 0, none⟩ x).setCell ⟨g, 1, none⟩ y) g t x y := by
  refine ((World.rowIs.set h 0 x).set 1 y).congr fun i hi => ?_
  match i, hi with
  | 0, _ => rfl
  | 1, _ => rfl
theorem two_at (w : World) (g : Nat) (hg : g = w.heap.size) (a b : Value) (t : TypeId) : Two (w.alloc (.cells #[a, b] t)) g t a b := by subst hg; exact row_two w a b t

set_option maxHeartbeats 4000000 in
theorem best_core {sS sR : Value} {i j F L M : Nat} {g : Nat → Int} {y1 y2 : Int} {w : World}
    (HR1 : Hid (∀ u, Only (fun _ => False) w u → Calls Try.prog 105 #[.agg #[sS, sR], .int .i64 (i : Int), .int .i64 ((j : Int) - 1)] u fun e w' => e = .returned (.agg #[.int .i64 y1, .int .i64 (F : Int)]) ∧ StO u w'))
    (HR2 : Hid (∀ u, Only (fun _ => False) w u → Calls Try.prog 105 #[.agg #[sS, sR], .int .i64 ((i : Int) + 1), .int .i64 (j : Int)] u fun e w' => e = .returned (.agg #[.int .i64 y2, .int .i64 (L : Int)]) ∧ StO u w'))
    (HP : Hid (∀ k u, i < k → k < j → Only (fun _ => False) w u → Calls Try.prog 106 #[.agg #[sS, sR], .int .i64 (i : Int), .int .i64 (k : Int), .int .i64 (j : Int)] u fun e w' => e = .returned (.agg #[.int .i64 (g k), .int .i64 (k : Int)]) ∧ StO u w'))
    (hij : i + 2 ≤ j) (hj : j ≤ 257) (hF : i < F) (hFM : F ≤ M) (hM : M = min L (j - 1)) (hL : L ≤ 1000) :
    Calls Try.prog 83 #[.agg #[sS, sR], .int .i64 (i : Int), .int .i64 (j : Int)] w fun e w' => e = .returned (.agg #[.int .i64 (g (leastK g F (M - F))), .int .i64 ((leastK g F (M - F) : Nat) : Int)]) ∧ StO w w' := by
  have hf0 := fld0
  have hf1 := fld1
  go_enter Try.func83, Try.ntmps83
  go_upto_region 1 with fail
  have HB : Hid (Two (w.alloc (.cells #[sS, sR] 76)) w.heap.size 76 sS sR) := hid (row_two _ _ _ _)
  have HX : Hid (Two ((w.alloc (.cells #[sS, sR] 76)).alloc (.cells #[.int .i64 0, .int .i64 0] 128)) (w.heap.size + 1) 128 (.int .i64 0) (.int .i64 0)) := hid (two_at _ _ (by simp) _ _ _)
  have HB1 : Hid (Two ((w.alloc (.cells #[sS, sR] 76)).alloc (.cells #[.int .i64 0, .int .i64 0] 128)) w.heap.size 76 sS sR) := hid (HB.out.only ((Only.refl (fun _ => False) _).alloc _) no_)
  have HO1 : StO w ((w.alloc (.cells #[sS, sR] 76)).alloc (.cells #[.int .i64 0, .int .i64 0] 128)) := hid (((Only.refl _ w).alloc _).alloc _)
  obtain ⟨w1, hw1⟩ : ∃ w1, w1 = (w.alloc (.cells #[sS, sR] 76)).alloc (.cells #[.int .i64 0, .int .i64 0] 128) := ⟨_, rfl⟩
  have Hsz : Hid (w1.heap.size = w.heap.size + 2) := hid (by rw [hw1]; simp)
  rw [← hw1] at HX HB1 HO1 ⊢
  clear hw1 HB
  have d0 := HB1.out.c0
  have d1 := HB1.out.c1
  go_wp2_with fail
  clear d0 d1
  refine (HR1.out _ HO1.out).mono ?_
  rintro e w2 ⟨rfl, HO2⟩
  have d0 := (HB1.out.only HO2.out no_).c0
  have d1 := (HB1.out.only HO2.out no_).c1
  go_wp2_with fail
  clear d0 d1
  refine (HR2.out _ (HO1.out.trans HO2.out)).mono ?_
  rintro e w3 ⟨rfl, HO3⟩
  have HO13 : StO w1 w3 := hid (HO2.out.trans HO3.out)
  clear HO2 HO3 HR1 HR2
  have d0 := (HB1.out.only HO13.out no_).c0
  have d1 := (HB1.out.only HO13.out no_).c1
  go_wp2_with fail
  clear d0 d1
  have hMe : min (L : Int) ((j : Int) - 1) = (M : Int) := by omega
  rw [hMe]
  clear hMe
  refine (HP.out F _ hF (by omega) (HO1.out.trans HO13.out)).mono ?_
  rintro e w4 ⟨rfl, HO4⟩
  have HO14 : StO w1 w4 := hid (HO13.out.trans HO4.out)
  have hMj : M < j := by omega
  have HTW : Hid (Two (w4.alloc (.cells #[.int .i64 (g F), .int .i64 (F : Int)] 128)) w4.heap.size 128 (.int .i64 (g F)) (.int .i64 (F : Int))) := hid (two_at _ _ rfl _ _ _)
  have HTO : StO w4 (w4.alloc (.cells #[.int .i64 (g F), .int .i64 (F : Int)] 128)) := hid ((Only.refl _ w4).alloc _)
  clear HO13 HO4 hM
  have HX4 := hid (HX.out.only HO14.out no_)
  have HB4 := hid (HB1.out.only HO14.out no_)
  have HO04 : StO w w4 := hid (HO1.out.trans HO14.out)
  clear HX HB1 HO1 HO14
  go_wp2_with fail
  go_loopw [10] (fun s wr => ∃ m : Nat, m ≤ M - F ∧ s = .int .i64 ((F + m + 1 : Nat) : Int) ∧ Hid (Two wr w4.heap.size 128 (.int .i64 (g (leastK g F m))) (.int .i64 ((leastK g F m : Nat) : Int))) ∧ StO w4 wr) (fun s _ => M + 1 - (intOf s).toNat)
  case atStart => exact ⟨0, by omega, by go_num, HTW, HTO⟩
  case round =>
    obtain ⟨m, hm, rfl, HT, HO⟩ := hrel
    clear HTW HTO
    by_cases hp : F + m + 1 ≤ M
    · have hp' : ((F + m + 1 : Nat) : Int) ≤ (M : Int) := by omega
      have HPc := hid (HP.out (F + m + 1) wr (by omega) (by omega) (HO04.out.trans HO.out))
      have HL : Hid (∀ K, K = (if g (F + m + 1) < g (leastK g F m) then F + m + 1 else leastK g F m) → leastK g F (m + 1) = K) := hid fun K hK => by rw [hK]; rfl
      obtain ⟨q, hq⟩ : ∃ q, q = F + m + 1 := ⟨_, rfl⟩
      have hq1 : F + (m + 1) + 1 = q + 1 := by omega
      have Hq1 := hid hq1
      rw [← hq] at hp' HPc HL ⊢
      have hqm : q ≤ M := by omega
      clear hp hq hq1
      generalize leastK g F m = K at HT HL
      have d0 := (HB4.out.only HO.out no_).c0
      have d1 := (HB4.out.only HO.out no_).c1
      go_wp2_with fail
      clear d0 d1
      refine HPc.out.mono ?_
      rintro e w6 ⟨rfl, HO6⟩
      have ht := HT.out.only HO6.out no_
      have d0 := ht.c0
      have d1 := ht.c1
      have f0 := World.rowIs.frozen ht 0
      have f1 := World.rowIs.frozen ht 1
      have hlt := World.rowIs.lt ht
      have HT2 : Hid (∀ o, Two (w6.alloc o) w4.heap.size 128 (.int .i64 (g K)) (.int .i64 (K : Int))) := hid fun o => ht.only ((Only.refl (fun _ => False) w6).alloc o) no_
      have HO2 : Hid (∀ o, Only (fun _ => False) w4 (w6.alloc o)) := hid fun o => (HO.out.trans HO6.out).alloc o
      clear HPc
      by_cases hlt2 : g q < g K
      · have HL2 : Hid (leastK g F (m + 1) = q) := hid (HL.out _ (by rw [if_pos hlt2]))
        have HN : Hid (∀ o, Two (((w6.setCell ⟨w4.heap.size, 0, none⟩ (.int .i64 (g q))).setCell ⟨w4.heap.size, 1, none⟩ (.int .i64 (q : Int))).alloc o) w4.heap.size 128 (.int .i64 (g q)) (.int .i64 (q : Int))) := hid fun o => (ht.put _ _).only ((Only.refl (fun _ => False) _).alloc o) no_
        have HN2 : Hid (∀ o x y, Only (fun _ => False) w4 (((w6.setCell ⟨w4.heap.size, 0, none⟩ x).setCell ⟨w4.heap.size, 1, none⟩ y).alloc o)) := hid fun o x y => (((HO.out.trans HO6.out).setCell (p := ⟨w4.heap.size, 0, none⟩) (.inr (Nat.le_refl _)) x).setCell (p := ⟨w4.heap.size, 1, none⟩) (.inr (Nat.le_refl _)) y).alloc o
        clear ht
        clear HL HT HT2 HO HO2 HO6
        go_wp2_with fail
        go_roundw
        case rel => exact ⟨m + 1, by have := Hq1.out; omega, by rw [Hq1.out]; go_num, hid (by rw [HL2.out]; exact HN.out _), hid (HN2.out _ _ _)⟩
        case measure => simp [intOf]; omega
      · have HL2 : Hid (leastK g F (m + 1) = K) := hid (HL.out _ (by rw [if_neg hlt2]))
        clear HL HT HO HO6
        go_wp2_with fail
        go_roundw
        case rel => exact ⟨m + 1, by have := Hq1.out; omega, by rw [Hq1.out]; go_num, hid (by rw [HL2.out]; exact HT2.out _), hid (HO2.out _)⟩
        case measure => simp [intOf]; omega
    · obtain rfl : m = M - F := by omega
      have hp' : ¬ ((F + (M - F) + 1 : Nat) : Int) ≤ (M : Int) := by omega
      have ht := HT.out
      have d0 := ht.c0
      have d1 := ht.c1
      have hx := HX4.out.only HO.out no_
      have f0 := World.rowIs.frozen hx 0
      have f1 := World.rowIs.frozen hx 1
      have x0 := hx.c0
      have x1 := hx.c1
      have hlt := World.rowIs.lt hx
      have HQ := hid fun a b => ret_cells hx a b
      have HF : Hid (∀ a b : Value, Only (fun _ => False) w ((wr.setCell ⟨w.heap.size + 1, 0, none⟩ a).setCell ⟨w.heap.size + 1, 1, none⟩ b)) := hid fun a b => ((HO04.out.trans HO.out).setCell (p := ⟨w.heap.size + 1, 0, none⟩) (.inr (Nat.le_succ _)) a).setCell (p := ⟨w.heap.size + 1, 1, none⟩) (.inr (Nat.le_succ _)) b
      clear ht hx HT HO HO04 HP HX4 HB4 hp
      obtain ⟨K, hK⟩ : ∃ K, K = leastK g F (M - F) := ⟨_, rfl⟩
      rw [← hK] at d0 d1
      have HK := hid hK
      clear hK
      go_wp2_with fail
      have q := HQ.out (.int .i64 (g K)) (.int .i64 (K : Int))
      refine bodyPost_ret (v := .agg #[.int .i64 (g K), .int .i64 (K : Int)]) (by simp [results, Try.results83, go_sem, q]) rfl ⟨by rw [HK.out], hid (HF.out _ _)⟩
/-- What the table has of all rows shorter than those of that size, and of that size up to that place. -/
def tabD (S : Nat → Int) (s f : Nat) (i p : Nat) : Int × Nat := if p = 1 then (0, i + 1) else if 2 ≤ p ∧ (p < s ∨ (p = s ∧ i < f)) then (ct S i (i + p), rt S i (i + p)) else (0, 0)
theorem tabD_of {S : Nat → Int} {s f i p : Nat} (h1 : 1 ≤ p) (h2 : p < s ∨ (p = s ∧ i < f) ∨ p = 1) : tabD S s f i p = (ct S i (i + p), rt S i (i + p)) := by
  unfold tabD
  by_cases e : p = 1
  · subst e
    rw [if_pos rfl, ct_one, rt_one]
  · rw [if_neg e, if_pos ⟨by omega, by omega⟩]
theorem tabD_bound {S : Nat → Int} (hS : ∀ i j, i ≤ j → S i ≤ S j) (hB : ∀ k, k ≤ 257 → 0 ≤ S k ∧ S k ≤ 1103806595072) (N s f : Nat) (hN : N ≤ 257) (i p : Nat) (h : i + p ≤ N) : 0 ≤ (tabD S s f i p).1 ∧ (tabD S s f i p).1 ≤ 283678294933504 := by
  unfold tabD
  split
  · exact ⟨Int.le_refl _, by show (0 : Int) ≤ _; decide⟩
  · split
    · rename_i h1 h2
      have b1 := hB i (by omega)
      have b2 := hB (i + p) (by omega)
      have := ct_bound (M := 1103806595072) hS p i (i + p) (by omega) (by omega) (by omega)
      show 0 ≤ ct S i (i + p) ∧ ct S i (i + p) ≤ 283678294933504
      have e : i + p - i - 1 = p - 1 := by omega
      rw [e] at this
      omega
    · exact ⟨Int.le_refl _, by show (0 : Int) ≤ _; decide⟩
theorem ct_bound2 {S : Nat → Int} (hS : ∀ i j, i ≤ j → S i ≤ S j) (hB : ∀ k, k ≤ 257 → 0 ≤ S k ∧ S k ≤ 1103806595072) {i j : Nat} (h : i < j) (hj : j ≤ 257) : 0 ≤ ct S i j ∧ ct S i j ≤ 283678294933504 := by
  have b1 := hB i (by omega)
  have b2 := hB j (by omega)
  have := ct_bound (M := 1103806595072) hS j i j (by omega) h (by omega)
  omega
theorem leastK_shift {f : Nat → Int} {c : Int} {a : Nat} : ∀ m, leastK (fun k => c + f k) a m = leastK f a m
  | 0 => rfl
  | m + 1 => by
    have e := leastK_shift (f := f) (c := c) (a := a) m
    unfold leastK
    rw [e]
    by_cases h : f (a + m + 1) < f (leastK f a m)
    · rw [if_pos h, if_pos (by show c + f _ < c + f _; omega)]
    · rw [if_neg h, if_neg (by show ¬ c + f _ < c + f _; omega)]

theorem best_any {gS gR N s f j : Nat} {gi : Nat → Nat} {S : Nat → Int} {w : World} (h : TabH w gS gR gi N S (tabD S s f)) (hN : N ≤ 257) (hs : 2 ≤ s) (hj : j = f + s) (hjN : j ≤ N)
    (hS : ∀ i j, i ≤ j → S i ≤ S j) (hB : ∀ k, k ≤ 257 → 0 ≤ S k ∧ S k ≤ 1103806595072) :
    Calls Try.prog 83 #[tabV gS gR N, .int .i64 (f : Int), .int .i64 (j : Int)] w fun e w' => e = .returned (entV (ct S f j, rt S f j)) ∧ StO w w' := by
  have hb := least_bound hS (i := f) (j := j) (by omega)
  have hr := rt_in (S := S) (i := f) (j := j) (by omega)
  have hD := fun i k (_ : Nat) (h1 : i < k) (h2 : k - i < s) => (show tabD S s f i (k - i) = (ct S i k, rt S i k) by rw [tabD_of (by omega) (.inl h2), show i + (k - i) = k by omega])
  have e1 : ((j - 1 : Nat) : Int) = (j : Int) - 1 := by omega
  have e2 : ((f + 1 : Nat) : Int) = (f : Int) + 1 := by omega
  have key : leastK (fun k => S j - S f + ct S f k + ct S k j) (rt S f (j - 1)) (min (rt S (f + 1) j) (j - 1) - rt S f (j - 1)) = rt S f j := by
    rw [← hb.2.2]
    have : (fun k => S j - S f + ct S f k + ct S k j) = fun k => (S j - S f) + (ct S f k + ct S k j) := by funext k; omega
    rw [this, leastK_shift]
  have hv : S j - S f + ct S f (rt S f j) + ct S (rt S f j) j = ct S f j := by
    have := (ct_rt S (i := f) (j := j) (by omega)).1
    omega
  have hrt : rt S (f + 1) j ≤ 1000 := by
    by_cases e : s = 2
    · have : rt S (f + 1) (f + 2) = f + 2 := rt_one S (f + 1)
      have ej : j = f + 2 := by omega
      rw [ej, this]; omega
    · have := rt_in (S := S) (i := f + 1) (j := j) (by omega)
      omega
  have main := best_core (sS := .slice (some ⟨gS, 0, none⟩) (N + 1) (N + 1)) (sR := .slice (some ⟨gR, 0, none⟩) N N) (i := f) (j := j) (F := rt S f (j - 1)) (L := rt S (f + 1) j) (M := min (rt S (f + 1) j) (j - 1)) (g := fun k => S j - S f + ct S f k + ct S k j) (y1 := ct S f (j - 1)) (y2 := ct S (f + 1) j) (w := w)
    (hid fun u hu => by
      have := row_any (h.only hu) (i := f) (j := j - 1) (by omega) (by omega) (by omega) hN
      rw [hD f (j - 1) 0 (by omega) (by omega), e1] at this
      exact this)
    (hid fun u hu => by
      have := row_any (h.only hu) (i := f + 1) (j := j) (by omega) (by omega) (by omega) hN
      rw [hD (f + 1) j 0 (by omega) (by omega), e2] at this
      exact this)
    (hid fun k u h1 h2 hu => by
      have := parted_any (h.only hu) h1 h2 hjN hN hB (tabD_bound hS hB N s f hN)
      rw [hD f k 0 (by omega) (by omega), hD k j 0 (by omega) (by omega)] at this
      exact this)
    (by omega) (by omega) hb.1 hb.2.1 rfl hrt
  refine main.mono fun e w' ⟨he, ho⟩ => ⟨?_, ho⟩
  rw [he, key]
  show Ending.returned (.agg #[.int .i64 (S j - S f + ct S f (rt S f j) + ct S (rt S f j) j), _]) = _
  rw [hv]
  rfl
end Go.Proofs.Ythfnpgmjbfbocaa
