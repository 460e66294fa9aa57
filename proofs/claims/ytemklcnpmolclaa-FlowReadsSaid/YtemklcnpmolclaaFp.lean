/- Pick, by remainder; a deed put. -/
import Derived.Test.YtemklcnpmolclaaFw
import Derived.Test.YtemklcnpmolclaaKitB
namespace Go.Proofs.Ytemklcnpmolclaa
open Go.RowKit

theorem tmod_emod (x n : Int) (hn : 1 ≤ n) (hx : x < 0) : (x.tmod n = 0 ∧ x % n = 0) ∨ (x.tmod n < 0 ∧ x % n = x.tmod n + n) := by
  have hb := V1.tmod_bounds x n hn hx
  have h1 := Int.emod_nonneg x (by omega : n ≠ 0)
  have h2 := Int.emod_lt_of_pos x (by omega : 0 < n)
  have h3 := Int.mul_ediv_add_emod x n
  have h4 := Int.mul_tdiv_add_tmod x n
  generalize x.tmod n = t at hb h4 ⊢
  generalize x % n = r at h1 h2 h3 ⊢
  generalize x / n = q at h3
  generalize x.tdiv n = p at h4
  have h5 : n * (q - p) = t - r := by rw [Int.mul_sub]; omega
  have h6 : q - p = 0 ∨ q - p = -1 := by
    rcases Int.lt_trichotomy (q - p) 0 with h | h | h
    · right
      by_cases h7 : q - p ≤ -2
      · have := Int.mul_le_mul_of_nonneg_left h7 (show 0 ≤ n by omega)
        omega
      · omega
    · exact .inl h
    · have := Int.mul_le_mul_of_nonneg_left (show 1 ≤ q - p by omega) (show 0 ≤ n by omega)
      omega
  rcases h6 with h | h
  · rw [h] at h5; left; omega
  · rw [h] at h5
    by_cases h8 : t = 0
    · omega
    · right; omega
set_option maxHeartbeats 400000 in
theorem pickM (x n : Int) (w : World) (hn : 1 ≤ n) (hn2 : n ≤ 9223372036854775807) (hx1 : -9223372036854775808 ≤ x) (hx2 : x ≤ 9223372036854775807) :
    Calls Try.prog 11 #[.int .i64 x, .int .i64 n] w fun e w' => e = .returned (.int .i64 (x % n)) ∧ w = w' := by
  by_cases hx : 0 ≤ x
  · have h1 := Int.emod_nonneg x (by omega : n ≠ 0)
    have h2 := Int.emod_lt_of_pos x (by omega : 0 < n)
    go_enter Try.func11, Try.ntmps11
    go_wp2
    go_ret
    exact ⟨rfl, rfl⟩
  · have hb := V1.tmod_bounds x n hn (by omega)
    have ht := tmod_emod x n hn (by omega)
    have h1 := hb.1
    have h2 := hb.2
    clear hb
    have hx' : x < 0 := by omega
    rcases ht with ⟨hz, hr⟩ | ⟨hz, hr⟩
    · have hz' : ¬ x.tmod n < 0 := by omega
      have HR : Hid (x.tmod n = x % n) := hid (by rw [hz, hr])
      clear hz hr hx
      go_enter Try.func11, Try.ntmps11
      go_wp2
      go_ret
      exact ⟨ret_int (by show x.tmod n = _; exact HR.out), rfl⟩
    · have HR := hid hr
      clear hr hx
      go_enter Try.func11, Try.ntmps11
      go_wp2
      go_ret
      exact ⟨ret_int (by show x.tmod n + n = _; exact HR.out.symm), rfl⟩

theorem TyAt.alloc {w : World} {o : Obj} {b : Nat} {T : TypeId → Prop} (hb : b < w.heap.size) : TyAt (w.alloc o) b T ↔ TyAt w b T := by
  unfold TyAt
  rw [Below.heap_alloc w o b hb]
theorem ArgOk.alloc {w : World} {A : Option Addr} {B : Nat} {cs : Array Value} {t : TypeId} (h : ArgOk w A B) (ht : ¬ TW t) : ArgOk (w.alloc (.cells cs t)) A B := fun b off e hb => by
  rcases Nat.lt_or_ge b w.heap.size with h1 | h1
  · rcases h b off e h1 with h2 | h2
    · exact .inl h2
    · exact .inr fun h3 => h2 ((TyAt.alloc h1).1 h3)
  · rw [size_alloc] at hb
    obtain rfl : b = w.heap.size := by omega
    exact .inr (TyAt.not_row (World.rowIs_alloc w cs t (fun i => (cs[i]?).getD undef) (fun i hi => by rw [Array.getElem?_eq_getElem hi]; rfl)) ht)
theorem ArgOk.lt {w : World} {A : Option Addr} {B : Nat} (h : ∀ b off, A = some ⟨b, off, none⟩ → b < B) : ArgOk w A B := fun b off e _ => .inl (h b off e)
/-- A deed: what, width, bits, numbers. -/
structure Dd where
  what : Int
  width : Int
  oa : Option Addr
  oc : Nat
  ys : List Bool
  na : Option Addr
  nc : Nat
  zs : List Int
def Dd.val (d : Dd) : Nat → Value
  | 0 => .int .i64 d.what
  | 1 => .int .i64 d.width
  | 2 => .slice d.oa d.ys.length d.oc
  | _ => .slice d.na d.zs.length d.nc
def I64 (z : Int) : Prop := -9223372036854775808 ≤ z ∧ z ≤ 9223372036854775807
structure DIn (w : World) (d : Dd) : Prop where
  what : I64 d.what
  width : I64 d.width
  ones : RdB w d.oa d.ys
  nums : RdI w d.na d.zs
  i64 : I64s d.zs
  ol : d.ys.length ≤ 3000000
  nl : d.zs.length ≤ 3000000
theorem DIn.only {w w' : World} {d : Dd} (h : DIn w d) (o : Only (fun _ => False) w w') : DIn w' d := ⟨h.what, h.width, h.ones.only o fun _ _ _ => no_, h.nums.only o fun _ _ _ => no_, h.i64, h.ol, h.nl⟩
theorem DIn.below {w w' : World} {d : Dd} (h : DIn w d) (o : Below w.heap.size w w') : DIn w' d := h.only (Only.of_below o _)
def putD (s : WSt) (d : Dd) : WSt := if d.what % 3 = 0 then putB s d.ys else if d.what % 3 = 1 then putN s d.width d.zs else putG s d.zs
def deedArr (d : Dd) : Array Value := #[.int .i64 d.what, .int .i64 d.width, .slice d.oa d.ys.length d.oc, .slice d.na d.zs.length d.nc]
theorem deed_row (w : World) (d : Dd) : (w.alloc (.cells (deedArr d) 35)).rowIs w.heap.size 35 4 d.val := World.rowIs_alloc w (deedArr d) _ _ (fun i hi => by
  match i, hi with
  | 0, _ => rfl
  | 1, _ => rfl
  | 2, _ => rfl
  | 3, _ => rfl
  | i + 4, hi => exact absurd (show i + 4 < 4 from hi) (by omega))
set_option maxHeartbeats 1000000 in
theorem lput_any {B g : Nat} {e : Int} {xs : List Bool} {d : Dd} {w : World} (h : IsWr B w g e xs) (hB : B ≤ w.heap.size) (hd : DIn w d) (ho : 0 < d.ys.length → ArgOk w d.oa B) (hn : 0 < d.zs.length → ArgOk w d.na B) :
    Calls Try.prog 36 #[.pointer (some ⟨g, 0, none⟩), .agg (deedArr d)] w (WrE B w g (putD (e, xs) d)) := by
  obtain ⟨w1, hw1⟩ : ∃ w1, w1 = w.alloc (.cells (deedArr d) 35) := ⟨_, rfl⟩
  have hrow := deed_row w d
  have o : Only (fun _ => False) w (w.alloc (.cells (deedArr d) 35)) := (Only.refl _ w).alloc _
  have ho1 := fun h0 => (ho h0).alloc (cs := deedArr d) (t := 35) (by unfold TW; decide)
  have hn1 := fun h0 => (hn h0).alloc (cs := deedArr d) (t := 35) (by unfold TW; decide)
  have hd1 := hd.only o
  have hI := h.same o
  have hsz := o.size
  rw [← hw1] at hrow o ho1 hn1 hd1 hI hsz
  have c0 : w1.cell? ⟨w.heap.size, 0, none⟩ = some (.int .i64 d.what) := hrow.cell (i := 0) (by omega)
  have c1 : w1.cell? ⟨w.heap.size, 1, none⟩ = some (.int .i64 d.width) := hrow.cell (i := 1) (by omega)
  have c2 : w1.cell? ⟨w.heap.size, 2, none⟩ = some (.slice d.oa d.ys.length d.oc) := hrow.cell (i := 2) (by omega)
  have c3 : w1.cell? ⟨w.heap.size, 3, none⟩ = some (.slice d.na d.zs.length d.nc) := hrow.cell (i := 3) (by omega)
  have H0 := hid (put_any (cap := d.oc) hI (Nat.le_trans hB hsz) hd1.ones ho1 hd1.ol)
  have H1 := hid (number_any (cap := d.nc) (wd := d.width) hI (Nat.le_trans hB hsz) hd1.nums hn1 hd1.i64 hd1.nl)
  have H2 := hid (gamma_any (cap := d.nc) hI (Nat.le_trans hB hsz) hd1.nums hn1 hd1.i64 hd1.nl)
  have HP := hid (fun W => pickM d.what 3 W (by omega) (by omega) hd.what.1 hd.what.2)
  have HO := hid o
  have hm := Int.emod_nonneg d.what (show (3 : Int) ≠ 0 by omega)
  have hm2 := Int.emod_lt_of_pos d.what (show (0 : Int) < 3 by omega)
  have HPut := hid (show putD (e, xs) d = if d.what % 3 = 0 then putB (e, xs) d.ys else if d.what % 3 = 1 then putN (e, xs) d.width d.zs else putG (e, xs) d.zs from rfl)
  unfold deedArr at hw1
  unfold deedArr
  clear h hB hd ho hn hrow ho1 hn1 hd1 hI hsz o
  generalize putD (e, xs) d = s at HPut ⊢
  generalize d.what % 3 = m at HP HPut hm hm2
  have hcase : m = 0 ∨ m = 1 ∨ m = 2 := by omega
  clear hm hm2
  rcases hcase with rfl | rfl | rfl
  · have HPut2 := hid (HPut.out.trans (if_pos rfl))
    clear HPut H1 H2
    go_enter Try.func36, Try.ntmps36
    go_wp2_with fail
    rw [← hw1]
    clear hw1
    refine (HP.out _).mono ?_
    rintro e' w2 ⟨rfl, rfl⟩
    go_wp2_with fail
    refine H0.out.mono ?_
    rintro e' w2 ⟨rfl, h2⟩
    go_wp2_with fail
    go_ret
    rw [HPut2.out]
    exact ⟨rfl, hid ⟨h2.out.1, (FrT.of_only HO.out).trans h2.out.2⟩⟩
  · have HPut2 := hid (HPut.out.trans ((if_neg (by decide)).trans (if_pos rfl)))
    clear HPut H0 H2
    go_enter Try.func36, Try.ntmps36
    go_wp2_with fail
    rw [← hw1]
    clear hw1
    refine (HP.out _).mono ?_
    rintro e' w2 ⟨rfl, rfl⟩
    go_wp2_with fail
    refine H1.out.mono ?_
    rintro e' w2 ⟨rfl, h2⟩
    go_wp2_with fail
    go_ret
    rw [HPut2.out]
    exact ⟨rfl, hid ⟨h2.out.1, (FrT.of_only HO.out).trans h2.out.2⟩⟩
  · have HPut2 := hid (HPut.out.trans ((if_neg (by decide)).trans (if_neg (by decide))))
    clear HPut H0 H1
    go_enter Try.func36, Try.ntmps36
    go_wp2_with fail
    rw [← hw1]
    clear hw1
    refine (HP.out _).mono ?_
    rintro e' w2 ⟨rfl, rfl⟩
    go_wp2_with fail
    refine H2.out.mono ?_
    rintro e' w2 ⟨rfl, h2⟩
    go_wp2_with fail
    go_ret
    rw [HPut2.out]
    exact ⟨rfl, hid ⟨h2.out.1, (FrT.of_only HO.out).trans h2.out.2⟩⟩
end Go.Proofs.Ytemklcnpmolclaa
