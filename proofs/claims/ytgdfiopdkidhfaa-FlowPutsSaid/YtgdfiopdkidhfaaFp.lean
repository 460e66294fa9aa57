/- Pick, by remainder; a deed put. -/
import Derived.Test.YtgdfiopdkidhfaaFw
import Derived.Test.YtgdfiopdkidhfaaKitB
namespace Go.Proofs.Ytgdfiopdkidhfaa
open Go.RowKit

theorem tmod_emod (x n : Int) (hn : 1 ≤ n) (hx : x < 0) : (x.tmod n = 0 ∧ x % n = 0) ∨ (x.tmod n < 0 ∧ x % n = x.tmod n + n) := by
  have hb := V1.tmod_bounds x n hn hx
  have h1 := Int.emod_nonneg x (by omega : n ≠ 0)
  have h2 := Int.emod_lt_of_pos x (by omega : 0 < n)
  have h3 := Int.mul_ediv_add_emod x n
  have h4 := Int.mul_tdiv_add_tmod x n
  generalize x.tmod n = t at hb h4 ⊢
  generalize x % n = r at h1 h2 h3 ⊢
  generalize x / n = q at h3
  generalize x.tdiv n = p at h4
  have h5 : n * (q - p) = t - r := by rw [Int.mul_sub]; omega
  have h6 : q - p = 0 ∨ q - p = -1 := by
    rcases Int.lt_trichotomy (q - p) 0 with h | h | h
    · right
      by_cases h7 : q - p ≤ -2
      · have := Int.mul_le_mul_of_nonneg_left h7 (show 0 ≤ n by omega)
        omega
      · omega
    · exact .inl h
    · have := Int.mul_le_mul_of_nonneg_left (show 1 ≤ q - p by omega) (show 0 ≤ n by omega)
      omega
  rcases h6 with h | h
  · rw [h] at h5; left; omega
  · rw [h] at h5
    by_cases h8 : t = 0
    · omega
    · right; omega
set_option maxHeartbeats 400000 in
theorem pickM (x n : Int) (w : World) (hn : 1 ≤ n) (hn2 : n ≤ 9223372036854775807) (hx1 : -9223372036854775808 ≤ x) (hx2 : x ≤ 9223372036854775807) :
    Calls Try.prog 8 #[.int .i64 x, .int .i64 n] w fun e w' => e = .returned (.int .i64 (x % n)) ∧ w = w' := by
  by_cases hx : 0 ≤ x
  · have h1 := Int.emod_nonneg x (by omega : n ≠ 0)
    have h2 := Int.emod_lt_of_pos x (by omega : 0 < n)
    go_enter Try.func8, Try.ntmps8
    go_wp2
    go_ret
    exact ⟨rfl, rfl⟩
  · have hb := V1.tmod_bounds x n hn (by omega)
    have ht := tmod_emod x n hn (by omega)
    have h1 := hb.1
    have h2 := hb.2
    clear hb
    have hx' : x < 0 := by omega
    rcases ht with ⟨hz, hr⟩ | ⟨hz, hr⟩
    · have hz' : ¬ x.tmod n < 0 := by omega
      have HR : Hid (x.tmod n = x % n) := hid (by rw [hz, hr])
      clear hz hr hx
      go_enter Try.func8, Try.ntmps8
      go_wp2
      go_ret
      exact ⟨ret_int (by show x.tmod n = _; exact HR.out), rfl⟩
    · have HR := hid hr
      clear hr hx
      go_enter Try.func8, Try.ntmps8
      go_wp2
      go_ret
      exact ⟨ret_int (by show x.tmod n + n = _; exact HR.out.symm), rfl⟩

theorem TyAt.alloc {w : World} {o : Obj} {b : Nat} {T : TypeId → Prop} (hb : b < w.heap.size) : TyAt (w.alloc o) b T ↔ TyAt w b T := by
  unfold TyAt
  rw [Below.heap_alloc w o b hb]
theorem ArgOk.alloc {w : World} {A : Option Addr} {B : Nat} {cs : Array Value} {t : TypeId} (h : ArgOk w A B) (ht : ¬ TW t) : ArgOk (w.alloc (.cells cs t)) A B := fun b off e hb => by
  rcases Nat.lt_or_ge b w.heap.size with h1 | h1
  · rcases h b off e h1 with h2 | h2
    · exact .inl h2
    · exact .inr fun h3 => h2 ((TyAt.alloc h1).1 h3)
  · rw [size_alloc] at hb
    obtain rfl : b = w.heap.size := by omega
    exact .inr (TyAt.not_row (World.rowIs_alloc w cs t (fun i => (cs[i]?).getD undef) (fun i hi => by rw [Array.getElem?_eq_getElem hi]; rfl)) ht)
theorem ArgOk.lt {w : World} {A : Option Addr} {B : Nat} (h : ∀ b off, A = some ⟨b, off, none⟩ → b < B) : ArgOk w A B := fun b off e _ => .inl (h b off e)
/-- A deed: what, width, bits, numbers. -/
structure Dd where
  what : Int
  width : Int
  oa : Option Addr
  oc : Nat
  ys : List Bool
  na : Option Addr
  nc : Nat
  zs : List Int
def Dd.val (d : Dd) : Nat → Value
  | 0 => .int .i64 d.what
  | 1 => .int .i64 d.width
  | 2 => .slice d.oa d.ys.length d.oc
  | _ => .slice d.na d.zs.length d.nc
def I64 (z : Int) : Prop := -9223372036854775808 ≤ z ∧ z ≤ 9223372036854775807
structure DIn (w : World) (d : Dd) : Prop where
  what : I64 d.what
  width : I64 d.width
  ones : RdB w d.oa d.ys
  nums : RdI w d.na d.zs
  i64 : I64s d.zs
  ol : d.ys.length ≤ 3000000
  nl : d.zs.length ≤ 3000000
theorem DIn.only {w w' : World} {d : Dd} (h : DIn w d) (o : Only (fun _ => False) w w') : DIn w' d := ⟨h.what, h.width, h.ones.only o fun _ _ _ => no_, h.nums.only o fun _ _ _ => no_, h.i64, h.ol, h.nl⟩
theorem DIn.below {w w' : World} {d : Dd} (h : DIn w d) (o : Below w.heap.size w w') : DIn w' d := h.only (Only.of_below o _)
def putD (s : WSt) (d : Dd) : WSt := if d.what % 3 = 0 then putB s d.ys else if d.what % 3 = 1 then putN s d.width d.zs else putG s d.zs
def deedArr (d : Dd) : Array Value := #[.int .i64 d.what, .int .i64 d.width, .slice d.oa d.ys.length d.oc, .slice d.na d.zs.length d.nc]
theorem deed_row (w : World) (d : Dd) : (w.alloc (.cells (deedArr d) 35)).rowIs w.heap.size 35 4 d.val := World.rowIs_alloc w (deedArr d) _ _ (fun i hi => by
  match i, hi with
  | 0, _ => rfl
  | 1, _ => rfl
  | 2, _ => rfl
  | 3, _ => rfl
  | i + 4, hi => exact absurd (show i + 4 < 4 from hi) (by omega))
end Go.Proofs.Ytgdfiopdkidhfaa
