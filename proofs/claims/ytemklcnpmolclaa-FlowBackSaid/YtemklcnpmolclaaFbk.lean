/- FlowBack, walked. -/
import Derived.Test.YtemklcnpmolclaaFb
namespace Go.Proofs.Ytemklcnpmolclaa
open Go.RowKit

theorem back_any {B r gb n a : Nat} {f : Nat → Bool} {d : Dd} {w : World} (h : IsRd B w r gb 0 f n a) (hd : DIn w d) (hA1 : Old d.oa d.ys.length B) (hA2 : Old d.na d.zs.length B) (hok : okDd d = true) (hh : Has f a (bitsD d)) (hn : a + (bitsD d).length ≤ n) :
    Calls Try.prog 37 #[.pointer (some ⟨r, 0, none⟩), .agg (deedArr d)] w (BackE B w r gb f n (a + (bitsD d).length)) := by
  have hm := Int.emod_nonneg d.what (show (3 : Int) ≠ 0 by omega)
  have hm2 := Int.emod_lt_of_pos d.what (show (0 : Int) < 3 by omega)
  have hc : d.what % 3 = 0 ∨ d.what % 3 = 1 ∨ d.what % 3 = 2 := by omega
  rcases hc with h0 | h0 | h0
  · have e : bitsD d = d.ys := by unfold bitsD; rw [if_pos h0]
    rw [e] at hh hn ⊢
    exact back_bits h hd hA1 h0 trivial hh hn
  · have h1 : ¬ d.what % 3 = 0 := by omega
    have e : bitsD d = numB d.width.toNat d.zs := by unfold bitsD; rw [if_neg h1, if_pos h0]
    have e2 : okDd d = okN d.width d.zs := by unfold okDd; rw [if_neg h1, if_pos h0]
    rw [e] at hh hn ⊢
    rw [e2] at hok
    exact back_num h hd hA2 h0 hok hh hn
  · have h1 : ¬ d.what % 3 = 0 := by omega
    have h2 : ¬ d.what % 3 = 1 := by omega
    have e : bitsD d = gamB d.zs := by unfold bitsD; rw [if_neg h1, if_neg h2]
    have e2 : okDd d = okG d.zs := by unfold okDd; rw [if_neg h1, if_neg h2]
    rw [e] at hh hn ⊢
    rw [e2] at hok
    exact back_gam h hd hA2 h0 hok hh hn
/-- The bits of the first deeds. -/
def XS (d : Nat → Dd) (i : Nat) : List Bool := (List.range i).flatMap fun j => bitsD (d j)
theorem XS_step (d : Nat → Dd) (i : Nat) : XS d (i + 1) = XS d i ++ bitsD (d i) := by unfold XS; rw [List.range_succ, List.flatMap_append]; simp
theorem XS_has (d : Nat → Dd) : ∀ N i, i < N → Has (bf (XS d N)) (XS d i).length (bitsD (d i)) ∧ (XS d i).length + (bitsD (d i)).length ≤ (XS d N).length := fun N i hi => by
  have key : ∀ m, ∃ zs, XS d (i + 1 + m) = XS d i ++ (bitsD (d i) ++ zs) := fun m => by
    induction m with
    | zero => exact ⟨[], by rw [List.append_nil]; exact XS_step d i⟩
    | succ m ih =>
      obtain ⟨zs, hz⟩ := ih
      exact ⟨zs ++ bitsD (d (i + 1 + m)), by rw [← Nat.add_assoc, XS_step, hz]; simp⟩
  obtain ⟨zs, hz⟩ := key (N - (i + 1))
  rw [show i + 1 + (N - (i + 1)) = N by omega] at hz
  have h1 := Has.self (XS d N)
  rw [hz] at h1 ⊢
  have h2 := h1.right.left
  rw [Nat.zero_add] at h2
  exact ⟨h2, by rw [List.length_append, List.length_append]; omega⟩
theorem DsIn.oldO {w : World} {A : Option Addr} {N : Nat} {d : Nat → Dd} (h : DsIn w A N d) {j : Nat} (hj : j < N) : Old (d j).oa (d j).ys.length w.heap.size := fun h0 b off e => by
  obtain ⟨b', off', e', hc, hl⟩ := (h.ones j hj).at h0
  rw [e'] at e
  injection e with e
  injection e with e
  omega
theorem DsIn.oldN {w : World} {A : Option Addr} {N : Nat} {d : Nat → Dd} (h : DsIn w A N d) {j : Nat} (hj : j < N) : Old (d j).na (d j).zs.length w.heap.size := fun h0 b off e => by
  obtain ⟨b', off', e', hc, hl⟩ := (h.nums j hj).at h0
  rw [e'] at e
  injection e with e
  injection e with e
  omega
theorem putD_cases (X : List Bool) (d : Dd) : (∃ e : Int, (e = 2 ∨ e = 3) ∧ putD (0, X) d = (e, X)) ∨ (putD (0, X) d = (0, X ++ bitsD d) ∧ okDd d = true) := by
  rw [putD_all]
  unfold putAll
  cases h : okDd d with
  | false => left; exact ⟨2, .inl rfl, by simp⟩
  | true =>
    by_cases hl : 16777216 < X.length + (bitsD d).length
    · left; exact ⟨3, .inr rfl, by simp [hl]⟩
    · right; exact ⟨by simp [hl], rfl⟩
theorem nd_half {x : Nat} (h0 : 0 < x) (h : x < 18446744073709551616) : nd x = 1 + nd (x / 2) := Lib.bitLen_half x (by omega) (by omega)
theorem nd_zero : nd 0 = 0 := by decide
theorem rdB_one (w : World) (t : TypeId) (b : Bool) : RdB (w.alloc (Obj.cells #[.bool b] t)) (some ⟨w.heap.size, 0, none⟩) [b] := fun _ => ⟨w.heap.size, 0, rfl, fun j hj => by
  have : j = 0 := by simpa using hj
  subst this
  rw [Nat.zero_add]
  exact (one_row w (.bool b) t).cell (i := 0) (by omega)⟩
theorem numR_end (f : Nat → Bool) (n : Nat) : numR f n (0, n) 1 = (0, 4, n) := by
  have h : okW 1 = false ∨ n < n + 0 + (1 : Int).toNat := .inr (by show n < n + 0 + 1; omega)
  simp only [numR, takeR]
  rw [if_neg (by simp), if_pos h]
/-- While deeds are put. -/
structure Pt (w W : World) (g : Nat) (d : Nat → Dd) (i : Nat) : Prop where
  wr : IsWr w.heap.size W g 0 (XS d i)
  bel : Below w.heap.size w W
  ok : ∀ j, j < i → okDd (d j) = true
theorem Pt.below {w W W' : World} {g : Nat} {d : Nat → Dd} {i : Nat} (h : Pt w W g d i) (o : Below W.heap.size W W') : Pt w W' g d i := ⟨h.wr.below o, h.bel.trans (o.mono h.bel.size), h.ok⟩
end Go.Proofs.Ytemklcnpmolclaa
