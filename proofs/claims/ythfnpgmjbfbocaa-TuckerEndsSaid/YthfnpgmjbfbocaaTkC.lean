/- grown: lengths of a tree, as numbers choose. -/
import Derived.Test.YthfnpgmjbfbocaaTkB
namespace Go.Proofs.Ythfnpgmjbfbocaa
open Go.RowKit

theorem OwI.of_row {w0 w : World} {g cap n : Nat} {zs : List Int} {F : Nat → Value} (hr : w.rowIs g 3 cap F) (hF : ∀ j, j < n → F j = vI zs j) (hn : zs.length = n) (hle : n ≤ cap) (hc : cap ≤ maxLen) (hg : w0.heap.size ≤ g) (ho : Only (fun _ => False) w0 w) : OwI w0 w (.slice (some ⟨g, 0, none⟩) n cap) zs := by
  subst hn
  refine ⟨?_, ho⟩
  rw [← vals_mapI]
  exact own_mk hg hr hF hle hc
theorem pairs4 (w : World) (a b c d : Int) (t : TypeId) : ∀ j u, (pv [(a, b), (c, d)])[j]? = some u → (w.alloc (.cells #[.int .i64 a, .int .i64 b, .int .i64 c, .int .i64 d] t)).cell? ((⟨w.heap.size, 0, none⟩ : Addr).add j) = some u := by
  intro j u hu
  match j, hu with
  | 0, hu => simp [pv, iv] at hu; subst hu; simp [Addr.add]
  | 1, hu => simp [pv, iv] at hu; subst hu; simp [Addr.add]
  | 2, hu => simp [pv, iv] at hu; subst hu; simp [Addr.add]
  | 3, hu => simp [pv, iv] at hu; subst hu; simp [Addr.add]
  | j + 4, hu => simp [pv] at hu
theorem wrap_cut (a k : Nat) (h1 : a ≤ 1000) (h2 : k ≤ 1000) : IntKind.i64.wrap (IntKind.i64.wrap ((a : Int) + 1) + (k : Int)) = ((a + 1 + k : Nat) : Int) := by rw [IntKind.wrap_i64, IntKind.wrap_i64]; omega
/-- What grown answers. -/
def GrownE (n : Nat) (w : World) (e : Ending) (w' : World) : Prop :=
  ∃ l B c, e = .returned (.slice B n c) ∧ Hid (l.length = n) ∧ Hid (if n = 1 then l = [1] else Tr 0 l) ∧ Hid (OwI w w' (.slice B n c) l)

end Go.Proofs.Ythfnpgmjbfbocaa
