/- admit: may it be put? -/
import Derived.Test.YtmbcinbkijnblaaFl4
import Derived.Deep.RegionWith
namespace Go.Proofs.Ytmbcinbkijnblaa
open Go.RowKit

theorem WrS.set1 {B : Nat} {w : World} {g : Nat} {e e2 : Int} {v : Value} {xs : List Bool} (h : WrS B w g e v xs) : WrS B (w.setCell ⟨g, 1, none⟩ (.int .i64 e2)) g e2 v xs ∧ FrT TW B w (w.setCell ⟨g, 1, none⟩ (.int .i64 e2)) := by
  refine ⟨⟨h.small, (h.self.set 1 _).congr fun i hi => ?_, ?_, h.ge⟩, (FrT.refl TW B w).setCell h.ge (TyAt.of_row h.self TW.w) _⟩
  · match i, hi with
    | 0, _ => rfl
    | 1, _ => rfl
    | 2, _ => rfl
    | 3, _ => rfl
    | i + 4, hi => exact absurd (show i + 4 < 4 from hi) (by omega)
  · refine own_keep h.own ((Only.refl (fun k => k = g) w).setCell (.inl rfl) _) fun k hk he => ?_
    subst he
    exact TyAt.not_row h.self (fun h => tw_ne h) ((own_block h.own hk).2.2 (fun t => t = 5) rfl)
theorem WrS.cells {B : Nat} {w : World} {g : Nat} {e : Int} {v : Value} {xs : List Bool} (h : WrS B w g e v xs) : w.cell? ⟨g, 0, none⟩ = some (.pointer (some ⟨g, 0, none⟩)) ∧ w.cell? ⟨g, 1, none⟩ = some (.int .i64 e) ∧ w.cell? ⟨g, 2, none⟩ = some v ∧ w.cell? ⟨g, 3, none⟩ = some (.int .i64 ((xs.length : Nat) : Int)) :=
  ⟨h.self.cell (i := 0) (by omega), h.self.cell (i := 1) (by omega), h.self.cell (i := 2) (by omega), h.self.cell (i := 3) (by omega)⟩
/-- What admit tells: the error; the writer keeps its bits. -/
def admE (e : Int) (xs : List Bool) (ok : Bool) (sz : Int) : Int := if e ≠ 0 then e else if ok = false then 2 else if 16777216 < (xs.length : Int) + sz then 3 else 0
def AdmE (B : Nat) (w : World) (g : Nat) (xs : List Bool) (r : Int) (e' : Ending) (w' : World) : Prop := e' = .returned (.int .i64 r) ∧ Hid (IsWr B w' g r xs ∧ FrT TW B w w')

set_option maxHeartbeats 1000000 in
theorem admit_put {B g : Nat} {e : Int} {xs : List Bool} {w : World} (bn : Nat) (ok : Bool) (sz : Int) (h : IsWr B w g e xs) (hs : ok = true → -4000000000 ≤ sz ∧ sz ≤ 4000000000)
    (HM : Hid (∀ W, Only (fun _ => False) w W → Calls Try.prog 90 #[] W fun e w' => e = .returned (.bool ok) ∧ W = w')) (HS : Hid (ok = true → ∀ W, Only (fun _ => False) w W → Calls Try.prog 91 #[.pointer (some ⟨bn, 0, none⟩)] W fun e w' => e = .returned (.int .i64 sz) ∧ W = w')) :
    Calls Try.prog 89 #[.pointer (some ⟨g, 0, none⟩), .func (.func 90) #[] #[], .func (.func 91) #[] #[.pointer (some ⟨bn, 0, none⟩)]] w (AdmE B w g xs (admE e xs ok sz)) := by
  obtain ⟨v, h⟩ := h
  obtain ⟨k0, k1, k2, k3⟩ := h.cells
  have hsm := h.small
  have H := hid h
  have K0 := hid k0
  have K1 := hid k1
  have HE := hid (werr_any K0 K1)
  clear h k0 k1 k2
  by_cases he : e = 0
  · subst he
    have H2 : Hid (∀ r : Int, IsWr B (w.setCell ⟨g, 1, none⟩ (.int .i64 r)) g r xs ∧ FrT TW B w (w.setCell ⟨g, 1, none⟩ (.int .i64 r))) := hid fun r => ⟨⟨v, H.out.set1.1⟩, H.out.set1.2⟩
    have HSp := hid (fun r => spoilBy_any H.out.self (by omega) r)
    cases ok with
    | false =>
      have HR : Hid (admE 0 xs false sz = 2) := hid (by simp [admE])
      rw [HR.out]
      go_enter Try.func89, Try.ntmps89
      go_wp2_with fail
      refine HE.out.mono ?_
      rintro e' w' ⟨rfl, rfl⟩
      go_wp2_with fail
      refine (HM.out _ (Only.refl _ _)).mono ?_
      rintro e' w' ⟨rfl, rfl⟩
      go_wp2_with fail
      refine (HSp.out 2).mono ?_
      rintro e' w' ⟨rfl, rfl⟩
      go_wp2_with fail
      go_ret
      exact ⟨rfl, hid (H2.out 2)⟩
    | true =>
      obtain ⟨n, hn⟩ : ∃ n, n = xs.length := ⟨_, rfl⟩
      rw [← hn] at k3 hsm
      have HN := hid hn
      obtain ⟨hs1, hs2⟩ := hs rfl
      clear hs
      have HS2 : Hid (∀ W, Only (fun _ => False) w W → Calls Try.prog 91 #[.pointer (some ⟨bn, 0, none⟩)] W fun e w' => e = .returned (.int .i64 sz) ∧ W = w') := hid (HS.out rfl)
      clear HS
      clear hn
      have H3 : Hid (IsWr B (w.setCell ⟨g, 1, none⟩ (.int .i64 3)).drew g 3 xs ∧ FrT TW B w (w.setCell ⟨g, 1, none⟩ (.int .i64 3)).drew) := hid (by
        have h2 := H.out.set1 (e2 := 3)
        exact ⟨⟨v, h2.1.same (Only.refl _ _).drew⟩, h2.2.drew⟩)
      have H4 : Hid (IsWr B w.drew g 0 xs ∧ FrT TW B w w.drew) := hid ⟨⟨v, H.out.same (Only.refl _ _).drew⟩, (FrT.refl _ _ _).drew⟩
      have hwk : IntKind.i64.wrap (16777216 - (n : Int)) = 16777216 - (n : Int) := by rw [IntKind.wrap_i64]; omega
      by_cases hl : 16777216 < (n : Int) + sz
      · have HR : Hid (admE 0 xs true sz = 3) := hid (by simp only [admE]; rw [← HN.out, if_neg (by simp), if_neg (by simp), if_pos hl])
        rw [HR.out]
        have hgt : 16777216 - (n : Int) < sz := by omega
        clear hl
        go_enter Try.func89, Try.ntmps89
        go_wp2_with fail
        refine HE.out.mono ?_
        rintro e' w' ⟨rfl, rfl⟩
        go_wp2_with fail
        refine (HM.out _ (Only.refl _ _)).mono ?_
        rintro e' w' ⟨rfl, rfl⟩
        go_wp2_with fail
        go_region_with (go_at_call 91; refine (HS2.out _ ?_).mono ?_; (first | exact Only.refl _ _ | exact (Only.refl _ _).drew | exact (Only.refl _ _).drew.drew); rintro e' w' ⟨rfl, rfl⟩)
        all_goals
          go_wp2_with fail
          refine (spoilBy_any H.out.self.drew (by omega) 3).mono ?_
          rintro e' w' ⟨rfl, rfl⟩
          go_wp2_with fail
          go_ret
          exact ⟨rfl, H3⟩
      · have HR : Hid (admE 0 xs true sz = 0) := hid (by simp only [admE]; rw [← HN.out, if_neg (by simp), if_neg (by simp), if_neg hl])
        rw [HR.out]
        have hgt : ¬ 16777216 - (n : Int) < sz := by omega
        clear hl
        go_enter Try.func89, Try.ntmps89
        go_wp2_with fail
        refine HE.out.mono ?_
        rintro e' w' ⟨rfl, rfl⟩
        go_wp2_with fail
        refine (HM.out _ (Only.refl _ _)).mono ?_
        rintro e' w' ⟨rfl, rfl⟩
        go_wp2_with fail
        go_region_with (go_at_call 91; refine (HS2.out _ ?_).mono ?_; (first | exact Only.refl _ _ | exact (Only.refl _ _).drew | exact (Only.refl _ _).drew.drew); rintro e' w' ⟨rfl, rfl⟩)
        all_goals
          go_wp2_with fail
          go_ret
          exact ⟨rfl, H4⟩
  · have HR : Hid (admE e xs ok sz = e) := hid (by simp only [admE]; rw [if_pos he])
    rw [HR.out]
    clear HM HS hs
    go_enter Try.func89, Try.ntmps89
    go_wp2_with fail
    refine HE.out.mono ?_
    rintro e' w' ⟨rfl, rfl⟩
    go_wp2_with fail
    go_ret
    exact ⟨rfl, hid ⟨⟨v, H.out⟩, FrT.refl _ _ _⟩⟩

end Go.Proofs.Ytmbcinbkijnblaa
