/- NewReader. -/
import Derived.Test.YtgdfiopdkidhfaaFr2
import Derived.Test.YtgdfiopdkidhfaaFl8
namespace Go.Proofs.Ytgdfiopdkidhfaa
open Go.RowKit

def TV (t : TypeId) : Prop := t = 83 ∨ t = 84 ∨ t = 21
theorem vecFr {w w' : World} {B g gs gw n : Nat} {f : Nat → Bool} (h : V1.IsVec w g gs gw n f) (o : Only (fun k => k = g ∨ k = gs ∨ k = gw) w w') (h1 : B ≤ g) (h2 : B ≤ gs) (h3 : B ≤ gw) : FrT TV B w w' :=
  Only.mono o fun k _ hk => by
    rcases hk with rfl | rfl | rfl
    · exact ⟨h1, TyAt.of_row h.self (.inl rfl)⟩
    · exact ⟨h2, TyAt.of_row h.sums (.inr (.inr rfl))⟩
    · exact ⟨h3, TyAt.of_row h.words (.inr (.inl rfl))⟩
theorem vecTy {w a : World} {g gs gw n B : Nat} {f : Nat → Bool} {T : TypeId → Prop} (h : V1.IsVec a g gs gw n f) (o : FrT T B a w) (h1 : ¬ T 83) (h2 : ¬ T 84) (h3 : ¬ T 21) : V1.IsVec w g gs gw n f :=
  ⟨h.small, h.out, o.row h.self h1, o.row h.words h2, o.row h.sums h3⟩
/-- A vector of the call's own. -/
def VecB (B : Nat) (w : World) (g gs gw n : Nat) (f : Nat → Bool) : Prop := V1.IsVec w g gs gw n f ∧ B ≤ g ∧ B ≤ gs ∧ B ≤ gw
def NRdE (B : Nat) (w : World) (g gs gw n : Nat) (f : Nat → Bool) (a : Nat) (e' : Ending) (w' : World) : Prop :=
  ∃ r gb, e' = .returned (.tuple #[.pointer (some ⟨r, 0, none⟩), .int .i64 0]) ∧ Hid (IsRd B w' r gb 0 f n a ∧ VecB B w' g gs gw n f ∧ FrT TV B w w' ∧ w.heap.size ≤ r)
def NRdX (B : Nat) (w : World) (g gs gw n : Nat) (f : Nat → Bool) (e' : Ending) (w' : World) : Prop :=
  e' = .returned (.tuple #[.pointer none, .int .i64 6]) ∧ Hid (VecB B w' g gs gw n f ∧ FrT TV B w w')
theorem setNone {B : Nat} {w : World} {g gs gw n : Nat} {f : Nat → Bool} (h : VecB B w g gs gw n f) :
    Calls Try.prog 53 #[.pointer (some ⟨g, 0, none⟩), .bool false, .slice none 0 0] w fun e w' => e = .returned (.int .i64 0) ∧ Hid (VecB B w' g gs gw n f ∧ FrT TV B w w') := by
  have h1 := V1.set_ok h.1 false none 0 [] (fun j hj => absurd hj (by simp)) (by simp) rfl (fun b off e => by cases e)
  exact h1.mono fun e w' hh => ⟨hh.1, hid ⟨⟨hh.2.out.1, h.2⟩, vecFr h.1 hh.2.out.2 h.2.1 h.2.2.1 h.2.2.2⟩⟩
set_option maxHeartbeats 1000000 in
theorem newReader_bad {B : Nat} {w : World} {g gs gw n : Nat} {f : Nat → Bool} {at_ : Int} (h : VecB B w g gs gw n f) (ha : at_ < 0 ∨ (n : Int) < at_) :
    Calls Try.prog 23 #[.pointer (some ⟨g, 0, none⟩), .int .i64 at_] w (NRdX B w g gs gw n f) := by
  have HS := hid (setNone h)
  clear h
  by_cases h0 : at_ < 0
  · clear ha
    go_enter Try.func23, Try.ntmps23
    go_wp2_with fail
    refine HS.out.mono ?_
    rintro e' w1 ⟨rfl, h1⟩
    go_wp2_with fail
    go_ret2
    exact ⟨rfl, h1⟩
  · have h2 : (n : Int) < at_ := by omega
    clear ha
    go_enter Try.func23, Try.ntmps23
    go_wp2_with fail
    refine HS.out.mono ?_
    rintro e' w1 ⟨rfl, h1⟩
    go_wp2_with fail
    refine (V1.len_any h1.out.1.1).mono ?_
    rintro e' w2 ⟨rfl, rfl⟩
    go_wp2_with fail
    go_ret2
    exact ⟨rfl, h1⟩
set_option maxHeartbeats 1000000 in
theorem newReader_ok {B : Nat} {w : World} {g gs gw n a : Nat} {f : Nat → Bool} (h : VecB B w g gs gw n f) (hB : B ≤ w.heap.size) (ha : a ≤ n) :
    Calls Try.prog 23 #[.pointer (some ⟨g, 0, none⟩), .int .i64 (a : Int)] w (NRdE B w g gs gw n f a) := by
  have HS := hid (setNone h)
  have hn := h.1.small
  have ha2 : ¬ (n : Int) < (a : Int) := by omega
  have ha3 : ¬ (a : Int) < 0 := by omega
  clear h
  go_enter Try.func23, Try.ntmps23
  go_wp2_with fail
  refine HS.out.mono ?_
  rintro e' w1 ⟨rfl, h1⟩
  go_wp2_with fail
  refine (V1.len_any h1.out.1.1).mono ?_
  rintro e' w2 ⟨rfl, rfl⟩
  go_wp2_with fail
  refine (V1.bytes_any h1.out.1.1).mono ?_
  rintro e' w2 ⟨rfl, hby⟩
  have HV2 : Hid (VecB B w2 g gs gw n f ∧ FrT TV B w w2) := hid ⟨⟨h1.out.1.1.same hby.out.2.2, h1.out.1.2⟩, h1.out.2.trans (FrT.of_only hby.out.2.2)⟩
  go_wp2_with fail
  refine (V1.len_any HV2.out.1.1).mono ?_
  rintro e' w3 ⟨rfl, rfl⟩
  go_wp2_with fail
  have hrow := World.rowIs_alloc w2 #[.pointer none, .int .i64 0, .slice (some ⟨w1.heap.size, 0, none⟩) ((n + 7) / 8) ((n + 7) / 8), .int .i64 (n : Int), .int .i64 (a : Int)] 87 (fun i => match i with | 0 => .pointer none | 1 => .int .i64 0 | 2 => .slice (some ⟨w1.heap.size, 0, none⟩) ((n + 7) / 8) ((n + 7) / 8) | 3 => .int .i64 (n : Int) | _ => .int .i64 (a : Int)) (fun i hi => by
    match i, hi with
    | 0, _ => rfl
    | 1, _ => rfl
    | 2, _ => rfl
    | 3, _ => rfl
    | 4, _ => rfl
    | i + 5, hi => exact absurd (show i + 5 < 5 from hi) (by omega))
  have ho3 : Only (fun _ => False) w2 (w2.alloc (.cells #[.pointer none, .int .i64 0, .slice (some ⟨w1.heap.size, 0, none⟩) ((n + 7) / 8) ((n + 7) / 8), .int .i64 (n : Int), .int .i64 (a : Int)] 87)) := (Only.refl _ w2).alloc _
  obtain ⟨w3, hw3⟩ : ∃ w3, w3 = w2.alloc (.cells #[.pointer none, .int .i64 0, .slice (some ⟨w1.heap.size, 0, none⟩) ((n + 7) / 8) ((n + 7) / 8), .int .i64 (n : Int), .int .i64 (a : Int)] 87) := ⟨_, rfl⟩
  rw [← hw3] at hrow ho3 ⊢
  clear hw3
  have HD : Hid (IsRd B ((w3.setCell ⟨w2.heap.size, 0, none⟩ (.pointer (some ⟨w2.heap.size, 0, none⟩))).setCell ⟨w2.heap.size, 1, none⟩ (.int .i64 0)) w2.heap.size w1.heap.size 0 f n a ∧ VecB B ((w3.setCell ⟨w2.heap.size, 0, none⟩ (.pointer (some ⟨w2.heap.size, 0, none⟩))).setCell ⟨w2.heap.size, 1, none⟩ (.int .i64 0)) g gs gw n f ∧ FrT TV B w ((w3.setCell ⟨w2.heap.size, 0, none⟩ (.pointer (some ⟨w2.heap.size, 0, none⟩))).setCell ⟨w2.heap.size, 1, none⟩ (.int .i64 0)) ∧ w.heap.size ≤ w2.heap.size) := hid (by
    have hb1 := hby.out.2.1
    have hlt := hb1.lt
    have ho : Only (fun _ => False) w2 ((w3.setCell ⟨w2.heap.size, 0, none⟩ (.pointer (some ⟨w2.heap.size, 0, none⟩))).setCell ⟨w2.heap.size, 1, none⟩ (.int .i64 0)) := (ho3.setCell (.inr (Nat.le_refl _)) _).setCell (.inr (Nat.le_refl _)) _
    refine ⟨⟨hn, ha, ((hrow.set 0 _).set 1 _).congr fun i hi => ?_, (ho.row hb1 no_).congr fun i hi => ?_, Nat.le_trans hB HV2.out.2.size⟩, ⟨HV2.out.1.1.same ho, HV2.out.1.2⟩, HV2.out.2.trans (FrT.of_only ho), HV2.out.2.size⟩
    · match i, hi with
      | 0, _ => rfl
      | 1, _ => rfl
      | 2, _ => rfl
      | 3, _ => rfl
      | 4, _ => rfl
      | i + 5, hi => exact absurd (show i + 5 < 5 from hi) (by omega)
    · rw [if_pos hi])
  refine (begin_any hrow (by simp)).mono ?_
  rintro e' w4 ⟨rfl, rfl⟩
  clear hby HV2 h1
  go_wp2_with fail
  go_ret2
  exact ⟨w2.heap.size, w1.heap.size, rfl, HD⟩
end Go.Proofs.Ytgdfiopdkidhfaa
