/- The document's reader. -/
import Derived.Test.YtemklcnpmolclaaFm
import Derived.Test.YtemklcnpmolclaaFb
namespace Go.Proofs.Ytemklcnpmolclaa
open Go.RowKit

def rrcl (A : Option Addr) (n cap at_ : Nat) (bad : Bool) : Nat → Value
  | 0 => .slice A n cap
  | 1 => .int .i64 ((at_ : Nat) : Int)
  | _ => .bool bad
/-- The document's reader, of bits that came in. -/
structure IsRR (B : Nat) (w : World) (q : Nat) (A : Option Addr) (cap : Nat) (xs : List Bool) (at_ : Nat) (bad : Bool) : Prop where
  small : xs.length ≤ 16777216
  le : at_ ≤ xs.length
  lc : xs.length ≤ cap
  self : w.rowIs q 61 3 (rrcl A xs.length cap at_ bad)
  bits : RdB w A xs
  old : ∀ b off, A = some ⟨b, off, none⟩ → 0 < xs.length → b < B
  nil : A = none → xs.length = 0 ∧ cap = 0
  ge : B ≤ q
def TQ (t : TypeId) : Prop := t = 61
section
variable {B : Nat} {w a : World} {q : Nat} {A : Option Addr} {cap : Nat} {xs : List Bool} {at_ : Nat} {bad : Bool}
theorem IsRR.ty {T : TypeId → Prop} (h : IsRR B a q A cap xs at_ bad) (o : FrT T B a w) (h1 : ¬ T 61) : IsRR B w q A cap xs at_ bad :=
  ⟨h.small, h.le, h.lc, o.row h.self h1, fun h0 => (o.rdV' h.bits fun b off e _ => .inl (h.old b off e h0)) h0, h.old, h.nil, h.ge⟩
theorem IsRR.same (h : IsRR B a q A cap xs at_ bad) (o : Only (fun _ => False) a w) : IsRR B w q A cap xs at_ bad := h.ty (T := fun _ => False) (FrT.of_only o) (fun h => h)
theorem IsRR.cells (h : IsRR B w q A cap xs at_ bad) : w.cell? ⟨q, 0, none⟩ = some (.slice A xs.length cap) ∧ w.cell? ⟨q, 1, none⟩ = some (.int .i64 ((at_ : Nat) : Int)) ∧ w.cell? ⟨q, 2, none⟩ = some (.bool bad) :=
  ⟨h.self.cell (i := 0) (by omega), h.self.cell (i := 1) (by omega), h.self.cell (i := 2) (by omega)⟩
theorem IsRR.keep (h : IsRR B a q A cap xs at_ bad) (o : FrT TQ B a w) : RdB w A xs := fun h0 => (o.rdV' h.bits fun b off e _ => .inl (h.old b off e h0)) h0
theorem IsRR.set2 (h : IsRR B w q A cap xs at_ bad) : IsRR B (w.setCell ⟨q, 2, none⟩ (.bool true)) q A cap xs at_ true ∧ FrT TQ B w (w.setCell ⟨q, 2, none⟩ (.bool true)) := by
  have hf := (FrT.refl TQ B w).setCell h.ge (TyAt.of_row h.self rfl) (p := ⟨q, 2, none⟩) (.bool true)
  refine ⟨⟨h.small, h.le, h.lc, (h.self.set 2 _).congr fun i hi => ?_, h.keep hf, h.old, h.nil, h.ge⟩, hf⟩
  match i, hi with
  | 0, _ => rfl
  | 1, _ => rfl
  | 2, _ => rfl
  | i + 3, hi => exact absurd (show i + 3 < 3 from hi) (by omega)
theorem IsRR.set1 (h : IsRR B w q A cap xs at_ bad) {z : Int} (at2 : Nat) (hz : z = ((at2 : Nat) : Int)) (h2 : at2 ≤ xs.length) : IsRR B (w.setCell ⟨q, 1, none⟩ (.int .i64 z)) q A cap xs at2 bad ∧ FrT TQ B w (w.setCell ⟨q, 1, none⟩ (.int .i64 z)) := by
  subst hz
  have hf := (FrT.refl TQ B w).setCell h.ge (TyAt.of_row h.self rfl) (p := ⟨q, 1, none⟩) (.int .i64 ((at2 : Nat) : Int))
  refine ⟨⟨h.small, h2, h.lc, (h.self.set 1 _).congr fun i hi => ?_, h.keep hf, h.old, h.nil, h.ge⟩, hf⟩
  match i, hi with
  | 0, _ => rfl
  | 1, _ => rfl
  | 2, _ => rfl
  | i + 3, hi => exact absurd (show i + 3 < 3 from hi) (by omega)
end
def TkBad (B : Nat) (w : World) (q : Nat) (A : Option Addr) (cap : Nat) (xs : List Bool) (at_ : Nat) (e' : Ending) (w' : World) : Prop :=
  e' = .returned (.tuple #[.slice none 0 0, .bool false]) ∧ Hid (IsRR B w' q A cap xs at_ true ∧ FrT TQ B w w')
def TkOk (B : Nat) (w : World) (q : Nat) (A : Option Addr) (cap : Nat) (xs : List Bool) (at_ m : Nat) (e' : Ending) (w' : World) : Prop :=
  ∃ A' c', e' = .returned (.tuple #[.slice A' m c', .bool true]) ∧ Hid (RdV w' A' m (fun j => .bool (bf xs (at_ + j))) ∧ (∀ b off, A' = some ⟨b, off, none⟩ → 0 < m → b < B) ∧ IsRR B w' q A cap xs (at_ + m) false ∧ FrT TQ B w w')
set_option maxHeartbeats 1000000 in
theorem rtake_bad {B q cap at_ : Nat} {A : Option Addr} {xs : List Bool} {bad : Bool} {z : Int} {w : World} (h : IsRR B w q A cap xs at_ bad) (hb : bad = true ∨ okW z = false ∨ xs.length < at_ + z.toNat) :
    Calls Try.prog 68 #[.pointer (some ⟨q, 0, none⟩), .int .i64 z] w (TkBad B w q A cap xs at_) := by
  obtain ⟨k0, k1, k2⟩ := h.cells
  have hs := h.small
  have hle := h.le
  have f2 := h.self.frozen 2
  have HF : Hid (∀ d, IsRR B ((w.drewN d).setCell ⟨q, 2, none⟩ (.bool true)) q A cap xs at_ true ∧ FrT TQ B w ((w.drewN d).setCell ⟨q, 2, none⟩ (.bool true))) := hid fun d => by
    have h1 := (h.same (quiet_only (w := w.drewN d) ⟨_, rfl⟩)).set2
    exact ⟨h1.1, (FrT.of_only (quiet_only ⟨_, rfl⟩)).trans h1.2⟩
  clear h
  generalize xs.length = n at k0 hs hle hb
  cases bad with
  | true =>
    clear hb
    go_enter Try.func68, Try.ntmps68
    go_wp2
    go_quiet (fail)
    go_wp2
    go_ret2
    exact ⟨rfl, hid (HF.out _)⟩
  | false =>
    by_cases h0 : z < 0
    · have g0 : decide (z < 0) = true := decide_eq_true h0
      clear hb
      go_enter Try.func68, Try.ntmps68
      go_wp2
      go_quiet (fail)
      go_wp2
      go_ret2
      exact ⟨rfl, hid (HF.out _)⟩
    · by_cases h6 : 60 < z
      · have g0 : decide (z < 0) = false := decide_eq_false h0
        have g1 : decide (60 < z) = true := decide_eq_true h6
        clear hb
        go_enter Try.func68, Try.ntmps68
        go_wp2
        go_quiet (fail)
        go_wp2
        go_ret2
        exact ⟨rfl, hid (HF.out _)⟩
      · have g0 : decide (z < 0) = false := decide_eq_false h0
        have g1 : decide (60 < z) = false := decide_eq_false h6
        have h7 : n < at_ + z.toNat := by
          rcases hb with hb | hb | hb
          · cases hb
          · simp [okW] at hb; omega
          · exact hb
        have h8 : (n : Int) - (at_ : Int) < z := by omega
        have hwk : IntKind.i64.wrap ((n : Int) - (at_ : Int)) = (n : Int) - (at_ : Int) := by rw [IntKind.wrap_i64]; omega
        clear hb h7
        go_enter Try.func68, Try.ntmps68
        go_wp2
        go_quiet (fail)
        go_wp2
        go_ret2
        exact ⟨rfl, hid (HF.out _)⟩
set_option maxHeartbeats 1000000 in
theorem rtake_ok {B q cap at_ m : Nat} {A : Option Addr} {xs : List Bool} {w : World} (h : IsRR B w q A cap xs at_ false) (hm : m ≤ 60) (hb : at_ + m ≤ xs.length) :
    Calls Try.prog 68 #[.pointer (some ⟨q, 0, none⟩), .int .i64 (m : Int)] w (TkOk B w q A cap xs at_ m) := by
  obtain ⟨k0, k1, k2⟩ := h.cells
  have hs := h.small
  have hlc := h.lc
  have f1 := h.self.frozen 1
  have H := hid h
  clear h
  obtain ⟨n, hn⟩ : ∃ n, n = xs.length := ⟨_, rfl⟩
  rw [← hn] at k0 hs hlc hb
  have Hn := hid hn
  clear hn
  have g0 : decide ((m : Int) < 0) = false := decide_eq_false (by omega)
  have g1 : decide ((60 : Int) < (m : Int)) = false := decide_eq_false (by omega)
  have g2 : decide (60 < m) = false := decide_eq_false (by omega)
  have hwk : IntKind.i64.wrap ((n : Int) - (at_ : Int)) = (n : Int) - (at_ : Int) := by rw [IntKind.wrap_i64]; omega
  have hwk2 : IntKind.i64.wrap ((at_ : Int) + (m : Int)) = (at_ : Int) + (m : Int) := by rw [IntKind.wrap_i64]; omega
  have h8 : ¬ (n : Int) - (at_ : Int) < (m : Int) := by omega
  have HE : Hid (∀ d, IsRR B ((w.drewN d).setCell ⟨q, 1, none⟩ (.int .i64 ((at_ : Int) + (m : Int)))) q A cap xs (at_ + m) false ∧ FrT TQ B w ((w.drewN d).setCell ⟨q, 1, none⟩ (.int .i64 ((at_ : Int) + (m : Int))))) := hid fun d => by
    have h1 := (H.out.same (quiet_only (w := w.drewN d) ⟨_, rfl⟩)).set1 (z := (at_ : Int) + (m : Int)) (at_ + m) (by omega) (by rw [← Hn.out]; exact hb)
    exact ⟨h1.1, (FrT.of_only (quiet_only ⟨_, rfl⟩)).trans h1.2⟩
  have HR : Hid (∀ W, FrT TQ B w W → RdV W (A.map fun x => x.add at_) m (fun j => .bool (bf xs (at_ + j))) ∧ ∀ b off, (A.map fun x => x.add at_) = some ⟨b, off, none⟩ → 0 < m → b < B) := hid fun W o => by
    by_cases hm0 : m = 0
    · subst hm0
      exact ⟨RdV.nil _, fun b off e h => absurd h (by omega)⟩
    · have hl0 : 0 < xs.length := by have := Hn.out; omega
      obtain ⟨b, off, hA, hc⟩ := H.out.keep o hl0
      have hadd : (⟨b, off, none⟩ : Addr).add at_ = ⟨b, off + at_, none⟩ := by
        unfold Addr.add
        by_cases e : at_ = 0 <;> simp [e]
      subst hA
      refine ⟨fun _ => ⟨b, off + at_, by rw [Option.map_some, hadd], fun j hj => ?_⟩, fun b' off' e _ => ?_⟩
      · rw [show off + at_ + j = off + (at_ + j) by omega, hc (at_ + j) (by have := Hn.out; omega)]; rfl
      · rw [Option.map_some, hadd] at e
        injection e with e
        injection e with e1
        subst e1
        exact H.out.old _ _ rfl hl0
  have HC : Hid (∀ d, RdV ((w.drewN d).setCell ⟨q, 1, none⟩ (.int .i64 ((at_ : Int) + (m : Int)))) (A.map fun x => x.add at_) m (fun j => .bool (bf xs (at_ + j))) ∧ (∀ b off, (A.map fun x => x.add at_) = some ⟨b, off, none⟩ → 0 < m → b < B) ∧ IsRR B ((w.drewN d).setCell ⟨q, 1, none⟩ (.int .i64 ((at_ : Int) + (m : Int)))) q A cap xs (at_ + m) false ∧ FrT TQ B w ((w.drewN d).setCell ⟨q, 1, none⟩ (.int .i64 ((at_ : Int) + (m : Int))))) := hid fun d => ⟨(HR.out _ (HE.out d).2).1, (HR.out _ (HE.out d).2).2, HE.out d⟩
  by_cases hc : cap = at_
  · obtain rfl : m = 0 := by omega
    subst hc
    go_enter Try.func68, Try.ntmps68
    go_wp2
    go_quiet (fail)
    go_wp2
    go_quiet (fail)
    go_wp2
    go_ret2
    exact ⟨_, _, rfl, hid ⟨RdV.nil _, fun b off e h => absurd h (by omega), HE.out _⟩⟩
  · go_enter Try.func68, Try.ntmps68
    go_wp2
    go_quiet (fail)
    go_wp2
    go_quiet (fail)
    go_wp2
    go_ret2
    exact ⟨A.map fun x => x.add at_, cap - at_, (by show Ending.returned (.tuple #[.slice _ (at_ + m - at_) _, .bool true]) = _; rw [Nat.add_sub_cancel_left]), hid (HC.out _)⟩

def badOf (e : Int) : Bool := decide (e ≠ 0)
def RRE (B : Nat) (w : World) (q : Nat) (A : Option Addr) (cap : Nat) (xs : List Bool) (s : RSt) (e' : Ending) (w' : World) : Prop := e' = .returned (.int .i64 s.1) ∧ Hid (IsRR B w' q A cap xs s.2.2 (badOf s.2.1) ∧ FrT TQ B w w')
theorem seg_bf (xs : List Bool) (a m : Nat) : seg (bf xs) a m = (List.range m).map fun j => bf xs (a + j) := rfl
theorem numR_bad {f : Nat → Bool} {n at_ : Nat} {e z : Int} (h : badOf e = true ∨ okW z = false ∨ n < at_ + z.toNat) : (numR f n (e, at_) z).1 = 0 ∧ badOf (numR f n (e, at_) z).2.1 = true ∧ (numR f n (e, at_) z).2.2 = at_ := by
  unfold numR
  by_cases he : e = 0
  · subst he
    have h2 : okW z = false ∨ n < at_ + 0 + z.toNat := by
      rcases h with h | h | h
      · simp [badOf] at h
      · exact .inl h
      · exact .inr (by omega)
    rw [if_neg (by simp)]
    unfold takeR
    rw [if_pos h2]
    exact ⟨rfl, rfl, rfl⟩
  · rw [if_pos he]
    exact ⟨rfl, by simp [badOf, he], rfl⟩
theorem numR_ok {f : Nat → Bool} {n at_ m : Nat} (hm : m ≤ 60) (h : at_ + m ≤ n) : numR f n (0, at_) (m : Int) = (((num (seg f at_ m) : Nat) : Int), 0, at_ + m) := by
  have h1 : okW (m : Int) = true := by simp [okW]; omega
  have h2 : ¬ (okW (m : Int) = false ∨ n < at_ + 0 + (m : Int).toNat) := by
    rintro (h | h)
    · rw [h1] at h; cases h
    · rw [Int.toNat_natCast] at h; omega
  unfold numR takeR
  rw [if_neg (by simp), if_neg h2]
  rfl
theorem qcase (e z : Int) (n at_ : Nat) : (badOf e = true ∨ okW z = false ∨ n < at_ + z.toNat) ∨ ∃ m : Nat, e = 0 ∧ z = (m : Int) ∧ m ≤ 60 ∧ at_ + m ≤ n := by
  by_cases he : e = 0
  · by_cases hw : okW z = true
    · simp [okW] at hw
      obtain ⟨m, rfl⟩ := Int.eq_ofNat_of_zero_le hw.1
      by_cases hl : n < at_ + (m : Int).toNat
      · exact .inl (.inr (.inr hl))
      · rw [Int.toNat_natCast] at hl
        exact .inr ⟨m, he, rfl, by omega, by omega⟩
    · exact .inl (.inr (.inl (by simpa using hw)))
  · exact .inl (.inl (by simp [badOf, he]))
set_option maxHeartbeats 1000000 in
theorem qnum_any {B q cap at_ : Nat} {e : Int} {A : Option Addr} {xs : List Bool} {w : World} (z : Int) (h : IsRR B w q A cap xs at_ (badOf e)) :
    Calls Try.prog 31 #[.pointer (some ⟨q, 0, none⟩), .int .i64 z] w (RRE B w q A cap xs (numR (bf xs) xs.length (e, at_) z)) := by
  rcases qcase e z xs.length at_ with hc | ⟨m, rfl, rfl, hm, hl⟩
  · have HT := hid (rtake_bad h hc)
    obtain ⟨h1, h2, h3⟩ := numR_bad (f := bf xs) hc
    clear h hc
    generalize numR (bf xs) xs.length (e, at_) z = s at h1 h2 h3 ⊢
    obtain ⟨s1, s2, s3⟩ := s
    have h1' : s1 = 0 := h1
    have h3' : s3 = at_ := h3
    have h2' : badOf s2 = true := h2
    subst h1'
    subst h3'
    have HB := hid h2'
    clear h1 h2 h3 h2'
    go_enter Try.func31, Try.ntmps31
    go_wp2_with fail
    refine HT.out.mono ?_
    rintro e' w2 ⟨rfl, h2⟩
    have HF : Hid (IsRR B w2 q A cap xs s3 (badOf s2) ∧ FrT TQ B w w2) := hid (by rw [HB.out]; exact h2.out)
    clear h2
    go_wp2_with fail
    go_loop [7, 8] (fun s i => s = .int .i64 0 ∧ i = .int .i64 0) (fun _ _ => 0)
    case atStart => exact ⟨rfl, rfl⟩
    case round =>
      obtain ⟨rfl, rfl⟩ := hrel
      go_wp2_with fail
      go_ret
      exact ⟨rfl, HF⟩
  · have HT := hid (rtake_ok (m := m) h hm hl)
    rw [numR_ok hm hl]
    clear h
    go_enter Try.func31, Try.ntmps31
    go_wp2_with fail
    refine HT.out.mono ?_
    rintro e' w2 ⟨A', c', rfl, h2⟩
    go_wp2_with fail
    go_loop [7, 8] (fun s i => ∃ k x : Nat, k ≤ m ∧ s = .int .i64 (x : Int) ∧ i = .int .i64 (k : Int) ∧ x < 2 ^ k ∧ Hid (x = num (seg (bf xs) at_ k))) (fun _ i => m - (intOf i).toNat)
    case atStart => exact ⟨0, 0, by omega, rfl, rfl, by simp, hid rfl⟩
    case round =>
      obtain ⟨k, x, hk, rfl, rfl, hx, HX⟩ := hrel
      by_cases hp : k < m
      · obtain ⟨b, off, hA, dk, _⟩ := h2.out.1.at hp
        subst hA
        have h60 : 2 ^ k ≤ 2 ^ 59 := Nat.pow_le_pow_right (by decide) (by omega)
        have HX2 : Hid (∀ y : Nat, y = 2 * x + (bf xs (at_ + k)).toNat → y = num (seg (bf xs) at_ (k + 1))) := hid fun y hy => by rw [seg_snoc, num_snoc, ← HX.out, hy]
        have h61 : 2 ^ (k + 1) = 2 * 2 ^ k := by rw [Nat.pow_succ]; omega
        have H61 := hid h61
        clear HX h61
        generalize bf xs (at_ + k) = z at dk HX2
        cases z
        all_goals
          go_wp2_with fail
          go_round
          case rel => exact ⟨k + 1, _, by omega, by first | (show Value.int .i64 _ = Value.int .i64 _; exact congrArg _ (by first | go_num | omega)) | go_num, by go_num, by have := H61.out; simp; omega, hid (HX2.out _ rfl)⟩
          case measure => simp [intOf]; omega
      · obtain rfl : k = m := by omega
        have HX2 : Hid ((x : Int) = ((num (seg (bf xs) at_ k) : Nat) : Int)) := hid (by rw [← HX.out])
        have HF : Hid (IsRR B w2 q A cap xs (at_ + k) (badOf 0) ∧ FrT TQ B w w2) := hid h2.out.2.2
        clear HX h2
        go_wp2_with fail
        go_ret
        exact ⟨ret_int HX2.out, HF⟩
def RRB (B : Nat) (w : World) (q : Nat) (A : Option Addr) (cap : Nat) (xs : List Bool) (s : RSt) (e' : Ending) (w' : World) : Prop := e' = .returned (.bool (s.1 == 1)) ∧ Hid (IsRR B w' q A cap xs s.2.2 (badOf s.2.1) ∧ FrT TQ B w w')
set_option maxHeartbeats 1000000 in
theorem qnext_any {B q cap at_ : Nat} {e : Int} {A : Option Addr} {xs : List Bool} {w : World} (h : IsRR B w q A cap xs at_ (badOf e)) :
    Calls Try.prog 29 #[.pointer (some ⟨q, 0, none⟩)] w (RRB B w q A cap xs (numR (bf xs) xs.length (e, at_) 1)) := by
  rcases qcase e 1 xs.length at_ with hc | ⟨m, rfl, hm1, hm, hl⟩
  · have HT := hid (rtake_bad h hc)
    obtain ⟨h1, h2, h3⟩ := numR_bad (f := bf xs) hc
    clear h hc
    generalize numR (bf xs) xs.length (e, at_) 1 = s at h1 h2 h3 ⊢
    obtain ⟨s1, s2, s3⟩ := s
    have h1' : s1 = 0 := h1
    have h3' : s3 = at_ := h3
    have h2' : badOf s2 = true := h2
    subst h1'
    subst h3'
    have HB := hid h2'
    clear h1 h2 h3 h2'
    go_enter Try.func29, Try.ntmps29
    go_wp2_with fail
    refine HT.out.mono ?_
    rintro e' w2 ⟨rfl, h2⟩
    have HF : Hid (IsRR B w2 q A cap xs s3 (badOf s2) ∧ FrT TQ B w w2) := hid (by rw [HB.out]; exact h2.out)
    clear h2
    go_wp2_with fail
    go_ret
    exact ⟨rfl, HF⟩
  · obtain rfl : m = 1 := by omega
    have HT : Hid (Calls Try.prog 68 #[.pointer (some ⟨q, 0, none⟩), .int .i64 1] w (TkOk B w q A cap xs at_ 1)) := hid (rtake_ok (m := 1) h hm hl)
    have hr : numR (bf xs) xs.length (0, at_) 1 = ((((bf xs at_).toNat : Nat) : Int), 0, at_ + 1) := next_has rfl (by omega)
    rw [hr]
    clear h hr hm1 hm hl
    go_enter Try.func29, Try.ntmps29
    go_wp2_with fail
    refine HT.out.mono ?_
    rintro e' w2 ⟨A', c', rfl, h2⟩
    obtain ⟨b, off, hA, dk, _⟩ := h2.out.1.at (k := 0) (by omega)
    subst hA
    have HF : Hid (IsRR B w2 q A cap xs (at_ + 1) (badOf 0) ∧ FrT TQ B w w2) := hid h2.out.2.2
    rw [Nat.add_zero, Nat.add_zero] at dk
    obtain ⟨z, hz⟩ : ∃ z, z = bf xs at_ := ⟨_, rfl⟩
    have HNb : Hid (z = ((((bf xs at_).toNat : Nat) : Int) == 1)) := hid (by rw [hz]; exact (next_bool (bf xs at_)).symm)
    rw [← hz] at dk
    clear h2 hz
    cases z
    all_goals
      go_wp2_with fail
      go_ret
      exact ⟨ret_bool HNb.out, HF⟩

theorem zrs_min (f : Nat → Bool) : ∀ (m a k : Nat), k ≤ m → zrs f a k = min k (zrs f a m)
  | 0, a, k, h => by
    obtain rfl : k = 0 := by omega
    simp [zrs]
  | m + 1, a, k, h => by
    cases k with
    | zero => simp [zrs]
    | succ k =>
      unfold zrs
      by_cases hf : f a = true
      · rw [if_pos hf, if_pos hf]; omega
      · rw [if_neg hf, if_neg hf, zrs_min f m (a + 1) k (by omega)]; omega
theorem zrs_le (f : Nat → Bool) : ∀ (m a : Nat), zrs f a m ≤ m
  | 0, a => by simp [zrs]
  | m + 1, a => by
    unfold zrs
    have := zrs_le f m (a + 1)
    split <;> omega
theorem zr_of (f : Nat → Bool) (n at_ : Nat) : zr f n at_ = min 60 (zrs f at_ (n - at_)) := by
  unfold zr
  have h1 := zrs_min f (n - at_) at_ (min 60 (n - at_)) (by omega)
  have h2 := zrs_le f (n - at_) at_
  rw [h1]; omega
end Go.Proofs.Ytemklcnpmolclaa
