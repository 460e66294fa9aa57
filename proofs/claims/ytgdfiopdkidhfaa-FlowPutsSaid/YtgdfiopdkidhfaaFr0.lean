/- A reader in memory; what its small calls answer. -/
import Derived.Test.YtgdfiopdkidhfaaFl1
import Derived.Test.YtgdfiopdkidhfaaLawB
import Derived.Deep.RegionWith
namespace Go.Proofs.Ytgdfiopdkidhfaa
open Go.RowKit

def rdcl (g gb : Nat) (e : Int) (n at_ : Nat) : Nat → Value
  | 0 => .pointer (some ⟨g, 0, none⟩)
  | 1 => .int .i64 e
  | 2 => .slice (some ⟨gb, 0, none⟩) (nby n) (nby n)
  | 3 => .int .i64 ((n : Nat) : Int)
  | _ => .int .i64 ((at_ : Nat) : Int)
/-- A reader that the package answered: its error, its bits, where it stands. -/
structure IsRd (B : Nat) (w : World) (g gb : Nat) (e : Int) (f : Nat → Bool) (n at_ : Nat) : Prop where
  small : n ≤ 16777216
  le : at_ ≤ n
  self : w.rowIs g 87 5 (rdcl g gb e n at_)
  bytes : w.rowIs gb 5 (nby n) (fun i => .int .u8 ((V1.byteOf f i : Nat) : Int))
  ge : B ≤ g
def TR (t : TypeId) : Prop := t = 87
section
variable {B : Nat} {w a : World} {g gb : Nat} {e : Int} {f : Nat → Bool} {n at_ : Nat}
theorem IsRd.ty {T : TypeId → Prop} {B' : Nat} (h : IsRd B a g gb e f n at_) (o : FrT T B' a w) (h1 : ¬ T 87) (h2 : ¬ T 5) : IsRd B w g gb e f n at_ := ⟨h.small, h.le, o.row h.self h1, o.row h.bytes h2, h.ge⟩
theorem IsRd.same (h : IsRd B a g gb e f n at_) (o : Only (fun _ => False) a w) : IsRd B w g gb e f n at_ := h.ty (T := fun _ => False) (B' := 0) (FrT.of_only o) (fun h => h) (fun h => h)
theorem IsRd.below (h : IsRd B a g gb e f n at_) (o : Below a.heap.size a w) : IsRd B w g gb e f n at_ := h.same (Only.of_below o _)
theorem IsRd.cells (h : IsRd B w g gb e f n at_) : w.cell? ⟨g, 0, none⟩ = some (.pointer (some ⟨g, 0, none⟩)) ∧ w.cell? ⟨g, 1, none⟩ = some (.int .i64 e) ∧ w.cell? ⟨g, 2, none⟩ = some (.slice (some ⟨gb, 0, none⟩) (nby n) (nby n)) ∧ w.cell? ⟨g, 3, none⟩ = some (.int .i64 ((n : Nat) : Int)) ∧ w.cell? ⟨g, 4, none⟩ = some (.int .i64 ((at_ : Nat) : Int)) :=
  ⟨h.self.cell (i := 0) (by omega), h.self.cell (i := 1) (by omega), h.self.cell (i := 2) (by omega), h.self.cell (i := 3) (by omega), h.self.cell (i := 4) (by omega)⟩
theorem rd_ne : 87 ≠ 5 := by decide
theorem IsRd.ne (h : IsRd B w g gb e f n at_) : gb ≠ g := fun he => rowIs_ne h.self h.bytes rd_ne he.symm
theorem IsRd.set1 (h : IsRd B w g gb e f n at_) (e2 : Int) : IsRd B (w.setCell ⟨g, 1, none⟩ (.int .i64 e2)) g gb e2 f n at_ ∧ FrT TR B w (w.setCell ⟨g, 1, none⟩ (.int .i64 e2)) := by
  refine ⟨⟨h.small, h.le, (h.self.set 1 _).congr fun i hi => ?_, h.bytes.setOther h.ne _, h.ge⟩, (FrT.refl TR B w).setCell h.ge (TyAt.of_row h.self rfl) _⟩
  match i, hi with
  | 0, _ => rfl
  | 1, _ => rfl
  | 2, _ => rfl
  | 3, _ => rfl
  | 4, _ => rfl
  | i + 5, hi => exact absurd (show i + 5 < 5 from hi) (by omega)
theorem IsRd.set4 (h : IsRd B w g gb e f n at_) {z : Int} (at2 : Nat) (hz : z = ((at2 : Nat) : Int)) (h2 : at2 ≤ n) : IsRd B (w.setCell ⟨g, 4, none⟩ (.int .i64 z)) g gb e f n at2 ∧ FrT TR B w (w.setCell ⟨g, 4, none⟩ (.int .i64 z)) := by
  subst hz
  refine ⟨⟨h.small, h2, (h.self.set 4 _).congr fun i hi => ?_, h.bytes.setOther h.ne _, h.ge⟩, (FrT.refl TR B w).setCell h.ge (TyAt.of_row h.self rfl) _⟩
  match i, hi with
  | 0, _ => rfl
  | 1, _ => rfl
  | 2, _ => rfl
  | 3, _ => rfl
  | 4, _ => rfl
  | i + 5, hi => exact absurd (show i + 5 < 5 from hi) (by omega)
end
theorem bit_u8 (x m : Nat) (hx : x < 256) : (bits .and .u8 (IntKind.u8.wrap ((x : Int) / 2 ^ m)) 1 == 1) = x.testBit m := by
  have e : (x : Int) / 2 ^ m = ((x / 2 ^ m : Nat) : Int) := by simp
  have h := Nat.div_le_self x (2 ^ m)
  have e2 : IntKind.u8.wrap (((x / 2 ^ m : Nat)) : Int) = ((x / 2 ^ m : Nat) : Int) := by
    rw [IntKind.wrap_u8]
    generalize x / 2 ^ m = y at h ⊢
    omega
  have h1 := u8_and_nat (x / 2 ^ m) 1 (by omega) (by omega)
  rw [e, e2, show ((1 : Int)) = ((1 : Nat) : Int) by rfl, h1, Nat.and_one_is_mod, Nat.testBit_eq_decide_div_mod_eq, Bool.eq_iff_iff]
  simp
  omega
theorem bit_u8' (x m : Nat) (hx : x < 256) : (bits .and .u8 ((x : Int) / 2 ^ m) 1 == 1) = x.testBit m := by
  have h := bit_u8 x m hx
  have e : (x : Int) / 2 ^ m = ((x / 2 ^ m : Nat) : Int) := by simp
  have h2 := Nat.div_le_self x (2 ^ m)
  have e2 : IntKind.u8.wrap ((x : Int) / 2 ^ m) = (x : Int) / 2 ^ m := by
    rw [e, IntKind.wrap_u8]
    generalize x / 2 ^ m = y at h2 ⊢
    omega
  rwa [e2] at h
set_option maxHeartbeats 400000 in
theorem one_any {B g gb : Nat} {e : Int} {f : Nat → Bool} {n at_ i : Nat} {w : World} (h : IsRd B w g gb e f n at_) (hi : i < n) :
    Calls Try.prog 54 #[.pointer (some ⟨g, 0, none⟩), .int .i64 (i : Int)] w fun e' w' => e' = .returned (.bool (f i)) ∧ w = w' := by
  obtain ⟨k0, k1, k2, k3, k4⟩ := h.cells
  have hs := h.small
  have hk : i / 8 < nby n := by unfold nby; omega
  have dk := h.bytes.cell hk
  have hx := V1.byteOf_lt f (i / 8)
  have hb : (V1.byteOf f (i / 8)).testBit (i % 8) = f i := by
    rw [V1.testBit_byteOf, show 8 * (i / 8) + i % 8 = i by omega]
    have : i % 8 < 8 := by omega
    simp [this]
  rw [← hb]
  have hwk : IntKind.i64.wrap ((i : Int) / 8) = (i : Int) / 8 := by rw [IntKind.wrap_i64]; omega
  have hk0 : 0 ≤ (i : Int) / 8 := by omega
  have hkW : (i : Int) / 8 < ((nby n : Nat) : Int) := by omega
  have hkn : ((i : Int) / 8).toNat = i / 8 := by omega
  clear h hb k0 k1 k3 k4
  generalize V1.byteOf f (i / 8) = x at dk hx ⊢
  generalize nby n = L at k2 hk hkW
  go_enter Try.func54, Try.ntmps54
  go_wp2
  go_ret
  exact ⟨ret_bool (bit_u8' x (i % 8) hx), rfl⟩
set_option maxHeartbeats 400000 in
theorem rerr_any {B g gb : Nat} {e : Int} {f : Nat → Bool} {n at_ : Nat} {w : World} (h : IsRd B w g gb e f n at_) :
    Calls Try.prog 27 #[.pointer (some ⟨g, 0, none⟩)] w fun e' w' => e' = .returned (.int .i64 e) ∧ w = w' := by
  have HS := hid (state_any h.cells.1 h.cells.2.1)
  clear h
  go_enter Try.func27, Try.ntmps27
  go_wp2_with fail
  refine HS.out.mono ?_
  rintro e' w' ⟨rfl, rfl⟩
  go_wp2_with fail
  go_ret
  exact ⟨rfl, rfl⟩
set_option maxHeartbeats 400000 in
theorem rat_any {B g gb : Nat} {e : Int} {f : Nat → Bool} {n at_ : Nat} {w : World} (h : IsRd B w g gb e f n at_) (he : e ≠ 1) :
    Calls Try.prog 26 #[.pointer (some ⟨g, 0, none⟩)] w fun e' w' => e' = .returned (.int .i64 ((at_ : Nat) : Int)) ∧ w = w' := by
  have HE := hid (rerr_any h)
  have k4 := h.cells.2.2.2.2
  have he2 : (e == 1) = false := beq_eq_false_iff_ne.2 he
  clear h
  go_enter Try.func26, Try.ntmps26
  go_wp2_with fail
  refine HE.out.mono ?_
  rintro e' w' ⟨rfl, rfl⟩
  go_wp2_with fail
  go_ret
  exact ⟨rfl, rfl⟩

/-! What a reader tells: the number, its error, where it stands. -/
def seg (f : Nat → Bool) (a m : Nat) : List Bool := (List.range m).map fun i => f (a + i)
theorem seg_len (f : Nat → Bool) (a m : Nat) : (seg f a m).length = m := by simp [seg]
theorem seg_snoc (f : Nat → Bool) (a m : Nat) : seg f a (m + 1) = seg f a m ++ [f (a + m)] := by unfold seg; rw [List.range_succ, List.map_append]; rfl
abbrev RSt := Int × Int × Nat
def takeR (f : Nat → Bool) (n at_ k : Nat) (wd : Int) : RSt := if okW wd = false ∨ n < at_ + k + wd.toNat then (0, 4, at_) else (((num (seg f (at_ + k) wd.toNat) : Nat) : Int), 0, at_ + k + wd.toNat)
def RdE (B : Nat) (w : World) (g gb : Nat) (f : Nat → Bool) (n : Nat) (s : RSt) (e' : Ending) (w' : World) : Prop := e' = .returned (.int .i64 s.1) ∧ Hid (IsRd B w' g gb s.2.1 f n s.2.2 ∧ FrT TR B w w')
set_option maxHeartbeats 1000000 in
theorem take_bad {B g gb : Nat} {e : Int} {f : Nat → Bool} {n at_ k : Nat} {wd : Int} {w : World} (h : IsRd B w g gb e f n at_) (hk : k ≤ 60) (hb : okW wd = false ∨ n < at_ + k + wd.toNat) :
    Calls Try.prog 55 #[.pointer (some ⟨g, 0, none⟩), .int .i64 (k : Int), .int .i64 wd] w (RdE B w g gb f n (0, 4, at_)) := by
  obtain ⟨k0, k1, k2, k3, k4⟩ := h.cells
  have hs := h.small
  have hle := h.le
  have HF : Hid (∀ d, IsRd B ((w.drewN d).setCell ⟨g, 1, none⟩ (.int .i64 4)) g gb 4 f n at_ ∧ FrT TR B w ((w.drewN d).setCell ⟨g, 1, none⟩ (.int .i64 4))) := hid fun d => by
    have h1 := (h.same (quiet_only (w := w.drewN d) ⟨_, rfl⟩)).set1 4
    exact ⟨h1.1, (FrT.of_only (quiet_only ⟨_, rfl⟩)).trans h1.2⟩
  have HSp : Hid (∀ d, Calls Try.prog 57 #[.pointer (some ⟨g, 0, none⟩), .int .i64 4] (w.drewN d) fun e' w' => e' = .returned (.int .i64 4) ∧ (w.drewN d).setCell ⟨g, 1, none⟩ (.int .i64 4) = w') := hid fun d => spoilBy_any (rowIs_drewN h.self d) (by omega) 4
  by_cases hq : okW wd = false
  · have HW : Hid (∀ W : World, Calls Try.prog 38 #[.int .i64 wd] W fun e' w' => e' = .returned (.bool false) ∧ W = w') := hid fun W => by have := isWidth_any wd W; rwa [hq] at this
    clear h hb hq k0 k1 k2
    go_enter Try.func55, Try.ntmps55
    go_wp2_with fail
    go_quiet ((go_at_call 38; exact quiet_left (HW.out _)))
    go_wp2_with fail
    refine (HSp.out _).mono ?_
    rintro e' w' ⟨rfl, rfl⟩
    go_wp2_with fail
    go_ret
    exact ⟨rfl, hid (HF.out _)⟩
  · have hq2 : okW wd = true := by simpa using hq
    have HW : Hid (∀ W : World, Calls Try.prog 38 #[.int .i64 wd] W fun e' w' => e' = .returned (.bool true) ∧ W = w') := hid fun W => by have := isWidth_any wd W; rwa [hq2] at this
    have hr : 0 ≤ wd ∧ wd ≤ 60 := by simp [okW] at hq2; omega
    obtain ⟨m, rfl⟩ := Int.eq_ofNat_of_zero_le hr.1
    have hgt : (n : Int) - (at_ : Int) < (k : Int) + (m : Int) := by
      rcases hb with hb | hb
      · exact absurd hb hq
      · rw [Int.toNat_natCast] at hb; omega
    clear h hb hq hq2 k0 k1 k2
    go_enter Try.func55, Try.ntmps55
    go_wp2_with fail
    go_quiet ((go_at_call 38; exact quiet_left (HW.out _)))
    go_wp2_with fail
    refine (HSp.out _).mono ?_
    rintro e' w' ⟨rfl, rfl⟩
    go_wp2_with fail
    go_ret
    exact ⟨rfl, hid (HF.out _)⟩
end Go.Proofs.Ytgdfiopdkidhfaa
