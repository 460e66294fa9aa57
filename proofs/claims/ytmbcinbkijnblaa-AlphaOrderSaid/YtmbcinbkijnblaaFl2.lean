/- A bit, digits put. -/
import Derived.Test.YtmbcinbkijnblaaFl1
import Derived.RegionTactic
namespace Go.Proofs.Ytmbcinbkijnblaa
open Go.RowKit

theorem u8Info : (Try.prog.info? 5).map (fun i => (i.zero, i.size, i.bytes)) = some (some (.int .u8 0), 1, 1) := by kernel_rfl
theorem tw_ne : 96 ≠ 5 := by decide
theorem TW.w : TW 96 := .inl rfl
theorem TW.y : TW 5 := .inr rfl
theorem or_byte (x m : Nat) (hx : x < 256) (hm : m < 8) : bits .or .u8 (x : Int) (IntKind.u8.wrap ((2 : Int) ^ m)) = ((x ||| 2 ^ m : Nat) : Int) := by
  have h : 2 ^ m < 2 ^ 8 := Nat.pow_lt_pow_right (by decide) hm
  have e : IntKind.u8.wrap ((2 : Int) ^ m) = ((2 ^ m : Nat) : Int) := by
    have e : (2 : Int) ^ m = ((2 ^ m : Nat) : Int) := by simp
    rw [e, IntKind.wrap_u8]
    generalize 2 ^ m = y at h ⊢
    omega
  rw [e]
  exact u8_or_nat x (2 ^ m) hx h

theorem or_byte' (x m : Nat) (hx : x < 256) (hm : m < 8) : bits .or .u8 (x : Int) ((2 : Int) ^ m % 256) = ((x ||| 2 ^ m : Nat) : Int) := by
  rw [← IntKind.wrap_u8]; exact or_byte x m hx hm

/-- A writer, room made for a bit. -/
structure WrG (B : Nat) (w : World) (g : Nat) (e : Int) (v : Value) (xs : List Bool) (ys : List Bool) : Prop where
  self : w.rowIs g 96 4 (wcl g e v xs.length)
  own : w.ownsRow B 5 1 v (xs.length / 8 + 1) (valsL (bv ys) (xs.length / 8 + 1))
  ge : B ≤ g
section
variable {B : Nat} {w a : World} {g : Nat} {e : Int} {v : Value} {xs ys : List Bool}
theorem WrS.room (h : WrS B w g e v xs) (h8 : xs.length % 8 ≠ 0) : WrG B w g e v xs xs := by
  have e1 : nby xs.length = xs.length / 8 + 1 := by unfold nby; omega
  exact ⟨h.self, by have := h.own; rwa [e1] at this, h.ge⟩
theorem WrS.grow {v' : Value} {w2 : World} (h : WrS B w g e v xs) (h8 : xs.length % 8 = 0) {o : Obj} (ho : w2.ownsRow B 5 1 v' (nby xs.length + 1) (valsL (bv xs) (nby xs.length) ++ [.int .u8 0])) (hg : (w.alloc o).grownBy w2 v.ownBlock) :
    WrG B (w2.setCell ⟨g, 2, none⟩ v') g e v' xs xs ∧ FrT TW B w (w2.setCell ⟨g, 2, none⟩ v') := by
  have e1 : nby xs.length = xs.length / 8 := by unfold nby; omega
  have hf : FrT TW B w w2 := ((FrT.refl TW B w).alloc o).grown hg fun k hk => ⟨(own_block h.own hk).1, by
    obtain ⟨h1, h2, h3⟩ := own_block h.own hk
    obtain ⟨cs, t, fz, hb, ht⟩ := h3 TW TW.y
    exact ⟨cs, t, fz, by rw [Below.heap_alloc w o k h2]; exact hb, ht⟩⟩
  have hself : w2.rowIs g 96 4 (wcl g e v xs.length) := by
    have hr := h.self.alloc o
    refine hr.of_block (hg.block g hr.lt fun he => ?_)
    have h3 := (own_block h.own he.symm).2.2 (fun t => t = 5) rfl
    exact TyAt.not_row h.self (fun h => tw_ne h) h3
  have hty := TyAt.of_row hself TW.w
  refine ⟨⟨(hself.set 2 v').congr fun i hi => ?_, ?_, h.ge⟩, hf.setCell h.ge hty _⟩
  · match i, hi with
    | 0, _ => rfl
    | 1, _ => rfl
    | 2, _ => rfl
    | 3, _ => rfl
    | i + 4, hi => exact absurd (show i + 4 < 4 from hi) (by omega)
  · have ev : valsL (bv xs) (nby xs.length) ++ [.int .u8 0] = valsL (bv xs) (xs.length / 8 + 1) := by
      rw [e1]
      unfold valsL
      rw [List.range_succ, List.map_append]
      congr 1
      simp only [List.map_cons, List.map_nil, bv, byte_next h8]
      rfl
    rw [ev, e1] at ho
    refine own_keep ho ((Only.refl (fun k => k = g) w2).setCell (.inl rfl) v') fun k hk he => ?_
    subst he
    exact TyAt.not_row hself (fun h => tw_ne h) ((own_block ho hk).2.2 (fun t => t = 5) rfl)
theorem grown_self {w2 : World} (h : WrS B w g e v xs) {o : Obj} (hg : (w.alloc o).grownBy w2 v.ownBlock) : w2.rowIs g 96 4 (wcl g e v xs.length) := by
  have hr := h.self.alloc o
  refine hr.of_block (hg.block g hr.lt fun he => ?_)
  have h3 := (own_block h.own he.symm).2.2 (fun t => t = 5) rfl
  exact TyAt.not_row h.self (fun h => tw_ne h) h3
theorem WrG.no (h : WrG B w g e v xs xs) : WrG B w g e v xs (xs ++ [false]) := by
  refine ⟨h.self, ?_, h.ge⟩
  have ev : valsL (bv (xs ++ [false])) (xs.length / 8 + 1) = valsL (bv xs) (xs.length / 8 + 1) := List.map_congr_left fun j _ => by unfold bv; rw [byte_snoc]; simp
  rw [ev]; exact h.own
theorem WrG.at (h : WrG B w g e v xs ys) : ∃ gr cap, v = .slice (some ⟨gr, 0, none⟩) (xs.length / 8 + 1) cap ∧ w.cell? ⟨gr, xs.length / 8, none⟩ = some (bv ys (xs.length / 8)) ∧ w.frozen? ⟨gr, xs.length / 8, none⟩ = false ∧ gr ≠ g ∧ B ≤ gr ∧ gr < w.heap.size ∧ xs.length / 8 < cap := by
  obtain ⟨gr, cap, F, hv, hge, hF, hFV, hle, hcm⟩ := own_at h.own (by omega)
  exact ⟨gr, cap, hv, by rw [hF.cell (by omega), hFV _ (by omega)], hF.frozen _, fun he => rowIs_ne h.self hF tw_ne he.symm, hge, hF.lt, by omega⟩
theorem WrG.or {gr cap : Nat} (h : WrG B w g e (.slice (some ⟨gr, 0, none⟩) (xs.length / 8 + 1) cap) xs xs) {z : Int} (hz : z = ((V1.byteOf (bf xs) (xs.length / 8) ||| 2 ^ (xs.length % 8) : Nat) : Int)) :
    WrG B (w.setCell ⟨gr, xs.length / 8, none⟩ (.int .u8 z)) g e (.slice (some ⟨gr, 0, none⟩) (xs.length / 8 + 1) cap) xs (xs ++ [true]) ∧ FrT TW B w (w.setCell ⟨gr, xs.length / 8, none⟩ (.int .u8 z)) := by
  obtain ⟨gr', cap', F, hv, hge, hF, hFV, hle, hcm⟩ := own_at h.own (by omega)
  injection hv with e1 _ e3
  injection e1 with e1
  injection e1 with e1
  subst e1
  subst e3
  have hne : g ≠ gr := rowIs_ne h.self hF tw_ne
  refine ⟨⟨h.self.setOther hne _, ?_, h.ge⟩, (FrT.refl TW B w).setCell hge (TyAt.of_row hF TW.y) _⟩
  refine own_mk hge (hF.set (xs.length / 8) _) (fun j hj => ?_) hle hcm
  unfold bv
  rw [byte_snoc]
  by_cases hj2 : j = xs.length / 8
  · subst hj2; rw [if_pos rfl, if_pos ⟨rfl, rfl⟩, hz]
  · rw [if_neg hj2, if_neg (fun h => hj2 h.1), hFV j hj]; rfl
theorem WrG.done {b : Bool} (h : WrG B w g e v xs (xs ++ [b])) (hn : xs.length < 16777216) {z : Int} (hz : z = ((xs.length + 1 : Nat) : Int)) : WrS B (w.setCell ⟨g, 3, none⟩ (.int .i64 z)) g e v (xs ++ [b]) ∧ FrT TW B w (w.setCell ⟨g, 3, none⟩ (.int .i64 z)) := by
  have e1 : (xs ++ [b]).length = xs.length + 1 := by simp
  have e2 : nby (xs.length + 1) = xs.length / 8 + 1 := by unfold nby; omega
  refine ⟨⟨by omega, (h.self.set 3 _).congr fun i hi => ?_, ?_, h.ge⟩, (FrT.refl TW B w).setCell h.ge (TyAt.of_row h.self TW.w) _⟩
  · rw [e1]
    match i, hi with
    | 0, _ => rfl
    | 1, _ => rfl
    | 2, _ => rfl
    | 3, _ => exact congrArg _ hz
    | i + 4, hi => exact absurd (show i + 4 < 4 from hi) (by omega)
  · rw [e1, e2]
    refine own_keep h.own ((Only.refl (fun k => k = g) w).setCell (.inl rfl) _) fun k hk he => ?_
    subst he
    exact TyAt.not_row h.self (fun h => tw_ne h) ((own_block h.own hk).2.2 (fun t => t = 5) rfl)
theorem WrG.drew (h : WrG B w g e v xs ys) : WrG B w.drew g e v xs ys := ⟨h.self, h.own, h.ge⟩
theorem WrG.drewN (h : WrG B w g e v xs ys) (k : Nat) : WrG B (w.drewN k) g e v xs ys := ⟨h.self, h.own, h.ge⟩
end

def BitE (B : Nat) (w : World) (g : Nat) (e : Int) (xs : List Bool) (w' : World) : Prop := IsWr B w' g e xs ∧ FrT TW B w w'

set_option maxHeartbeats 1000000 in
theorem bit_room {B g : Nat} {e : Int} {v : Value} {xs : List Bool} {w : World} (h : WrS B w g e v xs) (hn : xs.length < 16777216) (h8 : xs.length % 8 ≠ 0) (b : Bool) :
    Calls Try.prog 92 #[.pointer (some ⟨g, 0, none⟩), .bool b] w fun e' w' => e' = .returned (.tuple #[]) ∧ Hid (BitE B w g e (xs ++ [b]) w') := by
  obtain ⟨w3, hw3⟩ : ∃ w3, w3 = w := ⟨_, rfl⟩
  have HG : Hid (WrG B w3 g e v xs xs ∧ FrT TW B w w3) := hid (by rw [hw3]; exact ⟨h.room h8, FrT.refl _ _ _⟩)
  have c3 : w3.cell? ⟨g, 3, none⟩ = some (.int .i64 ((xs.length : Nat) : Int)) := HG.out.1.self.cell (i := 3) (by omega)
  have hm : (((xs.length : Nat) : Int) % 8 == 0) = false := by rw [beq_eq_false_iff_ne]; omega
  have hz0 : ((xs.length : Nat) : Int) % 8 ≠ 0 := by omega
  clear h h8
  go_enter Try.func92, Try.ntmps92
  subst hw3
  cases b
  · clear c3
    have HG2 := hid HG.out.1.no
    have c3 : w3.cell? ⟨g, 3, none⟩ = some (.int .i64 ((xs.length : Nat) : Int)) := HG2.out.self.cell (i := 3) (by omega)
    have f3 := HG2.out.self.frozen 3
    have HD : Hid (∀ z : Int, z = ((xs.length + 1 : Nat) : Int) → BitE B w3 g e (xs ++ [false]) (w3.setCell ⟨g, 3, none⟩ (.int .i64 z))) := hid fun z hz => ⟨⟨_, (HG2.out.done hn hz).1⟩, HG.out.2.trans (HG2.out.done hn hz).2⟩
    clear HG HG2
    generalize xs.length = n at c3 HD hn hm hz0
    go_wp2_with fail
    go_end0
    exact ⟨rfl, hid (HD.out _ (by go_num))⟩
  · go_wp2_with fail
    clear c3 hm hz0
    obtain ⟨gr, cap, rfl, dk, fk, hne, hge, hlt, hcap⟩ := HG.out.1.at
    have hx : V1.byteOf (bf xs) (xs.length / 8) < 256 := V1.byteOf_lt _ _
    have c2 : w3.cell? ⟨g, 2, none⟩ = some (.slice (some ⟨gr, 0, none⟩) (xs.length / 8 + 1) cap) := HG.out.1.self.cell (i := 2) (by omega)
    have c3 : w3.cell? ⟨g, 3, none⟩ = some (.int .i64 ((xs.length : Nat) : Int)) := HG.out.1.self.cell (i := 3) (by omega)
    have f3 := HG.out.1.self.frozen 3
    have HD : Hid (∀ z y : Int, z = ((V1.byteOf (bf xs) (xs.length / 8) ||| 2 ^ (xs.length % 8) : Nat) : Int) → y = ((xs.length + 1 : Nat) : Int) → BitE B w3 g e (xs ++ [true]) ((w3.setCell ⟨gr, xs.length / 8, none⟩ (.int .u8 z)).drew.setCell ⟨g, 3, none⟩ (.int .i64 y))) := hid fun z y hz hy => by
      have h1 := HG.out.1.or hz
      have h2 := h1.1.drew.done hn hy
      exact ⟨⟨_, h2.1⟩, HG.out.2.trans (h1.2.drew.trans h2.2)⟩
    unfold bv at dk
    clear HG
    generalize V1.byteOf (bf xs) (xs.length / 8) = x at dk hx HD
    obtain ⟨n, hN⟩ : ∃ n, n = xs.length := ⟨_, rfl⟩
    rw [← hN] at dk fk c2 c3 hn HD
    have HN := hid hN
    have hwk : IntKind.i64.wrap ((n : Int) / 8) = (n : Int) / 8 := by rw [IntKind.wrap_i64]; omega
    have hk0 : 0 ≤ (n : Int) / 8 := by omega
    have hkW : (n : Int) / 8 < ((n / 8 + 1 : Nat) : Int) := by omega
    have hkW2 : (n : Int) / 8 < (n : Int) / 8 + 1 := by omega
    have hkn : ((n : Int) / 8).toNat = n / 8 := by omega
    have hcap2 : n / 8 < cap := by rw [hN]; exact hcap
    clear hN hcap
    go_wp2_with fail
    go_region
    all_goals (try go_wp2_with fail)
    go_end0
    exact ⟨rfl, hid (HD.out _ _ (or_byte' x (n % 8) hx (by omega)) (by go_num))⟩

set_option maxHeartbeats 1000000 in
theorem bit_grow {B g : Nat} {e : Int} {v : Value} {xs : List Bool} {w : World} (h : WrS B w g e v xs) (hB : B ≤ w.heap.size) (hn : xs.length < 16777216) (h8 : xs.length % 8 = 0) (b : Bool) :
    Calls Try.prog 92 #[.pointer (some ⟨g, 0, none⟩), .bool b] w fun e' w' => e' = .returned (.tuple #[]) ∧ Hid (BitE B w g e (xs ++ [b]) w') := by
  obtain ⟨i0, hi0, hz0, hz1, hz2⟩ := info_parts u8Info
  have HI0 := hid (And.intro hi0 (And.intro hz0 (And.intro hz1 hz2)))
  have c3 : w.cell? ⟨g, 3, none⟩ = some (.int .i64 ((xs.length : Nat) : Int)) := h.self.cell (i := 3) (by omega)
  have c2 : w.cell? ⟨g, 2, none⟩ = some v := h.self.cell (i := 2) (by omega)
  have HW := hid h
  have Hown := hid h.own
  have hm : (((xs.length : Nat) : Int) % 8 == 0) = true := by rw [beq_iff_eq]; omega
  have hq : nby xs.length ≤ 2097152 := by unfold nby; omega
  have H8 := hid h8
  clear h h8 hi0 hz0 hz1 hz2
  go_enter Try.func92, Try.ntmps92
  cases b
  · go_wp2_with (at_builtin; (refine wpList_append_own_at _ rfl (.tmp 14) (.tmp 15) _ rfl B 5 i0 (.int .u8 0) 1 1 Try.underlying94 HI0.out.1 HI0.out.2.1 HI0.out.2.2.1 HI0.out.2.2.2 rfl (by omega) v (nby xs.length) _ rfl (Hown.out.alloc _) ⟨w.heap.size, 0, none⟩ 1 1 [.int .u8 0] rfl rfl (cell_one_new _ _ _) (by intro u hu; simp at hu; subst hu; rfl) (by unfold maxLen; omega) (by omega) (by simp; omega) ?_; intro v' w2 hown2 hg2 _ _); obtain ⟨g2, cp2, rfl⟩ : ∃ g2 cp2, v' = .slice (some ⟨g2, 0, none⟩) (nby xs.length + 1) cp2 := (by rcases hown2.2 with ⟨_, h0⟩ | ⟨g2, cp2, _, hv2, _⟩; exact absurd h0 (by omega); exact ⟨g2, cp2, hv2⟩); have HG := hid (HW.out.grow H8.out hown2 hg2); have hs2 : w2.rowIs g 96 4 (wcl g e v xs.length) := (grown_self HW.out hg2); have c2 := hs2.cell (i := 2) (by omega); have f2 := hs2.frozen 2; have c3 : w2.cell? ⟨g, 3, none⟩ = some (.int .i64 ((xs.length : Nat) : Int)) := hs2.cell (i := 3) (by omega); have f3 := hs2.frozen 3; clear hs2 hown2 hg2)
    clear c2 f2
    have HD : Hid (∀ z : Int, z = ((xs.length + 1 : Nat) : Int) → BitE B w g e (xs ++ [false]) ((w2.setCell ⟨g, 2, none⟩ (.slice (some ⟨g2, 0, none⟩) (nby xs.length + 1) cp2)).setCell ⟨g, 3, none⟩ (.int .i64 z))) := hid fun z hz => by
      have h2 := HG.out.1.no.done hn hz
      exact ⟨⟨_, h2.1⟩, HG.out.2.trans h2.2⟩
    clear c3 f3
    go_end0
    exact ⟨rfl, hid (HD.out _ (by go_num))⟩
  · go_wp2_with (at_builtin; (refine wpList_append_own_at _ rfl (.tmp 14) (.tmp 15) _ rfl B 5 i0 (.int .u8 0) 1 1 Try.underlying94 HI0.out.1 HI0.out.2.1 HI0.out.2.2.1 HI0.out.2.2.2 rfl (by omega) v (nby xs.length) _ rfl (Hown.out.alloc _) ⟨w.heap.size, 0, none⟩ 1 1 [.int .u8 0] rfl rfl (cell_one_new _ _ _) (by intro u hu; simp at hu; subst hu; rfl) (by unfold maxLen; omega) (by omega) (by simp; omega) ?_; intro v' w2 hown2 hg2 _ _); obtain ⟨g2, cp2, rfl⟩ : ∃ g2 cp2, v' = .slice (some ⟨g2, 0, none⟩) (nby xs.length + 1) cp2 := (by rcases hown2.2 with ⟨_, h0⟩ | ⟨g2, cp2, _, hv2, _⟩; exact absurd h0 (by omega); exact ⟨g2, cp2, hv2⟩); have HG := hid (HW.out.grow H8.out hown2 hg2); have hs2 : w2.rowIs g 96 4 (wcl g e v xs.length) := (grown_self HW.out hg2); have c2 := hs2.cell (i := 2) (by omega); have f2 := hs2.frozen 2; have c3 : w2.cell? ⟨g, 3, none⟩ = some (.int .i64 ((xs.length : Nat) : Int)) := hs2.cell (i := 3) (by omega); have f3 := hs2.frozen 3; clear hs2 hown2 hg2)
    clear c2 f2 c3 f3
    generalize w2.setCell ⟨g, 2, none⟩ (.slice (some ⟨g2, 0, none⟩) (nby xs.length + 1) cp2) = w3 at HG ⊢
    generalize Value.slice (some ⟨g2, 0, none⟩) (nby xs.length + 1) cp2 = v' at HG ⊢
    obtain ⟨gr, cap, rfl, dk, fk, hne, hge, hlt, hcap⟩ := HG.out.1.at
    have hx : V1.byteOf (bf xs) (xs.length / 8) < 256 := V1.byteOf_lt _ _
    have c2 : w3.cell? ⟨g, 2, none⟩ = some (.slice (some ⟨gr, 0, none⟩) (xs.length / 8 + 1) cap) := HG.out.1.self.cell (i := 2) (by omega)
    have c3 : w3.cell? ⟨g, 3, none⟩ = some (.int .i64 ((xs.length : Nat) : Int)) := HG.out.1.self.cell (i := 3) (by omega)
    have f3 := HG.out.1.self.frozen 3
    have HD : Hid (∀ z y : Int, z = ((V1.byteOf (bf xs) (xs.length / 8) ||| 2 ^ (xs.length % 8) : Nat) : Int) → y = ((xs.length + 1 : Nat) : Int) → BitE B w g e (xs ++ [true]) ((w3.setCell ⟨gr, xs.length / 8, none⟩ (.int .u8 z)).drew.setCell ⟨g, 3, none⟩ (.int .i64 y))) := hid fun z y hz hy => by
      have h1 := HG.out.1.or hz
      have h2 := h1.1.drew.done hn hy
      exact ⟨⟨_, h2.1⟩, HG.out.2.trans (h1.2.drew.trans h2.2)⟩
    unfold bv at dk
    clear HG
    generalize V1.byteOf (bf xs) (xs.length / 8) = x at dk hx HD
    obtain ⟨n, hN⟩ : ∃ n, n = xs.length := ⟨_, rfl⟩
    rw [← hN] at dk fk c2 c3 hn HD
    have HN := hid hN
    have hwk : IntKind.i64.wrap ((n : Int) / 8) = (n : Int) / 8 := by rw [IntKind.wrap_i64]; omega
    have hk0 : 0 ≤ (n : Int) / 8 := by omega
    have hkW : (n : Int) / 8 < ((n / 8 + 1 : Nat) : Int) := by omega
    have hkW2 : (n : Int) / 8 < (n : Int) / 8 + 1 := by omega
    have hkn : ((n : Int) / 8).toNat = n / 8 := by omega
    have hcap2 : n / 8 < cap := by rw [hN]; exact hcap
    clear hN hcap
    go_region
    all_goals (try go_wp2_with fail)
    go_end0
    exact ⟨rfl, hid (HD.out _ _ (or_byte' x (n % 8) hx (by omega)) (by go_num))⟩

theorem bit_any {B g : Nat} {e : Int} {xs : List Bool} {w : World} (h : IsWr B w g e xs) (hB : B ≤ w.heap.size) (hn : xs.length < 16777216) (b : Bool) :
    Calls Try.prog 92 #[.pointer (some ⟨g, 0, none⟩), .bool b] w fun e' w' => e' = .returned (.tuple #[]) ∧ Hid (BitE B w g e (xs ++ [b]) w') := by
  obtain ⟨v, h⟩ := h
  by_cases h8 : xs.length % 8 = 0
  · exact bit_grow h hB hn h8 b
  · exact bit_room h hn h8 b

end Go.Proofs.Ytmbcinbkijnblaa
