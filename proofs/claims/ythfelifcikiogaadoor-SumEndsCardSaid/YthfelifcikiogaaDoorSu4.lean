/- sum: Seal, Open. -/
import Derived.Test.YthfelifcikiogaaDoorSu3
import Derived.Test.YthfelifcikiogaaDoorShelf
import Derived.Deep.RegionHeld3
import Derived.RegionTactic
namespace Go.Proofs.YthfelifcikiogaaDoor
open Go.RowKit
open Cr

theorem rdR_one {w : World} {A : Option Addr} {cap : Nat} {bs : List Nat} (hr : RdY w A bs) (hA : A = none → bs.length = 0 ∧ cap = 0) :
    RdR (w.alloc (.cells #[.slice A bs.length cap] 23)) (some ⟨w.heap.size, 0, none⟩) [bs] (fun _ => A) (fun _ => cap) := by
  have ho : Only (fun _ => False) w (w.alloc (.cells #[.slice A bs.length cap] 23)) := (Only.refl _ w).alloc _
  refine ⟨fun _ => ⟨w.heap.size, 0, rfl, fun j hj => ?_⟩, fun j hj => ?_, fun j hj => ?_⟩
  · obtain rfl : j = 0 := by simp at hj; omega
    exact (World.rowIs_alloc w #[.slice A bs.length cap] 23 (fun _ => .slice A bs.length cap) (fun i hi => by match i, hi with | 0, _ => rfl)).cell (i := 0) (by simp)
  · obtain rfl : j = 0 := by simp at hj; omega
    exact hr.only ho fun _ _ _ => no_
  · obtain rfl : j = 0 := by simp at hj; omega
    exact hA
theorem flat_one (bs : List Nat) : ([bs] : List (List Nat)).flatten = bs := by simp
theorem btsR_one {bs : List Nat} (h : ∀ b ∈ bs, b < 256) : BtsR [bs] := fun l hl => by
  obtain rfl : l = bs := by simpa using hl
  exact h

/-- The sum of one row. -/
theorem sumOne {w : World} {A : Option Addr} {cap : Nat} {bs : List Nat} (hr : RdY w A bs) (hA : A = none → bs.length = 0 ∧ cap = 0) (hB : ∀ b ∈ bs, b < 256) (hl : bs.length ≤ 9223372036854775807) (hT : TabS w) :
    Calls Tryd.prog 14 #[.slice (some ⟨w.heap.size, 0, none⟩) 1 1] (w.alloc (.cells #[.slice A bs.length cap] 23)) fun e w' => e = .returned (.int .u32 ((crc bs : Nat) : Int)) ∧ Hid (Only (fun _ => False) w w') := by
  have h := sumOf_any (cap := 1) (rdR_one hr hA) (btsR_one hB) (by simp) (fun j => by
    by_cases hj : j = 0
    · subst hj; simpa using hl
    · simp [List.getD, List.getElem?_eq_none (by simp; omega : [bs].length ≤ j)]) (hT.only ((Only.refl _ w).alloc _))
  rw [flat_one] at h
  exact h.mono fun e w' ⟨h1, h2⟩ => ⟨h1, hid (((Only.refl _ w).alloc _).trans (Only.of_below h2.out _))⟩

set_option maxHeartbeats 2000000 in
theorem seal_any {cap : Nat} {A : Option Addr} {L : List (List Nat)} {aF : Nat → Option Addr} {cF : Nat → Nat} {w : World} (hr : RdR w A L aF cF) (hB : BtsR L) (hL : L.length ≤ 10000000) (hf : L.flatten.length ≤ 10000000) (hT : TabS w) :
    Calls Tryd.prog 11 #[.slice A L.length cap] w fun e w' => ∃ v, e = .returned v ∧ Hid (OwY w w' v (sealed L.flatten)) := by
  have HC := hid (concat_any (cap := cap) hr (by omega) (by omega))
  have HS := hid fun (v : World) (A : Option Addr) (c : Nat) (h : RdY v A L.flatten) (hA : A = none → L.flatten.length = 0 ∧ c = 0) (hT : TabS v) => sumOne h hA hB.flat (by omega) hT
  have HF := hid fun v => foot_any (crc L.flatten) v (crc_lt hB.flat)
  have HT := hid hT
  have HE : Hid (∀ w' v, OwY w w' v (L.flatten ++ foot (crc L.flatten)) → OwY w w' v (sealed L.flatten)) := hid fun _ _ h => h
  clear hr hB hT
  generalize sealed L.flatten = res at HE
  generalize crc L.flatten = q at HE HF HS
  generalize L.flatten = bs at HC HS HE hf
  generalize L.length = m at HC
  go_enter Tryd.func11, Tryd.ntmps11
  go_wp2_with fail
  refine HC.out.mono ?_
  rintro e w1 ⟨v, rfl, HO⟩
  obtain ⟨A1, cap1, rfl, h1, h2, h3, h4, h5⟩ := HO.out.shape
  have H1 := hid h1
  have H2 := hid h2
  have HT1 : Hid (TabS w1) := hid (HT.out.only HO.out.only)
  clear h1 h2 h3 HC
  go_wp2_with fail
  refine (HS.out _ _ _ H1.out H2.out HT1.out).mono ?_
  rintro e w2 ⟨rfl, HO2⟩
  go_wp2_with fail
  refine (HF.out _).mono ?_
  rintro e w3 ⟨rfl, HO3⟩
  have HO4 : Hid (OwY w w3 (.slice A1 bs.length cap1) bs) := hid ((HO.out.carry HO2.out).carry (Only.of_below HO3.out.2 _))
  have HR4 : Hid (RdY w3 (some ⟨w2.heap.size, 0, none⟩) (foot q)) := hid (RdV.of_row HO3.out.1)
  go_wp2_with (at_builtin; refine wpList_addY w w3 rfl (.tmp 6) (.tmp 10) rfl _ bs rfl HO4 (some ⟨w2.heap.size, 0, none⟩) 4 4 (foot q) rfl rfl (hid (fun h => by cases h)) HR4 (by rw [Cr.foot_len]; omega) ?_; intro v2 w4 HO5)
  go_ret
  exact ⟨_, rfl, hid (HE.out _ _ HO5.out)⟩

/-- What bytes are, opened. -/
def opened (bs : List Nat) : Int × List Nat :=
  if bs.length < 4 then (4, []) else if bs.drop (bs.length - 4) = foot (crc (bs.take (bs.length - 4))) then (0, bs.take (bs.length - 4)) else (7, [])
def OpenE (w : World) (bs : List Nat) (e : Ending) (w' : World) : Prop :=
  ∃ v, e = .returned (.tuple #[v, .int .i64 (opened bs).1]) ∧ Hid (OwY w w' v (opened bs).2)
theorem OwY.lift {w v w' : World} {x : Value} {bs : List Nat} (h : OwY v w' x bs) (ho : Only (fun _ => False) w v) : OwY w w' x bs := by
  refine ⟨⟨h.own.1, ?_⟩, ho.trans h.only⟩
  rcases h.own.2 with h2 | ⟨g, cap, cur, e, hge, hr⟩
  · exact .inl h2
  · exact .inr ⟨g, cap, cur, e, Nat.le_trans ho.size hge, hr⟩
theorem ow_nil {w w' : World} (h : Only (fun _ => False) w w') : OwY w w' (.slice none 0 0) [] := ⟨World.ownsRow_nil _ _ _ _, h⟩
set_option maxHeartbeats 2000000 in
theorem open_short {cap : Nat} {A : Option Addr} {bs : List Nat} {w : World} (h4 : bs.length < 4) :
    Calls Tryd.prog 12 #[.slice A bs.length cap] w (OpenE w bs) := by
  have HE : Hid (opened bs = (4, [])) := hid (by unfold opened; rw [if_pos h4])
  unfold OpenE
  rw [HE.out]
  generalize bs.length = n at h4
  go_enter Tryd.func12, Tryd.ntmps12
  go_wp2
  go_ret2
  exact ⟨_, rfl, hid (ow_nil (Only.refl _ w))⟩
theorem keepA {w w' : World} {o : Obj} (h : True ∧ Hid (Only (fun _ => False) w w')) : True ∧ Hid (Only (fun _ => False) w (w'.alloc o)) := ⟨trivial, hid (h.2.out.alloc o)⟩
theorem split4 {bs : List Nat} (h : 4 ≤ bs.length) : ∃ xs ys, bs = xs ++ ys ∧ ys.length = 4 ∧ bs.take (bs.length - 4) = xs ∧ bs.drop (bs.length - 4) = ys ∧ bs.length = xs.length + 4 := by
  refine ⟨bs.take (bs.length - 4), bs.drop (bs.length - 4), (List.take_append_drop _ _).symm, ?_, rfl, rfl, ?_⟩
  · rw [List.length_drop]; omega
  · rw [List.length_take]; omega
def intsY (xs : List Nat) : List Int := xs.map fun (n : Nat) => (n : Int)
theorem bytesIn_rd {w : World} {A : Option Addr} {xs : List Nat} (h : RdY w A xs) : Lib.BytesIn w A xs.length (intsY xs) := fun h0 => by
  obtain ⟨b, off, e, hc⟩ := h h0
  refine ⟨b, off, e, fun i hi => ?_⟩
  rw [hc i hi]
  simp [vY, intsY, List.getD, hi]
theorem ofNat_inj {a b : Nat} (ha : a < 256) (hb : b < 256) (h : UInt8.ofNat a = UInt8.ofNat b) : a = b := by
  have h2 := congrArg UInt8.toNat h
  rw [UInt8.toNat_ofNat', UInt8.toNat_ofNat'] at h2
  omega
theorem bytesOf_inj {xs ys : List Nat} (hx : ∀ b ∈ xs, b < 256) (hy : ∀ b ∈ ys, b < 256) (h : Lib.bytesOf (intsY xs) = Lib.bytesOf (intsY ys)) : xs = ys := by
  induction xs generalizing ys with
  | nil =>
    cases ys with
    | nil => rfl
    | cons b ys => simp [Lib.bytesOf, intsY] at h
  | cons a xs ih =>
    cases ys with
    | nil => simp [Lib.bytesOf, intsY] at h
    | cons b ys =>
      have h1 : UInt8.ofNat a = UInt8.ofNat b := (List.cons.inj h).1
      rw [ofNat_inj (hx a (by simp)) (hy b (by simp)) h1, ih (fun z hz => hx z (by simp [hz])) (fun z hz => hy z (by simp [hz])) (List.cons.inj h).2]
theorem bytes_same {xs ys : List Nat} (hx : ∀ b ∈ xs, b < 256) (hy : ∀ b ∈ ys, b < 256) : (Lib.bytesOf (intsY xs) == Lib.bytesOf (intsY ys)) = decide (xs = ys) := by
  by_cases h : xs = ys
  · subst h; simp
  · rw [decide_eq_false h, beq_eq_false_iff_ne]
    exact fun e => h (bytesOf_inj hx hy e)
/-- Are they the same bytes? -/
theorem equal_any {A1 A2 : Option Addr} {c1 c2 : Nat} {xs ys : List Nat} {w : World} (h1 : RdY w A1 xs) (h2 : RdY w A2 ys) (hx : ∀ b ∈ xs, b < 256) (hy : ∀ b ∈ ys, b < 256) :
    Calls Tryd.prog 24 #[.slice A1 xs.length c1, .slice A2 ys.length c2] w fun e w' => e = .returned (.bool (decide (xs = ys))) ∧ w = w' := by
  have h := Tryd.bytes_Equal_all A1 A2 xs.length c1 ys.length c2 (intsY xs) (intsY ys) w (by simp [intsY]) (by simp [intsY]) (bytesIn_rd h1) (bytesIn_rd h2)
  refine h.mono fun e w' ⟨h3, h4⟩ => ⟨?_, h4.symm⟩
  rw [h3]
  congr 2
  rw [bytes_same hx hy]
theorem keepT {w v v' : World} (h : True ∧ Hid (Only (fun _ => False) w v)) (k : Hid (Only (fun _ => False) v v')) : True ∧ Hid (Only (fun _ => False) w v') := ⟨trivial, hid (h.2.out.trans k.out)⟩
theorem keepB {w v v' : World} {p : Prop} (h : True ∧ Hid (Only (fun _ => False) w v)) (k : Hid (p ∧ Below v.heap.size v v')) : True ∧ Hid (Only (fun _ => False) w v') := ⟨trivial, hid (h.2.out.trans (Only.of_below k.out.2 _))⟩
theorem clone_any {b off c : Nat} {xs : List Nat} {w : World} (hr : RdY w (some ⟨b, off, none⟩) xs) (hl : xs.length ≤ 10000000) :
    Calls Tryd.prog 25 #[.slice (some ⟨b, off, none⟩) xs.length c] w fun e w' => ∃ v, e = .returned v ∧ Hid (OwY w w' v xs) := by
  refine (Tryd.bytes_Clone_at ⟨b, off, none⟩ xs.length c (xs.map fun (n : Nat) => (n : Int)) w (by simp) (by omega) fun i hi => ?_).mono fun e w' ⟨v, h1, h2, _, h3⟩ => ⟨v, h1, hid ⟨?_, Only.of_below h3 _⟩⟩
  · obtain ⟨b', off', e, hc, _⟩ := hr.at hi
    injection e with e
    injection e with e1 e2
    subst e1
    subst e2
    have ha : (⟨b, off, none⟩ : Addr).add i = ⟨b, off + i, none⟩ := by
      unfold Addr.add
      by_cases e : i = 0 <;> simp [e]
    rw [ha, hc]
    simp [vY, List.getD, hi]
  · have e : (xs.map fun (n : Nat) => (n : Int)).map (Value.int .u8) = xs.map yv := by rw [List.map_map]; rfl
    rw [← e]; exact h2
set_option maxHeartbeats 2000000 in
theorem open_long {cap : Nat} {A : Option Addr} {bs : List Nat} {w : World} (hr : RdY w A bs) (hB : ∀ b ∈ bs, b < 256) (h4 : 4 ≤ bs.length) (hl : bs.length ≤ 10000000) (hc : bs.length ≤ cap) (hT : TabS w) :
    Calls Tryd.prog 12 #[.slice A bs.length cap] w (OpenE w bs) := by
  obtain ⟨b, off, rfl, hcell⟩ := hr (by omega)
  obtain ⟨xs, ys, e1, e2, e3, e4, e5⟩ := split4 h4
  have hBx : ∀ b ∈ xs, b < 256 := fun b hb => hB b (by rw [e1]; exact List.mem_append_left _ hb)
  have hBy : ∀ b ∈ ys, b < 256 := fun b hb => hB b (by rw [e1]; exact List.mem_append_right _ hb)
  have HE : Hid (opened bs = if decide (ys = foot (crc xs)) = true then (0, xs) else (7, [])) := hid (by unfold opened; rw [if_neg (by omega), e3, e4]; simp only [decide_eq_true_eq])
  have hrx : RdY w (some ⟨b, off, none⟩) xs := fun _ => ⟨b, off, rfl, fun j hj => by
    rw [hcell j (by omega), e1]; simp [vY, List.getD, List.getElem?_append_left hj]⟩
  have hry : RdY w (some ⟨b, off + xs.length, none⟩) ys := fun _ => ⟨b, off + xs.length, rfl, fun j hj => by
    rw [show off + xs.length + j = off + (xs.length + j) by omega, hcell (xs.length + j) (by omega), e1]
    simp [vY, List.getD, List.getElem?_append_right]⟩
  have HSm : Hid (∀ v, Only (fun _ => False) (w.alloc (.cells #[.slice (some ⟨b, off, none⟩) xs.length cap] 23)) v → Calls Tryd.prog 14 #[.slice (some ⟨w.heap.size, 0, none⟩) 1 1] v fun e w' => e = .returned (.int .u32 ((crc xs : Nat) : Int)) ∧ Hid (Only (fun _ => False) v w')) := hid fun v hv => by
    have h := sumOf_any (cap := 1) (w := v) ((rdR_one hrx (fun h => by cases h)).only hv) (btsR_one hBx) (by simp) (fun j => by
      by_cases hj : j = 0
      · subst hj; simp; omega
      · simp [List.getD, List.getElem?_eq_none (by simp; omega : [xs].length ≤ j)]) (hT.only (((Only.refl _ w).alloc _).trans hv))
    rw [flat_one] at h
    exact h.mono fun e w' ⟨h1, h2⟩ => ⟨h1, hid (Only.of_below h2.out _)⟩
  have HFt := hid fun v => foot_any (crc xs) v (crc_lt hBx)
  have HEq : Hid (∀ v (u : Nat) (h : True ∧ Hid (Only (fun _ => False) w v)), v.rowIs u 5 4 (vY (foot (crc xs))) → Calls Tryd.prog 24 #[.slice (some ⟨b, off + xs.length, none⟩) 4 (cap - xs.length), .slice (some ⟨u, 0, none⟩) 4 4] v fun e w' => e = .returned (.bool (decide (ys = foot (crc xs)))) ∧ v = w') := hid fun v u h hu => by
    have h := equal_any (c1 := cap - xs.length) (c2 := 4) (hry.only h.2.out fun _ _ _ => no_) (RdV.of_row hu) hBy (Cr.foot_lt _)
    rw [e2] at h
    exact h
  have HCl : Hid (∀ v, True ∧ Hid (Only (fun _ => False) w v) → Calls Tryd.prog 25 #[.slice (some ⟨b, off, none⟩) xs.length cap] v fun e w' => ∃ v', e = .returned v' ∧ Hid (OwY w w' v' xs)) := hid fun v h => (clone_any (c := cap) (hrx.only h.2.out fun _ _ _ => no_) (by omega)).mono fun e w' ⟨v', h1, h2⟩ => ⟨v', h1, hid (h2.out.lift h.2.out)⟩
  unfold OpenE
  rw [HE.out]
  have hk : (bs.length : Int) - 4 = (xs.length : Int) := by omega
  generalize bs.length = n at hk e5 hl hc h4 hcell
  generalize decide (ys = foot (crc xs)) = d at HEq
  generalize crc xs = q at HSm HFt HEq
  have hc := hid (show (0, xs) = ((0 : Int), xs) from rfl)
  clear hr hT HE hrx hry hBx hBy e1 e2 e3 e4 hcell hB
  generalize xs.length = k at hk e5 HSm HEq HCl
  have hck : ¬ cap = k := by omega
  have g0 : (0 : Int) ≤ (k : Int) := by omega
  have g1 : (k : Int) ≤ (n : Int) := by omega
  have g2 : k ≤ cap := by omega
  have g3 : (k : Int) ≤ (cap : Int) := by omega
  have g4 : (n : Int) ≤ (cap : Int) := by omega
  have g5 : ¬ (k : Int) < 0 := by omega
  have g6 : n - k = 4 := by omega
  clear e5
  go_enter Tryd.func12, Tryd.ntmps12
  go_wp2_with fail
  go_region_held3 (fun w' => True ∧ Hid (Only (fun _ => False) w w'))
    (first | assumption | exact ⟨trivial, hid (Only.refl _ _).drew⟩ | exact keepA (by assumption) | exact keepT (by assumption) (by assumption) | exact keepB (by assumption) (by assumption))
    (first
      | (go_at_call 14; (refine (HSm.out _ ?_).mono ?_); (first | exact (Only.refl _ _).drew); rintro e wa ⟨rfl, HOa⟩)
      | (go_at_call 23; (refine (HFt.out _).mono ?_); rintro e wb ⟨rfl, HOb⟩)
      | (go_at_call 24; (refine (HEq.out _ _ (by assumption) HOb.out.1).mono ?_); rintro e wc ⟨rfl, rfl⟩))
  have HS9 : True ∧ Hid (Only (fun _ => False) w wb) := by assumption
  cases d
  · go_wp2_with fail
    go_ret2
    exact ⟨_, rfl, hid (ow_nil HS9.2.out)⟩
  · have HC9 := hid (HCl.out wb HS9)
    go_wp2_with fail
    refine HC9.out.mono ?_
    rintro e w9 ⟨v9, rfl, HO9⟩
    go_wp2_with fail
    go_ret2
    exact ⟨_, rfl, HO9⟩
theorem open_any {cap : Nat} {A : Option Addr} {bs : List Nat} {w : World} (hr : RdY w A bs) (hB : ∀ b ∈ bs, b < 256) (hl : bs.length ≤ 10000000) (hc : bs.length ≤ cap) (hT : TabS w) :
    Calls Tryd.prog 12 #[.slice A bs.length cap] w (OpenE w bs) := by
  by_cases h4 : bs.length < 4
  · exact open_short h4
  · exact open_long hr hB (by omega) hl hc hT
end Go.Proofs.YthfelifcikiogaaDoor
