/- SumEnds, walked. -/
import Derived.Test.YthfelifcikiogaaDoorSu10
import Derived.Laws.MakeOwn
namespace Go.Proofs.YthfelifcikiogaaDoor
open Go.RowKit
open Cr

theorem crc_lit (ns : List Nat) (h : ns.all (· < 256) = true) : ∀ b ∈ ns, b < 256 := fun b hb => by
  have := List.all_eq_true.1 h b hb
  simpa using this
/-- SumTells of one row, of none. -/
theorem tellsNone {A1 : Option Addr} {cap1 : Nat} {bs : List Nat} {w : World} (hn : bs.length ≤ 3000) (hrb : RdY w A1 bs) (hBb : ∀ b ∈ bs, b < 256) (hA1 : A1 = none → bs.length = 0 ∧ cap1 = 0) (hc1 : bs.length ≤ cap1) (hT : TabS w) :
    Calls Tryd.prog 3 #[.slice none 0 0, .slice A1 bs.length cap1] w fun e w' => e = .returned (.bool true) ∧ Hid (Only (fun _ => False) w w') := by
  have h := sumTells_any (cap := 0) (cap1 := cap1) (A := none) (L := []) (aF := fun _ => none) (cF := fun _ => 0) (w := w) ⟨RdV.nil _, fun j hj => absurd hj (by simp), fun j hj => absurd hj (by simp)⟩ (by simp) (fun j => by simp [List.getD]) (by omega) (fun l hl => by cases hl) hrb hBb hA1 hc1 hT
  exact h.mono fun e w' ⟨h1, h2⟩ => ⟨h1, hid (Only.of_below h2.out _)⟩
theorem tellsRows {w u v : World} {a c cap1 : Nat} {A1 : Option Addr} {bs : List Nat} (rs : List Rw) (h : ∀ r ∈ rs, RdY u r.1 r.2.1 ∧ (r.1 = none → r.2.1.length = 0 ∧ r.2.2 = 0)) (hB : ∀ r ∈ rs, ∀ b ∈ r.2.1, b < 256) (hl : ∀ r ∈ rs, r.2.1.length ≤ 3000) (hn : rs.length ≤ 3000) (ha : a = u.heap.size) (h2 : Only (fun _ => False) (u.alloc (.cells (rs.map rwVal).toArray 23)) v)
    (hbn : bs.length ≤ 3000) (hrb : RdY v A1 bs) (hBb : ∀ b ∈ bs, b < 256) (hA1 : A1 = none → bs.length = 0 ∧ cap1 = 0) (hc1 : bs.length ≤ cap1) (hT : TabS w) (hw : Only (fun _ => False) w v) :
    Calls Tryd.prog 3 #[.slice (some ⟨a, 0, none⟩) rs.length c, .slice A1 bs.length cap1] v fun e w' => e = .returned (.bool true) ∧ Hid (Only (fun _ => False) v w') ∧ Hid (Only (fun _ => False) w w') := by
  have hR := rdR_parts rs h ha (Only.refl _ u) h2
  have hj : ∀ j, ((rs.map fun (r : Rw) => r.2.1).getD j []).length ≤ 3000 := fun j => by
    by_cases hj : j < rs.length
    · have : rs[j] ∈ rs := List.getElem_mem hj
      simpa [List.getD, hj] using hl _ this
    · simp [List.getD, List.getElem?_eq_none (show rs.length ≤ j by omega)]
  have := sumTells_any (cap := c) (cap1 := cap1) hR (by rw [List.length_map]; omega) (fun j => by have := hj j; omega) (by omega) (fun l hl b hb => by
    obtain ⟨r, hr, rfl⟩ := List.mem_map.1 hl
    exact hB r hr b hb) hrb hBb hA1 hc1 (hT.only hw)
  rw [List.length_map] at this
  exact this.mono fun e w' ⟨h1, h2⟩ => ⟨h1, hid (Only.of_below h2.out _), hid (hw.trans (Only.of_below h2.out _))⟩
theorem rdY_take {w : World} {A : Option Addr} {bs : List Nat} {i : Nat} (hr : RdY w A bs) (h : i ≤ bs.length) : RdY w A (bs.take i) :=
  (hr.take (k := (bs.take i).length) (by rw [List.length_take]; omega)).congr fun j hj => by
    have hj' : j < i := by rw [List.length_take] at hj; omega
    simp [vY, List.getD, List.getElem?_take_of_lt hj']
theorem ten_at {w0 w : World} {v : Value} {sl : List Nat} (h : OwY w0 w v sl) (hs : sl.length = 10) : ∃ g cap, v = .slice (some ⟨g, 0, none⟩) 10 cap ∧ 10 ≤ cap := by
  obtain ⟨A', c', e, _, _, h3, h4, _⟩ := h.shape
  obtain ⟨g, _, rfl, _⟩ := h3 (by omega)
  exact ⟨g, c', by rw [e, hs], by omega⟩
theorem bk_alloc {u : World} {A : Option Addr} {xs : List Nat} {o : Obj} (h : RdY u A xs) : RdY (u.alloc o) A xs := h.only ((Only.refl (fun _ => False) u).alloc o) fun _ _ _ => no_
theorem bk_drew {u : World} {A : Option Addr} {xs : List Nat} (h : RdY u A xs) : RdY u.drew A xs := h
theorem bk_only {u v : World} {A : Option Addr} {xs : List Nat} (ho : Only (fun _ => False) u v) (h : RdY u A xs) : RdY v A xs := h.only ho fun _ _ _ => no_
theorem bk1 {u : World} {a x : Nat} (ha : a = u.heap.size) : RdY (u.alloc (.cells #[.int .u8 (x : Int)] 5)) (some ⟨a, 0, none⟩) [x] := by
  subst ha
  exact RdV.of_row (World.rowIs_alloc u #[.int .u8 (x : Int)] _ _ fun i hi => by
    match i, hi with
    | 0, _ => rfl
    | k + 1, hi => exact absurd hi (by simp))
theorem bk2 {u : World} {a x : Nat} (ha : a = u.heap.size) : RdY (u.alloc (.cells #[.int .u8 (x : Int), .int .u8 1] 5)) (some ⟨a, 0, none⟩) [x, 1] := by
  subst ha
  exact RdV.of_row (World.rowIs_alloc u #[.int .u8 (x : Int), .int .u8 1] _ _ fun i hi => by
    match i, hi with
    | 0, _ => rfl
    | 1, _ => rfl
    | k + 2, hi => exact absurd hi (by simp))
theorem bkz {u : World} {a n : Nat} (ha : a = u.heap.size) : RdY (u.alloc (.cells (madeCells #[.int .u8 0] n) 5)) (some ⟨a, 0, none⟩) (List.replicate n 0) := by
  subst ha
  have h := (RdV.of_row (World.rowIs_made u (.int .u8 0) n 5)).congr (V' := vY (List.replicate n 0)) fun j hj => by simp [vY, List.getD, hj]
  have e : (List.replicate n 0).length = n := List.length_replicate
  unfold RdY
  rw [e]
  exact h
/-- SumTells of three rows, the third and the first of one byte. -/
theorem tells3 {w u v vs ws : World} {a a1 a2 n c x y : Nat} {A : Option Addr} {ss : List Nat} (hx : x < 256) (hy : y < 256) (hss : ss.length ≤ 3000) (hsB : ∀ b ∈ ss, b < 256) (hT : TabS w)
    (h2 : Only (fun _ => False) (u.alloc (.cells #[.slice (some ⟨a1, 0, none⟩) 1 1, .slice none 0 0, .slice (some ⟨a2, 0, none⟩) 1 1] 23)) v) (ha : a = u.heap.size) (r1 : RdY u (some ⟨a1, 0, none⟩) [x]) (r2 : RdY u (some ⟨a2, 0, none⟩) [y]) (hs : OwY vs ws (.slice A n c) ss) (ho : Only (fun _ => False) ws v) (hw : Only (fun _ => False) w v) :
    Calls Tryd.prog 3 #[.slice (some ⟨a, 0, none⟩) 3 3, .slice A n c] v fun e w' => e = .returned (.bool true) ∧ Hid (Only (fun _ => False) v w') ∧ Hid (Only (fun _ => False) w w') := by
  obtain ⟨rfl, hr⟩ := hs.rd ho
  have hc : ss.length ≤ c := by
    obtain ⟨A', c', e, h3⟩ := hs.isSlice
    injection e with _ _ e3
    subst e3
    exact h3
  exact tellsRows (c := 3) (cap1 := c) [((some ⟨a1, 0, none⟩, [x], 1) : Rw), (none, [], 0), (some ⟨a2, 0, none⟩, [y], 1)]
    (fun r hr => by
      simp only [List.mem_cons, List.not_mem_nil, or_false] at hr
      rcases hr with rfl | rfl | rfl
      · exact ⟨r1, fun h => by cases h⟩
      · exact ⟨RdV.nil _, fun _ => ⟨rfl, rfl⟩⟩
      · exact ⟨r2, fun h => by cases h⟩)
    (fun r hr => by
      simp only [List.mem_cons, List.not_mem_nil, or_false] at hr
      rcases hr with rfl | rfl | rfl
      · intro b hb; obtain rfl := List.mem_singleton.1 hb; exact hx
      · intro b hb; cases hb
      · intro b hb; obtain rfl := List.mem_singleton.1 hb; exact hy)
    (fun r hr => by
      simp only [List.mem_cons, List.not_mem_nil, or_false] at hr
      rcases hr with rfl | rfl | rfl <;> simp)
    (by simp) ha h2 hss hr hsB hs.nilA hc hT hw
/-- SumTells of noughts. -/
theorem tells0 {w u v : World} {a a1 a2 m q : Nat} (hm : m ≤ 3000) (hq : q ≤ 3000) (hT : TabS w)
    (h2 : Only (fun _ => False) (u.alloc (.cells #[.slice (some ⟨a1, 0, none⟩) m m] 23)) v) (ha : a = u.heap.size) (r1 : RdY u (some ⟨a1, 0, none⟩) (List.replicate m 0)) (r2 : RdY v (some ⟨a2, 0, none⟩) (List.replicate q 0)) (hw : Only (fun _ => False) w v) :
    Calls Tryd.prog 3 #[.slice (some ⟨a, 0, none⟩) 1 1, .slice (some ⟨a2, 0, none⟩) q q] v fun e w' => e = .returned (.bool true) ∧ Hid (Only (fun _ => False) v w') ∧ Hid (Only (fun _ => False) w w') := by
  have e1 : (List.replicate m 0).length = m := List.length_replicate
  have e2 : (List.replicate q 0).length = q := List.length_replicate
  have hz : ∀ n, ∀ b ∈ List.replicate n 0, b < 256 := fun n b hb => by
    rw [List.eq_of_mem_replicate hb]; omega
  have h := tellsRows (c := 1) (cap1 := q) (w := w) (u := u) (v := v) (a := a) (A1 := some ⟨a2, 0, none⟩) (bs := List.replicate q 0) [((some ⟨a1, 0, none⟩, List.replicate m 0, m) : Rw)]
    (fun r hr => by obtain rfl := List.mem_singleton.1 hr; exact ⟨r1, fun h => by cases h⟩)
    (fun r hr => by obtain rfl := List.mem_singleton.1 hr; exact hz m)
    (fun r hr => by obtain rfl := List.mem_singleton.1 hr; show (List.replicate m 0).length ≤ 3000; omega)
    (by simp) ha (by rw [show ([((some ⟨a1, 0, none⟩, List.replicate m 0, m) : Rw)].map rwVal).toArray = #[.slice (some ⟨a1, 0, none⟩) m m] by simp [rwVal]]; exact h2) (by omega) r2 (hz q) (fun h => by cases h) (by omega) hT hw
  rw [e2] at h
  exact h
theorem tells3x {w v vs ws : World} {a n c x y : Nat} {A : Option Addr} {ss : List Nat} (hx : x < 256) (hy : y < 256) (hss : ss.length ≤ 3000) (hsB : ∀ b ∈ ss, b < 256) (hT : TabS w)
    (hX : ∃ u a1 a2, Only (fun _ => False) (u.alloc (.cells #[.slice (some ⟨a1, 0, none⟩) 1 1, .slice none 0 0, .slice (some ⟨a2, 0, none⟩) 1 1] 23)) v ∧ a = u.heap.size ∧ RdY u (some ⟨a1, 0, none⟩) [x] ∧ RdY u (some ⟨a2, 0, none⟩) [y]) (hs : OwY vs ws (.slice A n c) ss) (ho : Only (fun _ => False) ws v) (hw : Only (fun _ => False) w v) :
    Calls Tryd.prog 3 #[.slice (some ⟨a, 0, none⟩) 3 3, .slice A n c] v fun e w' => e = .returned (.bool true) ∧ Hid (Only (fun _ => False) v w') ∧ Hid (Only (fun _ => False) w w') := by
  obtain ⟨u, a1, a2, h1, h2, h3, h4⟩ := hX
  exact tells3 hx hy hss hsB hT h1 h2 h3 h4 hs ho hw
theorem tells0x {w v : World} {a a2 m q : Nat} (hm : m ≤ 3000) (hq : q ≤ 3000) (hT : TabS w)
    (hX : ∃ u a1, Only (fun _ => False) (u.alloc (.cells #[.slice (some ⟨a1, 0, none⟩) m m] 23)) v ∧ a = u.heap.size ∧ RdY u (some ⟨a1, 0, none⟩) (List.replicate m 0)) (r2 : RdY v (some ⟨a2, 0, none⟩) (List.replicate q 0)) (hw : Only (fun _ => False) w v) :
    Calls Tryd.prog 3 #[.slice (some ⟨a, 0, none⟩) 1 1, .slice (some ⟨a2, 0, none⟩) q q] v fun e w' => e = .returned (.bool true) ∧ Hid (Only (fun _ => False) v w') ∧ Hid (Only (fun _ => False) w w') := by
  obtain ⟨u, a1, h1, h2, h3⟩ := hX
  exact tells0 hm hq hT h1 h2 h3 r2 hw
set_option maxRecDepth 100000 in
set_option maxHeartbeats 4000000 in
theorem sumEnds_any {w : World} (hT : TabS w) : Calls Tryd.prog 4 #[] w (YesB w) := by
  have HT := hid hT
  clear hT
  go_enter Tryd.func4, Tryd.ntmps4
  go_wp2_with fail
  go_loopw [1] (fun s wr => ∃ i : Nat, i ≤ 256 ∧ s = .int .i64 i ∧ Hid (Only (fun _ => False) w wr)) (fun s _ => 256 - (intOf s).toNat)
  case atStart => exact ⟨0, by omega, rfl, hid (Only.refl _ w)⟩
  case round =>
    obtain ⟨i, hi, rfl, HO⟩ := hrel
    by_cases hp : i < 256
    · have hp' : (i : Int) < 256 := by omega
      go_upto_region 4 with fail
      go_cut [36] from 8 to 36 (fun s36 wx => s36 = .bool false ∧ Hid (Only (fun _ => False) w wx))
      case first =>
        obtain ⟨p, hpp⟩ : ∃ p, p = i * 7 % 256 := ⟨_, rfl⟩
        obtain ⟨m, hmm⟩ : ∃ m, m = i % 41 := ⟨_, rfl⟩
        obtain ⟨q, hqq⟩ : ∃ q, q = i % 9 := ⟨_, rfl⟩
        have hw1 : IntKind.u8.wrap (i : Int) = (i : Int) := by rw [IntKind.wrap_u8]; omega
        have hw0 : IntKind.i64.wrap ((i : Int) * 7) = (i : Int) * 7 := by rw [IntKind.wrap_i64]; omega
        have hw2 : IntKind.u8.wrap ((i : Int) * 7) = (p : Int) := by rw [IntKind.wrap_u8]; omega
        have hm1 : ((i : Int)).tmod 41 = (m : Int) := by rw [Int.tmod_eq_emod_of_nonneg (by omega)]; omega
        have hq1 : ((i : Int)).tmod 9 = (q : Int) := by rw [Int.tmod_eq_emod_of_nonneg (by omega)]; omega
        have hm2 : (i : Int) % 41 = (m : Int) := by omega
        have hq2 : (i : Int) % 9 = (q : Int) := by omega
        have hmw : IntKind.i64.wrap (m : Int) = (m : Int) := by rw [IntKind.wrap_i64]; omega
        have hqw : IntKind.i64.wrap (q : Int) = (q : Int) := by rw [IntKind.wrap_i64]; omega
        have hm41 : m < 41 := by omega
        have hq9 : q < 9 := by omega
        have hp8 : p < 256 := by omega
        clear hpp hmm hqq
        obtain ⟨i0, hi0, hz0, hz1, hz2⟩ := info_parts byteInfoK
        have hmk := fun W => run_make (P := Tryd.prog) W 23 5 i0 (.int .u8 0) Tryd.underlying23 hi0 hz0 .i64 .i64 (m : Int) (m : Int) (by omega) (by omega) (by rw [hz2]; omega) (by omega)
        have hmk2 := fun W => run_make (P := Tryd.prog) W 23 5 i0 (.int .u8 0) Tryd.underlying23 hi0 hz0 .i64 .i64 (q : Int) (q : Int) (by omega) (by omega) (by rw [hz2]; omega) (by omega)
        rw [Int.toNat_natCast, hz1] at hmk hmk2
        clear hi0 hz0 hz1 hz2
        have HSe : Hid (∀ v a, RdY v (some ⟨a, 0, none⟩) [i, 1] → Only (fun _ => False) w v → Calls Tryd.prog 17 #[.slice (some ⟨a, 0, none⟩) 2 2] v fun e w' => ∃ o, e = .returned o ∧ Hid (OwY v w' o (sealed [i, 1])) ∧ Hid (Only (fun _ => False) w w')) := hid fun v a h1 h2 =>
          (refSeal (cap := 2) h1 (fun h => by cases h) (fun b hb => by
            simp only [List.mem_cons, List.not_mem_nil, or_false] at hb
            rcases hb with rfl | rfl <;> omega) (by simp)).mono fun e w' ⟨o, h3, h4⟩ => ⟨o, h3, h4, hid (h2.trans h4.out.only)⟩
        have HsB : Hid (∀ b ∈ sealed [i, 1], b < 256) := hid (sealed_lt fun b hb => by
          simp only [List.mem_cons, List.not_mem_nil, or_false] at hb
          rcases hb with rfl | rfl <;> omega)
        have hsl : (sealed [i, 1]).length ≤ 3000 := by rw [sealed_len]; simp
        generalize sealed [i, 1] = ss at HSe HsB hsl
        have Hp8 := hid hp8
        have Hp := hid hp
        go_region_held3 (fun w' => True ∧ Hid (Only (fun _ => False) w w'))
          (first | with_reducible assumption | with_reducible exact ⟨trivial, hid HO.out.drew⟩ | with_reducible exact ⟨trivial, by with_reducible assumption⟩ | with_reducible exact ⟨trivial, hid (HO.out.alloc _).drew⟩ | with_reducible exact ⟨trivial, hid ((HO.out.alloc _).alloc _).drew⟩ | with_reducible exact ⟨trivial, hid (((HO.out.alloc _).alloc _).alloc _).drew⟩ | with_reducible exact ⟨trivial, hid ((((HO.out.alloc _).alloc _).alloc _).alloc _).drew⟩ | with_reducible exact keepA (by with_reducible assumption) | with_reducible exact keepD (by with_reducible assumption))
          (first
            | (go_at_call 17; (with_reducible refine (HSe.out _ _ ?_ (show True ∧ Hid (Only (fun _ => False) w _) by with_reducible assumption).2.out).mono ?_); (repeat (first | with_reducible exact bk1 (by simp) | with_reducible exact bk2 (by simp) | with_reducible exact bkz (by simp) | with_reducible refine bk_drew ?_ | with_reducible refine bk_alloc ?_)); rintro e ws ⟨vs, rfl, HSs, HWs⟩; (obtain ⟨As, caps, rfl, _⟩ := HSs.out.isSlice))
            | (go_at_call 3; (with_reducible show Calls _ _ #[Value.slice _ 3 _, _] _ _); (with_reducible refine (tells3x Hp.out Hp8.out hsl HsB.out HT.out ?_ HSs.out ?_ ?_).mono ?_); ((first | with_reducible exact ⟨_, _, _, Only.refl _ _, by simp, by (repeat (first | with_reducible exact bk1 (by simp) | with_reducible exact bk2 (by simp) | with_reducible exact bkz (by simp) | with_reducible refine bk_drew ?_ | with_reducible refine bk_alloc ?_ | with_reducible refine bk_only HSs.out.only ?_)), by (repeat (first | with_reducible exact bk1 (by simp) | with_reducible exact bk2 (by simp) | with_reducible exact bkz (by simp) | with_reducible refine bk_drew ?_ | with_reducible refine bk_alloc ?_ | with_reducible refine bk_only HSs.out.only ?_))⟩ | with_reducible exact ⟨_, _, _, (Only.refl _ _).drew.trans HSs.out.only, by simp, by (repeat (first | with_reducible exact bk1 (by simp) | with_reducible exact bk2 (by simp) | with_reducible exact bkz (by simp) | with_reducible refine bk_drew ?_ | with_reducible refine bk_alloc ?_ | with_reducible refine bk_only HSs.out.only ?_)), by (repeat (first | with_reducible exact bk1 (by simp) | with_reducible exact bk2 (by simp) | with_reducible exact bkz (by simp) | with_reducible refine bk_drew ?_ | with_reducible refine bk_alloc ?_ | with_reducible refine bk_only HSs.out.only ?_))⟩ | with_reducible exact ⟨_, _, _, ((Only.refl _ _).alloc _).drew.trans HSs.out.only, by simp, by (repeat (first | with_reducible exact bk1 (by simp) | with_reducible exact bk2 (by simp) | with_reducible exact bkz (by simp) | with_reducible refine bk_drew ?_ | with_reducible refine bk_alloc ?_ | with_reducible refine bk_only HSs.out.only ?_)), by (repeat (first | with_reducible exact bk1 (by simp) | with_reducible exact bk2 (by simp) | with_reducible exact bkz (by simp) | with_reducible refine bk_drew ?_ | with_reducible refine bk_alloc ?_ | with_reducible refine bk_only HSs.out.only ?_))⟩)); ((first | with_reducible exact Only.refl _ _ | with_reducible exact (Only.refl _ _).alloc _ | with_reducible exact ((Only.refl _ _).alloc _).alloc _ | with_reducible exact (((Only.refl _ _).alloc _).alloc _).alloc _)); (exact (show True ∧ Hid (Only (fun _ => False) w _) by with_reducible assumption).2.out); rintro e wt ⟨rfl, HOt, HWt⟩)
            | (go_at_call 3; (with_reducible show Calls _ _ #[Value.slice _ 1 _, _] _ _); (with_reducible refine (tells0x (m := m) (by omega) (by omega) HT.out ?_ ?_ ?_).mono ?_); ((first | with_reducible exact ⟨_, _, Only.refl _ _, by simp, by (repeat (first | with_reducible exact bk1 (by simp) | with_reducible exact bk2 (by simp) | with_reducible exact bkz (by simp) | with_reducible refine bk_drew ?_ | with_reducible refine bk_alloc ?_))⟩ | with_reducible exact ⟨_, _, (Only.refl _ _).alloc _, by simp, by (repeat (first | with_reducible exact bk1 (by simp) | with_reducible exact bk2 (by simp) | with_reducible exact bkz (by simp) | with_reducible refine bk_drew ?_ | with_reducible refine bk_alloc ?_))⟩)); ((repeat (first | with_reducible exact bk1 (by simp) | with_reducible exact bk2 (by simp) | with_reducible exact bkz (by simp) | with_reducible refine bk_drew ?_ | with_reducible refine bk_alloc ?_))); (exact (show True ∧ Hid (Only (fun _ => False) w _) by with_reducible assumption).2.out); rintro e wu ⟨rfl, HOu, HWu⟩))
        all_goals (go_wp2_with fail; go_meet; case rel => exact ⟨rfl, (show True ∧ Hid (Only (fun _ => False) w _) by with_reducible assumption).2⟩)
      case rest =>
        obtain ⟨rfl, HO2⟩ := hcut
        go_wp2_with fail
        go_roundw
        case rel => exact ⟨i + 1, by omega, by go_num, HO2⟩
        case measure => simp [intOf]; omega
    · obtain rfl : i = 256 := by omega
      have h6 : ∀ b ∈ [1, 2, 3, 200, 0, 255], b < 256 := crc_lit _ (by decide)
      have HSe : Hid (Calls Tryd.prog 17 #[.slice (some ⟨wr.heap.size, 0, none⟩) 6 6] (wr.alloc (.cells #[.int .u8 1, .int .u8 2, .int .u8 3, .int .u8 200, .int .u8 0, .int .u8 255] 5)) fun e w' => ∃ v, e = .returned v ∧ Hid (OwY wr w' v (sealed [1, 2, 3, 200, 0, 255]))) := hid (by
        have hr : RdY (wr.alloc (.cells #[.int .u8 1, .int .u8 2, .int .u8 3, .int .u8 200, .int .u8 0, .int .u8 255] 5)) (some ⟨wr.heap.size, 0, none⟩) [1, 2, 3, 200, 0, 255] := RdV.of_row (World.rowIs_alloc wr #[.int .u8 1, .int .u8 2, .int .u8 3, .int .u8 200, .int .u8 0, .int .u8 255] _ _ fun i hi => by
          match i, hi with
          | 0, _ => rfl
          | 1, _ => rfl
          | 2, _ => rfl
          | 3, _ => rfl
          | 4, _ => rfl
          | 5, _ => rfl
          | k + 6, hi => exact absurd hi (by simp))
        have h := refSeal (cap := 6) hr (fun h => by cases h) h6 (by simp)
        exact h.mono fun e w' ⟨v, h1, h2⟩ => ⟨v, h1, hid (h2.out.lift ((Only.refl _ wr).alloc _))⟩)
      have HsB := hid (sealed_lt h6)
      have hsl : (sealed [1, 2, 3, 200, 0, 255]).length = 10 := sealed_len _
      clear h6
      generalize sealed [1, 2, 3, 200, 0, 255] = sl at HSe HsB hsl
      go_wp2_with fail
      refine HSe.out.mono ?_
      rintro e w2 ⟨v2, rfl, HO2⟩
      obtain ⟨g2, cap2, rfl, hc2⟩ := ten_at HO2.out hsl
      have HW2 := hid (HO.out.trans HO2.out.only)
      have HSL := hid hsl
      clear hsl HSe hp
      have HR2 : Hid (RdY w2 (some ⟨g2, 0, none⟩) sl) := hid (HO2.out.rd (Only.refl _ _)).2
      go_wp2_with fail
      go_loopw [3] (fun s wr => ∃ i : Nat, i ≤ 11 ∧ s = .int .i64 i ∧ Hid (Only (fun _ => False) w2 wr)) (fun s _ => 11 - (intOf s).toNat)
      case atStart => exact ⟨0, by omega, rfl, hid (Only.refl _ w2)⟩
      case round =>
        obtain ⟨i, hi, rfl, HO3⟩ := hrel
        by_cases hp : i < 11
        · have hp' : (i : Int) ≤ 10 := by omega
          have g1 : (i : Int) ≤ (cap2 : Int) := by omega
          have HTk : Hid (Calls Tryd.prog 3 #[.slice none 0 0, .slice (some ⟨g2, 0, none⟩) i cap2] wr fun e w' => e = .returned (.bool true) ∧ Hid (Only (fun _ => False) wr w')) := hid (by
            have e : (sl.take i).length = i := by rw [List.length_take, HSL.out]; omega
            have h := tellsNone (A1 := some ⟨g2, 0, none⟩) (cap1 := cap2) (bs := sl.take i) (w := wr) (by omega) (rdY_take (HR2.out.only HO3.out fun _ _ _ => no_) (by rw [HSL.out]; omega)) (fun b hb => HsB.out b (List.mem_of_mem_take hb)) (fun h => by cases h) (by omega) (HT.out.only (HW2.out.trans HO3.out))
            rw [e] at h
            exact h)
          go_wp2_with fail
          refine HTk.out.mono ?_
          rintro e w3 ⟨rfl, HO4⟩
          have HO5 := hid (HO3.out.trans HO4.out)
          clear HTk HO3 HO4
          go_wp2_with fail
          go_loopw [4] (fun s wr => ∃ k : Nat, k ≤ 255 ∧ s = .int .i64 k ∧ Hid (Only (fun _ => False) w2 wr)) (fun s _ => 255 - (intOf s).toNat)
          case atStart => exact ⟨0, by omega, rfl, HO5⟩
          case round =>
            obtain ⟨k, hk, rfl, HO6⟩ := hrel
            clear HO5
            by_cases hq : k < 255
            · have hq' : (k : Int) < 255 := by omega
              by_cases h10 : i < 10
              · have h10' : (i : Int) < 10 := by omega
                have HBg := hid (OwY.begin (Only.refl (fun _ => False) wr))
                have HR6 : Hid (RdY (wr.alloc (.cells #[] 5)) (some ⟨g2, 0, none⟩) sl) := hid (HR2.out.only (HO6.out.alloc _) fun _ _ _ => no_)
                have hkw : IntKind.u8.wrap (k : Int) = (k : Int) := by rw [IntKind.wrap_u8]; omega
                go_wp2_with (at_builtin; refine wpList_addY wr _ rfl (.tmp 60) (.tmp 61) rfl _ [] rfl HBg (some ⟨g2, 0, none⟩) 10 cap2 sl rfl HSL.out.symm (hid (fun h => by cases h)) HR6 (by simp; have := HSL.out; omega) ?_; intro v7 w7 HO7)
                rw [List.nil_append] at HO7
                obtain ⟨g7, cap7, rfl, hc7⟩ := ten_at HO7.out HSL.out
                obtain ⟨dc, fz, hgl, hqc, -⟩ := HO7.out.cellAt (j := i) (by rw [HSL.out]; omega)
                have hx8 : sl.getD i 0 < 256 := byts_of HsB.out i
                have HSet := hid fun x => HO7.out.set (x := x) (j := i) (by rw [HSL.out]; omega)
                unfold vY at dc
                generalize sl.getD i 0 = x at dc hx8
                obtain ⟨y, hy⟩ : ∃ y, y = (x + k) % 256 := ⟨_, rfl⟩
                have hyw : IntKind.u8.wrap ((x : Int) + (k : Int)) = (y : Int) := by rw [IntKind.wrap_u8]; omega
                have hyw2 : ((x : Int) + (k : Int)) % 256 = (y : Int) := by omega
                have hy8 : y < 256 := by omega
                clear hy
                have HO8 := hid (HSet.out y)
                have HTl : Hid (Calls Tryd.prog 3 #[.slice (some ⟨w7.heap.size, 0, none⟩) 1 1, .slice (some ⟨g7, 0, none⟩) 10 cap7] ((w7.setCell ⟨g7, i, none⟩ (.int .u8 (y : Int))).alloc (.cells #[.slice (some ⟨g7, 0, none⟩) 10 cap7] 23)) fun e w' => e = .returned (.bool true) ∧ Hid (Only (fun _ => False) ((w7.setCell ⟨g7, i, none⟩ (.int .u8 (y : Int))).alloc (.cells #[.slice (some ⟨g7, 0, none⟩) 10 cap7] 23)) w') ∧ Hid (Only (fun _ => False) w w')) := hid (by
                  have hB8 : ∀ b ∈ sl.set i y, b < 256 := set_lt HsB.out hy8
                  have hl8 : (sl.set i y).length = 10 := by rw [List.length_set]; exact HSL.out
                  have hr8 := (HO8.out.rd (Only.refl _ _)).2
                  have h := tellsRows (w := w) (u := w7.setCell ⟨g7, i, none⟩ (.int .u8 (y : Int))) (v := (w7.setCell ⟨g7, i, none⟩ (.int .u8 (y : Int))).alloc (.cells #[.slice (some ⟨g7, 0, none⟩) 10 cap7] 23)) (a := w7.heap.size) (c := 1) (cap1 := cap7) (A1 := some ⟨g7, 0, none⟩) (bs := sl.set i y) [((some ⟨g7, 0, none⟩, sl.set i y, cap7) : Rw)]
                    (fun r hr => by obtain rfl := List.mem_singleton.1 hr; exact ⟨hr8, fun h => by cases h⟩)
                    (fun r hr => by obtain rfl := List.mem_singleton.1 hr; exact hB8)
                    (fun r hr => by obtain rfl := List.mem_singleton.1 hr; show (sl.set i y).length ≤ 3000; omega)
                    (by simp) (by simp [World.setCell]) (by rw [show ([((some ⟨g7, 0, none⟩, sl.set i y, cap7) : Rw)].map rwVal).toArray = #[.slice (some ⟨g7, 0, none⟩) 10 cap7] by simp [rwVal, HSL.out]]; exact Only.refl _ _)
                    (by omega) (hr8.only ((Only.refl _ _).alloc _) fun _ _ _ => no_) hB8 (fun h => by cases h) (by omega) HT.out (((HW2.out.trans HO6.out).trans HO8.out.only).alloc _)
                  rw [hl8] at h
                  exact h)
                have HOz := hid ((HO6.out.trans HO8.out.only).alloc (.cells #[.slice (some ⟨g7, 0, none⟩) 10 cap7] 23))
                clear HSet HBg HR6 HO7 HO8
                go_wp2_with fail
                refine HTl.out.mono ?_
                rintro e w9 ⟨rfl, HO9, _⟩
                have HOn := hid (HOz.out.trans HO9.out)
                go_wp2_with fail
                go_roundw
                case rel => exact ⟨k + 1, by omega, by go_num, HOn⟩
                case measure => simp [intOf]; omega
              · have h10' : ¬ (i : Int) < 10 := by omega
                go_wp2_with fail
                go_roundw
                case rel => exact ⟨i + 1, by omega, by go_num, HO6⟩
                case measure => simp [intOf]; omega
            · have hq' : ¬ (k : Int) < 255 := by omega
              go_wp2_with fail
              go_roundw
              case rel => exact ⟨i + 1, by omega, by go_num, HO6⟩
              case measure => simp [intOf]; omega
        · obtain rfl : i = 11 := by omega
          have HOw := hid (HW2.out.trans HO3.out)
          have HOp : Hid (Calls Tryd.prog 12 #[.slice none 0 0] wr fun e w' => ∃ v, e = .returned (.tuple #[v, .int .i64 4]) ∧ Hid (OwY wr w' v [])) := hid (open_any (bs := []) (RdV.nil _) (fun b hb => by cases hb) (by simp) (by simp) (HT.out.only HOw.out))
          go_wp2_with fail
          refine HOp.out.mono ?_
          rintro e w4 ⟨v4, rfl, HO4⟩
          have HOx := hid (HOw.out.trans HO4.out.only)
          go_wp2_with fail
          refine (awake_any _ (HT.out.only HOx.out)).mono ?_
          rintro e w5 ⟨rfl, HO5⟩
          go_wp2_with fail
          go_ret
          exact ⟨rfl, hid (only_below (HOx.out.trans HO5.out))⟩
end Go.Proofs.YthfelifcikiogaaDoor
