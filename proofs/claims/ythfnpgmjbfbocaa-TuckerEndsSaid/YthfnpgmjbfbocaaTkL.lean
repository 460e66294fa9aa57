/- TuckerEnds. -/
import Derived.Test.YthfnpgmjbfbocaaTkK
import Derived.Test.YthfnpgmjbfbocaaTkW
namespace Go.Proofs.Ythfnpgmjbfbocaa
open Go.RowKit

theorem rd_at (w : World) (g : Nat) (z : Int) (hg : g = w.heap.size) : RdI (w.alloc (Obj.cells #[.int .i64 z] 3)) (some ⟨g, 0, none⟩) [z] := by subst hg; exact rd_oneI w z
def Lim (m q : Nat) : Prop := (m = 0 ∧ q ≤ 1364) ∨ (m = 1 ∧ q ≤ 340) ∨ (m = 2 ∧ q ≤ 84) ∨ (m = 3 ∧ q ≤ 20) ∨ (m = 4 ∧ q ≤ 4) ∨ (m = 5 ∧ q = 0)
theorem Lim.step {m q : Nat} (h : Lim m q) (hq : 0 < q) : Lim (m + 1) ((q - 1) / 4) ∧ m ≤ 5 := by
  unfold Lim at *
  omega
theorem Lim.few {m q : Nat} (h : Lim m q) : m ≤ 5 := by
  unfold Lim at h
  omega
theorem snoc_inI {l : List Int} {z : Int} (h : InI l) (h1 : -9223372036854775808 ≤ z ∧ z ≤ 9223372036854775807) : InI (l ++ [z]) := fun y hy => by
  rcases List.mem_append.1 hy with hy | hy
  · exact h y hy
  · simp at hy; subst hy; exact h1
theorem tells_law : ∀ (u : World) (A : Option Addr) (n c : Nat) (zs : List Int), RdI u A zs → InI zs → (A = none → n = 0 ∧ c = 0) → n = zs.length → n ≤ 300 → Calls Try.prog 8 #[.slice A n c] u fun e w' => e = .returned (.bool true) ∧ StO u w' := by
  intro u A n c zs h1 h2 h3 h4 h5
  subst h4
  exact (tuckerTells_any h1 h2 h3 (by omega)).mono fun e w' ⟨he, hb⟩ => ⟨he, hid (Only.of_below hb.out _)⟩
theorem fits_law : ∀ (u : World) (A B : Option Addr) (n m c d : Nat) (ws ls : List Int), RdI u A ws → InI ws → (A = none → n = 0 ∧ c = 0) → n = ws.length → RdI u B ls → InI ls → (B = none → m = 0 ∧ d = 0) → m = ls.length → n ≤ 1000 → m ≤ 1000 → Calls Try.prog 9 #[.slice A n c, .slice B m d] u fun e w' => e = .returned (.bool true) ∧ StO u w' := by
  intro u A B n m c d ws ls h1 h2 h3 h4 g1 g2 g3 g4 h5 h6
  subst h4
  subst g4
  exact (tuckerFits_any h1 h2 h3 g1 g2 g3 (by omega) (by omega)).mono fun e w' ⟨he, hb⟩ => ⟨he, hid (Only.of_below hb.out _)⟩
theorem four_at (wr : World) {r : Nat} (hr : r < 4) : ∃ x : Int, (wr.alloc (.cells #[.int .i64 0, .int .i64 1, .int .i64 2, .int .i64 5] 3)).cell? ⟨wr.heap.size, r, none⟩ = some (.int .i64 x) ∧ 0 ≤ x ∧ x ≤ 5 := by
  match r, hr with
  | 0, _ => exact ⟨0, by simp, by omega, by omega⟩
  | 1, _ => exact ⟨1, by simp, by omega, by omega⟩
  | 2, _ => exact ⟨2, by simp, by omega, by omega⟩
  | 3, _ => exact ⟨5, by simp, by omega, by omega⟩

def EndsL : List Int := [-9223372036854775808, -1, 0, 1, 4294967296, 4294967297, 9223372036854775807]
theorem endsL_inI : InI EndsL := by
  intro z hz
  simp [EndsL] at hz
  omega
theorem two_inI {a b : Int} (h1 : -9223372036854775808 ≤ a ∧ a ≤ 9223372036854775807) (h2 : -9223372036854775808 ≤ b ∧ b ≤ 9223372036854775807) : InI [a, b] := by
  intro z hz
  simp at hz
  omega
theorem one_inI {a : Int} (h1 : -9223372036854775808 ≤ a ∧ a ≤ 9223372036854775807) : InI [a] := by
  intro z hz
  simp at hz
  omega
theorem four_inI {a b : Int} (h1 : -9223372036854775808 ≤ a ∧ a ≤ 9223372036854775807) (h2 : -9223372036854775808 ≤ b ∧ b ≤ 9223372036854775807) : InI [a, 7, b, 4294967296] := by
  intro z hz
  simp at hz
  omega
theorem rd_cells' (w : World) (g : Nat) (zs : List Int) (arr : Array Value) (h : arr = (zs.map iv).toArray) (hg : g = w.heap.size) : RdI (w.alloc (.cells arr 3)) (some ⟨g, 0, none⟩) zs := by
  subst hg
  exact rd_cells w zs arr h

theorem rdL1 (w : World) (g : Nat) (a : Int) (hg : g = w.heap.size) : RdI (w.alloc (.cells #[.int .i64 a] 3)) (some ⟨g, 0, none⟩) [a] := rd_cells' w g [a] _ rfl hg
theorem rdL2 (w : World) (g : Nat) (a b : Int) (hg : g = w.heap.size) : RdI (w.alloc (.cells #[.int .i64 a, .int .i64 b] 3)) (some ⟨g, 0, none⟩) [a, b] := rd_cells' w g [a, b] _ rfl hg
theorem rdL4 (w : World) (g : Nat) (a b c d : Int) (hg : g = w.heap.size) : RdI (w.alloc (.cells #[.int .i64 a, .int .i64 b, .int .i64 c, .int .i64 d] 3)) (some ⟨g, 0, none⟩) [a, b, c, d] := rd_cells' w g [a, b, c, d] _ rfl hg
theorem isW_rep : isW (List.replicate 257 4294967296) = true := by
  unfold isW
  rw [List.length_replicate, Bool.and_eq_true]
  exact ⟨by decide, List.all_eq_true.2 fun z hz => by rw [List.eq_of_mem_replicate hz]; decide⟩
theorem rdI_take {w : World} {A : Option Addr} {xs : List Int} {k : Nat} (h : RdI w A xs) (hk : k ≤ xs.length) : RdI w A (xs.take k) := by
  intro h0
  have h1 : (xs.take k).length = k := by rw [List.length_take]; omega
  rw [h1] at h0
  obtain ⟨b, off, rfl, hc⟩ := h (by omega)
  refine ⟨b, off, rfl, fun j hj => ?_⟩
  rw [h1] at hj
  rw [hc j (by omega)]
  simp [vI, List.getD, List.getElem?_take_of_lt hj]
abbrev EdS (gE i k : Nat) (e1 e2 : Int) (wr u : World) : Prop := u.cell? ⟨gE, i, none⟩ = some (.int .i64 e1) ∧ u.cell? ⟨gE, k, none⟩ = some (.int .i64 e2) ∧ StO wr u
theorem edA {gE i k : Nat} {e1 e2 : Int} {wr u : World} {o : Obj} (HS : Hid (∀ u, StO wr u → EdS gE i k e1 e2 wr u)) (h : EdS gE i k e1 e2 wr u) : EdS gE i k e1 e2 wr (u.alloc o) := HS.out _ (hid (h.2.2.out.alloc _))
theorem edD {gE i k n : Nat} {e1 e2 : Int} {wr u : World} (HS : Hid (∀ u, StO wr u → EdS gE i k e1 e2 wr u)) (h : EdS gE i k e1 e2 wr u) : EdS gE i k e1 e2 wr (u.drewN n) := HS.out _ (hid (h.2.2.out.drewN _))
theorem rdI_drew {u : World} {A : Option Addr} {xs : List Int} (h : RdI u A xs) : RdI u.drew A xs := h.st (hid (Only.refl _ _).drew)
theorem rdI_alloc {u : World} {A : Option Addr} {xs : List Int} {o : Obj} (h : RdI u A xs) : RdI (u.alloc o) A xs := h.st (hid ((Only.refl _ _).alloc _))
set_option maxRecDepth 100000 in
set_option maxHeartbeats 8000000 in
theorem tuckerEnds_any (w : World) : Calls Try.prog 3 #[] w fun e w' => e = .returned (.bool true) ∧ Hid (Below w.heap.size w w') := by
  have HTT := hid tells_law
  have HTF := hid fits_law
  go_enter Try.func3, Try.ntmps3
  go_wp2_with fail
  go_loopw [1] (fun s wr => ∃ n : Nat, n ≤ 1365 ∧ s = .int .i64 n ∧ StO w wr) (fun s _ => 1365 - (intOf s).toNat)
  case atStart => exact ⟨0, by omega, rfl, hid (Only.refl _ _)⟩
  case round =>
    obtain ⟨n, hn, rfl, HO⟩ := hrel
    by_cases hp : n < 1365
    · as_aux_lemma =>
        have hp' : (n : Int) < 1365 := by omega
        go_wp2_with fail
        obtain ⟨wo, rfl⟩ : ∃ wo : World, wo = wr := ⟨_, rfl⟩
        go_loopw [2, 3, 4] (fun v u s4 wr => ∃ (xs ys : List Int) (m q : Nat), s4 = .int .i64 q ∧ Lim m q ∧ Hid (TwoI wo wr v xs u ys) ∧ Hid (xs.length = m ∧ ys.length = m ∧ InI xs ∧ InI ys)) (fun _ _ s4 _ => (intOf s4).toNat)
        case atStart => exact ⟨[], [], 0, n, rfl, .inl ⟨rfl, by omega⟩, hid TwoI.nil, hid ⟨rfl, rfl, (fun z hz => by cases hz), (fun z hz => by cases hz)⟩⟩
        case round =>
          obtain ⟨xs, ys, m, q, rfl, hL, HT, HI⟩ := hrel
          by_cases hq : 0 < q
          · have hq' : (0 : Int) < (q : Int) := by omega
            obtain ⟨hL2, hm5⟩ := hL.step hq
            have hqb : q ≤ 1364 := by unfold Lim at hL; omega
            obtain ⟨q2, hq2⟩ : ∃ q2, q2 = (q - 1) / 4 := ⟨_, rfl⟩
            have hq3 : ((q : Int) - 1).tdiv 4 = (q2 : Int) := by rw [Int.tdiv_eq_ediv_of_nonneg (by omega)]; omega
            have hq4 : ((q : Int) - 1) / 4 = (q2 : Int) := by omega
            have hq5 : q2 < q := by omega
            rw [← hq2] at hL2
            have HL2 := hid hL2
            have HI2 : Hid (∀ x y : Int, 0 ≤ x → x ≤ 5 → 0 ≤ y → y ≤ 5 → (xs ++ [x]).length = m + 1 ∧ (ys ++ [y]).length = m + 1 ∧ InI (xs ++ [x]) ∧ InI (ys ++ [y])) := hid fun x y _ _ _ _ => ⟨by simp [HI.out.1], by simp [HI.out.2.1], snoc_inI HI.out.2.2.1 (by omega), snoc_inI HI.out.2.2.2 (by omega)⟩
            have hxl : xs.length ≤ 5 ∧ ys.length ≤ 5 := by rw [HI.out.1, HI.out.2.1]; omega
            have Hxl := hid hxl
            obtain ⟨r, hr⟩ : ∃ r, r = (q - 1) % 4 := ⟨_, rfl⟩
            have hr1 : ((q : Int) - 1).tmod 4 = (r : Int) := by rw [Int.tmod_eq_emod_of_nonneg (by omega)]; omega
            have hr2 : ((q : Int) - 1) % 4 = (r : Int) := by omega
            have hr4 : r = 0 ∨ r = 1 ∨ r = 2 ∨ r = 3 := by omega
            clear hr hq2 hL2 hL HI hxl
            rcases hr4 with rfl | rfl | rfl | rfl
            all_goals
              go_wp2_with (at_builtin; first
                | (refine wpList_add2 wo _ rfl (.tmp 25) (.tmp 32) rfl u2 xs u3 ys rfl (hid (HT.out.st (((Only.refl _ _).alloc _).alloc _))) ⟨wr.heap.size + 1, 0, none⟩ 1 _ rfl (hid (rd_at _ _ _ (by simp))) (by have := Hxl.out; omega) ?_; intro v6 w6 HT6)
                | (refine wpList_add2 wo _ rfl (.tmp 34) (.tmp 39) rfl u3 ys v6 _ rfl (hid (HT6.out.swap.st ((Only.refl _ _).alloc _))) ⟨w6.heap.size, 0, none⟩ 1 _ rfl (hid (rd_at _ _ _ rfl)) (by have := Hxl.out; omega) ?_; intro v7 w7 HT7))
              have HT8 := hid HT7.out.swap
              clear HT HT6 HT7
              go_roundw
              case rel => exact ⟨_, _, m + 1, q2, by go_num, HL2.out, HT8, hid (HI2.out _ _ (by omega) (by omega) (by omega) (by omega))⟩
              case measure => simp [intOf]; omega
          · obtain rfl : q = 0 := by omega
            have hm5 := hL.few
            obtain ⟨A1, c1, rfl, HA1⟩ := HT.out.a.made HI.out.1
            obtain ⟨A2, c2, rfl, HA2⟩ := HT.out.b.made HI.out.2.1
            have HO1 : StO w wr := hid (HO.out.trans HT.out.a.only)
            have HXi := hid HI.out.2.2.1
            have HYi := hid HI.out.2.2.2
            have hA1 := hid HA1.out.rd
            have hA2 := hid HA2.out.rd
            have hcap : m ≤ c2 ∧ c2 ≤ maxLen := by
              obtain ⟨A', c', e, _, _, _, h5, h6⟩ := HA2.out.shape
              injection e with _ e2 e3
              rw [HI.out.2.1] at h5
              omega
            have HSm : Hid (m ≠ 0 → ∃ g, A2 = some ⟨g, 0, none⟩) := hid fun h0 => by
              obtain ⟨A', c', e, _, _, h4, _⟩ := HA2.out.shape
              injection e with e1
              subst e1
              obtain ⟨g, F, h5, _⟩ := h4 (by rw [HI.out.2.1]; exact h0)
              exact ⟨g, h5⟩
            have HYl := hid HI.out.2.1
            clear HT HI hL HO HA1 HA2
            unfold maxLen at hcap
            have hcap1 := hcap.1
            have hcap2 := hcap.2
            clear hcap
            go_wp2_with fail
            refine (HTT.out _ A1 m c1 xs hA1.out.1 HXi.out hA1.out.2.2 hA1.out.2.1 (by omega)).mono ?_
            rintro e w2 ⟨rfl, HO2⟩
            have hA1b := hid (hA1.out.1.st HO2)
            have hA2b := hid (hA2.out.1.st HO2)
            have HO02 : StO w w2 := hid (HO1.out.trans HO2.out)
            clear HO2 HO1
            go_wp2_with fail
            refine (HTF.out _ A1 A2 m m c1 c2 xs ys hA1b.out HXi.out hA1.out.2.2 hA1.out.2.1 hA2b.out HYi.out hA2.out.2.2 hA2.out.2.1 (by omega) (by omega)).mono ?_
            rintro e w3 ⟨rfl, HO3⟩
            have hA1c := hid (hA1b.out.st HO3)
            have hA2c := hid (hA2b.out.st HO3)
            have HO03 : StO w w3 := hid (HO02.out.trans HO3.out)
            clear HO3 HO02 hA1b hA2b
            by_cases hm0 : 0 < m
            · have hm0' : (0 : Int) < (m : Int) := by omega
              have hm1' : (1 : Int) ≤ (m : Int) := by omega
              obtain ⟨g, rfl⟩ := HSm.out (by omega)
              by_cases hc1 : c2 = 1
              · obtain rfl : m = 1 := by omega
                subst hc1
                go_wp2_with fail
                refine (HTF.out _ A1 (some ⟨g, 0, none⟩) 1 0 c1 0 xs [] hA1c.out HXi.out hA1.out.2.2 hA1.out.2.1 (RdV.nil _) (fun z hz => by cases hz) (fun h => by cases h) rfl (by omega) (by omega)).mono ?_
                rintro e w4 ⟨rfl, HO4⟩
                have HO04 : StO w w4 := hid (HO03.out.trans HO4.out)
                clear HO4 HO03
                go_wp2_with fail
                go_roundw
                case rel => exact ⟨n + 1, by omega, by go_num, HO04⟩
                case measure => simp [intOf]; omega
              · have hc2' : ¬ (c2 : Int) = 1 := by omega
                have hrd : Hid (RdI w3 (some ⟨g, 1, none⟩) (ys.drop 1)) := hid (by
                  show RdV w3 _ (ys.drop 1).length _
                  rw [List.length_drop, HYl.out]
                  exact rd_from hA2c.out HYl.out (by omega))
                have hyi : Hid (InI (ys.drop 1)) := hid fun z hz => HYi.out z (List.mem_of_mem_drop hz)
                have hyl : Hid (m - 1 = (ys.drop 1).length) := hid (by rw [List.length_drop, HYl.out])
                go_wp2_with fail
                refine (HTF.out _ A1 (some ⟨g, 1, none⟩) m (m - 1) c1 (c2 - 1) xs (ys.drop 1) hA1c.out HXi.out hA1.out.2.2 hA1.out.2.1 hrd.out hyi.out (fun h => by cases h) hyl.out (by omega) (by omega)).mono ?_
                rintro e w4 ⟨rfl, HO4⟩
                have HO04 : StO w w4 := hid (HO03.out.trans HO4.out)
                clear HO4 HO03
                go_wp2_with fail
                go_roundw
                case rel => exact ⟨n + 1, by omega, by go_num, HO04⟩
                case measure => simp [intOf]; omega
            · have hm0' : ¬ (0 : Int) < (m : Int) := by omega
              go_wp2_with fail
              go_roundw
              case rel => exact ⟨n + 1, by omega, by go_num, HO03⟩
              case measure => simp [intOf]; omega
    · obtain rfl : n = 1365 := by omega
      go_wp2_with fail
      have HRE : Hid (RdI (wr.alloc (.cells #[.int .i64 (-9223372036854775808), .int .i64 (-1), .int .i64 0, .int .i64 1, .int .i64 4294967296, .int .i64 4294967297, .int .i64 9223372036854775807] 3)) (some ⟨wr.heap.size, 0, none⟩) EndsL) := hid (rd_cells wr EndsL _ rfl)
      have HOE : StO w (wr.alloc (.cells #[.int .i64 (-9223372036854775808), .int .i64 (-1), .int .i64 0, .int .i64 1, .int .i64 4294967296, .int .i64 4294967297, .int .i64 9223372036854775807] 3)) := hid (HO.out.alloc _)
      generalize wr.heap.size = gE at *
      generalize wr.alloc (.cells #[.int .i64 (-9223372036854775808), .int .i64 (-1), .int .i64 0, .int .i64 1, .int .i64 4294967296, .int .i64 4294967297, .int .i64 9223372036854775807] 3) = wE at *
      clear HO
      go_loopw [6] (fun s wr => ∃ i : Nat, i ≤ 7 ∧ s = .int .i64 i ∧ StO w wr ∧ Hid (RdI wr (some ⟨gE, 0, none⟩) EndsL)) (fun s _ => 7 - (intOf s).toNat)
      case atStart => exact ⟨0, by omega, rfl, HOE, HRE⟩
      case round =>
        obtain ⟨i, hi, rfl, HO, HR⟩ := hrel
        clear HOE HRE
        by_cases hpi : i < 7
        · as_aux_lemma =>
            have hpi' : (i : Int) < 7 := by omega
            go_wp2_with fail
            obtain ⟨wo, rfl⟩ : ∃ wo : World, wo = wr := ⟨_, rfl⟩
            go_loopw [7] (fun s wr => ∃ k : Nat, k ≤ 7 ∧ s = .int .i64 k ∧ StO w wr ∧ Hid (RdI wr (some ⟨gE, 0, none⟩) EndsL)) (fun s _ => 7 - (intOf s).toNat)
            case atStart => exact ⟨0, by omega, rfl, HO, HR⟩
            case round =>
              obtain ⟨k, hk, rfl, HO1, HR1⟩ := hrel
              clear HO HR
              by_cases hpk : k < 7
              · have hpk' : (k : Int) < 7 := by omega
                have HCi : Hid (∀ u, RdI u (some ⟨gE, 0, none⟩) EndsL → u.cell? ⟨gE, i, none⟩ = some (.int .i64 (EndsL.getD i 0)) ∧ u.cell? ⟨gE, k, none⟩ = some (.int .i64 (EndsL.getD k 0)) ∧ gE < u.heap.size) := hid fun u h => by
                  obtain ⟨b, off, e, h1, h2⟩ := h.at (k := i) (by exact hpi)
                  obtain ⟨b', off', e', h3, _⟩ := h.at (k := k) (by exact hpk)
                  injection e with e
                  injection e with e1 e2
                  injection e' with e'
                  injection e' with e1' e2'
                  subst e1
                  subst e2
                  subst e1'
                  subst e2'
                  rw [Nat.zero_add] at h1 h3
                  exact ⟨h1, h3, h2⟩
                have hb1 := endsL_inI _ (getD_mem (zs := EndsL) (k := i) hpi)
                have hb2 := endsL_inI _ (getD_mem (zs := EndsL) (k := k) hpk)
                generalize EndsL.getD i 0 = e1 at *
                generalize EndsL.getD k 0 = e2 at *
                have Hb1 := hid hb1
                have Hb2 := hid hb2
                clear hb1 hb2
                have HS : Hid (∀ u, StO wr u → EdS gE i k e1 e2 wr u) := hid fun u h => by
                  have cs := HCi.out u (HR1.out.st h)
                  exact ⟨cs.1, cs.2.1, h⟩
                have lE := (HCi.out _ HR1.out).2.2
                obtain ⟨ca, cb, HS0⟩ := HS.out wr (hid (Only.refl _ _))
                have hi0 : (0 : Int) ≤ (i : Int) := by omega
                have hk0 : (0 : Int) ≤ (k : Int) := by omega
                have HT2 : Hid (∀ (u : World) (A : Option Addr) (n c : Nat) (zs : List Int), RdI u A zs → EdS gE i k e1 e2 wr u → InI zs → (A = none → n = 0 ∧ c = 0) → n = zs.length → n ≤ 300 → Calls Try.prog 8 #[.slice A n c] u fun e w' => e = .returned (.bool true) ∧ EdS gE i k e1 e2 wr w') := hid fun u A n c zs h1 h2 h3 h4 h5 h6 => (HTT.out u A n c zs h1 h3 h4 h5 h6).mono fun e w' ⟨h7, h8⟩ => ⟨h7, HS.out _ (hid (h2.2.2.out.trans h8.out))⟩
                have HF2 : Hid (∀ (u : World) (A B : Option Addr) (n m c d : Nat) (ws ls : List Int), RdI u A ws → RdI u B ls → EdS gE i k e1 e2 wr u → InI ws → (A = none → n = 0 ∧ c = 0) → n = ws.length → InI ls → (B = none → m = 0 ∧ d = 0) → m = ls.length → n ≤ 1000 → m ≤ 1000 → Calls Try.prog 9 #[.slice A n c, .slice B m d] u fun e w' => e = .returned (.bool true) ∧ EdS gE i k e1 e2 wr w') := hid fun u A B n m c d ws ls h1 h2 h3 h4 h5 h6 h7 h8 h9 h10 h11 => (HTF.out u A B n m c d ws ls h1 h4 h5 h6 h2 h7 h8 h9 h10 h11).mono fun e w' ⟨h12, h13⟩ => ⟨h12, HS.out _ (hid (h3.2.2.out.trans h13.out))⟩
                clear HCi
                go_upto_region 19 with fail
                go_cut [140] from 75 to 140 (fun s wx => s = .bool false ∧ StO wr wx)
                case first =>
                  as_aux_lemma =>
                    dsimp only [List.append]
                    refine wp_region_noPanic ?_
                    refine wp_region_held_drew (S := fun w' => w'.cell? ⟨gE, i, none⟩ = some (.int .i64 e1) ∧ w'.cell? ⟨gE, k, none⟩ = some (.int .i64 e2) ∧ StO wr w') (by kernel_rfl) (by first | with_reducible exact HS.out _ (hid (Only.refl _ _)) | with_reducible exact HS.out _ (hid (Only.refl _ _).drew) | exact HS.out _ (hid (Only.refl _ _).drew)) (fun hHeld => ?_)
                    refine wpAnyH_take (i := 0) (oi := { dst := some 75, op := Op.move (Operand.tmp 5), type := 22, pos := "law.go:64", after := #[], guard := none }) (v := ?_) rfl (by kernel_rfl) (by kernel_rfl) (by kernel_rfl) (fun _ _ _ h => h) (Or.inl ⟨by rfl, ?_⟩) (by with_reducible assumption) ?_
                    rotate_left
                    · (intro w' hSw; (try dsimp only at hSw); first | (go_simp; done) | (go_simp; with_reducible rfl))
                    (try simp only [Act.put, List.setIfInBounds_toArray, List.set_cons_zero, List.set_cons_succ])
                    refine wpAnyH_take (i := 1) (oi := { dst := some 76, op := Op.move (Operand.tmp 6), type := 3, pos := "law.go:64", after := #[], guard := none }) (v := ?_) rfl (by kernel_rfl) (by kernel_rfl) (by kernel_rfl) (fun _ _ _ h => h) (Or.inl ⟨by rfl, ?_⟩) (by with_reducible assumption) ?_
                    rotate_left
                    · (intro w' hSw; (try dsimp only at hSw); first | (go_simp; done) | (go_simp; with_reducible rfl))
                    (try simp only [Act.put, List.setIfInBounds_toArray, List.set_cons_zero, List.set_cons_succ])
                    refine wpAnyH_take (i := 2) (oi := { dst := some 77, op := Op.indexAddr 22 (Operand.tmp 75) (Operand.tmp 76), type := 0, pos := "law.go:64", after := #[{ on := 0, ground := Ground.data }, { on := 1, ground := Ground.data }], guard := none }) (v := ?_) rfl (by kernel_rfl) (by kernel_rfl) (by kernel_rfl) (fun _ _ _ h => h) (Or.inl ⟨by rfl, ?_⟩) (by with_reducible assumption) ?_
                    rotate_left
                    · (intro w' hSw; (try dsimp only at hSw); first | (go_simp; done) | (go_simp; with_reducible rfl))
                    (try simp only [Act.put, List.setIfInBounds_toArray, List.set_cons_zero, List.set_cons_succ])
                    refine wpAnyH_take (i := 3) (oi := { dst := some 78, op := Op.load 3 (Operand.tmp 77), type := 3, pos := "law.go:64", after := #[{ on := 2, ground := Ground.data }], guard := none }) (v := ?_) rfl (by kernel_rfl) (by kernel_rfl) (by kernel_rfl) (fun _ _ _ h => h) (Or.inl ⟨by rfl, ?_⟩) (by with_reducible assumption) ?_
                    rotate_left
                    · (intro w' hSw; (try dsimp only at hSw); first | (go_simp; done) | (go_simp; with_reducible rfl))
                    (try simp only [Act.put, List.setIfInBounds_toArray, List.set_cons_zero, List.set_cons_succ])
                    refine wpAnyH_take (i := 4) (oi := { dst := some 79, op := Op.move (Operand.tmp 5), type := 22, pos := "law.go:64", after := #[], guard := none }) (v := ?_) rfl (by kernel_rfl) (by kernel_rfl) (by kernel_rfl) (fun _ _ _ h => h) (Or.inl ⟨by rfl, ?_⟩) (by with_reducible assumption) ?_
                    rotate_left
                    · (intro w' hSw; (try dsimp only at hSw); first | (go_simp; done) | (go_simp; with_reducible rfl))
                    (try simp only [Act.put, List.setIfInBounds_toArray, List.set_cons_zero, List.set_cons_succ])
                    refine wpAnyH_take (i := 5) (oi := { dst := some 80, op := Op.move (Operand.tmp 7), type := 3, pos := "law.go:64", after := #[], guard := none }) (v := ?_) rfl (by kernel_rfl) (by kernel_rfl) (by kernel_rfl) (fun _ _ _ h => h) (Or.inl ⟨by rfl, ?_⟩) (by with_reducible assumption) ?_
                    rotate_left
                    · (intro w' hSw; (try dsimp only at hSw); first | (go_simp; done) | (go_simp; with_reducible rfl))
                    (try simp only [Act.put, List.setIfInBounds_toArray, List.set_cons_zero, List.set_cons_succ])
                    refine wpAnyH_take (i := 6) (oi := { dst := some 81, op := Op.indexAddr 22 (Operand.tmp 79) (Operand.tmp 80), type := 0, pos := "law.go:64", after := #[{ on := 4, ground := Ground.data }, { on := 5, ground := Ground.data }], guard := none }) (v := ?_) rfl (by kernel_rfl) (by kernel_rfl) (by kernel_rfl) (fun _ _ _ h => h) (Or.inl ⟨by rfl, ?_⟩) (by with_reducible assumption) ?_
                    rotate_left
                    · (intro w' hSw; (try dsimp only at hSw); first | (go_simp; done) | (go_simp; with_reducible rfl))
                    (try simp only [Act.put, List.setIfInBounds_toArray, List.set_cons_zero, List.set_cons_succ])
                    refine wpAnyH_take (i := 7) (oi := { dst := some 82, op := Op.load 3 (Operand.tmp 81), type := 3, pos := "law.go:64", after := #[{ on := 6, ground := Ground.data }], guard := none }) (v := ?_) rfl (by kernel_rfl) (by kernel_rfl) (by kernel_rfl) (fun _ _ _ h => h) (Or.inl ⟨by rfl, ?_⟩) (by with_reducible assumption) ?_
                    rotate_left
                    · (intro w' hSw; (try dsimp only at hSw); first | (go_simp; done) | (go_simp; with_reducible rfl))
                    (try simp only [Act.put, List.setIfInBounds_toArray, List.set_cons_zero, List.set_cons_succ])
                    refine wpAnyH_ready (rs := [8]) (by kernel_rfl) (by simp) ?_
                    refine AllReadyH.cons (o := { dst := some 83, op := Op.buildSlice 22 2 #[(0, Operand.tmp 78), (1, Operand.tmp 82)], type := 22, pos := "law.go:64", after := #[{ on := 3, ground := Ground.data }, { on := 7, ground := Ground.data }], guard := none }) rfl (fun K hK => ?_) AllReadyH.nil
                    go_simp
                    refine hK.out _ _ (by first | with_reducible exact edA HS (by with_reducible assumption) | with_reducible exact HS.out _ (hid ((Only.refl _ _).alloc _).drew)) (fun hHeld => ?_)
                    clear hK K
                    (try simp only [Act.put, List.setIfInBounds_toArray, List.set_cons_zero, List.set_cons_succ])
                    refine wpAnyH_ready (rs := [9]) (by kernel_rfl) (by simp) ?_
                    refine AllReadyH.cons (o := { dst := some 84, op := Op.call { callee := Callee.value (Operand.func 8), args := #[Operand.tmp 83], argTypes := #[22] }, type := 4, pos := "law.go:64", after := #[{ on := 8, ground := Ground.data }], guard := none }) rfl (fun K hK => ?_) AllReadyH.nil
                    go_simp
                    (with_reducible refine (HT2.out _ _ _ _ [e1, e2] ?_ (by with_reducible assumption) (two_inI Hb1.out Hb2.out) (fun h => by cases h) (by simp) (by omega)).mono ?_)
                    (repeat (first | with_reducible exact rdL2 _ _ _ _ (by simp) | with_reducible refine rdI_drew ?_ | with_reducible refine rdI_alloc ?_))
                    rintro e wa ⟨rfl, HOa⟩
                    go_wp2_with fail
                    refine hK.out _ _ (by with_reducible assumption) (fun hHeld => ?_)
                    clear hK K
                    (try simp only [Act.put, List.setIfInBounds_toArray, List.set_cons_zero, List.set_cons_succ])
                    refine wpAnyH_take (i := 10) (oi := { dst := some 85, op := Op.unOp UnOp.not 4 (Operand.tmp 84), type := 4, pos := "law.go:64", after := #[{ on := 9, ground := Ground.data }], guard := none }) (v := ?_) rfl (by kernel_rfl) (by kernel_rfl) (by kernel_rfl) (fun _ _ _ h => h) (Or.inl ⟨by rfl, ?_⟩) (by with_reducible assumption) ?_
                    rotate_left
                    · (intro w' hSw; (try dsimp only at hSw); first | (go_simp; done) | (go_simp; with_reducible rfl))
                    (try simp only [Act.put, List.setIfInBounds_toArray, List.set_cons_zero, List.set_cons_succ])
                    refine wpAnyH_take (i := 11) (oi := { dst := some 86, op := Op.move (Operand.tmp 85), type := 4, pos := "law.go:64", after := #[{ on := 10, ground := Ground.data }, { on := 9, ground := Ground.chain }], guard := none }) (v := ?_) rfl (by kernel_rfl) (by kernel_rfl) (by kernel_rfl) (fun _ _ _ h => h) (Or.inl ⟨by rfl, ?_⟩) (by with_reducible assumption) ?_
                    rotate_left
                    · (intro w' hSw; (try dsimp only at hSw); first | (go_simp; done) | (go_simp; with_reducible rfl))
                    (try simp only [Act.put, List.setIfInBounds_toArray, List.set_cons_zero, List.set_cons_succ])
                    refine wpAnyH_take (i := 12) (oi := { dst := some 87, op := Op.move (Operand.tmp 5), type := 22, pos := "law.go:64", after := #[{ on := 11, ground := Ground.guard }], guard := some (11, false) }) (v := ?_) rfl (by kernel_rfl) (by kernel_rfl) (by kernel_rfl) (fun _ _ _ h => h) (Or.inl ⟨by rfl, ?_⟩) (by with_reducible assumption) ?_
                    rotate_left
                    · (intro w' hSw; (try dsimp only at hSw); first | (go_simp; done) | (go_simp; with_reducible rfl))
                    (try simp only [Act.put, List.setIfInBounds_toArray, List.set_cons_zero, List.set_cons_succ])
                    refine wpAnyH_take (i := 13) (oi := { dst := some 88, op := Op.move (Operand.tmp 6), type := 3, pos := "law.go:64", after := #[{ on := 11, ground := Ground.guard }], guard := some (11, false) }) (v := ?_) rfl (by kernel_rfl) (by kernel_rfl) (by kernel_rfl) (fun _ _ _ h => h) (Or.inl ⟨by rfl, ?_⟩) (by with_reducible assumption) ?_
                    rotate_left
                    · (intro w' hSw; (try dsimp only at hSw); first | (go_simp; done) | (go_simp; with_reducible rfl))
                    (try simp only [Act.put, List.setIfInBounds_toArray, List.set_cons_zero, List.set_cons_succ])
                    refine wpAnyH_take (i := 14) (oi := { dst := some 89, op := Op.indexAddr 22 (Operand.tmp 87) (Operand.tmp 88), type := 0, pos := "law.go:64", after := #[{ on := 12, ground := Ground.data }, { on := 13, ground := Ground.data }, { on := 11, ground := Ground.guard }], guard := some (11, false) }) (v := ?_) rfl (by kernel_rfl) (by kernel_rfl) (by kernel_rfl) (fun _ _ _ h => h) (Or.inl ⟨by rfl, ?_⟩) (by with_reducible assumption) ?_
                    rotate_left
                    · (intro w' hSw; (try dsimp only at hSw); first | (go_simp; done) | (go_simp; with_reducible rfl))
                    (try simp only [Act.put, List.setIfInBounds_toArray, List.set_cons_zero, List.set_cons_succ])
                    refine wpAnyH_take (i := 15) (oi := { dst := some 90, op := Op.load 3 (Operand.tmp 89), type := 3, pos := "law.go:64", after := #[{ on := 14, ground := Ground.data }, { on := 11, ground := Ground.guard }], guard := some (11, false) }) (v := ?_) rfl (by kernel_rfl) (by kernel_rfl) (by kernel_rfl) (fun _ _ _ h => h) (Or.inl ⟨by rfl, ?_⟩) (by with_reducible assumption) ?_
                    rotate_left
                    · (intro w' hSw; (try dsimp only at hSw); first | (go_simp; done) | (go_simp; with_reducible rfl))
                    (try simp only [Act.put, List.setIfInBounds_toArray, List.set_cons_zero, List.set_cons_succ])
                    refine wpAnyH_take (i := 16) (oi := { dst := some 91, op := Op.move (Operand.tmp 5), type := 22, pos := "law.go:64", after := #[{ on := 11, ground := Ground.guard }], guard := some (11, false) }) (v := ?_) rfl (by kernel_rfl) (by kernel_rfl) (by kernel_rfl) (fun _ _ _ h => h) (Or.inl ⟨by rfl, ?_⟩) (by with_reducible assumption) ?_
                    rotate_left
                    · (intro w' hSw; (try dsimp only at hSw); first | (go_simp; done) | (go_simp; with_reducible rfl))
                    (try simp only [Act.put, List.setIfInBounds_toArray, List.set_cons_zero, List.set_cons_succ])
                    refine wpAnyH_take (i := 17) (oi := { dst := some 92, op := Op.move (Operand.tmp 7), type := 3, pos := "law.go:64", after := #[{ on := 11, ground := Ground.guard }], guard := some (11, false) }) (v := ?_) rfl (by kernel_rfl) (by kernel_rfl) (by kernel_rfl) (fun _ _ _ h => h) (Or.inl ⟨by rfl, ?_⟩) (by with_reducible assumption) ?_
                    rotate_left
                    · (intro w' hSw; (try dsimp only at hSw); first | (go_simp; done) | (go_simp; with_reducible rfl))
                    (try simp only [Act.put, List.setIfInBounds_toArray, List.set_cons_zero, List.set_cons_succ])
                    refine wpAnyH_take (i := 18) (oi := { dst := some 93, op := Op.indexAddr 22 (Operand.tmp 91) (Operand.tmp 92), type := 0, pos := "law.go:64", after := #[{ on := 16, ground := Ground.data }, { on := 17, ground := Ground.data }, { on := 11, ground := Ground.guard }], guard := some (11, false) }) (v := ?_) rfl (by kernel_rfl) (by kernel_rfl) (by kernel_rfl) (fun _ _ _ h => h) (Or.inl ⟨by rfl, ?_⟩) (by with_reducible assumption) ?_
                    rotate_left
                    · (intro w' hSw; (try dsimp only at hSw); first | (go_simp; done) | (go_simp; with_reducible rfl))
                    (try simp only [Act.put, List.setIfInBounds_toArray, List.set_cons_zero, List.set_cons_succ])
                    refine wpAnyH_take (i := 19) (oi := { dst := some 94, op := Op.load 3 (Operand.tmp 93), type := 3, pos := "law.go:64", after := #[{ on := 18, ground := Ground.data }, { on := 11, ground := Ground.guard }], guard := some (11, false) }) (v := ?_) rfl (by kernel_rfl) (by kernel_rfl) (by kernel_rfl) (fun _ _ _ h => h) (Or.inl ⟨by rfl, ?_⟩) (by with_reducible assumption) ?_
                    rotate_left
                    · (intro w' hSw; (try dsimp only at hSw); first | (go_simp; done) | (go_simp; with_reducible rfl))
                    (try simp only [Act.put, List.setIfInBounds_toArray, List.set_cons_zero, List.set_cons_succ])
                    refine wpAnyH_ready (rs := [20]) (by kernel_rfl) (by simp) ?_
                    refine AllReadyH.cons (o := { dst := some 95, op := Op.buildSlice 22 4 #[(0, Operand.tmp 90), (1, Operand.const (Value.int IntKind.i64 7)), (2, Operand.tmp 94), (3, Operand.const (Value.int IntKind.i64 4294967296))], type := 22, pos := "law.go:64", after := #[{ on := 15, ground := Ground.data }, { on := 19, ground := Ground.data }, { on := 11, ground := Ground.guard }], guard := some (11, false) }) rfl (fun K hK => ?_) AllReadyH.nil
                    go_simp
                    refine hK.out _ _ (by first | with_reducible exact edA HS (by with_reducible assumption) | with_reducible exact HS.out _ (hid ((Only.refl _ _).alloc _).drew)) (fun hHeld => ?_)
                    clear hK K
                    (try simp only [Act.put, List.setIfInBounds_toArray, List.set_cons_zero, List.set_cons_succ])
                    as_aux_lemma =>
                      refine wpAnyH_ready (rs := [21]) (by kernel_rfl) (by simp) ?_
                      refine AllReadyH.cons (o := { dst := some 96, op := Op.call { callee := Callee.value (Operand.func 8), args := #[Operand.tmp 95], argTypes := #[22] }, type := 4, pos := "law.go:64", after := #[{ on := 20, ground := Ground.data }, { on := 11, ground := Ground.chain }, { on := 11, ground := Ground.guard }], guard := some (11, false) }) rfl (fun K hK => ?_) AllReadyH.nil
                      go_simp
                      (with_reducible refine (HT2.out _ _ _ _ [e1, 7, e2, 4294967296] ?_ (by with_reducible assumption) (four_inI Hb1.out Hb2.out) (fun h => by cases h) (by simp) (by omega)).mono ?_)
                      (repeat (first | with_reducible exact rdL4 _ _ _ _ _ _ (by simp) | with_reducible refine rdI_drew ?_ | with_reducible refine rdI_alloc ?_))
                      rintro e wa ⟨rfl, HOa⟩
                      go_wp2_with fail
                      refine hK.out _ _ (by with_reducible assumption) (fun hHeld => ?_)
                      clear hK K
                      (try simp only [Act.put, List.setIfInBounds_toArray, List.set_cons_zero, List.set_cons_succ])
                      refine wpAnyH_take (i := 22) (oi := { dst := some 97, op := Op.unOp UnOp.not 4 (Operand.tmp 96), type := 4, pos := "law.go:64", after := #[{ on := 21, ground := Ground.data }, { on := 11, ground := Ground.guard }], guard := some (11, false) }) (v := ?_) rfl (by kernel_rfl) (by kernel_rfl) (by kernel_rfl) (fun _ _ _ h => h) (Or.inl ⟨by rfl, ?_⟩) (by with_reducible assumption) ?_
                      rotate_left
                      · (intro w' hSw; (try dsimp only at hSw); first | (go_simp; done) | (go_simp; with_reducible rfl))
                      (try simp only [Act.put, List.setIfInBounds_toArray, List.set_cons_zero, List.set_cons_succ])
                      refine wpAnyH_take (i := 23) (oi := { dst := some 98, op := Op.pick (Operand.tmp 86) (Operand.const (Value.bool true)) (Operand.tmp 97), type := 4, pos := "law.go:64", after := #[{ on := 11, ground := Ground.data }, { on := 22, ground := Ground.data }], guard := none }) (v := ?_) rfl (by kernel_rfl) (by kernel_rfl) (by kernel_rfl) (fun _ _ _ h => h) (Or.inl ⟨by rfl, ?_⟩) (by with_reducible assumption) ?_
                      rotate_left
                      · (intro w' hSw; (try dsimp only at hSw); first | (go_simp; done) | (go_simp; with_reducible rfl))
                      (try simp only [Act.put, List.setIfInBounds_toArray, List.set_cons_zero, List.set_cons_succ])
                      refine wpAnyH_take (i := 24) (oi := { dst := some 99, op := Op.move (Operand.tmp 98), type := 4, pos := "law.go:64", after := #[{ on := 23, ground := Ground.data }, { on := 21, ground := Ground.chain }], guard := none }) (v := ?_) rfl (by kernel_rfl) (by kernel_rfl) (by kernel_rfl) (fun _ _ _ h => h) (Or.inl ⟨by rfl, ?_⟩) (by with_reducible assumption) ?_
                      rotate_left
                      · (intro w' hSw; (try dsimp only at hSw); first | (go_simp; done) | (go_simp; with_reducible rfl))
                      (try simp only [Act.put, List.setIfInBounds_toArray, List.set_cons_zero, List.set_cons_succ])
                      refine wpAnyH_take (i := 25) (oi := { dst := some 100, op := Op.move (Operand.tmp 5), type := 22, pos := "law.go:64", after := #[{ on := 24, ground := Ground.guard }], guard := some (24, false) }) (v := ?_) rfl (by kernel_rfl) (by kernel_rfl) (by kernel_rfl) (fun _ _ _ h => h) (Or.inl ⟨by rfl, ?_⟩) (by with_reducible assumption) ?_
                      rotate_left
                      · (intro w' hSw; (try dsimp only at hSw); first | (go_simp; done) | (go_simp; with_reducible rfl))
                      (try simp only [Act.put, List.setIfInBounds_toArray, List.set_cons_zero, List.set_cons_succ])
                      refine wpAnyH_take (i := 26) (oi := { dst := some 101, op := Op.move (Operand.tmp 6), type := 3, pos := "law.go:64", after := #[{ on := 24, ground := Ground.guard }], guard := some (24, false) }) (v := ?_) rfl (by kernel_rfl) (by kernel_rfl) (by kernel_rfl) (fun _ _ _ h => h) (Or.inl ⟨by rfl, ?_⟩) (by with_reducible assumption) ?_
                      rotate_left
                      · (intro w' hSw; (try dsimp only at hSw); first | (go_simp; done) | (go_simp; with_reducible rfl))
                      (try simp only [Act.put, List.setIfInBounds_toArray, List.set_cons_zero, List.set_cons_succ])
                      refine wpAnyH_take (i := 27) (oi := { dst := some 102, op := Op.indexAddr 22 (Operand.tmp 100) (Operand.tmp 101), type := 0, pos := "law.go:64", after := #[{ on := 25, ground := Ground.data }, { on := 26, ground := Ground.data }, { on := 24, ground := Ground.guard }], guard := some (24, false) }) (v := ?_) rfl (by kernel_rfl) (by kernel_rfl) (by kernel_rfl) (fun _ _ _ h => h) (Or.inl ⟨by rfl, ?_⟩) (by with_reducible assumption) ?_
                      rotate_left
                      · (intro w' hSw; (try dsimp only at hSw); first | (go_simp; done) | (go_simp; with_reducible rfl))
                      (try simp only [Act.put, List.setIfInBounds_toArray, List.set_cons_zero, List.set_cons_succ])
                      refine wpAnyH_take (i := 28) (oi := { dst := some 103, op := Op.load 3 (Operand.tmp 102), type := 3, pos := "law.go:64", after := #[{ on := 27, ground := Ground.data }, { on := 24, ground := Ground.guard }], guard := some (24, false) }) (v := ?_) rfl (by kernel_rfl) (by kernel_rfl) (by kernel_rfl) (fun _ _ _ h => h) (Or.inl ⟨by rfl, ?_⟩) (by with_reducible assumption) ?_
                      rotate_left
                      · (intro w' hSw; (try dsimp only at hSw); first | (go_simp; done) | (go_simp; with_reducible rfl))
                      (try simp only [Act.put, List.setIfInBounds_toArray, List.set_cons_zero, List.set_cons_succ])
                      refine wpAnyH_take (i := 29) (oi := { dst := some 104, op := Op.move (Operand.tmp 5), type := 22, pos := "law.go:64", after := #[{ on := 24, ground := Ground.guard }], guard := some (24, false) }) (v := ?_) rfl (by kernel_rfl) (by kernel_rfl) (by kernel_rfl) (fun _ _ _ h => h) (Or.inl ⟨by rfl, ?_⟩) (by with_reducible assumption) ?_
                      rotate_left
                      · (intro w' hSw; (try dsimp only at hSw); first | (go_simp; done) | (go_simp; with_reducible rfl))
                      (try simp only [Act.put, List.setIfInBounds_toArray, List.set_cons_zero, List.set_cons_succ])
                      refine wpAnyH_take (i := 30) (oi := { dst := some 105, op := Op.move (Operand.tmp 7), type := 3, pos := "law.go:64", after := #[{ on := 24, ground := Ground.guard }], guard := some (24, false) }) (v := ?_) rfl (by kernel_rfl) (by kernel_rfl) (by kernel_rfl) (fun _ _ _ h => h) (Or.inl ⟨by rfl, ?_⟩) (by with_reducible assumption) ?_
                      rotate_left
                      · (intro w' hSw; (try dsimp only at hSw); first | (go_simp; done) | (go_simp; with_reducible rfl))
                      (try simp only [Act.put, List.setIfInBounds_toArray, List.set_cons_zero, List.set_cons_succ])
                      refine wpAnyH_take (i := 31) (oi := { dst := some 106, op := Op.indexAddr 22 (Operand.tmp 104) (Operand.tmp 105), type := 0, pos := "law.go:64", after := #[{ on := 29, ground := Ground.data }, { on := 30, ground := Ground.data }, { on := 24, ground := Ground.guard }], guard := some (24, false) }) (v := ?_) rfl (by kernel_rfl) (by kernel_rfl) (by kernel_rfl) (fun _ _ _ h => h) (Or.inl ⟨by rfl, ?_⟩) (by with_reducible assumption) ?_
                      rotate_left
                      · (intro w' hSw; (try dsimp only at hSw); first | (go_simp; done) | (go_simp; with_reducible rfl))
                      (try simp only [Act.put, List.setIfInBounds_toArray, List.set_cons_zero, List.set_cons_succ])
                      refine wpAnyH_take (i := 32) (oi := { dst := some 107, op := Op.load 3 (Operand.tmp 106), type := 3, pos := "law.go:64", after := #[{ on := 31, ground := Ground.data }, { on := 24, ground := Ground.guard }], guard := some (24, false) }) (v := ?_) rfl (by kernel_rfl) (by kernel_rfl) (by kernel_rfl) (fun _ _ _ h => h) (Or.inl ⟨by rfl, ?_⟩) (by with_reducible assumption) ?_
                      rotate_left
                      · (intro w' hSw; (try dsimp only at hSw); first | (go_simp; done) | (go_simp; with_reducible rfl))
                      (try simp only [Act.put, List.setIfInBounds_toArray, List.set_cons_zero, List.set_cons_succ])
                      refine wpAnyH_ready (rs := [33, 34]) (by kernel_rfl) (by simp) ?_
                      refine AllReadyH.cons (o := { dst := some 108, op := Op.buildSlice 22 2 #[(0, Operand.tmp 103), (1, Operand.tmp 107)], type := 22, pos := "law.go:64", after := #[{ on := 28, ground := Ground.data }, { on := 32, ground := Ground.data }, { on := 24, ground := Ground.guard }], guard := some (24, false) }) rfl (fun K hK => ?_) (AllReadyH.cons (o := { dst := some 109, op := Op.buildSlice 22 2 #[(0, Operand.const (Value.int IntKind.i64 1)), (1, Operand.const (Value.int IntKind.i64 1))], type := 22, pos := "law.go:64", after := #[{ on := 24, ground := Ground.guard }], guard := some (24, false) }) rfl (fun K hK => ?_) AllReadyH.nil)
                      go_simp
                      refine hK.out _ _ (by first | with_reducible exact edA HS (by with_reducible assumption) | with_reducible exact HS.out _ (hid ((Only.refl _ _).alloc _).drew)) (fun hHeld => ?_)
                      clear hK K
                      (try simp only [Act.put, List.setIfInBounds_toArray, List.set_cons_zero, List.set_cons_succ])
                      refine wpAnyH_ready (rs := [34]) (by kernel_rfl) (by simp) ?_
                      refine AllReadyH.cons (o := { dst := some 109, op := Op.buildSlice 22 2 #[(0, Operand.const (Value.int IntKind.i64 1)), (1, Operand.const (Value.int IntKind.i64 1))], type := 22, pos := "law.go:64", after := #[{ on := 24, ground := Ground.guard }], guard := some (24, false) }) rfl (fun K hK => ?_) AllReadyH.nil
                      go_simp
                      refine hK.out _ _ (by first | with_reducible exact edA HS (by with_reducible assumption) | with_reducible exact HS.out _ (hid ((Only.refl _ _).alloc _).drew)) (fun hHeld => ?_)
                      clear hK K
                      (try simp only [Act.put, List.setIfInBounds_toArray, List.set_cons_zero, List.set_cons_succ])
                      rotate_left
                      go_simp
                      refine hK.out _ _ (by first | with_reducible exact edA HS (by with_reducible assumption) | with_reducible exact HS.out _ (hid ((Only.refl _ _).alloc _).drew)) (fun hHeld => ?_)
                      clear hK K
                      (try simp only [Act.put, List.setIfInBounds_toArray, List.set_cons_zero, List.set_cons_succ])
                      refine wpAnyH_ready (rs := [33]) (by kernel_rfl) (by simp) ?_
                      refine AllReadyH.cons (o := { dst := some 108, op := Op.buildSlice 22 2 #[(0, Operand.tmp 103), (1, Operand.tmp 107)], type := 22, pos := "law.go:64", after := #[{ on := 28, ground := Ground.data }, { on := 32, ground := Ground.data }, { on := 24, ground := Ground.guard }], guard := some (24, false) }) rfl (fun K hK => ?_) AllReadyH.nil
                      go_simp
                      refine hK.out _ _ (by first | with_reducible exact edA HS (by with_reducible assumption) | with_reducible exact HS.out _ (hid ((Only.refl _ _).alloc _).drew)) (fun hHeld => ?_)
                      clear hK K
                      (try simp only [Act.put, List.setIfInBounds_toArray, List.set_cons_zero, List.set_cons_succ])
                      rotate_left
                      all_goals
                        as_aux_lemma =>
                          refine wpAnyH_ready (rs := [35]) (by kernel_rfl) (by simp) ?_
                          refine AllReadyH.cons (o := { dst := some 110, op := Op.call { callee := Callee.value (Operand.func 9), args := #[Operand.tmp 108, Operand.tmp 109], argTypes := #[22, 22] }, type := 4, pos := "law.go:64", after := #[{ on := 33, ground := Ground.data }, { on := 34, ground := Ground.data }, { on := 24, ground := Ground.chain }, { on := 24, ground := Ground.guard }], guard := some (24, false) }) rfl (fun K hK => ?_) AllReadyH.nil
                          go_simp
                          (with_reducible refine (HF2.out _ _ _ _ _ _ _ [e1, e2] [1, 1] ?_ ?_ (by with_reducible assumption) (two_inI Hb1.out Hb2.out) (fun h => by cases h) (by simp) (two_inI (by omega) (by omega)) (fun h => by cases h) (by simp) (by omega) (by omega)).mono ?_)
                          (repeat (first | with_reducible exact rdL2 _ _ _ _ (by simp) | with_reducible refine rdI_drew ?_ | with_reducible refine rdI_alloc ?_))
                          rintro e wa ⟨rfl, HOa⟩
                          go_wp2_with fail
                          refine hK.out _ _ (by with_reducible assumption) (fun hHeld => ?_)
                          clear hK K
                          (try simp only [Act.put, List.setIfInBounds_toArray, List.set_cons_zero, List.set_cons_succ])
                          refine wpAnyH_take (i := 36) (oi := { dst := some 111, op := Op.unOp UnOp.not 4 (Operand.tmp 110), type := 4, pos := "law.go:64", after := #[{ on := 35, ground := Ground.data }, { on := 24, ground := Ground.guard }], guard := some (24, false) }) (v := ?_) rfl (by kernel_rfl) (by kernel_rfl) (by kernel_rfl) (fun _ _ _ h => h) (Or.inl ⟨by rfl, ?_⟩) (by with_reducible assumption) ?_
                          rotate_left
                          · (intro w' hSw; (try dsimp only at hSw); first | (go_simp; done) | (go_simp; with_reducible rfl))
                          (try simp only [Act.put, List.setIfInBounds_toArray, List.set_cons_zero, List.set_cons_succ])
                          refine wpAnyH_take (i := 37) (oi := { dst := some 112, op := Op.pick (Operand.tmp 99) (Operand.const (Value.bool true)) (Operand.tmp 111), type := 4, pos := "law.go:64", after := #[{ on := 24, ground := Ground.data }, { on := 36, ground := Ground.data }], guard := none }) (v := ?_) rfl (by kernel_rfl) (by kernel_rfl) (by kernel_rfl) (fun _ _ _ h => h) (Or.inl ⟨by rfl, ?_⟩) (by with_reducible assumption) ?_
                          rotate_left
                          · (intro w' hSw; (try dsimp only at hSw); first | (go_simp; done) | (go_simp; with_reducible rfl))
                          (try simp only [Act.put, List.setIfInBounds_toArray, List.set_cons_zero, List.set_cons_succ])
                          refine wpAnyH_take (i := 38) (oi := { dst := some 113, op := Op.move (Operand.tmp 112), type := 4, pos := "law.go:64", after := #[{ on := 37, ground := Ground.data }, { on := 35, ground := Ground.chain }], guard := none }) (v := ?_) rfl (by kernel_rfl) (by kernel_rfl) (by kernel_rfl) (fun _ _ _ h => h) (Or.inl ⟨by rfl, ?_⟩) (by with_reducible assumption) ?_
                          rotate_left
                          · (intro w' hSw; (try dsimp only at hSw); first | (go_simp; done) | (go_simp; with_reducible rfl))
                          (try simp only [Act.put, List.setIfInBounds_toArray, List.set_cons_zero, List.set_cons_succ])
                          refine wpAnyH_take (i := 40) (oi := { dst := some 115, op := Op.move (Operand.tmp 5), type := 22, pos := "law.go:64", after := #[{ on := 38, ground := Ground.guard }], guard := some (38, false) }) (v := ?_) rfl (by kernel_rfl) (by kernel_rfl) (by kernel_rfl) (fun _ _ _ h => h) (Or.inl ⟨by rfl, ?_⟩) (by with_reducible assumption) ?_
                          rotate_left
                          · (intro w' hSw; (try dsimp only at hSw); first | (go_simp; done) | (go_simp; with_reducible rfl))
                          (try simp only [Act.put, List.setIfInBounds_toArray, List.set_cons_zero, List.set_cons_succ])
                          refine wpAnyH_take (i := 41) (oi := { dst := some 116, op := Op.move (Operand.tmp 6), type := 3, pos := "law.go:64", after := #[{ on := 38, ground := Ground.guard }], guard := some (38, false) }) (v := ?_) rfl (by kernel_rfl) (by kernel_rfl) (by kernel_rfl) (fun _ _ _ h => h) (Or.inl ⟨by rfl, ?_⟩) (by with_reducible assumption) ?_
                          rotate_left
                          · (intro w' hSw; (try dsimp only at hSw); first | (go_simp; done) | (go_simp; with_reducible rfl))
                          (try simp only [Act.put, List.setIfInBounds_toArray, List.set_cons_zero, List.set_cons_succ])
                          refine wpAnyH_take (i := 42) (oi := { dst := some 117, op := Op.indexAddr 22 (Operand.tmp 115) (Operand.tmp 116), type := 0, pos := "law.go:64", after := #[{ on := 40, ground := Ground.data }, { on := 41, ground := Ground.data }, { on := 38, ground := Ground.guard }], guard := some (38, false) }) (v := ?_) rfl (by kernel_rfl) (by kernel_rfl) (by kernel_rfl) (fun _ _ _ h => h) (Or.inl ⟨by rfl, ?_⟩) (by with_reducible assumption) ?_
                          rotate_left
                          · (intro w' hSw; (try dsimp only at hSw); first | (go_simp; done) | (go_simp; with_reducible rfl))
                          (try simp only [Act.put, List.setIfInBounds_toArray, List.set_cons_zero, List.set_cons_succ])
                          refine wpAnyH_take (i := 43) (oi := { dst := some 118, op := Op.load 3 (Operand.tmp 117), type := 3, pos := "law.go:64", after := #[{ on := 42, ground := Ground.data }, { on := 38, ground := Ground.guard }], guard := some (38, false) }) (v := ?_) rfl (by kernel_rfl) (by kernel_rfl) (by kernel_rfl) (fun _ _ _ h => h) (Or.inl ⟨by rfl, ?_⟩) (by with_reducible assumption) ?_
                          rotate_left
                          · (intro w' hSw; (try dsimp only at hSw); first | (go_simp; done) | (go_simp; with_reducible rfl))
                          (try simp only [Act.put, List.setIfInBounds_toArray, List.set_cons_zero, List.set_cons_succ])
                          refine wpAnyH_take (i := 44) (oi := { dst := some 119, op := Op.move (Operand.tmp 5), type := 22, pos := "law.go:64", after := #[{ on := 38, ground := Ground.guard }], guard := some (38, false) }) (v := ?_) rfl (by kernel_rfl) (by kernel_rfl) (by kernel_rfl) (fun _ _ _ h => h) (Or.inl ⟨by rfl, ?_⟩) (by with_reducible assumption) ?_
                          rotate_left
                          · (intro w' hSw; (try dsimp only at hSw); first | (go_simp; done) | (go_simp; with_reducible rfl))
                          (try simp only [Act.put, List.setIfInBounds_toArray, List.set_cons_zero, List.set_cons_succ])
                          refine wpAnyH_take (i := 45) (oi := { dst := some 120, op := Op.move (Operand.tmp 7), type := 3, pos := "law.go:64", after := #[{ on := 38, ground := Ground.guard }], guard := some (38, false) }) (v := ?_) rfl (by kernel_rfl) (by kernel_rfl) (by kernel_rfl) (fun _ _ _ h => h) (Or.inl ⟨by rfl, ?_⟩) (by with_reducible assumption) ?_
                          rotate_left
                          · (intro w' hSw; (try dsimp only at hSw); first | (go_simp; done) | (go_simp; with_reducible rfl))
                          (try simp only [Act.put, List.setIfInBounds_toArray, List.set_cons_zero, List.set_cons_succ])
                          refine wpAnyH_take (i := 46) (oi := { dst := some 121, op := Op.indexAddr 22 (Operand.tmp 119) (Operand.tmp 120), type := 0, pos := "law.go:64", after := #[{ on := 44, ground := Ground.data }, { on := 45, ground := Ground.data }, { on := 38, ground := Ground.guard }], guard := some (38, false) }) (v := ?_) rfl (by kernel_rfl) (by kernel_rfl) (by kernel_rfl) (fun _ _ _ h => h) (Or.inl ⟨by rfl, ?_⟩) (by with_reducible assumption) ?_
                          rotate_left
                          · (intro w' hSw; (try dsimp only at hSw); first | (go_simp; done) | (go_simp; with_reducible rfl))
                          (try simp only [Act.put, List.setIfInBounds_toArray, List.set_cons_zero, List.set_cons_succ])
                          refine wpAnyH_take (i := 47) (oi := { dst := some 122, op := Op.load 3 (Operand.tmp 121), type := 3, pos := "law.go:64", after := #[{ on := 46, ground := Ground.data }, { on := 38, ground := Ground.guard }], guard := some (38, false) }) (v := ?_) rfl (by kernel_rfl) (by kernel_rfl) (by kernel_rfl) (fun _ _ _ h => h) (Or.inl ⟨by rfl, ?_⟩) (by with_reducible assumption) ?_
                          rotate_left
                          · (intro w' hSw; (try dsimp only at hSw); first | (go_simp; done) | (go_simp; with_reducible rfl))
                          (try simp only [Act.put, List.setIfInBounds_toArray, List.set_cons_zero, List.set_cons_succ])
                          refine wpAnyH_ready (rs := [39, 48]) (by kernel_rfl) (by simp) ?_
                          refine AllReadyH.cons (o := { dst := some 114, op := Op.buildSlice 22 2 #[(0, Operand.const (Value.int IntKind.i64 3)), (1, Operand.const (Value.int IntKind.i64 4))], type := 22, pos := "law.go:64", after := #[{ on := 38, ground := Ground.guard }], guard := some (38, false) }) rfl (fun K hK => ?_) (AllReadyH.cons (o := { dst := some 123, op := Op.buildSlice 22 2 #[(0, Operand.tmp 118), (1, Operand.tmp 122)], type := 22, pos := "law.go:64", after := #[{ on := 43, ground := Ground.data }, { on := 47, ground := Ground.data }, { on := 38, ground := Ground.guard }], guard := some (38, false) }) rfl (fun K hK => ?_) AllReadyH.nil)
                          go_simp
                          refine hK.out _ _ (by first | with_reducible exact edA HS (by with_reducible assumption) | with_reducible exact HS.out _ (hid ((Only.refl _ _).alloc _).drew)) (fun hHeld => ?_)
                          clear hK K
                          (try simp only [Act.put, List.setIfInBounds_toArray, List.set_cons_zero, List.set_cons_succ])
                          refine wpAnyH_ready (rs := [48]) (by kernel_rfl) (by simp) ?_
                          refine AllReadyH.cons (o := { dst := some 123, op := Op.buildSlice 22 2 #[(0, Operand.tmp 118), (1, Operand.tmp 122)], type := 22, pos := "law.go:64", after := #[{ on := 43, ground := Ground.data }, { on := 47, ground := Ground.data }, { on := 38, ground := Ground.guard }], guard := some (38, false) }) rfl (fun K hK => ?_) AllReadyH.nil
                          go_simp
                          refine hK.out _ _ (by first | with_reducible exact edA HS (by with_reducible assumption) | with_reducible exact HS.out _ (hid ((Only.refl _ _).alloc _).drew)) (fun hHeld => ?_)
                          clear hK K
                          (try simp only [Act.put, List.setIfInBounds_toArray, List.set_cons_zero, List.set_cons_succ])
                          rotate_left
                          go_simp
                          refine hK.out _ _ (by first | with_reducible exact edA HS (by with_reducible assumption) | with_reducible exact HS.out _ (hid ((Only.refl _ _).alloc _).drew)) (fun hHeld => ?_)
                          clear hK K
                          (try simp only [Act.put, List.setIfInBounds_toArray, List.set_cons_zero, List.set_cons_succ])
                          refine wpAnyH_ready (rs := [39]) (by kernel_rfl) (by simp) ?_
                          refine AllReadyH.cons (o := { dst := some 114, op := Op.buildSlice 22 2 #[(0, Operand.const (Value.int IntKind.i64 3)), (1, Operand.const (Value.int IntKind.i64 4))], type := 22, pos := "law.go:64", after := #[{ on := 38, ground := Ground.guard }], guard := some (38, false) }) rfl (fun K hK => ?_) AllReadyH.nil
                          go_simp
                          refine hK.out _ _ (by first | with_reducible exact edA HS (by with_reducible assumption) | with_reducible exact HS.out _ (hid ((Only.refl _ _).alloc _).drew)) (fun hHeld => ?_)
                          clear hK K
                          (try simp only [Act.put, List.setIfInBounds_toArray, List.set_cons_zero, List.set_cons_succ])
                          rotate_left
                          all_goals
                            as_aux_lemma =>
                              refine wpAnyH_ready (rs := [49]) (by kernel_rfl) (by simp) ?_
                              refine AllReadyH.cons (o := { dst := some 124, op := Op.call { callee := Callee.value (Operand.func 9), args := #[Operand.tmp 114, Operand.tmp 123], argTypes := #[22, 22] }, type := 4, pos := "law.go:64", after := #[{ on := 39, ground := Ground.data }, { on := 48, ground := Ground.data }, { on := 38, ground := Ground.chain }, { on := 38, ground := Ground.guard }], guard := some (38, false) }) rfl (fun K hK => ?_) AllReadyH.nil
                              go_simp
                              (with_reducible refine (HF2.out _ _ _ _ _ _ _ [3, 4] [e1, e2] ?_ ?_ (by with_reducible assumption) (two_inI (by omega) (by omega)) (fun h => by cases h) (by simp) (two_inI Hb1.out Hb2.out) (fun h => by cases h) (by simp) (by omega) (by omega)).mono ?_)
                              (repeat (first | with_reducible exact rdL2 _ _ _ _ (by simp) | with_reducible refine rdI_drew ?_ | with_reducible refine rdI_alloc ?_))
                              rintro e wa ⟨rfl, HOa⟩
                              go_wp2_with fail
                              refine hK.out _ _ (by with_reducible assumption) (fun hHeld => ?_)
                              clear hK K
                              (try simp only [Act.put, List.setIfInBounds_toArray, List.set_cons_zero, List.set_cons_succ])
                              refine wpAnyH_take (i := 50) (oi := { dst := some 125, op := Op.unOp UnOp.not 4 (Operand.tmp 124), type := 4, pos := "law.go:64", after := #[{ on := 49, ground := Ground.data }, { on := 38, ground := Ground.guard }], guard := some (38, false) }) (v := ?_) rfl (by kernel_rfl) (by kernel_rfl) (by kernel_rfl) (fun _ _ _ h => h) (Or.inl ⟨by rfl, ?_⟩) (by with_reducible assumption) ?_
                              rotate_left
                              · (intro w' hSw; (try dsimp only at hSw); first | (go_simp; done) | (go_simp; with_reducible rfl))
                              (try simp only [Act.put, List.setIfInBounds_toArray, List.set_cons_zero, List.set_cons_succ])
                              refine wpAnyH_take (i := 51) (oi := { dst := some 126, op := Op.pick (Operand.tmp 113) (Operand.const (Value.bool true)) (Operand.tmp 125), type := 4, pos := "law.go:64", after := #[{ on := 38, ground := Ground.data }, { on := 50, ground := Ground.data }], guard := none }) (v := ?_) rfl (by kernel_rfl) (by kernel_rfl) (by kernel_rfl) (fun _ _ _ h => h) (Or.inl ⟨by rfl, ?_⟩) (by with_reducible assumption) ?_
                              rotate_left
                              · (intro w' hSw; (try dsimp only at hSw); first | (go_simp; done) | (go_simp; with_reducible rfl))
                              (try simp only [Act.put, List.setIfInBounds_toArray, List.set_cons_zero, List.set_cons_succ])
                              refine wpAnyH_take (i := 52) (oi := { dst := some 127, op := Op.move (Operand.tmp 126), type := 4, pos := "law.go:64", after := #[{ on := 51, ground := Ground.data }, { on := 49, ground := Ground.chain }], guard := none }) (v := ?_) rfl (by kernel_rfl) (by kernel_rfl) (by kernel_rfl) (fun _ _ _ h => h) (Or.inl ⟨by rfl, ?_⟩) (by with_reducible assumption) ?_
                              rotate_left
                              · (intro w' hSw; (try dsimp only at hSw); first | (go_simp; done) | (go_simp; with_reducible rfl))
                              (try simp only [Act.put, List.setIfInBounds_toArray, List.set_cons_zero, List.set_cons_succ])
                              refine wpAnyH_take (i := 53) (oi := { dst := some 128, op := Op.move (Operand.tmp 5), type := 22, pos := "law.go:64", after := #[{ on := 52, ground := Ground.guard }], guard := some (52, false) }) (v := ?_) rfl (by kernel_rfl) (by kernel_rfl) (by kernel_rfl) (fun _ _ _ h => h) (Or.inl ⟨by rfl, ?_⟩) (by with_reducible assumption) ?_
                              rotate_left
                              · (intro w' hSw; (try dsimp only at hSw); first | (go_simp; done) | (go_simp; with_reducible rfl))
                              (try simp only [Act.put, List.setIfInBounds_toArray, List.set_cons_zero, List.set_cons_succ])
                              refine wpAnyH_take (i := 54) (oi := { dst := some 129, op := Op.move (Operand.tmp 6), type := 3, pos := "law.go:64", after := #[{ on := 52, ground := Ground.guard }], guard := some (52, false) }) (v := ?_) rfl (by kernel_rfl) (by kernel_rfl) (by kernel_rfl) (fun _ _ _ h => h) (Or.inl ⟨by rfl, ?_⟩) (by with_reducible assumption) ?_
                              rotate_left
                              · (intro w' hSw; (try dsimp only at hSw); first | (go_simp; done) | (go_simp; with_reducible rfl))
                              (try simp only [Act.put, List.setIfInBounds_toArray, List.set_cons_zero, List.set_cons_succ])
                              refine wpAnyH_take (i := 55) (oi := { dst := some 130, op := Op.indexAddr 22 (Operand.tmp 128) (Operand.tmp 129), type := 0, pos := "law.go:64", after := #[{ on := 53, ground := Ground.data }, { on := 54, ground := Ground.data }, { on := 52, ground := Ground.guard }], guard := some (52, false) }) (v := ?_) rfl (by kernel_rfl) (by kernel_rfl) (by kernel_rfl) (fun _ _ _ h => h) (Or.inl ⟨by rfl, ?_⟩) (by with_reducible assumption) ?_
                              rotate_left
                              · (intro w' hSw; (try dsimp only at hSw); first | (go_simp; done) | (go_simp; with_reducible rfl))
                              (try simp only [Act.put, List.setIfInBounds_toArray, List.set_cons_zero, List.set_cons_succ])
                              refine wpAnyH_take (i := 56) (oi := { dst := some 131, op := Op.load 3 (Operand.tmp 130), type := 3, pos := "law.go:64", after := #[{ on := 55, ground := Ground.data }, { on := 52, ground := Ground.guard }], guard := some (52, false) }) (v := ?_) rfl (by kernel_rfl) (by kernel_rfl) (by kernel_rfl) (fun _ _ _ h => h) (Or.inl ⟨by rfl, ?_⟩) (by with_reducible assumption) ?_
                              rotate_left
                              · (intro w' hSw; (try dsimp only at hSw); first | (go_simp; done) | (go_simp; with_reducible rfl))
                              (try simp only [Act.put, List.setIfInBounds_toArray, List.set_cons_zero, List.set_cons_succ])
                              refine wpAnyH_take (i := 58) (oi := { dst := some 133, op := Op.move (Operand.tmp 5), type := 22, pos := "law.go:64", after := #[{ on := 52, ground := Ground.guard }], guard := some (52, false) }) (v := ?_) rfl (by kernel_rfl) (by kernel_rfl) (by kernel_rfl) (fun _ _ _ h => h) (Or.inl ⟨by rfl, ?_⟩) (by with_reducible assumption) ?_
                              rotate_left
                              · (intro w' hSw; (try dsimp only at hSw); first | (go_simp; done) | (go_simp; with_reducible rfl))
                              (try simp only [Act.put, List.setIfInBounds_toArray, List.set_cons_zero, List.set_cons_succ])
                              refine wpAnyH_take (i := 59) (oi := { dst := some 134, op := Op.move (Operand.tmp 7), type := 3, pos := "law.go:64", after := #[{ on := 52, ground := Ground.guard }], guard := some (52, false) }) (v := ?_) rfl (by kernel_rfl) (by kernel_rfl) (by kernel_rfl) (fun _ _ _ h => h) (Or.inl ⟨by rfl, ?_⟩) (by with_reducible assumption) ?_
                              rotate_left
                              · (intro w' hSw; (try dsimp only at hSw); first | (go_simp; done) | (go_simp; with_reducible rfl))
                              (try simp only [Act.put, List.setIfInBounds_toArray, List.set_cons_zero, List.set_cons_succ])
                              refine wpAnyH_take (i := 60) (oi := { dst := some 135, op := Op.indexAddr 22 (Operand.tmp 133) (Operand.tmp 134), type := 0, pos := "law.go:64", after := #[{ on := 58, ground := Ground.data }, { on := 59, ground := Ground.data }, { on := 52, ground := Ground.guard }], guard := some (52, false) }) (v := ?_) rfl (by kernel_rfl) (by kernel_rfl) (by kernel_rfl) (fun _ _ _ h => h) (Or.inl ⟨by rfl, ?_⟩) (by with_reducible assumption) ?_
                              rotate_left
                              · (intro w' hSw; (try dsimp only at hSw); first | (go_simp; done) | (go_simp; with_reducible rfl))
                              (try simp only [Act.put, List.setIfInBounds_toArray, List.set_cons_zero, List.set_cons_succ])
                              refine wpAnyH_take (i := 61) (oi := { dst := some 136, op := Op.load 3 (Operand.tmp 135), type := 3, pos := "law.go:64", after := #[{ on := 60, ground := Ground.data }, { on := 52, ground := Ground.guard }], guard := some (52, false) }) (v := ?_) rfl (by kernel_rfl) (by kernel_rfl) (by kernel_rfl) (fun _ _ _ h => h) (Or.inl ⟨by rfl, ?_⟩) (by with_reducible assumption) ?_
                              rotate_left
                              · (intro w' hSw; (try dsimp only at hSw); first | (go_simp; done) | (go_simp; with_reducible rfl))
                              (try simp only [Act.put, List.setIfInBounds_toArray, List.set_cons_zero, List.set_cons_succ])
                              refine wpAnyH_ready (rs := [57, 62]) (by kernel_rfl) (by simp) ?_
                              refine AllReadyH.cons (o := { dst := some 132, op := Op.buildSlice 22 1 #[(0, Operand.tmp 131)], type := 22, pos := "law.go:64", after := #[{ on := 56, ground := Ground.data }, { on := 52, ground := Ground.guard }], guard := some (52, false) }) rfl (fun K hK => ?_) (AllReadyH.cons (o := { dst := some 137, op := Op.buildSlice 22 1 #[(0, Operand.tmp 136)], type := 22, pos := "law.go:64", after := #[{ on := 61, ground := Ground.data }, { on := 52, ground := Ground.guard }], guard := some (52, false) }) rfl (fun K hK => ?_) AllReadyH.nil)
                              go_simp
                              refine hK.out _ _ (by first | with_reducible exact edA HS (by with_reducible assumption) | with_reducible exact HS.out _ (hid ((Only.refl _ _).alloc _).drew)) (fun hHeld => ?_)
                              clear hK K
                              (try simp only [Act.put, List.setIfInBounds_toArray, List.set_cons_zero, List.set_cons_succ])
                              refine wpAnyH_ready (rs := [62]) (by kernel_rfl) (by simp) ?_
                              refine AllReadyH.cons (o := { dst := some 137, op := Op.buildSlice 22 1 #[(0, Operand.tmp 136)], type := 22, pos := "law.go:64", after := #[{ on := 61, ground := Ground.data }, { on := 52, ground := Ground.guard }], guard := some (52, false) }) rfl (fun K hK => ?_) AllReadyH.nil
                              go_simp
                              refine hK.out _ _ (by first | with_reducible exact edA HS (by with_reducible assumption) | with_reducible exact HS.out _ (hid ((Only.refl _ _).alloc _).drew)) (fun hHeld => ?_)
                              clear hK K
                              (try simp only [Act.put, List.setIfInBounds_toArray, List.set_cons_zero, List.set_cons_succ])
                              rotate_left
                              go_simp
                              refine hK.out _ _ (by first | with_reducible exact edA HS (by with_reducible assumption) | with_reducible exact HS.out _ (hid ((Only.refl _ _).alloc _).drew)) (fun hHeld => ?_)
                              clear hK K
                              (try simp only [Act.put, List.setIfInBounds_toArray, List.set_cons_zero, List.set_cons_succ])
                              refine wpAnyH_ready (rs := [57]) (by kernel_rfl) (by simp) ?_
                              refine AllReadyH.cons (o := { dst := some 132, op := Op.buildSlice 22 1 #[(0, Operand.tmp 131)], type := 22, pos := "law.go:64", after := #[{ on := 56, ground := Ground.data }, { on := 52, ground := Ground.guard }], guard := some (52, false) }) rfl (fun K hK => ?_) AllReadyH.nil
                              go_simp
                              refine hK.out _ _ (by first | with_reducible exact edA HS (by with_reducible assumption) | with_reducible exact HS.out _ (hid ((Only.refl _ _).alloc _).drew)) (fun hHeld => ?_)
                              clear hK K
                              (try simp only [Act.put, List.setIfInBounds_toArray, List.set_cons_zero, List.set_cons_succ])
                              rotate_left
                              all_goals
                                as_aux_lemma =>
                                  refine wpAnyH_ready (rs := [63]) (by kernel_rfl) (by simp) ?_
                                  refine AllReadyH.cons (o := { dst := some 138, op := Op.call { callee := Callee.value (Operand.func 9), args := #[Operand.tmp 132, Operand.tmp 137], argTypes := #[22, 22] }, type := 4, pos := "law.go:64", after := #[{ on := 57, ground := Ground.data }, { on := 62, ground := Ground.data }, { on := 52, ground := Ground.chain }, { on := 52, ground := Ground.guard }], guard := some (52, false) }) rfl (fun K hK => ?_) AllReadyH.nil
                                  go_simp
                                  (with_reducible refine (HF2.out _ _ _ _ _ _ _ [e1] [e2] ?_ ?_ (by with_reducible assumption) (one_inI Hb1.out) (fun h => by cases h) (by simp) (one_inI Hb2.out) (fun h => by cases h) (by simp) (by omega) (by omega)).mono ?_)
                                  (repeat (first | with_reducible exact rdL1 _ _ _ (by simp) | with_reducible refine rdI_drew ?_ | with_reducible refine rdI_alloc ?_))
                                  rintro e wa ⟨rfl, HOa⟩
                                  go_wp2_with fail
                                  refine hK.out _ _ (by with_reducible assumption) (fun hHeld => ?_)
                                  clear hK K
                                  (try simp only [Act.put, List.setIfInBounds_toArray, List.set_cons_zero, List.set_cons_succ])
                                  refine wpAnyH_take (i := 64) (oi := { dst := some 139, op := Op.unOp UnOp.not 4 (Operand.tmp 138), type := 4, pos := "law.go:64", after := #[{ on := 63, ground := Ground.data }, { on := 52, ground := Ground.guard }], guard := some (52, false) }) (v := ?_) rfl (by kernel_rfl) (by kernel_rfl) (by kernel_rfl) (fun _ _ _ h => h) (Or.inl ⟨by rfl, ?_⟩) (by with_reducible assumption) ?_
                                  rotate_left
                                  · (intro w' hSw; (try dsimp only at hSw); first | (go_simp; done) | (go_simp; with_reducible rfl))
                                  (try simp only [Act.put, List.setIfInBounds_toArray, List.set_cons_zero, List.set_cons_succ])
                                  refine wpAnyH_take (i := 65) (oi := { dst := some 140, op := Op.pick (Operand.tmp 127) (Operand.const (Value.bool true)) (Operand.tmp 139), type := 4, pos := "law.go:64", after := #[{ on := 52, ground := Ground.data }, { on := 64, ground := Ground.data }], guard := none }) (v := ?_) rfl (by kernel_rfl) (by kernel_rfl) (by kernel_rfl) (fun _ _ _ h => h) (Or.inl ⟨by rfl, ?_⟩) (by with_reducible assumption) ?_
                                  rotate_left
                                  · (intro w' hSw; (try dsimp only at hSw); first | (go_simp; done) | (go_simp; with_reducible rfl))
                                  (try simp only [Act.put, List.setIfInBounds_toArray, List.set_cons_zero, List.set_cons_succ])
                                  refine wpAnyH_done (by kernel_rfl) ?_ _
                                  refine NoPanic.normal ?_
                                  go_wp2_with fail
                                  go_meet
                                  case rel => exact ⟨rfl, hHeld.2.2⟩
                case rest =>
                  obtain ⟨rfl, HA6⟩ := hcut
                  have HR6 := hid (HR1.out.st HA6)
                  have HO16 : StO w _ := hid (HO1.out.trans HA6.out)
                  clear HS HS0 HT2 HF2 ca cb lE HR1 HO1 HA6
                  go_wp2_with fail
                  go_roundw
                  case rel => exact ⟨k + 1, by omega, by go_num, HO16, HR6⟩
                  case measure => simp [intOf]; omega
              · obtain rfl : k = 7 := by omega
                go_wp2_with fail
                go_roundw
                case rel => exact ⟨i + 1, by omega, by go_num, HO1, HR1⟩
                case measure => simp [intOf]; omega
        · as_aux_lemma =>
            obtain rfl : i = 7 := by omega
            clear HR
            go_wp2_with fail
            obtain ⟨wo, rfl⟩ : ∃ wo : World, wo = wr := ⟨_, rfl⟩
            go_loopw [8, 9, 10] (fun v u s wr => ∃ (xs ys : List Int) (n : Nat), n ≤ 258 ∧ s = .int .i64 n ∧ Hid (TwoI wo wr v xs u ys) ∧ Hid (xs = List.replicate n 4294967296 ∧ ys.length = n ∧ InI ys)) (fun _ _ s _ => 258 - (intOf s).toNat)
            case atStart => exact ⟨[], [], 0, by omega, rfl, hid TwoI.nil, hid ⟨rfl, rfl, fun z hz => by cases hz⟩⟩
            case round =>
              obtain ⟨xs, ys, n, hn, rfl, HT, HX⟩ := hrel
              by_cases hp : n < 258
              · have hp' : (n : Int) < 258 := by omega
                obtain ⟨m, hm⟩ : ∃ m : Nat, m = min (n + 1) 256 := ⟨_, rfl⟩
                have hmin : min ((n : Int) + 1) 256 = (m : Int) := by omega
                have hm2 : m ≤ 256 := by omega
                have Hxl : Hid (xs.length ≤ 258 ∧ ys.length ≤ 258) := hid (by rw [HX.out.1, HX.out.2.1, List.length_replicate]; omega)
                have HX2 : Hid (xs ++ [4294967296] = List.replicate (n + 1) 4294967296 ∧ (ys ++ [(m : Int)]).length = n + 1 ∧ InI (ys ++ [(m : Int)])) := hid ⟨by rw [HX.out.1, List.replicate_succ'], by simp [HX.out.2.1], snoc_inI HX.out.2.2 (by omega)⟩
                clear hm HX
                go_wp2_with (at_builtin; first
                  | (refine wpList_add2 wo _ rfl (.tmp 145) (.tmp 146) rfl u8 xs u9 ys rfl (hid (HT.out.st (hid ((Only.refl _ _).alloc _)).out)) ⟨wr.heap.size, 0, none⟩ 1 _ rfl (hid (rd_at _ _ _ rfl)) (by have := Hxl.out; omega) ?_; intro v6 w6 HT6)
                  | (refine wpList_add2 wo _ rfl (.tmp 148) (.tmp 152) rfl u9 ys v6 _ rfl (hid (HT6.out.swap.st ((Only.refl _ _).alloc _))) ⟨w6.heap.size, 0, none⟩ 1 _ rfl (hid (rd_at _ _ _ rfl)) (by have := Hxl.out; omega) ?_; intro v7 w7 HT7))
                have HT8 := hid HT7.out.swap
                clear HT HT6 HT7
                go_roundw
                case rel => (repeat apply Exists.intro); exact ⟨⟨_, _, n + 1, by omega, by go_num, HT8, HX2⟩, rfl⟩
                case measure => simp [intOf]; omega
              · obtain rfl : n = 258 := by omega
                have hlx : xs.length = 258 := by rw [HX.out.1, List.length_replicate]
                obtain ⟨A1, c1, rfl, HA1⟩ := HT.out.a.made hlx
                obtain ⟨A2, c2, rfl, HA2⟩ := HT.out.b.made HX.out.2.1
                obtain ⟨g1, rfl, _, _, _, _⟩ := HA1.out.put (k := 0) (by omega)
                obtain ⟨g2, rfl, _, _, _, _⟩ := HA2.out.put (k := 0) (by omega)
                have hc1 : 258 ≤ c1 ∧ c1 ≤ maxLen := by
                  obtain ⟨A', c', e, _, _, _, h5, h6⟩ := HA1.out.shape
                  injection e with _ _ e3
                  rw [hlx] at h5
                  omega
                have hc2 : 258 ≤ c2 ∧ c2 ≤ maxLen := by
                  obtain ⟨A', c', e, _, _, _, h5, h6⟩ := HA2.out.shape
                  injection e with _ _ e3
                  rw [HX.out.2.1] at h5
                  omega
                unfold maxLen at hc1 hc2
                have hc11 : (257 : Int) ≤ (c1 : Int) := by omega
                have hc21 : (257 : Int) ≤ (c2 : Int) := by omega
                have HR1 : Hid (RdI wr (some ⟨g1, 0, none⟩) xs) := hid HA1.out.rd.1
                have HR2 : Hid (RdI wr (some ⟨g2, 0, none⟩) ys) := hid HA2.out.rd.1
                have HY : Hid (InI ys) := hid HX.out.2.2
                have HXI : Hid (InI xs) := hid fun z hz => by rw [HX.out.1] at hz; rw [List.eq_of_mem_replicate hz]; omega
                have hly := hid HX.out.2.1
                have hlx := hid hlx
                have hx7 : Hid (xs.take 257 = List.replicate 257 4294967296) := hid (by rw [HX.out.1, List.take_replicate]; rfl)
                have hW7 : isW (xs.take 257) = true := by rw [hx7.out]; exact isW_rep
                have hW8 : isW xs = false := by unfold isW; rw [hlx.out]; simp
                have HL7 : Hid (∀ u, StO wr u → Calls Try.prog 10 #[.slice (some ⟨g1, 0, none⟩) 257 c1] u fun e w' => ∃ B c', e = .returned (.tuple #[.slice B 257 c', .int .i64 0]) ∧ Hid (RdI w' B (bestL (xs.take 257))) ∧ StO wr w') := hid fun u hu => (len_ok hW7 (rdI_take (HR1.out.st hu) (by rw [hlx.out]; omega)) (by rw [List.length_take, hlx.out]; rfl)).mono fun e w' ⟨B, c', h1, h2, h3⟩ => ⟨B, c', h1, h2, hid (hu.out.trans h3.out)⟩
                have HL8 : Hid (∀ u, StO wr u → Calls Try.prog 10 #[.slice (some ⟨g1, 0, none⟩) 258 c1] u fun e w' => ∃ B n c', e = .returned (.tuple #[.slice B n c', .int .i64 2]) ∧ StO u w' ∧ StO wr w') := hid fun u hu => by
                  have h := Lengths_any (cap := c1) (HR1.out.st hu) (by rw [hlx.out]; omega)
                  rw [hlx.out] at h
                  refine h.mono ?_
                  rintro e w' ⟨B, n, c', he, _, _, _, _, _, ho⟩
                  rw [hW8] at he
                  exact ⟨B, n, c', he, ho, hid (hu.out.trans ho.out)⟩
                have HF1 : Hid (∀ u, (True ∧ StO wr u) → Calls Try.prog 9 #[.slice (some ⟨g1, 0, none⟩) 257 c1, .slice (some ⟨g2, 0, none⟩) 257 c2] u fun e w' => e = .returned (.bool true) ∧ StO u w') := hid fun u hu => (HTF.out u _ _ 257 257 c1 c2 (xs.take 257) (ys.take 257) (rdI_take (HR1.out.st hu.2) (by rw [hlx.out]; omega)) (fun z hz => HXI.out z (List.mem_of_mem_take hz)) (fun h => by cases h) (by rw [List.length_take, hlx.out]; rfl) (rdI_take (HR2.out.st hu.2) (by rw [hly.out]; omega)) (fun z hz => HY.out z (List.mem_of_mem_take hz)) (fun h => by cases h) (by rw [List.length_take, hly.out]; rfl) (by omega) (by omega)).mono fun e w' ⟨h1, h2⟩ => ⟨h1, h2⟩
                have HF2 : Hid (∀ u, (True ∧ StO wr u) → Calls Try.prog 9 #[.slice (some ⟨g1, 0, none⟩) 258 c1, .slice (some ⟨g2, 0, none⟩) 258 c2] u fun e w' => e = .returned (.bool true) ∧ StO u w') := hid fun u hu => (HTF.out u _ _ 258 258 c1 c2 xs ys (HR1.out.st hu.2) HXI.out (fun h => by cases h) hlx.out.symm (HR2.out.st hu.2) HY.out (fun h => by cases h) hly.out.symm (by omega) (by omega)).mono fun e w' ⟨h1, h2⟩ => ⟨h1, h2⟩
                have HBl : Hid (InI (bestL (xs.take 257)) ∧ 257 = (bestL (xs.take 257)).length) := hid ⟨fit_inI (bestL_fit hW7), by rw [bestL_len, List.length_take, hlx.out]; rfl⟩
                have HF3 : Hid (∀ u B c, RdI u B (bestL (xs.take 257)) → (True ∧ StO wr u) → Calls Try.prog 9 #[.slice (some ⟨g1, 0, none⟩) 257 c1, .slice B 257 c] u fun e w' => e = .returned (.bool true) ∧ StO u w') := hid fun u B c hB hu => (HTF.out u _ _ 257 257 c1 c (xs.take 257) (bestL (xs.take 257)) (rdI_take (HR1.out.st hu.2) (by rw [hlx.out]; omega)) (fun z hz => HXI.out z (List.mem_of_mem_take hz)) (fun h => by cases h) (by rw [List.length_take, hlx.out]; rfl) hB HBl.out.1 (fun h => by
                  obtain ⟨b, off, e, _⟩ := hB (by rw [← HBl.out.2]; omega)
                  rw [h] at e
                  cases e) HBl.out.2 (by omega) (by omega)).mono fun e w' ⟨h1, h2⟩ => ⟨h1, h2⟩
                have HAw : Hid (∀ u, (True ∧ StO wr u) → Calls Try.prog 11 #[] u fun e w' => e = .returned (.bool true) ∧ StO u w') := hid fun u hu => (tkAwake u).mono fun e w' ⟨h1, h2⟩ => ⟨h1, h2⟩
                have HOw : StO w wr := hid (HO.out.trans HT.out.a.only)
                generalize bestL (xs.take 257) = bl at *
                clear HX HT HA1 HA2 HR1 HR2 HXI HY hW7 hW8 hx7 HBl HTT HTF
                go_wp2_with fail
                refine (HL7.out _ (hid (Only.refl _ _))).mono ?_
                rintro e w2 ⟨B, c', rfl, HB2, HO2⟩
                go_wp2_with fail
                refine (HL8.out _ HO2).mono ?_
                rintro e w3 ⟨B8, n8, c8, rfl, HO23, HO3⟩
                have HB3 := hid (HB2.out.st HO23)
                clear HO2 HB2 HL7 HL8
                have HG1 : Hid (∀ u, (True ∧ StO w3 u) → Calls Try.prog 9 #[.slice (some ⟨g1, 0, none⟩) 257 c1, .slice (some ⟨g2, 0, none⟩) 257 c2] u fun e w' => e = .returned (.bool true) ∧ StO w3 w') := hid fun u hu => (HF1.out u ⟨trivial, hid (HO3.out.trans hu.2.out)⟩).mono fun e w' ⟨h1, h2⟩ => ⟨h1, hid (hu.2.out.trans h2.out)⟩
                have HG2 : Hid (∀ u, (True ∧ StO w3 u) → Calls Try.prog 9 #[.slice (some ⟨g1, 0, none⟩) 258 c1, .slice (some ⟨g2, 0, none⟩) 258 c2] u fun e w' => e = .returned (.bool true) ∧ StO w3 w') := hid fun u hu => (HF2.out u ⟨trivial, hid (HO3.out.trans hu.2.out)⟩).mono fun e w' ⟨h1, h2⟩ => ⟨h1, hid (hu.2.out.trans h2.out)⟩
                have HG3 : Hid (∀ u, (True ∧ StO w3 u) → Calls Try.prog 9 #[.slice (some ⟨g1, 0, none⟩) 257 c1, .slice B 257 c'] u fun e w' => e = .returned (.bool true) ∧ StO w3 w') := hid fun u hu => (HF3.out u B c' (HB3.out.st hu.2) ⟨trivial, hid (HO3.out.trans hu.2.out)⟩).mono fun e w' ⟨h1, h2⟩ => ⟨h1, hid (hu.2.out.trans h2.out)⟩
                have HGw : Hid (∀ u, (True ∧ StO w3 u) → Calls Try.prog 11 #[] u fun e w' => e = .returned (.bool true) ∧ StO w3 w') := hid fun u hu => (HAw.out u ⟨trivial, hid (HO3.out.trans hu.2.out)⟩).mono fun e w' ⟨h1, h2⟩ => ⟨h1, hid (hu.2.out.trans h2.out)⟩
                have HO0 : StO w w3 := hid (HOw.out.trans HO3.out)
                clear HF1 HF2 HF3 HAw HO3 HOw HB3
                go_wp2_with fail
                go_region_held3 (fun w' => True ∧ StO w3 w')
                  (first | with_reducible assumption | with_reducible exact ⟨trivial, hid (Only.refl _ _)⟩ | with_reducible exact ⟨trivial, hid (Only.refl _ _).drew⟩ | with_reducible exact ⟨trivial, by with_reducible assumption⟩)
                  (first
                    | (go_at_call 11; (with_reducible refine (HGw.out _ (by with_reducible assumption)).mono ?_); rintro e we ⟨rfl, HOe⟩)
                    | (go_at_call 9; (with_reducible show Calls _ _ #[Value.slice _ 258 _, _] _ _); (with_reducible refine (HG2.out _ (by with_reducible assumption)).mono ?_); rintro e wc ⟨rfl, HOc⟩)
                    | (go_at_call 9; (with_reducible refine (HG1.out _ (by with_reducible assumption)).mono ?_); rintro e wb ⟨rfl, HOb⟩)
                    | (go_at_call 9; (with_reducible refine (HG3.out _ (by with_reducible assumption)).mono ?_); rintro e wd ⟨rfl, HOd⟩))
                have HO9 : StO w _ := hid (HO0.out.trans (show True ∧ StO w3 we by with_reducible assumption).2.out)
                go_wp2_with fail
                go_ret
                exact ⟨rfl, hid (HO9.out.to_below (fun _ h => h.elim) (Nat.le_refl _))⟩
end Go.Proofs.Ythfnpgmjbfbocaa
