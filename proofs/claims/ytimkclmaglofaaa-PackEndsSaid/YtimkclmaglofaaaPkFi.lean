/- PackFinds. -/
import Derived.Test.YtimkclmaglofaaaPkF
import Derived.Test.YtimkclmaglofaaaPkLe
namespace Go.Proofs.Ytimkclmaglofaaa
open Go.RowKit
open Bit

def clampI (z : Int) : Int := max (min z 1152921504606846975) 0
/-- The numbers that the law makes of those that came: clamped, none less than that ahead of it. -/
def risen (x : Nat → Int) : Nat → Int
  | 0 => clampI (x 0)
  | k + 1 => max (clampI (x (k + 1))) (risen x k)
theorem clamp_bd (z : Int) : 0 ≤ clampI z ∧ clampI z < 1152921504606846976 := by unfold clampI; omega
theorem risen_bd (x : Nat → Int) (k : Nat) : 0 ≤ risen x k ∧ risen x k < 1152921504606846976 := by
  induction k with
  | zero => exact clamp_bd _
  | succ k ih => have := clamp_bd (x (k + 1)); simp only [risen]; omega
theorem risen_step (x : Nat → Int) (k : Nat) : risen x k ≤ risen x (k + 1) := by simp only [risen]; omega
theorem risen_mono (x : Nat → Int) {a b : Nat} (h : a ≤ b) : risen x a ≤ risen x b := by
  obtain ⟨d, rfl⟩ := Nat.exists_eq_add_of_le h
  clear h
  induction d with
  | zero => exact Int.le_refl _
  | succ d ih => exact Int.le_trans ih (risen_step x _)
def riseL (x : Nat → Int) (n : Nat) : List Int := (List.range n).map (risen x)
theorem riseL_len (x : Nat → Int) (n : Nat) : (riseL x n).length = n := by simp [riseL]
theorem riseL_at (x : Nat → Int) (n : Nat) {k : Nat} (h : k < n) : (riseL x n).getD k 0 = risen x k := by simp [riseL, List.getD, h]
theorem riseL_ints (x : Nat → Int) (n : Nat) : Ints (riseL x n) := by
  intro z hz
  obtain ⟨k, _, rfl⟩ := List.mem_map.1 hz
  have := risen_bd x k
  omega
theorem riseL_good (x : Nat → Int) (n : Nat) : allGood 60 (riseL x n) = true := allGood_iff.2 (by
  intro z hz
  obtain ⟨k, _, rfl⟩ := List.mem_map.1 hz
  have := risen_bd x k
  refine good_nat.2 ⟨this.1, ?_⟩
  have e : (2 : Nat) ^ 60 = 1152921504606846976 := by decide
  rw [e]; omega)

set_option maxRecDepth 100000 in
set_option maxHeartbeats 1000000 in
theorem packFinds_long (A : Option Addr) (L cap : Nat) (n : Int) (W : World) (h : 2000 < L) :
    Calls Try.prog 5 #[.slice A L cap, .int .i64 n] W (Yes W) := by
  go_enter Try.func5, Try.ntmps5
  go_wp2_with (go_at_call 9; refine (awake_any _).mono ?_; rintro e w1 ⟨rfl, HB⟩)
  go_ret
  exact ⟨rfl, HB⟩

/-- The row at place k of the loop. -/
def riseV (x : Nat → Int) (F : Nat → Value) (k j : Nat) : Value := if j < k then .int .i64 (risen x j) else F j

set_option maxRecDepth 100000 in
set_option maxHeartbeats 4000000 in
theorem packFinds_ok (A : Option Addr) (cap : Nat) (zs : List Int) (n : Int) (W : World) (h : zs.length ≤ 2000) (hz : RdI W A zs) (hA : A = none → zs.length = 0 ∧ cap = 0) :
    Calls Try.prog 5 #[.slice A zs.length cap, .int .i64 n] W (Yes W) := by
  have HZ : Hid (RdV W A zs.length (vI zs)) := hid hz
  have HA := hid hA
  clear hz hA
  obtain ⟨x, hx⟩ : ∃ x : Nat → Int, x = fun j => zs.getD j 0 := ⟨_, rfl⟩
  have HX : Hid (∀ j, vI zs j = .int .i64 (x j)) := hid fun j => by rw [hx]; rfl
  clear hx
  generalize zs.length = N at h HZ HA ⊢
  have hN : N ≤ 16777216 := by omega
  go_enter Try.func5, Try.ntmps5
  go_wp2_with (at_builtin; refine wpList_copy_new _ 3 22 (.int .i64 0) 8 Try.underlying22 intInfo rfl (by omega) rfl (.tmp 19) (.tmp 20) rfl rfl A N cap (vI zs) rfl (fun _ => rfl) HA HZ hN ?_; intro g cap' w1 HO)
  obtain ⟨F, hF1, hF2⟩ := HO.out.row
  have hle := HO.out.le
  have HF1 := hid hF1
  have HF2 : Hid (∀ j, j < N → F j = .int .i64 (x j)) := hid fun j hj => by rw [hF2 j hj, HX.out]
  have HB1 := hid (HO.out.only.to_below (B := W.heap.size) (fun _ h => h.elim) (Nat.le_refl _))
  have HG := hid HO.out.ge
  clear hF1 hF2 HO HZ HA HX
  go_loopw [6] (fun s wr => ∃ k : Nat, k ≤ N ∧ s = .int .i64 k ∧ Hid (wr.rowIs g 3 cap' (riseV x F k)) ∧ Hid (Below W.heap.size W wr)) (fun s _ => N - (intOf s).toNat)
  case atStart => exact ⟨0, by omega, rfl, hid (HF1.out.congr fun i _ => by unfold riseV; rw [if_neg (by omega)]), HB1⟩
  case round =>
    obtain ⟨k, hk, rfl, HR, HW⟩ := hrel
    clear HB1
    by_cases hp : k < N
    · have ck := HR.out.cell (i := k) (by omega)
      have fz := HR.out.frozen k
      unfold riseV at ck
      rw [if_neg (by omega), HF2.out k hp] at ck
      cases k with
      | zero =>
        have HN : Hid (∀ z, z = clampI (x 0) → World.rowIs (wr.setCell ⟨g, 0, none⟩ (.int .i64 z)) g 3 cap' (riseV x F 1)) := hid fun z hz => (HR.out.set 0 _).congr fun j _ => by
          unfold riseV
          by_cases e : j = 0
          · subst e; rw [if_pos rfl, if_pos (by omega), hz]; rfl
          · rw [if_neg e, if_neg (by omega), if_neg (by omega)]
        have HW2 : Hid (∀ v, Below W.heap.size W (wr.setCell ⟨g, 0, none⟩ v)) := hid fun v => HW.out.setCell (p := ⟨g, 0, none⟩) HG.out v
        generalize x 0 = z at ck HN
        have h0 : (0 : Int) < (N : Int) := by omega
        clear HR HW
        go_wp2
        go_roundw
        case rel => exact ⟨1, by omega, rfl, hid (HN.out _ rfl), hid (HW2.out _)⟩
        case measure => simp [intOf]; omega
      | succ m =>
        have cm := HR.out.cell (i := m) (by omega)
        unfold riseV at cm
        rw [if_pos (by omega)] at cm
        have HN : Hid (∀ a z, z = risen x (m + 1) → World.rowIs ((wr.setCell ⟨g, m + 1, none⟩ (.int .i64 a)).setCell ⟨g, m + 1, none⟩ (.int .i64 z)) g 3 cap' (riseV x F (m + 1 + 1))) := hid fun a z hz => ((HR.out.set (m + 1) _).set (m + 1) _).congr fun j _ => by
          unfold riseV
          by_cases e : j = m + 1
          · subst e; rw [if_pos rfl, if_pos (by omega), hz]
          · rw [if_neg e, if_neg e]
            by_cases e2 : j < m + 1
            · rw [if_pos e2, if_pos (by omega)]
            · rw [if_neg e2, if_neg (by omega)]
        have HW2 : Hid (∀ u v, Below W.heap.size W ((wr.setCell ⟨g, m + 1, none⟩ u).setCell ⟨g, m + 1, none⟩ v)) := hid fun u v => (HW.out.setCell (p := ⟨g, m + 1, none⟩) HG.out u).setCell (p := ⟨g, m + 1, none⟩) HG.out v
        have HCs : Hid (∀ u, (wr.setCell ⟨g, m + 1, none⟩ u).cell? ⟨g, m + 1, none⟩ = some u) := hid fun u => by have := (HR.out.set (m + 1) u).cell (i := m + 1) (by omega); rwa [if_pos rfl] at this
        have HFz : Hid (∀ u, (wr.setCell ⟨g, m + 1, none⟩ u).frozen? ⟨g, m + 1, none⟩ = false) := hid fun u => (HR.out.set (m + 1) u).frozen (m + 1)
        have HS : Hid (risen x (m + 1) = max (clampI (x (m + 1))) (risen x m)) := hid rfl
        have ek : ((m + 1 : Nat) : Int) = (m : Int) + 1 := by omega
        rw [ek]
        clear ek
        have cz := clamp_bd (x (m + 1))
        have Hcz : Hid (clampI (x (m + 1)) = max (min (x (m + 1)) 1152921504606846975) 0) := hid rfl
        generalize clampI (x (m + 1)) = y at HS cz Hcz
        generalize x (m + 1) = z at ck Hcz
        have hyb := risen_bd x m
        generalize risen x m = v at cm HS hyb
        have h0 : (m : Int) + 1 < (N : Int) := by omega
        clear HR HW
        go_wp2
        rw [← Hcz.out]
        have d1 : (wr.setCell ⟨g, m + 1, none⟩ (.int .i64 y)).cell? ⟨g, m + 1, none⟩ = some (.int .i64 y) := HCs.out _
        have d2 : (wr.setCell ⟨g, m + 1, none⟩ (.int .i64 y)).cell? ⟨g, m, none⟩ = some (.int .i64 v) := by rw [World.cell?_setCell_other _ _ _ _ (by simp), cm]
        have d3 : (wr.setCell ⟨g, m + 1, none⟩ (.int .i64 y)).frozen? ⟨g, m + 1, none⟩ = false := HFz.out _
        have HN1 := hid (HN.out y)
        have HW1 := hid (HW2.out (.int .i64 y))
        clear HN HW2 ck cm fz Hcz
        generalize wr.setCell ⟨g, m + 1, none⟩ (.int .i64 y) = w2 at d1 d2 d3 HN1 HW1 ⊢
        have hw1 : IntKind.i64.wrap ((m : Int) + 1 - 1) = (m : Int) := by rw [IntKind.wrap_i64]; omega
        have hm0 : (0 : Int) ≤ (m : Int) := by omega
        have hmN : (m : Int) < (N : Int) := by omega
        have hmn : ((m : Int)).toNat = m := by omega
        have hk0 : (0 : Int) ≤ (m : Int) + 1 := by omega
        have hkn : ((m : Int) + 1).toNat = m + 1 := by omega
        go_region
        all_goals go_wp2
        go_roundw
        case rel => exact ⟨m + 2, by omega, by go_num, hid (HN1.out _ HS.out.symm).drew, hid (HW1.out _).drew⟩
        case measure => simp [intOf]; omega
    · obtain rfl : k = N := by omega
      have HRd : Hid (RdI wr (some ⟨g, 0, none⟩) (riseL x k)) := hid (by
        unfold RdI
        rw [riseL_len]
        exact ((RdV.of_row HR.out).take hle).congr fun j hj => by unfold riseV vI; rw [if_pos hj, riseL_at x k hj])
      have hwp := wid_pos (riseL x k)
      have hw60 : wid (riseL x k) ≤ 60 := wid_le (by omega) (by omega) (allGood_iff.1 (riseL_good x k))
      have hsm : wid (riseL x k) * (riseL x k).length ≤ 16777216 := by
        rw [riseL_len]
        have := Nat.mul_le_mul hw60 h
        omega
      have HOf : Hid (Calls Try.prog 15 #[.slice (some ⟨g, 0, none⟩) k cap'] wr (Made wr (wid (riseL x k)) k (fS (wid (riseL x k)) (zl (riseL x k)) k))) := hid (by
        have := of_ok cap' _ (riseL x k) wr HRd.out (riseL_ints x k) (riseL_good x k) hsm
        rwa [riseL_len] at this)
      have HRef : Hid (∀ w2, Below wr.heap.size wr w2 → Calls Try.prog 16 #[.slice (some ⟨g, 0, none⟩) k cap'] w2 (RMade w2 (wid (riseL x k)) (riseL x k))) := hid fun w2 hb2 => by
        have := refOf_ok cap' _ (riseL x k) w2 (HRd.out.below hb2) (fun h => by cases h) (riseL_ints x k) (riseL_good x k) hsm
        rwa [riseL_len] at this
      have HDig : Hid (∀ j, j < k → ((dig (fS (wid (riseL x k)) (zl (riseL x k)) k) (wid (riseL x k)) j : Nat) : Int) = risen x j) := hid fun j hj => by
        have hg := good_zl (wd := wid (riseL x k)) (zs := riseL x k) (k := j) (by rw [allGood_bad, allGood_iff.2 ((wid_iff hwp hw60 (allGood_iff.1 (riseL_good x k))).2 (Nat.le_refl _))]; rfl) (by rw [riseL_len]; exact hj)
        rw [dig_fS hj hg.2, ← hg.1, riseL_at x k hj]
      have HB2 := hid HW.out
      clear HR HW HRd hsm hwp
      generalize fS (wid (riseL x k)) (zl (riseL x k)) k = f at HOf HDig
      generalize wid (riseL x k) = v at HOf HRef HDig hw60
      go_wp2_with fail
      refine HOf.out.mono ?_
      rintro e w2 ⟨g1, gw1, rfl, hr1, _, _, hb2⟩
      have HR1 := hid hr1
      have HBr := hid hb2
      have HB3 := hid (HB2.out.trans (hb2.mono HB2.out.size))
      clear hr1 hb2 HOf HB2
      go_wp2_with fail
      refine (HRef.out _ HBr.out).mono ?_
      rintro e w3 ⟨r, capr, Ar, rfl, hq, _, hb3⟩
      have HQ := hid hq
      have HR3 := hid (HR1.out.below hb3)
      have HB4 := hid (HB3.out.trans (hb3.mono HB3.out.size))
      clear hq hb3 HRef HBr HB3 HR1
      go_wp2_with fail
      refine (find_any HR3.out n (fun a b h1 h2 => by have h3 := HDig.out a (by omega); have h4 := HDig.out b h2; have := risen_mono x h1; omega)).mono ?_
      rintro e w4 ⟨q, hF, rfl, hb4⟩
      have HQ4 := hid (HQ.out.below hb4)
      have HB5 := hid (HB4.out.trans (hb4.mono HB4.out.size))
      have HFi := hid hF
      clear hF hb4 HQ HR3 HB4
      go_wp2_with fail
      refine (refFind_any HQ4.out n (by rw [riseL_len]; omega)).mono ?_
      rintro e w5 ⟨q2, hF2, rfl, hb5⟩
      have HB6 := hid (HB5.out.trans (hb5.mono HB5.out.size))
      have hqq : q = q2 := (HFi.out.congr (y := fun j => (riseL x k).getD j 0) fun j hj => by show ((dig f v j : Nat) : Int) = (riseL x k).getD j 0; rw [HDig.out j hj, riseL_at x k hj]).one (by have := hF2; rwa [riseL_len] at this)
      have hhit : hit (fun j => ((dig f v j : Nat) : Int)) k n q = hit (fun j => (riseL x k).getD j 0) (riseL x k).length n q2 := by
        rw [riseL_len, ← hqq]
        unfold hit
        by_cases hl : q < k
        · show (decide (q < k) && (((dig f v q : Nat) : Int) == n)) = (decide (q < k) && ((riseL x k).getD q 0 == n))
          rw [HDig.out q hl, riseL_at x k hl]
        · simp [hl]
      rw [hhit]
      subst hqq
      clear hhit hF2 hb5 HQ4 HB5 HFi
      generalize hit (fun j => (riseL x k).getD j 0) (riseL x k).length n q = bb
      go_wp2_with (go_at_call 9; refine (awake_any _).mono ?_; rintro e w6 ⟨rfl, HB7⟩)
      go_ret
      exact ⟨rfl, hid (HB6.out.trans (HB7.out.mono HB6.out.size))⟩
end Go.Proofs.Ytimkclmaglofaaa
