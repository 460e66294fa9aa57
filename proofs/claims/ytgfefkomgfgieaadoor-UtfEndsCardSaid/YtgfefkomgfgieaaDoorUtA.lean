/- What UtfBack asks: numbers' order, texts' order; same numbers. -/
import Derived.Test.YtgfefkomgfgieaaDoorUt9
import Derived.Test.YtgfefkomgfgieaaDoorKt
namespace Go.Proofs.YtgfefkomgfgieaaDoor
open Go.RowKit U G

def lessZ : List Int → List Int → Bool
  | [], [] => false
  | [], _ :: _ => true
  | _ :: _, [] => false
  | a :: x, b :: y => if a = b then lessZ x y else decide (a < b)
theorem lessZ_step {xs ys : List Int} {k : Nat} (h1 : k < xs.length) (h2 : k < ys.length) : lessZ (xs.drop k) (ys.drop k) = if xs.getD k 0 = ys.getD k 0 then lessZ (xs.drop (k + 1)) (ys.drop (k + 1)) else decide (xs.getD k 0 < ys.getD k 0) := by
  rw [List.drop_eq_getElem_cons h1, List.drop_eq_getElem_cons h2]
  simp [lessZ, List.getD, h1, h2]
theorem lessZ_end {xs ys : List Int} (h : xs = [] ∨ ys = []) : lessZ xs ys = decide (xs.length < ys.length) := by
  rcases h with rfl | rfl
  · cases ys <;> simp [lessZ]
  · cases xs <;> simp [lessZ]
theorem lessZ_nat : ∀ (xs ys : List Int), allSg xs = true → allSg ys = true → lessZ xs ys = lessL (natZ xs) (natZ ys)
  | [], [], _, _ => rfl
  | [], _ :: _, _, _ => rfl
  | _ :: _, [], _, _ => rfl
  | a :: x, b :: y, h1, h2 => by
    have g1 : isZ a = true ∧ allSg x = true := by simpa [allSg] using h1
    have g2 : isZ b = true ∧ allSg y = true := by simpa [allSg] using h2
    have p1 := ((isZ_iff a).1 g1.1).1
    have p2 := ((isZ_iff b).1 g2.1).1
    have ih := lessZ_nat x y g1.2 g2.2
    show (if a = b then lessZ x y else decide (a < b)) = (if a.toNat < b.toNat then true else if b.toNat < a.toNat then false else lessL (natZ x) (natZ y))
    rcases Int.lt_trichotomy a b with h | h | h
    · rw [if_neg (by omega), if_pos (by omega), decide_eq_true h]
    · subst h
      rw [if_pos rfl, if_neg (by omega), if_neg (by omega), ih]
    · rw [if_neg (by omega), if_neg (by omega), if_pos (by omega), decide_eq_false (by omega)]
theorem bytesLess_nat : ∀ (x y : List UInt8), Op.bytesLess x y = lessL (x.map UInt8.toNat) (y.map UInt8.toNat)
  | [], [] => rfl
  | [], _ :: _ => rfl
  | _ :: _, [] => rfl
  | a :: x, b :: y => by
    have ih := bytesLess_nat x y
    show (decide (a < b) || (a == b && Op.bytesLess x y)) = (if a.toNat < b.toNat then true else if b.toNat < a.toNat then false else lessL (x.map UInt8.toNat) (y.map UInt8.toNat))
    rcases Nat.lt_trichotomy a.toNat b.toNat with h | h | h
    · rw [if_pos h, decide_eq_true (UInt8.lt_iff_toNat_lt.2 h)]; rfl
    · have e : a = b := UInt8.toNat_inj.1 h
      subst e
      rw [if_neg (by omega), if_neg (by omega), decide_eq_false (by simp), ih]
      simp
    · rw [if_neg (by omega), if_pos h, decide_eq_false (by rw [UInt8.lt_iff_toNat_lt]; omega), show (a == b) = false by rw [beq_eq_false_iff_ne]; rintro rfl; omega]
      rfl
theorem strLess (s t : ByteArray) : Op.bytesLess s.toList t.toList = lessL (bl s) (bl t) := by
  rw [ByteArray.toList_eq, ByteArray.toList_eq]
  exact bytesLess_nat _ _
theorem sg_nat {zs : List Int} (h : allSg zs = true) : ∀ n ∈ natZ zs, sgn n := fun n hn => by
  obtain ⟨z, hz, rfl⟩ := List.mem_map.1 hn
  unfold allSg at h
  rw [List.all_eq_true] at h
  exact ((isZ_iff z).1 (h z hz)).2
theorem nat_back {zs : List Int} (h : allSg zs = true) : iNs (natZ zs) = zs := by
  unfold iNs natZ
  rw [List.map_map]
  refine (List.map_congr_left fun z hz => ?_).trans (List.map_id zs)
  unfold allSg at h
  rw [List.all_eq_true] at h
  have := ((isZ_iff z).1 (h z hz)).1
  simp
  omega
theorem all_iNs {ns : List Nat} (h : ∀ n ∈ ns, sgn n) : allSg (iNs ns) = true := by
  unfold allSg iNs
  rw [List.all_map, List.all_eq_true]
  intro n hn
  exact (isZ_iff ((n : Nat) : Int)).2 ⟨Int.natCast_nonneg n, by rw [Int.toNat_natCast]; exact h n hn⟩
theorem natZ_iNs (ns : List Nat) : natZ (iNs ns) = ns := by
  unfold natZ iNs
  rw [List.map_map]
  exact (List.map_congr_left fun n _ => by simp).trans (List.map_id ns)
theorem texts_less {xs ys : List Int} (h1 : allSg xs = true) (h2 : allSg ys = true) : Op.bytesLess (strB (encL (natZ xs))).toList (strB (encL (natZ ys))).toList = lessZ xs ys := by
  rw [strLess, bl_strB (encL_bys (sg_nat h1)), bl_strB (encL_bys (sg_nat h2)), encL_less _ _ (sg_nat h1) (sg_nat h2), lessZ_nat xs ys h1 h2]
theorem sgs_text {zs : List Int} (h : allSg zs = true) : sgsL (bl (strB (encL (natZ zs)))) = (natZ zs, (strB (encL (natZ zs))).size) := by
  have hb := bl_strB (encL_bys (sg_nat h))
  have e0 : sgsL ([] : List Nat) = ([], 0) := sgsL_end (by rw [nxt_nil])
  have := sgsL_enc (natZ zs) [] (sg_nat h)
  rw [List.append_nil, e0] at this
  rw [hb, this, ← bl_len, hb]
  simp
set_option maxHeartbeats 1000000 in
theorem less_any {A1 A2 : Option Addr} {n1 n2 c1 c2 : Nat} {xs ys : List Int} {w : World} (hx : RdI w A1 xs) (hy : RdI w A2 ys) (h1 : n1 = xs.length) (h2 : n2 = ys.length) (hb1 : n1 ≤ 300000000) (hb2 : n2 ≤ 300000000) :
    Calls Tryd.prog 25 #[.slice A1 n1 c1, .slice A2 n2 c2] w fun e w' => e = .returned (.bool (lessZ xs ys)) ∧ StU w w' := by
  have HX : Hid (∀ W, StU w W → ∀ k, k < n1 → ∃ b off, A1 = some ⟨b, off, none⟩ ∧ W.cell? ⟨b, off + k, none⟩ = some (.int .i64 (xs.getD k 0))) := hid fun W hW k hk => by
    obtain ⟨b, off, e, h, hlt⟩ := hx.at (k := k) (by omega)
    exact ⟨b, off, e, (hW.out.cell (p := ⟨b, off + k, none⟩) hlt no_).trans h⟩
  have HY : Hid (∀ W, StU w W → ∀ k, k < n2 → ∃ b off, A2 = some ⟨b, off, none⟩ ∧ W.cell? ⟨b, off + k, none⟩ = some (.int .i64 (ys.getD k 0))) := hid fun W hW k hk => by
    obtain ⟨b, off, e, h, hlt⟩ := hy.at (k := k) (by omega)
    exact ⟨b, off, e, (hW.out.cell (p := ⟨b, off + k, none⟩) hlt no_).trans h⟩
  have HS : Hid (∀ k, k < n1 → k < n2 → lessZ (xs.drop k) (ys.drop k) = if xs.getD k 0 = ys.getD k 0 then lessZ (xs.drop (k + 1)) (ys.drop (k + 1)) else decide (xs.getD k 0 < ys.getD k 0)) := hid fun k hk1 hk2 => lessZ_step (by omega) (by omega)
  have HE : Hid (∀ k, k ≤ n1 → k ≤ n2 → (k = n1 ∨ k = n2) → lessZ (xs.drop k) (ys.drop k) = decide (n1 < n2)) := hid fun k hk1 hk2 h => by
    rw [lessZ_end (by rcases h with h | h; exact .inl (List.drop_eq_nil_of_le (by omega)); exact .inr (List.drop_eq_nil_of_le (by omega))), List.length_drop, List.length_drop, decide_eq_decide]
    omega
  clear hx hy h1 h2
  go_enter Tryd.func25, Tryd.ntmps25
  go_wp2_with fail
  go_loopw [5] (fun s wr => ∃ k : Nat, k ≤ n1 ∧ k ≤ n2 ∧ s = .int .i64 (k : Int) ∧ StU w wr ∧ Hid (lessZ xs ys = lessZ (xs.drop k) (ys.drop k))) (fun s _ => n1 - (intOf s).toNat)
  case atStart => exact ⟨0, by omega, by omega, rfl, hid (Only.refl _ _), hid rfl⟩
  case round =>
    obtain ⟨k, hk1, hk2, rfl, HO, HC⟩ := hrel
    by_cases hp1 : k < n1
    · have hp1' : (k : Int) < (n1 : Int) := by omega
      by_cases hp2 : k < n2
      · have hp2' : (k : Int) < (n2 : Int) := by omega
        obtain ⟨b1, o1, rfl, d1⟩ := HX.out wr HO k hp1
        obtain ⟨b2, o2, rfl, d2⟩ := HY.out wr HO k hp2
        have hst := HS.out k hp1 hp2
        generalize xs.getD k 0 = x at *
        generalize ys.getD k 0 = y at *
        by_cases hxy : x = y
        · subst hxy
          rw [if_pos rfl] at hst
          have HC2 := hid (HC.out.trans hst)
          clear hst HC
          go_wp2_with fail
          go_quiet (fail)
          have HO2 : StU w (wr.drewN nq) := hid (HO.out.drewN _)
          generalize wr.drewN nq = w2 at HO2 ⊢
          clear d1 d2
          go_wp2_with fail
          go_roundw
          case rel => exact ⟨k + 1, by omega, by omega, by go_num, HO2, HC2⟩
          case measure => simp [intOf]; omega
        · rw [if_neg hxy] at hst
          have HC2 := hid (HC.out.trans hst)
          have hne : (x != y) = true := by rw [bne_iff_ne]; exact hxy
          have d3 : ∀ q, (wr.drewN q).cell? ⟨b2, o2 + k, none⟩ = wr.cell? ⟨b2, o2 + k, none⟩ := fun q => rfl
          have d5 : ∀ q, (wr.drewN q).cell? ⟨b1, o1 + k, none⟩ = wr.cell? ⟨b1, o1 + k, none⟩ := fun q => rfl
          clear hst HC
          go_wp2_with fail
          go_quiet (fail)
          have HO2 : StU w (wr.drewN nq) := hid (HO.out.drewN _)
          have d4 := d3 nq
          rw [d2] at d4
          have d6 := d5 nq
          rw [d1] at d6
          generalize wr.drewN nq = w2 at HO2 d4 d6 ⊢
          clear d3 d5 d1 d2
          go_wp2_with fail
          go_quiet (fail)
          go_wp2_with fail
          go_ret
          exact ⟨by rw [HC2.out]; rfl, hid (HO2.out.drewN _)⟩
      · obtain rfl : k = n2 := by omega
        have HC2 := hid (HC.out.trans (HE.out k (by omega) (by omega) (.inr rfl)))
        go_wp2_with fail
        go_ret
        exact ⟨by rw [HC2.out]; simp; try rfl, HO⟩
    · obtain rfl : k = n1 := by omega
      have HC2 := hid (HC.out.trans (HE.out k (by omega) (by omega) (.inl rfl)))
      go_wp2_with fail
      go_ret
      exact ⟨by rw [HC2.out]; simp; try rfl, HO⟩
end Go.Proofs.YtgfefkomgfgieaaDoor
