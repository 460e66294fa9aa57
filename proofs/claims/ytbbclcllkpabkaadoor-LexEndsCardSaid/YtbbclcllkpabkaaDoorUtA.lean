/- What UtfBack asks: numbers' order, texts' order; same numbers. -/
import Derived.Test.YtbbclcllkpabkaaDoorUt9
import Derived.Test.YtbbclcllkpabkaaDoorKt
namespace Go.Proofs.YtbbclcllkpabkaaDoor
open Go.RowKit U G

def lessZ : List Int → List Int → Bool
  | [], [] => false
  | [], _ :: _ => true
  | _ :: _, [] => false
  | a :: x, b :: y => if a = b then lessZ x y else decide (a < b)
theorem lessZ_step {xs ys : List Int} {k : Nat} (h1 : k < xs.length) (h2 : k < ys.length) : lessZ (xs.drop k) (ys.drop k) = if xs.getD k 0 = ys.getD k 0 then lessZ (xs.drop (k + 1)) (ys.drop (k + 1)) else decide (xs.getD k 0 < ys.getD k 0) := by
  rw [List.drop_eq_getElem_cons h1, List.drop_eq_getElem_cons h2]
  simp [lessZ, List.getD, h1, h2]
theorem lessZ_end {xs ys : List Int} (h : xs = [] ∨ ys = []) : lessZ xs ys = decide (xs.length < ys.length) := by
  rcases h with rfl | rfl
  · cases ys <;> simp [lessZ]
  · cases xs <;> simp [lessZ]
theorem lessZ_nat : ∀ (xs ys : List Int), allSg xs = true → allSg ys = true → lessZ xs ys = lessL (natZ xs) (natZ ys)
  | [], [], _, _ => rfl
  | [], _ :: _, _, _ => rfl
  | _ :: _, [], _, _ => rfl
  | a :: x, b :: y, h1, h2 => by
    have g1 : isZ a = true ∧ allSg x = true := by simpa [allSg] using h1
    have g2 : isZ b = true ∧ allSg y = true := by simpa [allSg] using h2
    have p1 := ((isZ_iff a).1 g1.1).1
    have p2 := ((isZ_iff b).1 g2.1).1
    have ih := lessZ_nat x y g1.2 g2.2
    show (if a = b then lessZ x y else decide (a < b)) = (if a.toNat < b.toNat then true else if b.toNat < a.toNat then false else lessL (natZ x) (natZ y))
    rcases Int.lt_trichotomy a b with h | h | h
    · rw [if_neg (by omega), if_pos (by omega), decide_eq_true h]
    · subst h
      rw [if_pos rfl, if_neg (by omega), if_neg (by omega), ih]
    · rw [if_neg (by omega), if_neg (by omega), if_pos (by omega), decide_eq_false (by omega)]
theorem bytesLess_nat : ∀ (x y : List UInt8), Op.bytesLess x y = lessL (x.map UInt8.toNat) (y.map UInt8.toNat)
  | [], [] => rfl
  | [], _ :: _ => rfl
  | _ :: _, [] => rfl
  | a :: x, b :: y => by
    have ih := bytesLess_nat x y
    show (decide (a < b) || (a == b && Op.bytesLess x y)) = (if a.toNat < b.toNat then true else if b.toNat < a.toNat then false else lessL (x.map UInt8.toNat) (y.map UInt8.toNat))
    rcases Nat.lt_trichotomy a.toNat b.toNat with h | h | h
    · rw [if_pos h, decide_eq_true (UInt8.lt_iff_toNat_lt.2 h)]; rfl
    · have e : a = b := UInt8.toNat_inj.1 h
      subst e
      rw [if_neg (by omega), if_neg (by omega), decide_eq_false (by simp), ih]
      simp
    · rw [if_neg (by omega), if_pos h, decide_eq_false (by rw [UInt8.lt_iff_toNat_lt]; omega), show (a == b) = false by rw [beq_eq_false_iff_ne]; rintro rfl; omega]
      rfl
theorem strLess (s t : ByteArray) : Op.bytesLess s.toList t.toList = lessL (bl s) (bl t) := by
  rw [ByteArray.toList_eq, ByteArray.toList_eq]
  exact bytesLess_nat _ _
theorem sg_nat {zs : List Int} (h : allSg zs = true) : ∀ n ∈ natZ zs, sgn n := fun n hn => by
  obtain ⟨z, hz, rfl⟩ := List.mem_map.1 hn
  unfold allSg at h
  rw [List.all_eq_true] at h
  exact ((isZ_iff z).1 (h z hz)).2
theorem nat_back {zs : List Int} (h : allSg zs = true) : iNs (natZ zs) = zs := by
  unfold iNs natZ
  rw [List.map_map]
  refine (List.map_congr_left fun z hz => ?_).trans (List.map_id zs)
  unfold allSg at h
  rw [List.all_eq_true] at h
  have := ((isZ_iff z).1 (h z hz)).1
  simp
  omega
theorem all_iNs {ns : List Nat} (h : ∀ n ∈ ns, sgn n) : allSg (iNs ns) = true := by
  unfold allSg iNs
  rw [List.all_map, List.all_eq_true]
  intro n hn
  exact (isZ_iff ((n : Nat) : Int)).2 ⟨Int.natCast_nonneg n, by rw [Int.toNat_natCast]; exact h n hn⟩
theorem natZ_iNs (ns : List Nat) : natZ (iNs ns) = ns := by
  unfold natZ iNs
  rw [List.map_map]
  exact (List.map_congr_left fun n _ => by simp).trans (List.map_id ns)
theorem texts_less {xs ys : List Int} (h1 : allSg xs = true) (h2 : allSg ys = true) : Op.bytesLess (strB (encL (natZ xs))).toList (strB (encL (natZ ys))).toList = lessZ xs ys := by
  rw [strLess, bl_strB (encL_bys (sg_nat h1)), bl_strB (encL_bys (sg_nat h2)), encL_less _ _ (sg_nat h1) (sg_nat h2), lessZ_nat xs ys h1 h2]
theorem sgs_text {zs : List Int} (h : allSg zs = true) : sgsL (bl (strB (encL (natZ zs)))) = (natZ zs, (strB (encL (natZ zs))).size) := by
  have hb := bl_strB (encL_bys (sg_nat h))
  have e0 : sgsL ([] : List Nat) = ([], 0) := sgsL_end (by rw [nxt_nil])
  have := sgsL_enc (natZ zs) [] (sg_nat h)
  rw [List.append_nil, e0] at this
  rw [hb, this, ← bl_len, hb]
  simp
end Go.Proofs.YtbbclcllkpabkaaDoor
