/- The law's size, awake; TermTells. -/
import Derived.Test.YtefcnaccemefnaaDoorTeL
namespace Go.Proofs.YtefcnaccemefnaaDoor
open Go.RowKit U G

def sumT (ts : List Tm) : Nat := (ts.map sizeT).sum
def tmD : Tm := ⟨0, ByteArray.empty, ByteArray.empty, ByteArray.empty⟩
/-- Terms in a row. -/
structure TmsAt (w : World) (g : Nat) (ts : List Tm) : Prop where
  lt : g < w.heap.size
  at_ : ∀ k, k < ts.length → w.cell? ⟨g, k * 4 + 1, none⟩ = some (.string (ts.getD k tmD).x) ∧ w.cell? ⟨g, k * 4 + 2, none⟩ = some (.string (ts.getD k tmD).g) ∧ w.cell? ⟨g, k * 4 + 3, none⟩ = some (.string (ts.getD k tmD).y)
theorem TmsAt.only {w w' : World} {g : Nat} {ts : List Tm} (h : TmsAt w g ts) (o : Only (fun _ => False) w w') : TmsAt w' g ts :=
  ⟨Nat.lt_of_lt_of_le h.lt o.size, fun k hk => by
    obtain ⟨h1, h2, h3⟩ := h.at_ k hk
    exact ⟨(o.cell (p := ⟨g, _, none⟩) h.lt no_).trans h1, (o.cell (p := ⟨g, _, none⟩) h.lt no_).trans h2, (o.cell (p := ⟨g, _, none⟩) h.lt no_).trans h3⟩⟩
theorem sum_step {ts : List Tm} {k : Nat} (h : k < ts.length) : sumT (ts.take (k + 1)) = sumT (ts.take k) + ((ts.getD k tmD).x.size + (ts.getD k tmD).g.size + (ts.getD k tmD).y.size) := by
  unfold sumT
  rw [List.take_add_one, List.getElem?_eq_getElem h, List.map_append, List.sum_append]
  simp [sizeT, List.getD, h]
theorem sum_le {ts : List Tm} {M : Nat} (hs : ∀ t ∈ ts, sizeT t ≤ M) (k : Nat) : sumT (ts.take k) ≤ k * M := by
  induction k with
  | zero => simp [sumT]
  | succ k ih =>
    by_cases h : k < ts.length
    · have h2 := hs (ts.getD k tmD) (by rw [List.getD_eq_getElem?_getD, List.getElem?_eq_getElem h]; exact List.getElem_mem h)
      have h3 : sizeT (ts.getD k tmD) = (ts.getD k tmD).x.size + (ts.getD k tmD).g.size + (ts.getD k tmD).y.size := rfl
      rw [sum_step h, Nat.succ_mul]
      omega
    · rw [List.take_of_length_le (by omega)] at ih ⊢
      rw [Nat.succ_mul]
      omega
set_option maxHeartbeats 2000000 in
theorem size_any {g n : Nat} {ts : List Tm} {w : World} (hg : TmsAt w g ts) (hn : n = ts.length) (hn2 : n ≤ 100) (hs : ∀ t ∈ ts, sizeT t ≤ 422212465065984) :
    Calls Tryd.prog 6 #[.slice (some ⟨g, 0, none⟩) n n] w fun e w' => e = .returned (.int .i64 (sumT ts : Nat)) ∧ StU w w' := by
  have HC : Hid (∀ W, StU w W → ∀ k, k < n → W.cell? ⟨g, k * 4 + 1, none⟩ = some (.string (ts.getD k tmD).x) ∧ W.cell? ⟨g, k * 4 + 2, none⟩ = some (.string (ts.getD k tmD).g) ∧ W.cell? ⟨g, k * 4 + 3, none⟩ = some (.string (ts.getD k tmD).y)) := hid fun W hW k hk => (hg.only hW.out).at_ k (by omega)
  have HT : Hid (∀ k, k < n → sumT (ts.take (k + 1)) = sumT (ts.take k) + ((ts.getD k tmD).x.size + (ts.getD k tmD).g.size + (ts.getD k tmD).y.size) ∧ sumT (ts.take (k + 1)) ≤ (k + 1) * 422212465065984) := hid fun k hk => ⟨sum_step (by omega), sum_le hs (k + 1)⟩
  have HE : Hid (ts.take n = ts) := hid (by rw [hn, List.take_length])
  clear hg hn hs
  go_enter Tryd.func6, Tryd.ntmps6
  go_wp2_with fail
  go_loopw [3, 4] (fun v i wr => ∃ (k m : Nat), k ≤ n ∧ v = .int .i64 (m : Int) ∧ i = .int .i64 (k : Int) ∧ StU w wr ∧ Hid (m = sumT (ts.take k))) (fun _ i _ => n - (intOf i).toNat)
  case atStart => exact ⟨0, 0, by omega, rfl, rfl, hid (Only.refl _ w), hid (by simp [sumT])⟩
  case round =>
    obtain ⟨k, m, hk, rfl, rfl, HO, HM⟩ := hrel
    by_cases hp : k < n
    · have hp' : (k : Int) < (n : Int) := by omega
      obtain ⟨c1, c2, c3⟩ := HC.out wr HO k hp
      have hT := HT.out k hp
      rw [← HM.out] at hT
      generalize (ts.getD k tmD).x = x at *
      generalize (ts.getD k tmD).g = gg at *
      generalize (ts.getD k tmD).y = y at *
      obtain ⟨hT1, hT2⟩ := hT
      have HM2 := hid hT1
      have hb : m + (x.size + gg.size + y.size) ≤ 42221246506598400 := by
        have : (k + 1) * 422212465065984 ≤ 100 * 422212465065984 := Nat.mul_le_mul_right _ (by omega)
        omega
      have hq1 : IntKind.i64.wrap ((m : Int) + (x.size : Int)) = (m : Int) + (x.size : Int) := by rw [IntKind.wrap_i64]; omega
      have hq2 : IntKind.i64.wrap ((m : Int) + (x.size : Int) + (gg.size : Int)) = (m : Int) + (x.size : Int) + (gg.size : Int) := by rw [IntKind.wrap_i64]; omega
      have hq3 : IntKind.i64.wrap ((m : Int) + (x.size : Int) + (gg.size : Int) + (y.size : Int)) = ((m + (x.size + gg.size + y.size) : Nat) : Int) := by rw [IntKind.wrap_i64]; omega
      clear hT1 hT2 HM
      go_wp2_with fail
      go_quiet (fail)
      have HO2 : StU w (wr.drewN nq) := hid (HO.out.drewN _)
      generalize wr.drewN nq = w2 at HO2 ⊢
      clear c1 c2 c3
      go_wp2_with fail
      go_roundw
      case rel => exact ⟨k + 1, _, by omega, by go_num, by go_num, HO2, hid HM2.out.symm⟩
      case measure => simp [intOf]; omega
    · obtain rfl : k = n := by omega
      have hF : m = sumT ts := by rw [HM.out, HE.out]
      subst hF
      go_wp2_with fail
      go_ret
      exact ⟨rfl, HO⟩
end Go.Proofs.YtefcnaccemefnaaDoor
