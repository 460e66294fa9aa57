/- The document's Tagged. -/
import Derived.Test.YtefcnaccemefnaaGreatDoorTeD
namespace Go.Proofs.YtefcnaccemefnaaGreatDoor
open Go.RowKit U G

set_option maxHeartbeats 2000000 in
theorem refTagT_any (z s : ByteArray) (w0 : World) (hs : s.size ≤ 140737488355328) : Calls Tryz.prog 25 #[.string z, .string s] w0 fun e w' => e = .returned (tmV (tagT z s)) ∧ StU w0 w' := by
  have HR0 := hid (Res.new w0)
  obtain ⟨w, hw⟩ : ∃ w, w = w0.alloc zeroObj := ⟨_, rfl⟩
  rw [← hw] at HR0
  have hcv : ∀ W, (convert 9 24 (.string s)).run Tryz.prog W = .ok (.slice (some ⟨W.heap.size, 0, none⟩) s.size (grownCap W s.size 0 5)) (Lib.bytesWorld W 5 s) := fun W => Lib.run_convert_string_bytes W 9 24 5 s Tryz.underlying9 Tryz.underlying24 Tryz.underlying5
  have H0 := hid (bys_new w s)
  obtain ⟨cp, hcp⟩ : ∃ cp, grownCap w s.size 0 5 = cp := ⟨_, rfl⟩
  have hcv2 := hcv w
  rw [hcp] at hcv2
  clear hcv hcp
  obtain ⟨g, hg⟩ : ∃ g, w.heap.size = g := ⟨_, rfl⟩
  rw [hg] at hcv2 H0
  clear hg
  generalize Lib.bytesWorld w 5 s = w1 at *
  have HF : Hid (∀ W, ByS w W g s.size (mixF (fun j => (bl s).getD j 0) (fun j => ((bl s).map lowN).getD j 0) s.size) → (convert 24 9 (.slice (some ⟨g, 0, none⟩) s.size cp)).run Tryz.prog W = .ok (.string (low s)) W) := hid fun W hW => low_str s rfl fun j hj => by
    rw [hW.cell hj]
    unfold mixF
    rw [if_pos hj]
  have HB := hid (bl_bys s)
  have HL := hid (fun (j : Nat) (h : j < s.size) => low_get s h)
  unfold tagT
  generalize hlow : low s = r at *
  generalize hn : s.size = n at *
  clear hlow hn
  go_enter Tryz.func25, Tryz.ntmps25
  go_upto_region 1 with fail
  rw [← hw]
  clear hw
  go_wp2_with fail
  go_loopw [6] (fun i wr => ∃ k : Nat, k ≤ n ∧ i = .int .i64 (k : Int) ∧ Hid (ByS w wr g n (mixF (fun j => (bl s).getD j 0) (fun j => ((bl s).map lowN).getD j 0) k))) (fun i _ => n - (intOf i).toNat)
  case atStart => exact ⟨0, by omega, rfl, hid (H0.out.same fun j hj => by simp [mixF])⟩
  case round =>
    obtain ⟨k, hk, rfl, HS⟩ := hrel
    clear H0
    by_cases hp : k < n
    · have hp' : (k : Int) < (n : Int) := by omega
      have hm : mixF (fun j => (bl s).getD j 0) (fun j => ((bl s).map lowN).getD j 0) k k = (bl s).getD k 0 := by simp [mixF]
      have d := HS.out.cell hp
      rw [hm] at d
      have fz := HS.out.frozen hp
      have hlt := HS.out.lt
      have hx := bys_get HB.out k
      have HK := hid (HL.out k hp)
      generalize hxe : (bl s).getD k 0 = x at *
      have HXe := hid hxe
      clear hxe hm
      by_cases h1 : 65 ≤ x
      · by_cases h2 : x ≤ 90
        · have h1' : (65 : Int) ≤ (x : Int) := by omega
          have h2' : (x : Int) ≤ 90 := by omega
          have hw0 : IntKind.u8.wrap ((x : Int) - 65) = (x : Int) - 65 := by rw [IntKind.wrap_u8]; omega
          have hw : IntKind.u8.wrap ((x : Int) - 65 + 97) = ((x + 32 : Nat) : Int) := by rw [IntKind.wrap_u8]; omega
          have HN : Hid (ByS w (wr.setCell ⟨g, k, none⟩ (.int .u8 ((x + 32 : Nat) : Int))) g n (mixF (fun j => (bl s).getD j 0) (fun j => ((bl s).map lowN).getD j 0) (k + 1))) := hid (HS.out.set hp (by
            simp only [mixF, if_pos (show k < k + 1 by omega)]
            rw [HK.out]
            unfold lowN
            rw [if_pos ⟨h1, h2⟩]) (fun j hj => by
            unfold mixF
            by_cases e : j < k
            · rw [if_pos (by omega), if_pos e]
            · rw [if_neg (by omega), if_neg e]))
          obtain ⟨y, hy⟩ : ∃ y : Int, ((x + 32 : Nat) : Int) = y := ⟨_, rfl⟩
          rw [hy] at hw HN
          clear HS hy
          go_wp2_with fail
          go_roundw
          case rel => exact ⟨k + 1, by omega, by go_num, HN⟩
          case measure => simp [intOf]; omega
        · have h1' : (65 : Int) ≤ (x : Int) := by omega
          have h2' : ¬ (x : Int) ≤ 90 := by omega
          have HN : Hid (ByS w wr g n (mixF (fun j => (bl s).getD j 0) (fun j => ((bl s).map lowN).getD j 0) (k + 1))) := hid (HS.out.same fun j hj => by
            unfold mixF
            by_cases e : j = k
            · subst e
              rw [if_pos (by omega), if_neg (by omega)]
              show ((bl s).map lowN).getD j 0 = (bl s).getD j 0
              rw [HK.out, HXe.out]
              unfold lowN
              rw [if_neg (by omega)]
            · by_cases e2 : j < k
              · rw [if_pos (by omega), if_pos e2]
              · rw [if_neg (by omega), if_neg e2])
          clear HS
          go_wp2_with fail
          go_roundw
          case rel => exact ⟨k + 1, by omega, by go_num, HN⟩
          case measure => simp [intOf]; omega
      · have h1' : ¬ (65 : Int) ≤ (x : Int) := by omega
        have HN : Hid (ByS w wr g n (mixF (fun j => (bl s).getD j 0) (fun j => ((bl s).map lowN).getD j 0) (k + 1))) := hid (HS.out.same fun j hj => by
          unfold mixF
          by_cases e : j = k
          · subst e
            rw [if_pos (by omega), if_neg (by omega)]
            show ((bl s).map lowN).getD j 0 = (bl s).getD j 0
            rw [HK.out, HXe.out]
            unfold lowN
            rw [if_neg (by omega)]
          · by_cases e2 : j < k
            · rw [if_pos (by omega), if_pos e2]
            · rw [if_neg (by omega), if_neg e2])
        clear HS
        go_wp2_with fail
        go_roundw
        case rel => exact ⟨k + 1, by omega, by go_num, HN⟩
        case measure => simp [intOf]; omega
    · obtain rfl : k = n := by omega
      have hcv3 := HF.out wr HS.out
      have HR := hid (HR0.out.more HS.out.only)
      clear HR0
      have cx0 := HR.out.row.cell (i := 0) (by omega)
      have cx1 := HR.out.row.cell (i := 1) (by omega)
      have cx2 := HR.out.row.cell (i := 2) (by omega)
      have cx3 := HR.out.row.cell (i := 3) (by omega)
      have fx0 := HR.out.row.frozen 0
      have fx1 := HR.out.row.frozen 1
      have fx2 := HR.out.row.frozen 2
      have fx3 := HR.out.row.frozen 3
      have hlt2 := HR.out.row.lt
      have HQ := hid fun a b c d => tm_set HR.out.row a b c d
      clear HS
      go_wp2_with fail
      obtain ⟨q0, q1, q2, q3⟩ := HQ.out (.int .i64 3) (.string z) (.string r) (.string { data := #[] })
      exact bodyPost_ret (v := tmV ⟨3, z, r, ByteArray.empty⟩) (by simp [results, Tryz.results25, go_sem, q0, q1, q2, q3, tmV]; rfl) rfl ⟨rfl, HR.out.set _ _ _ _⟩
end Go.Proofs.YtefcnaccemefnaaGreatDoor
