/- Lowered texts; tagged terms; valid texts; whole labels and tags. -/
import Derived.Test.YtefcnaccemefnaaGreatDoorTe7
import Derived.Lib.ConvBytes
import Derived.Lib.UnsafeStr
import Derived.Laws.BytesArg
namespace Go.Proofs.YtefcnaccemefnaaGreatDoor
open Go.RowKit U G

/-- Bytes in a row of the call's own, of which what lies behind may be frozen. -/
structure ByS (w wr : World) (g n : Nat) (f : Nat → Nat) : Prop where
  at_ : ∃ cs lo hi, wr.heap[g]? = some (.cells cs 5 (lo, hi)) ∧ n ≤ lo ∧ n ≤ cs.size ∧ ∀ j, j < n → cs[j]? = some (.int .u8 ((f j : Nat) : Int))
  ge : w.heap.size ≤ g
  only : Only (fun _ => False) w wr
theorem ByS.cell {w wr : World} {g n : Nat} {f : Nat → Nat} (h : ByS w wr g n f) {j : Nat} (hj : j < n) : wr.cell? ⟨g, j, none⟩ = some (.int .u8 ((f j : Nat) : Int)) := by
  obtain ⟨cs, lo, hi, hb, _, _, hc⟩ := h.at_
  simp only [World.cell?, hb]
  exact hc j hj
theorem ByS.frozen {w wr : World} {g n : Nat} {f : Nat → Nat} (h : ByS w wr g n f) {j : Nat} (hj : j < n) : wr.frozen? ⟨g, j, none⟩ = false := by
  obtain ⟨cs, lo, hi, hb, hlo, _, _⟩ := h.at_
  simp only [World.frozen?, hb]
  rw [Bool.and_eq_false_iff]
  exact .inl (decide_eq_false (by show ¬ lo ≤ j; omega))
theorem ByS.lt {w wr : World} {g n : Nat} {f : Nat → Nat} (h : ByS w wr g n f) : g < wr.heap.size := by
  obtain ⟨cs, lo, hi, hb, _⟩ := h.at_
  exact heap_lt hb
theorem ByS.set {w wr : World} {g n : Nat} {f f' : Nat → Nat} (h : ByS w wr g n f) {k x : Nat} (hk : k < n) (h1 : f' k = x) (h2 : ∀ j, j ≠ k → f' j = f j) : ByS w (wr.setCell ⟨g, k, none⟩ (.int .u8 (x : Int))) g n f' := by
  obtain ⟨cs, lo, hi, hb, hlo, hsz, hc⟩ := h.at_
  refine ⟨⟨cs.setIfInBounds k (.int .u8 (x : Int)), lo, hi, by simp [World.setCell, Array.getElem?_modify, hb], hlo, by simpa using hsz, fun j hj => ?_⟩, h.ge, h.only.setCell (p := ⟨g, k, none⟩) (.inr h.ge) _⟩
  by_cases e : j = k
  · subst e
    rw [Array.getElem?_setIfInBounds_self_of_lt (by omega), h1]
  · rw [Array.getElem?_setIfInBounds_ne (by omega), hc j hj, h2 j e]
theorem ByS.same {w wr : World} {g n : Nat} {f f' : Nat → Nat} (h : ByS w wr g n f) (h2 : ∀ j, j < n → f' j = f j) : ByS w wr g n f' := by
  obtain ⟨cs, lo, hi, hb, hlo, hsz, hc⟩ := h.at_
  exact ⟨⟨cs, lo, hi, hb, hlo, hsz, fun j hj => by rw [hc j hj, h2 j hj]⟩, h.ge, h.only⟩
theorem ByS.drew {w wr : World} {g n : Nat} {f : Nat → Nat} (h : ByS w wr g n f) (k : Nat) : ByS w (wr.drewN k) g n f := ⟨h.at_, h.ge, h.only.drewN k⟩
theorem bl_toList (s : ByteArray) (j : Nat) : (s.data.toList.getD j 0).toNat = (bl s).getD j 0 := by
  unfold bl
  rw [List.getD_eq_getElem?_getD, List.getD_eq_getElem?_getD, List.getElem?_map]
  cases s.data.toList[j]? <;> rfl
theorem bys_new (w : World) (s : ByteArray) : ByS w (Lib.bytesWorld w 5 s) w.heap.size s.size fun j => (bl s).getD j 0 := by
  refine ⟨⟨_, _, _, Lib.bytesWorld_at_new w 5 s, ?_, ?_, fun j hj => ?_⟩, Nat.le_refl _, ?_⟩
  · simp [Lib.bytesCells]
  · simp [Lib.bytesCells]
  · have := Lib.bytesWorld_cell w 5 s j hj
    simp only [World.cell?, Lib.bytesWorld_at_new] at this
    rw [bl_toList] at this
    exact this
  · exact Only.of_below (Lib.below_freeze (((Below.refl w.heap.size w).drew).alloc (Nat.le_refl _) _) (p := ⟨w.heap.size, _, none⟩) (Nat.le_refl _) 1) _
theorem cast_getD (l : List Nat) (i : Nat) : (l.map fun n : Nat => (n : Int)).getD i 0 = ((l.getD i 0 : Nat) : Int) := by
  rw [List.getD_eq_getElem?_getD, List.getD_eq_getElem?_getD, List.getElem?_map]
  cases l[i]? <;> rfl
def mixF (f f' : Nat → Nat) (k j : Nat) : Nat := if j < k then f' j else f j
theorem low_get (s : ByteArray) {j : Nat} (h : j < s.size) : ((bl s).map lowN).getD j 0 = lowN ((bl s).getD j 0) := by
  have h2 : j < (bl s).length := by rw [bl_len]; exact h
  simp [List.getD, h2]
theorem low_str (s : ByteArray) {A : Addr} {cap : Nat} {W : World} {g : Nat} (hA : A = ⟨g, 0, none⟩) (hc : ∀ j, j < s.size → W.cell? ⟨g, j, none⟩ = some (.int .u8 ((((bl s).map lowN).getD j 0 : Nat) : Int))) :
    (convert 24 9 (.slice (some A) s.size cap)).run Tryz.prog W = .ok (.string (low s)) W := by
  subst hA
  exact run_convert_bytes_arg (P := Tryz.prog) W 24 5 Tryz.underlying24 Tryz.underlying5 g 0 s.size cap (((bl s).map lowN).map fun n : Nat => (n : Int)) (by rw [List.length_map, List.length_map, bl_len]) (fun i hi => by
    rw [Nat.zero_add, hc i hi]
    rw [cast_getD]) 9 Tryz.underlying9
set_option maxHeartbeats 2000000 in
theorem lowered_any (s : ByteArray) (w : World) (hs : s.size ≤ 140737488355328) : Calls Tryz.prog 21 #[.string s] w fun e w' => e = .returned (.string (low s)) ∧ StU w w' := by
  have hcv : ∀ W, (convert 9 24 (.string s)).run Tryz.prog W = .ok (.slice (some ⟨W.heap.size, 0, none⟩) s.size (grownCap W s.size 0 5)) (Lib.bytesWorld W 5 s) := fun W => Lib.run_convert_string_bytes W 9 24 5 s Tryz.underlying9 Tryz.underlying24 Tryz.underlying5
  have H0 := hid (bys_new w s)
  obtain ⟨cp, hcp⟩ : ∃ cp, grownCap w s.size 0 5 = cp := ⟨_, rfl⟩
  have hcv2 := hcv w
  rw [hcp] at hcv2
  clear hcv hcp
  obtain ⟨g, hg⟩ : ∃ g, w.heap.size = g := ⟨_, rfl⟩
  rw [hg] at hcv2 H0
  clear hg
  generalize Lib.bytesWorld w 5 s = w1 at *
  have HF : Hid (∀ W, ByS w W g s.size (mixF (fun j => (bl s).getD j 0) (fun j => ((bl s).map lowN).getD j 0) s.size) → (convert 24 9 (.slice (some ⟨g, 0, none⟩) s.size cp)).run Tryz.prog W = .ok (.string (low s)) W) := hid fun W hW => low_str s rfl fun j hj => by
    rw [hW.cell hj]
    unfold mixF
    rw [if_pos hj]
  have HB := hid (bl_bys s)
  have HL := hid (fun (j : Nat) (h : j < s.size) => low_get s h)
  generalize hlow : low s = r at *
  generalize hn : s.size = n at *
  clear hlow hn
  go_enter Tryz.func21, Tryz.ntmps21
  go_wp2_with fail
  go_loopw [10] (fun i wr => ∃ k : Nat, k ≤ n ∧ i = .int .i64 (k : Int) ∧ Hid (ByS w wr g n (mixF (fun j => (bl s).getD j 0) (fun j => ((bl s).map lowN).getD j 0) k))) (fun i _ => n - (intOf i).toNat)
  case atStart => exact ⟨0, by omega, rfl, hid (H0.out.same fun j hj => by simp [mixF])⟩
  case round =>
    obtain ⟨k, hk, rfl, HS⟩ := hrel
    clear H0
    by_cases hp : k < n
    · have hp' : (k : Int) < (n : Int) := by omega
      have hm : mixF (fun j => (bl s).getD j 0) (fun j => ((bl s).map lowN).getD j 0) k k = (bl s).getD k 0 := by simp [mixF]
      have d := HS.out.cell hp
      rw [hm] at d
      have fz := HS.out.frozen hp
      have hlt := HS.out.lt
      have hx := bys_get HB.out k
      have HK := hid (HL.out k hp)
      generalize hxe : (bl s).getD k 0 = x at *
      have HXe := hid hxe
      clear hxe hm
      by_cases h1 : 65 ≤ x
      · by_cases h2 : x ≤ 90
        · have h1' : (65 : Int) ≤ (x : Int) := by omega
          have h2' : (x : Int) ≤ 90 := by omega
          have hw : IntKind.u8.wrap ((x : Int) + 32) = ((x + 32 : Nat) : Int) := by rw [IntKind.wrap_u8]; omega
          have HN : Hid (ByS w (wr.setCell ⟨g, k, none⟩ (.int .u8 ((x + 32 : Nat) : Int))) g n (mixF (fun j => (bl s).getD j 0) (fun j => ((bl s).map lowN).getD j 0) (k + 1))) := hid (HS.out.set hp (by
            simp only [mixF, if_pos (show k < k + 1 by omega)]
            rw [HK.out]
            unfold lowN
            rw [if_pos ⟨h1, h2⟩]) (fun j hj => by
            unfold mixF
            by_cases e : j < k
            · rw [if_pos (by omega), if_pos e]
            · rw [if_neg (by omega), if_neg e]))
          obtain ⟨y, hy⟩ : ∃ y : Int, ((x + 32 : Nat) : Int) = y := ⟨_, rfl⟩
          rw [hy] at hw HN
          clear HS hy
          go_wp2_with fail
          go_roundw
          case rel => exact ⟨k + 1, by omega, by go_num, HN⟩
          case measure => simp [intOf]; omega
        · have h1' : (65 : Int) ≤ (x : Int) := by omega
          have h2' : ¬ (x : Int) ≤ 90 := by omega
          have HN : Hid (ByS w wr g n (mixF (fun j => (bl s).getD j 0) (fun j => ((bl s).map lowN).getD j 0) (k + 1))) := hid (HS.out.same fun j hj => by
            unfold mixF
            by_cases e : j = k
            · subst e
              rw [if_pos (by omega), if_neg (by omega)]
              show ((bl s).map lowN).getD j 0 = (bl s).getD j 0
              rw [HK.out, HXe.out]
              unfold lowN
              rw [if_neg (by omega)]
            · by_cases e2 : j < k
              · rw [if_pos (by omega), if_pos e2]
              · rw [if_neg (by omega), if_neg e2])
          clear HS
          go_wp2_with fail
          go_roundw
          case rel => exact ⟨k + 1, by omega, by go_num, HN⟩
          case measure => simp [intOf]; omega
      · have h1' : ¬ (65 : Int) ≤ (x : Int) := by omega
        have HN : Hid (ByS w wr g n (mixF (fun j => (bl s).getD j 0) (fun j => ((bl s).map lowN).getD j 0) (k + 1))) := hid (HS.out.same fun j hj => by
          unfold mixF
          by_cases e : j = k
          · subst e
            rw [if_pos (by omega), if_neg (by omega)]
            show ((bl s).map lowN).getD j 0 = (bl s).getD j 0
            rw [HK.out, HXe.out]
            unfold lowN
            rw [if_neg (by omega)]
          · by_cases e2 : j < k
            · rw [if_pos (by omega), if_pos e2]
            · rw [if_neg (by omega), if_neg e2])
        clear HS
        go_wp2_with fail
        go_roundw
        case rel => exact ⟨k + 1, by omega, by go_num, HN⟩
        case measure => simp [intOf]; omega
    · obtain rfl : k = n := by omega
      have hcv3 := HF.out wr HS.out
      have HO := hid HS.out.only
      clear HS
      go_wp2_with fail
      go_ret
      exact ⟨rfl, HO⟩
set_option maxHeartbeats 1000000 in
theorem tagT_any (s l : ByteArray) (w : World) (hs : l.size ≤ 140737488355328) : Calls Tryz.prog 11 #[.string s, .string l] w fun e w' => e = .returned (tmV (tagT s l)) ∧ StU w w' := by
  have HL : Hid (∀ W, Calls Tryz.prog 21 #[.string l] W fun e w' => e = .returned (.string (low l)) ∧ StU W w') := hid fun W => lowered_any l W hs
  have HR0 := hid (Res.new w)
  unfold tagT
  generalize low l = m at *
  go_enter Tryz.func11, Tryz.ntmps11
  go_wp2_with (go_at_call 21; refine (HL.out _).mono ?_; rintro e w1 ⟨rfl, HO⟩; have HR := hid (HR0.out.more HO.out); clear HR0; have cx0 := HR.out.row.cell (i := 0) (by omega); have cx1 := HR.out.row.cell (i := 1) (by omega); have cx2 := HR.out.row.cell (i := 2) (by omega); have cx3 := HR.out.row.cell (i := 3) (by omega); have fx0 := HR.out.row.frozen 0; have fx1 := HR.out.row.frozen 1; have fx2 := HR.out.row.frozen 2; have fx3 := HR.out.row.frozen 3; have hlt2 := HR.out.row.lt; have HQ := hid fun a b c d => tm_set HR.out.row a b c d)
  obtain ⟨q0, q1, q2, q3⟩ := HQ.out (.int .i64 3) (.string s) (.string m) (.string { data := #[] })
  exact bodyPost_ret (v := tmV ⟨3, s, m, ByteArray.empty⟩) (by simp [results, Tryz.results11, go_sem, q0, q1, q2, q3, tmV]; rfl) rfl ⟨rfl, HR.out.set _ _ _ _⟩
/-- What is asked how long it is, from a text's beginning. -/
structure Whl (g : FuncId) (f : List Nat → Nat) : Prop where
  enters : ∀ args w, (callFunc g args).run Tryz.prog w = .ok (.enter g args) w
  says : ∀ s W, Tb W → s.size ≤ 140737488355328 → Calls Tryz.prog g #[.string s] W fun e w' => e = .returned (.int .i64 ((f (bl s) : Nat) : Int)) ∧ StU W w'
theorem whl_label : Whl 35 lab := ⟨enters_of Tryz.func35 (by kernel_rfl) rfl, fun _ _ h1 h2 => label_any h1 h2⟩
theorem whl_tag : Whl 36 tag := ⟨enters_of Tryz.func36 (by kernel_rfl) rfl, fun _ _ h1 h2 => tag_any h1 h2⟩
set_option maxHeartbeats 1000000 in
theorem whole_any {g : FuncId} {f : List Nat → Nat} {s : ByteArray} {w : World} (hg : Whl g f) (hT : Tb w) (hs : s.size ≤ 140737488355328) :
    Calls Tryz.prog 34 #[.string s, .func (.func g) #[] #[]] w fun e w' => e = .returned (.bool (decide (0 < f (bl s)) && decide (f (bl s) = s.size))) ∧ StU w w' := by
  have HS := hid (hg.says s w hT hs)
  have eg := hg.enters
  generalize f (bl s) = n at *
  clear hg hT
  by_cases h0 : 0 < n
  · have h0' : (0 : Int) < (n : Int) := by omega
    by_cases h1 : n = s.size
    · have h1' : ((n : Int) == (s.size : Int)) = true := by rw [beq_iff_eq]; omega
      rw [decide_eq_true h0, decide_eq_true h1]
      clear h1
      go_enter Tryz.func34, Tryz.ntmps34
      go_wp2_with (go_at_fn g; refine HS.out.mono ?_; rintro e w2 ⟨rfl, HO2⟩)
      go_ret
      exact ⟨rfl, HO2⟩
    · have h1' : ((n : Int) == (s.size : Int)) = false := by rw [beq_eq_false_iff_ne]; omega
      rw [decide_eq_true h0, decide_eq_false h1]
      clear h1
      go_enter Tryz.func34, Tryz.ntmps34
      go_wp2_with (go_at_fn g; refine HS.out.mono ?_; rintro e w2 ⟨rfl, HO2⟩)
      go_ret
      exact ⟨rfl, HO2⟩
  · have h0' : ¬ (0 : Int) < (n : Int) := by omega
    rw [decide_eq_false h0, Bool.false_and]
    go_enter Tryz.func34, Tryz.ntmps34
    go_wp2_with (go_at_fn g; refine HS.out.mono ?_; rintro e w2 ⟨rfl, HO2⟩)
    go_ret
    exact ⟨rfl, HO2⟩
def allV (ss : List ByteArray) : Bool := ss.all fun s => vld (bl s)
set_option maxHeartbeats 1000000 in
theorem areValid_any {g n : Nat} {ss : List ByteArray} {w : World} (hT : Tb w) (hg : w.rowIs g 9 n (vS ss)) (hn : n = ss.length) (hn2 : n ≤ 1000) (hs : ∀ s ∈ ss, s.size ≤ 140737488355328) :
    Calls Tryz.prog 33 #[.slice (some ⟨g, 0, none⟩) n n] w fun e w' => e = .returned (.bool (allV ss)) ∧ StU w w' := by
  have HC : Hid (∀ W, StU w W → ∀ k, k < n → W.cell? ⟨g, k, none⟩ = some (.string (ss.getD k ByteArray.empty))) := hid fun W hW k hk => World.rowIs.cell (hW.out.row hg no_) hk
  have HV : Hid (∀ W k, k < n → StU w W → Calls Tryz.prog 56 #[.string (ss.getD k ByteArray.empty)] W fun e w' => e = .returned (.bool (vld (bl (ss.getD k ByteArray.empty)))) ∧ StU W w') := hid fun W k hk hW => by
    have hm : ss.getD k ByteArray.empty ∈ ss := by
      rw [List.getD_eq_getElem?_getD, List.getElem?_eq_getElem (by omega : k < ss.length)]
      exact List.getElem_mem _
    have := hs _ hm
    refine (Tryz.utf8_ValidString (ss.getD k ByteArray.empty) W (by omega) (hT.stu hW)).mono fun e w' h => ⟨?_, hid (Only.of_below h.2 _)⟩
    rw [h.1, valid_any]
  have HD : Hid (∀ k, k < n → allV (ss.drop k) = (vld (bl (ss.getD k ByteArray.empty)) && allV (ss.drop (k + 1)))) := hid fun k hk => by
    unfold allV
    rw [List.drop_eq_getElem_cons (by omega : k < ss.length), List.all_cons]
    simp [List.getD, show k < ss.length by omega]
  have HE : Hid (allV (ss.drop n) = true) := hid (by rw [hn, List.drop_length]; rfl)
  clear hT hg hn hs
  go_enter Tryz.func33, Tryz.ntmps33
  go_wp2_with fail
  go_loopw [7] (fun s wr => ∃ k : Nat, k ≤ n ∧ s = .int .i64 (k : Int) ∧ StU w wr ∧ Hid (allV ss = allV (ss.drop k))) (fun s _ => n - (intOf s).toNat)
  case atStart => exact ⟨0, by omega, rfl, hid (Only.refl _ w), hid rfl⟩
  case round =>
    obtain ⟨k, hk, rfl, HO, HA⟩ := hrel
    by_cases hp : k < n
    · have hp' : (k : Int) < (n : Int) := by omega
      have d := HC.out wr HO k hp
      have HVk := hid (HV.out wr k hp HO)
      have hD := HD.out k hp
      generalize ss.getD k ByteArray.empty = t at *
      cases hv : vld (bl t) with
      | true =>
        rw [hv] at HVk hD
        have HA2 := hid (HA.out.trans hD)
        clear hD hv HA
        go_wp2_with (go_at_call 56; refine HVk.out.mono ?_; rintro e w2 ⟨rfl, HO2⟩)
        go_roundw
        case rel => exact ⟨k + 1, by omega, by go_num, hid (HO.out.trans HO2.out), HA2⟩
        case measure => simp [intOf]; omega
      | false =>
        rw [hv] at HVk hD
        have HA2 := hid (HA.out.trans hD)
        clear hD hv HA
        go_wp2_with (go_at_call 56; refine HVk.out.mono ?_; rintro e w2 ⟨rfl, HO2⟩)
        go_ret
        exact ⟨by rw [HA2.out]; rfl, hid (HO.out.trans HO2.out)⟩
    · obtain rfl : k = n := by omega
      have HA2 := hid (HA.out.trans HE.out)
      go_wp2_with fail
      go_ret
      exact ⟨by rw [HA2.out]; rfl, HO⟩
end Go.Proofs.YtefcnaccemefnaaGreatDoor
