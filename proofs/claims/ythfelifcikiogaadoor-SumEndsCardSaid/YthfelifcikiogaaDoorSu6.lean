/- sum's laws: how many rows and bytes there are; the chapter's example; bytes written over. -/
import Derived.Test.YthfelifcikiogaaDoorSu5
import Derived.Lib.SlBytesConst
namespace Go.Proofs.YthfelifcikiogaaDoor
open Go.RowKit
open Cr

abbrev Rw : Type := Option Addr × List Nat × Nat
def rwVal (r : Rw) : Value := .slice r.1 r.2.1.length r.2.2
/-- Rows that are laid side by side. -/
theorem rdR_lit {w : World} (rs : List Rw) (h : ∀ r ∈ rs, RdY w r.1 r.2.1 ∧ (r.1 = none → r.2.1.length = 0 ∧ r.2.2 = 0)) :
    RdR (w.alloc (.cells (rs.map rwVal).toArray 23)) (some ⟨w.heap.size, 0, none⟩) (rs.map fun r => r.2.1) (fun j => (rs.getD j (none, [], 0)).1) (fun j => (rs.getD j (none, [], 0)).2.2) := by
  have ho : Only (fun _ => False) w (w.alloc (.cells (rs.map rwVal).toArray 23)) := (Only.refl _ w).alloc _
  have hg : ∀ j, (rs.map fun r => r.2.1).getD j [] = (rs.getD j (none, [], 0)).2.1 := fun j => by
    simp only [List.getD, List.getElem?_map]
    cases rs[j]? <;> rfl
  have hm : ∀ j, j < rs.length → rs.getD j (none, [], 0) ∈ rs := fun j hj => by simp [List.getD, hj]
  have hrow : (w.alloc (.cells (rs.map rwVal).toArray 23)).rowIs w.heap.size 23 rs.length (fun j => rwVal (rs.getD j (none, [], 0))) := by
    have h1 := World.rowIs_alloc w (rs.map rwVal).toArray 23 (fun j => rwVal (rs.getD j (none, [], 0))) (fun i hi => by
      have hi' : i < rs.length := by simpa using hi
      simp [List.getD, hi'])
    simpa using h1
  refine ⟨fun h0 => ⟨w.heap.size, 0, rfl, fun j hj => ?_⟩, fun j hj => ?_, fun j hj => ?_⟩
  · rw [List.length_map] at hj
    rw [Nat.zero_add, hrow.cell hj]
    simp only [hg]
    rfl
  · rw [List.length_map] at hj
    rw [hg]
    exact (h _ (hm j hj)).1.only ho fun _ _ _ => no_
  · rw [List.length_map] at hj
    rw [hg]
    exact (h _ (hm j hj)).2

/-- How many rows and bytes. -/
def tot (L : List (List Nat)) : Nat := L.length + L.flatten.length
def SizeE (w : World) (L : List (List Nat)) (e : Ending) (w' : World) : Prop :=
  ∃ N : Nat, e = .returned (.int .i64 (N : Int)) ∧ (tot L ≤ 3000 → N = tot L) ∧ (¬ tot L ≤ 3000 → 3000 < N) ∧ N ≤ 1152921504606846976 ∧ w = w'
set_option maxHeartbeats 1000000 in
theorem size_any {cap : Nat} {A : Option Addr} {L : List (List Nat)} {aF : Nat → Option Addr} {cF : Nat → Nat} {w : World} (hr : RdR w A L aF cF) (hL : L.length ≤ 281474976710656) (hl : ∀ j, (L.getD j []).length ≤ 281474976710656) :
    Calls Tryd.prog 7 #[.slice A L.length cap] w (SizeE w L) := by
  have HR := hid hr
  have HLl := hid hl
  have HJl := hid fun k (hk : k < L.length) => congrArg List.length (jn_succ hk)
  have HLen := hid fun k => jn_len_le (L := L) k
  have HE : Hid ((jn L L.length).length = L.flatten.length) := hid (by rw [jn_all])
  have HZ : Hid ((jn L 0).length = 0) := hid (by rw [jn_zero]; rfl)
  have HT : Hid (tot L = L.length + L.flatten.length) := hid rfl
  unfold SizeE
  clear hr hl
  generalize tot L = T at HT
  generalize L.flatten.length = fl at HLen HE HT
  go_enter Tryd.func7, Tryd.ntmps7
  go_wp2
  go_loopw [3, 4] (fun z s wr => ∃ k : Nat, k ≤ L.length ∧ s = .int .i64 k ∧ z = .int .i64 ((L.length + (jn L k).length : Nat) : Int) ∧ L.length + (jn L k).length ≤ 1152921504606846976 ∧ w = wr) (fun _ s _ => L.length - (intOf s).toNat)
  case atStart => exact ⟨0, by omega, rfl, by rw [HZ.out]; rfl, by rw [HZ.out]; omega, rfl⟩
  case round =>
    obtain ⟨k, hk, rfl, rfl, hb, rfl⟩ := hrel
    obtain ⟨z, hz⟩ : ∃ z : Nat, z = L.length + (jn L k).length := ⟨_, rfl⟩
    rw [← hz] at hb ⊢
    by_cases hp : k < L.length
    · have hi : ((k : Int) < (L.length : Int)) := by omega
      by_cases hq : z ≤ 3000
      · have hq' : ((z : Int) ≤ 3000) := by omega
        obtain ⟨b, off, h1, d1, _⟩ := HR.out.out.at hp
        have hl1 := HLl.out k
        have hl2 := HJl.out k hp
        rw [List.length_append] at hl2
        subst h1
        have HN : Hid (z + (L.getD k []).length = L.length + (jn L (k + 1)).length) := hid (by omega)
        clear hl2 hz
        generalize (L.getD k []).length = n2 at hl1 d1 HN
        go_wp2_with fail
        go_roundw
        case rel => exact ⟨k + 1, by omega, by go_num, by rw [← HN.out]; go_num, by rw [← HN.out]; omega, trivial⟩
        case measure => simp [intOf]; omega
      · have hq' : ¬ ((z : Int) ≤ 3000) := by omega
        have h1 := HLen.out k
        have HT2 : Hid (¬ T ≤ 3000) := hid (by have := HT.out; omega)
        clear h1 hz
        go_wp2_with fail
        go_ret
        exact ⟨z, rfl, fun h => absurd h HT2.out, fun _ => by omega, hb, rfl⟩
    · obtain rfl : k = L.length := by omega
      have HT2 : Hid (z = T) := hid (by have := HT.out; have := HE.out; omega)
      clear hz
      go_wp2_with fail
      go_ret
      exact ⟨z, rfl, fun _ => HT2.out, fun h => by have := HT2.out; omega, hb, rfl⟩

theorem crc_nine : crc [49, 50, 51, 52, 53, 54, 55, 56, 57] = 3421780262 := by kernel_rfl

theorem rdY_mark {w : World} (ns : List Nat) (fr : Nat × Nat) : RdY (w.alloc (.cells (ns.map yv).toArray 5 fr)) (some ⟨w.heap.size, 0, none⟩) ns := fun _ => ⟨w.heap.size, 0, rfl, fun j hj => by
  rw [Nat.zero_add, World.cell?_alloc_mark]
  simp [vY, yv, List.getD, hj]⟩
/-- The chapter's example holds: new memory alone. -/
theorem awake_any (w : World) (hT : TabS w) : Calls Tryd.prog 8 #[] w fun e w' => e = .returned (.bool true) ∧ Hid (Only (fun _ => False) w w') := by
  have kc := fun (w : World) (C : Array Value) (n c : Nat) => Lib.run_convert_bytes_const (P := Tryd.prog) w 23 5 C n c Tryd.underlying23 Tryd.underlying5
  have kc2 := kc (w.alloc (.cells #[.int .u8 49, .int .u8 50, .int .u8 51, .int .u8 52] 5 (4, 5))) #[.int .u8 53, .int .u8 54, .int .u8 55, .int .u8 56, .int .u8 57] 5 5
  rw [show (w.alloc (.cells #[.int .u8 49, .int .u8 50, .int .u8 51, .int .u8 52] 5 (4, 5))).heap.size = w.heap.size + 1 by simp] at kc2
  have HOf : Hid (∀ v : World, v = (w.alloc (.cells #[.int .u8 49, .int .u8 50, .int .u8 51, .int .u8 52] 5 (4, 5))).alloc (.cells #[.int .u8 53, .int .u8 54, .int .u8 55, .int .u8 56, .int .u8 57] 5 (5, 6)) → Calls Tryd.prog 14 #[.slice (some ⟨w.heap.size + 1 + 1, 0, none⟩) 2 2] (v.alloc (.cells #[.slice (some ⟨w.heap.size, 0, none⟩) 4 4, .slice (some ⟨w.heap.size + 1, 0, none⟩) 5 5] 23)) fun e w' => e = .returned (.int .u32 3421780262) ∧ Hid (Only (fun _ => False) w w')) := hid fun v hv => by
    have hs : v.heap.size = w.heap.size + 1 + 1 := by rw [hv]; simp
    have ho1 : Only (fun _ => False) w (w.alloc (.cells #[.int .u8 49, .int .u8 50, .int .u8 51, .int .u8 52] 5 (4, 5))) := (Only.refl _ w).alloc _
    have ho : Only (fun _ => False) w v := by rw [hv]; exact ho1.alloc _
    have r1 : RdY v (some ⟨w.heap.size, 0, none⟩) [49, 50, 51, 52] := by
      rw [hv]
      exact (rdY_mark [49, 50, 51, 52] (4, 5)).only ((Only.refl _ _).alloc _) fun _ _ _ => no_
    have r2 : RdY v (some ⟨w.heap.size + 1, 0, none⟩) [53, 54, 55, 56, 57] := by
      rw [hv]
      have h2 := rdY_mark (w := w.alloc (.cells #[.int .u8 49, .int .u8 50, .int .u8 51, .int .u8 52] 5 (4, 5))) [53, 54, 55, 56, 57] (5, 6)
      rw [show (w.alloc (.cells #[.int .u8 49, .int .u8 50, .int .u8 51, .int .u8 52] 5 (4, 5))).heap.size = w.heap.size + 1 by simp] at h2
      exact h2
    have h := sumOf_any (cap := 2) (rdR_lit (w := v) [(some ⟨w.heap.size, 0, none⟩, [49, 50, 51, 52], 4), (some ⟨w.heap.size + 1, 0, none⟩, [53, 54, 55, 56, 57], 5)] (fun r hr => by
      rcases List.mem_cons.1 hr with rfl | hr
      · exact ⟨r1, fun h => by cases h⟩
      · rcases List.mem_cons.1 hr with rfl | hr
        · exact ⟨r2, fun h => by cases h⟩
        · cases hr)) (fun l hl b hb => by
          rcases List.mem_cons.1 hl with rfl | hl
          · simp at hb; omega
          · rcases List.mem_cons.1 hl with rfl | hl
            · simp at hb; omega
            · cases hl) (by simp) (fun j => by
          match j with
          | 0 => simp
          | 1 => simp
          | j + 2 => simp [List.getD]) (hT.only (ho.alloc _))
    have h9 : crc (([(some ⟨w.heap.size, 0, none⟩, [49, 50, 51, 52], 4), (some ⟨w.heap.size + 1, 0, none⟩, [53, 54, 55, 56, 57], 5)] : List Rw).map fun (r : Rw) => r.2.1).flatten = 3421780262 := crc_nine
    rw [h9, hs] at h
    exact h.mono fun e w' ⟨h1, h2⟩ => ⟨h1, hid ((ho.alloc _).trans (Only.of_below h2.out _))⟩
  go_enter Tryd.func8, Tryd.ntmps8
  go_wp2_with fail
  refine (HOf.out _ rfl).mono ?_
  rintro e w1 ⟨rfl, HO⟩
  go_wp2_with fail
  go_ret
  exact ⟨rfl, HO⟩

/-- A slice of the call's own: none, or a row with that room. -/
def AnyV (w : World) (base : Nat) (v : Value) : Prop := v = .slice none 0 0 ∨ ∃ g n cap, v = .slice (some ⟨g, 0, none⟩) n cap ∧ base ≤ g ∧ AnyRow w 5 g cap ∧ n ≤ cap ∧ cap ≤ maxLen ∧ n ≤ 10000000
theorem OwY.anyV {w0 w : World} {v : Value} {bs : List Nat} (h : OwY w0 w v bs) (hl : bs.length ≤ 10000000) : AnyV w w0.heap.size v := by
  rcases h.own.2 with ⟨rfl, _⟩ | ⟨g, cap, cur, rfl, hge, hh, hle, hcm, hsz, ht⟩
  · exact .inl rfl
  · exact .inr ⟨g, _, cap, rfl, hge, ⟨fun j => cur.toList.getD j undef, cur, hh, by omega, fun i hi => by
      have h1 : i < cur.toList.length := by rw [Array.length_toList]; omega
      simp only [List.getD, List.getElem?_eq_getElem h1, Option.getD_some]
      simp⟩, hle, hcm, hl⟩
theorem AnyV.own {w0 w w' : World} {v : Value} (h : AnyV w w0.heap.size v) (ho : Only (fun _ => False) w w') : AnyV w' w0.heap.size v := by
  rcases h with rfl | ⟨g, n, cap, e, hge, ⟨F, hF⟩, hr⟩
  · exact .inl rfl
  · exact .inr ⟨g, n, cap, e, hge, ⟨F, ho.row hF no_⟩, hr⟩
theorem AnyV.over {w w' : World} {g cap B : Nat} {v : Value} (h : OverS w w' 5 g cap) (h0 : AnyRow w 5 g cap) (hv : AnyV w B v) : AnyV w' B v := by
  rcases hv with rfl | ⟨g2, n, cap2, e, hge, ⟨F, hF⟩, hr⟩
  · exact .inl rfl
  · refine .inr ⟨g2, n, cap2, e, hge, ?_, hr⟩
    by_cases hg : g2 = g
    · subst hg
      obtain ⟨F0, c0, hh0, hs0, _⟩ := h0
      obtain ⟨c2, hh2, hs2, _⟩ := hF
      rw [hh0] at hh2
      injection hh2 with hh2
      injection hh2 with e1
      subst e1
      obtain rfl : cap2 = cap := by omega
      exact h.1
    · exact ⟨F, h.2.row hF hg⟩
def OvE (w : World) (base : Nat) (w' : World) : Prop := Only (fun k => base ≤ k) w w' ∧ ∀ B v, AnyV w B v → AnyV w' B v
set_option maxHeartbeats 1000000 in
theorem overBytes_own {base : Nat} {v : Value} {w : World} (h : AnyV w base v) :
    Calls Tryd.prog 18 #[v] w fun e w' => e = .returned (.tuple #[]) ∧ Hid (OvE w base w') := by
  rcases h with rfl | ⟨g, n, cap, rfl, hge, hr, hn, hcm, hn10⟩
  · have hm : min (0 : Int) 12 = 0 := by omega
    go_enter Tryd.func18, Tryd.ntmps18
    go_wp2
    go_loopw [3] (fun s wr => s = .int .i64 0 ∧ w = wr) (fun s _ => 0)
    case atStart => exact ⟨rfl, rfl⟩
    case round =>
      obtain ⟨rfl, rfl⟩ := hrel
      go_wp2
      go_end0
      exact ⟨rfl, hid ⟨Only.refl _ _, fun _ _ h => h⟩⟩
  · have HS : Hid (OverS w w 5 g cap) := hid ⟨hr, Only.refl _ w⟩
    have H0 := hid hr
    clear hr
    unfold maxLen at hcm
    have hw : wrap64 ((n : Int) + 12) = (n : Int) + 12 := by unfold wrap64; omega
    obtain ⟨m, hm, hmc, hmn⟩ : ∃ m : Nat, min (cap : Int) ((n : Int) + 12) = (m : Int) ∧ m ≤ cap ∧ m ≤ 10000012 := by
      refine ⟨min cap (n + 12), by omega, by omega, by omega⟩
    have hmc' : (m : Int) ≤ (cap : Int) := by omega
    have hm0 : (0 : Int) ≤ (m : Int) := by omega
    go_enter Tryd.func18, Tryd.ntmps18
    go_wp2
    go_loopw [3] (fun s wr => ∃ k : Nat, k ≤ m ∧ s = .int .i64 k ∧ Hid (OverS w wr 5 g cap)) (fun s _ => m - (intOf s).toNat)
    case atStart => exact ⟨0, by omega, rfl, HS⟩
    case round =>
      obtain ⟨k, hk, rfl, HR⟩ := hrel
      clear HS
      by_cases hp : k < m
      · obtain ⟨F, hF⟩ := HR.out.1
        have ck := hF.cell (i := k) (by omega)
        have fz := hF.frozen k
        have hlt := hF.lt
        have HN : Hid (∀ x : Value, OverS w (wr.setCell ⟨g, k, none⟩ x) 5 g cap) := hid fun x => ⟨⟨_, hF.set k _⟩, HR.out.2.setCell (.inl rfl) _⟩
        clear HR hF
        go_wp2_with (go_at_call 21; refine (markByte_any 2 k _ (by omega) (by omega)).mono ?_; rintro e w2 ⟨rfl, rfl⟩)
        go_roundw
        case rel => exact ⟨k + 1, by omega, by go_num, HN.out _⟩
        case measure => simp [intOf]; omega
      · obtain rfl : k = m := by omega
        go_wp2_with fail
        go_end0
        exact ⟨rfl, hid ⟨HR.out.2.mono fun k _ h => by omega, fun _ _ h => h.over HR.out H0.out⟩⟩
end Go.Proofs.YthfelifcikiogaaDoor
