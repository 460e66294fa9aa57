/- The best code of texts. -/
import Derived.Test.YtmbcinbkijnblaaAlE
import Derived.Test.YtmbcinbkijnblaaShelf
namespace Go.Proofs.Ytmbcinbkijnblaa
open Go.RowKit

theorem sgUp_pair (l : List (Fin 257)) (k : Nat) : (sgUp l k).Pairwise (· < ·) := List.Pairwise.filter _ List.pairwise_lt_range
theorem sgUp_mem {l : List (Fin 257)} {k s : Nat} : s ∈ sgUp l k ↔ s < k ∧ 0 < cntS l s := by simp [sgUp]
theorem sgUp_ok (l : List (Fin 257)) : SgOk (sgUp l 257) := by
  refine ⟨fun i j hij hj => ?_, fun i hi => ?_⟩
  · have h := List.pairwise_iff_getElem.1 (sgUp_pair l 257) i j (by omega) hj hij
    simpa [List.getD, hj, show i < (sgUp l 257).length by omega] using h
  · have : (sgUp l 257).getD i 0 ∈ sgUp l 257 := by simp [List.getD, hi]
    exact (sgUp_mem.1 this).1
theorem csUp_len (l : List (Fin 257)) : (csUp l 257).length = (sgUp l 257).length := by simp [csUp]
theorem csUp_isW {l : List (Fin 257)} (h0 : 0 < (sgUp l 257).length) (hl : l.length ≤ 1000000) : isW (csUp l 257) = true := by
  unfold isW
  rw [Bool.and_eq_true]
  refine ⟨?_, List.all_eq_true.2 fun z hz => ?_⟩
  · have := sgUp_len l 257
    rw [csUp_len]
    simp
    omega
  · unfold csUp at hz
    obtain ⟨s, _, rfl⟩ := List.mem_map.1 hz
    have := cntS_le l s
    simp
    omega
theorem maxOf_fold {B : Int} : ∀ (zs : List Int) (m : Int), m ≤ B → (∀ z ∈ zs, z ≤ B) → zs.foldl max m ≤ B
  | [], m, hm, _ => hm
  | z :: zs, m, hm, h => maxOf_fold zs (max m z) (by have := h z (List.mem_cons_self ..); omega) fun y hy => h y (List.mem_cons_of_mem _ hy)
theorem maxOf_le {B : Int} {zs : List Int} (hne : zs ≠ []) (h : ∀ z ∈ zs, z ≤ B) : Lib.maxOf zs ≤ B := by
  unfold Lib.maxOf
  refine maxOf_fold zs _ ?_ h
  cases zs with
  | nil => exact absurd rfl hne
  | cons z zs => exact h z (List.mem_cons_self ..)
theorem CodeS.of {B : Nat} {w : World} {g : Nat} {sg : List Nat} {ws : List (List Bool)} {ls : List Int} (hw : WordsOf ls ws) (hf : Fit ls) (hi : IsCode B w g sg ws) (ok : SgOk sg) (len : sg.length = ls.length) : CodeS B w g sg ws :=
  ⟨hi, ok, by rw [len, hw.len], fun i h => ⟨hw.long h, hw.short hf h⟩, by rw [hw.len]; exact hf.few.2⟩
theorem IsCode.base {B B' : Nat} {w : World} {g : Nat} {sg : List Nat} {ws : List (List Bool)} (h : IsCode B w g sg ws) (hB : B' ≤ B) : IsCode B' w g sg ws := by
  obtain ⟨F, P, q⟩ := h
  refine ⟨F, P, ⟨q.row, Nat.le_trans hB q.ge, q.nil0, fun hk => ?_, q.self, q.wd, q.out⟩⟩
  obtain ⟨r1, r2, r3⟩ := q.code hk
  exact ⟨⟨r1.self, own_base r1.own hB, Nat.le_trans hB r1.ge, Nat.le_trans hB r1.le⟩, r2, r3⟩
theorem sgT_zero (s : ByteArray) : 1 ≤ cntS (sgT s) 0 := by
  unfold sgT cntS
  rw [List.countP_append]
  have : List.countP (fun x : Fin 257 => decide (x.val = 0)) [0] = 1 := rfl
  omega
theorem allS_zero {L : List ByteArray} (h : 0 < L.length) : 0 < (sgUp (allS L) 257).length := by
  have hm : 0 ∈ sgUp (allS L) 257 := sgUp_mem.2 ⟨by omega, by
    cases L with
    | nil => simp at h
    | cons s L =>
      have := sgT_zero s
      unfold cntS at this ⊢
      unfold allS
      rw [List.flatMap_cons, List.countP_append]
      omega⟩
  exact List.length_pos_of_mem hm
set_option maxHeartbeats 2000000 in
theorem of_any {A : Option Addr} {n c : Nat} {L : List ByteArray} {w : World} (hL : RdS w A L) (hn : n = L.length) (h0 : 0 < n) (hs : (allS L).length ≤ 1000000) :
    Calls Try.prog 21 #[.slice A n c] w (CodeE w (sgUp (allS L) 257) (bestL (csUp (allS L) 257))) := by
  have hz := allS_zero (L := L) (by omega)
  have hW := csUp_isW hz hs
  have hfit := bestL_fit hW
  obtain ⟨ws, hws⟩ := hfit.words
  have hm257 := sgUp_len (allS L) 257
  have hcl := csUp_len (allS L)
  have hbl := bestL_len (csUp (allS L) 257)
  have HCt := hid (counted_any (c := c) hL hn hs)
  have HMx : Hid (∀ (W : World) (g : Nat) (cap : Nat), RdI W (some ⟨g, 0, none⟩) (csUp (allS L) 257) → Calls Try.prog 60 #[.slice (some ⟨g, 0, none⟩) (sgUp (allS L) 257).length cap] W fun e w' => ∃ z : Int, e = .returned (.int .i64 z) ∧ z ≤ 4294967296 ∧ w' = W) := hid fun W g cap hr => by
    obtain ⟨b, off, e, hc⟩ := hr (by omega)
    injection e with e
    injection e with e1 e2 _
    subst e1
    subst e2
    refine (Try.slices_Max_int g 0 (sgUp (allS L) 257).length cap (csUp (allS L) 257) W hz (by omega) (by omega) (fun j hj => hc j hj)).mono ?_
    rintro e w' ⟨rfl, rfl⟩
    refine ⟨_, rfl, maxOf_le (fun e => ?_) fun z hz => ?_, rfl⟩
    · have h3 : ((csUp (allS L) 257).take (sgUp (allS L) 257).length).length = 0 := by rw [e]; rfl
      rw [List.length_take] at h3
      omega
    · have hz := List.mem_of_mem_take hz
      unfold csUp at hz
      obtain ⟨s, _, rfl⟩ := List.mem_map.1 hz
      have := cntS_le (allS L) s
      omega
  have HLe : Hid (∀ (W : World) (A2 : Option Addr) (cap : Nat), RdI W A2 (csUp (allS L) 257) → Calls Try.prog 10 #[.slice A2 (sgUp (allS L) 257).length cap] W fun e w' => ∃ B c', e = .returned (.tuple #[.slice B (sgUp (allS L) 257).length c', .int .i64 0]) ∧ Hid (RdI w' B (bestL (csUp (allS L) 257))) ∧ StO W w' ∧ (sgUp (allS L) 257).length ≤ c') := hid fun W A2 cap hr => by
    have h := Lengths_any (cap := cap) hr (by omega)
    rw [hcl] at h
    refine h.mono ?_
    rintro e w' ⟨B, m, c2, he, hm, hc, hr2, _, _, ho⟩
    have hm := hm.out
    have hr2 := hr2.out
    rw [hW, if_pos rfl] at hm hr2
    rw [hW, if_pos rfl] at he
    rw [hbl, hcl] at hm
    subst hm
    exact ⟨B, c2, he, hid hr2, ho, by rw [hc.out]; exact Nat.le_refl _⟩
  have HCo : Hid (∀ (W : World) (A1 A2 : Option Addr) (k1 k2 : Nat), StO w W → RdI W A1 (sgI (sgUp (allS L) 257)) → RdI W A2 (bestL (csUp (allS L) 257)) → (sgUp (allS L) 257).length ≤ k2 → Calls Try.prog 51 #[.slice A1 (sgUp (allS L) 257).length k1, .slice A2 (sgUp (allS L) 257).length k2] W fun e w' => ∃ g : Nat, e = .returned (.pointer (some ⟨g, 0, none⟩)) ∧ Hid (WordsOf (bestL (csUp (allS L) 257)) ws ∧ w.heap.size ≤ g ∧ IsCode w.heap.size w' g (sgUp (allS L) 257) ws) ∧ StO W w') := hid fun W A1 A2 k1 k2 hO h1 h2 h3 => by
    have := codeOf_any (c1 := k1) (c2 := k2) hws (sgUp_ok (allS L)) (by omega) (by omega) (fun i hi => hws.short hfit hi) h1 h2 (by omega)
    rw [hbl, hcl] at this
    refine this.mono ?_
    rintro e w' ⟨g, he, hH⟩
    obtain ⟨q1, q2, q3⟩ := hH.out
    exact ⟨g, he, hid ⟨hws, Nat.le_trans hO.out.size q1, q2.base hO.out.size⟩, hid q3⟩
  have hsl : (sgI (sgUp (allS L) 257)).length = (sgUp (allS L) 257).length := by simp [sgI]
  have hn0 : ((n : Int) == 0) = false := by rw [beq_eq_false_iff_ne]; omega
  generalize csUp (allS L) 257 = cs at *
  generalize sgUp (allS L) 257 = sg at *
  generalize bestL cs = bl at *
  obtain ⟨m, hm⟩ : ∃ m, m = sg.length := ⟨_, rfl⟩
  rw [← hm] at HMx HLe HCo hz hsl hcl hm257
  have Hsl := hid hsl
  have Hcl := hid hcl
  clear hL hn hs hW hfit hws hbl hm hsl hcl
  go_enter Try.func21, Try.ntmps21
  go_wp2_with fail
  refine HCt.out.mono ?_
  rintro e w1 ⟨v1, v2, rfl, HV⟩
  obtain ⟨A1, c1, rfl, HO1⟩ := HV.out.1.made Hsl.out
  obtain ⟨A2, c2, rfl, HO2⟩ := HV.out.2.made Hcl.out
  obtain ⟨g2, rfl, _, _, _, _⟩ := HO2.out.put (k := 0) hz
  have HR1 := hid HO1.out.rd.1
  have HR2 := hid HO2.out.rd.1
  have HS1 : StO w w1 := hid HO1.out.only
  clear HV HO1 HO2
  go_wp2_with fail
  refine (HMx.out _ _ _ HR2.out).mono ?_
  rintro e w' ⟨z, rfl, hzz, rfl⟩
  have hz3 : ¬ (4294967296 : Int) < z := by omega
  go_wp2_with fail
  refine (HLe.out _ _ _ HR2.out).mono ?_
  rintro e w2 ⟨B2, c3, rfl, HR3, HS2, hc3⟩
  have HR12 : Hid (RdI w2 A1 (sgI sg)) := hid (HR1.out.only HS2.out fun _ _ _ => no_)
  have HS02 : StO w w2 := hid (HS1.out.trans HS2.out)
  clear HR1 HR2 HS1 HS2
  go_wp2_with fail
  refine (HCo.out _ _ _ _ _ HS02 HR12.out HR3.out hc3).mono ?_
  rintro e w3 ⟨g, rfl, HC, HS3⟩
  go_wp2_with fail
  go_ret2
  exact ⟨g, ws, rfl, HC, hid (HS02.out.trans HS3.out)⟩
end Go.Proofs.Ytmbcinbkijnblaa
