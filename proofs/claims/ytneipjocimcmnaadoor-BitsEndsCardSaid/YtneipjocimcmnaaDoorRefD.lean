/- The document's vector: Set. -/
import Derived.Test.YtneipjocimcmnaaDoorRefC
namespace Go.Proofs.YtneipjocimcmnaaDoor
open Go.RowKit
open Fen

def RSet (w : World) (r gl n cap : Nat) (f : Nat → Bool) (wr : World) : Prop := IsRef wr r gl n cap f ∧ Only (fun k => k = gl) w wr
theorem IsRef.store {w : World} {r gl n cap p : Nat} {f : Nat → Bool} {one : Bool} (h : IsRef w r gl n cap f) (hne : r ≠ gl) (hp : p < n) : IsRef (w.setCell ⟨gl, p, none⟩ (.bool one)) r gl n cap (setf f one p) := by
  obtain ⟨h1, h2, h3, ⟨F, h4, h5⟩, h6⟩ := h
  refine ⟨h1, fun i hi => ?_, h3.setOther (by simpa using hne) _, ⟨_, h4.set p _, fun j hj => ?_⟩, h6⟩
  · unfold setf
    rw [if_neg (by omega), h2 i hi]
  · unfold setf
    by_cases e : j = p
    · subst e; rw [if_pos rfl, if_pos rfl]
    · rw [if_neg e, if_neg e, h5 j hj]

set_option maxHeartbeats 2000000 in
theorem refSet_any {r gl n cap : Nat} {f : Nat → Bool} {w : World} (h : IsRef w r gl n cap f) (hne : r ≠ gl) (one : Bool) (A : Option Addr) (capz : Nat) (zs : List Int) (hz : RdI w A zs) (hl : zs.length ≤ 4194304)
    (hA : 0 < zs.length → ∀ b off, A = some ⟨b, off, none⟩ → b ≠ gl) :
    Calls Tryd.prog 15 #[.pointer (some ⟨r, 0, none⟩), .bool one, .slice A zs.length capz] w fun e w' => (zs.any (bad n) = true ∧ e = .returned (.int .i64 6) ∧ Hid (Only (fun _ => False) w w')) ∨ (zs.any (bad n) = false ∧ e = .returned (.int .i64 0) ∧ Hid (RSet w r gl n cap (fset f one zs) w')) := by
  have HR := hid h
  have HZ := hid hz
  have HA := hid hA
  have hn := h.small
  have HNe := hid hne
  obtain ⟨N, hN⟩ : ∃ N, N = zs.length := ⟨_, rfl⟩
  rw [← hN] at hl ⊢
  have HN := hid hN
  clear h hz hA hN hne
  go_enter Tryd.func15, Tryd.ntmps15
  go_wp2
  go_loopw [7] (fun s wr => ∃ k : Nat, k ≤ N ∧ s = .int .i64 k ∧ Hid (Only (fun _ => False) w wr) ∧ Hid (∀ j, j < k → 0 ≤ zs.getD j 0 ∧ zs.getD j 0 < (n : Int))) (fun s _ => N - (intOf s).toNat)
  case atStart => exact ⟨0, by omega, rfl, hid (Only.refl _ _), hid fun j hj => absurd hj (by omega)⟩
  case round =>
    obtain ⟨k, hk, rfl, HO, HB⟩ := hrel
    by_cases hp : k < N
    · have c0 := (HR.out.same HO.out).head
      obtain ⟨b, off, hAe, hcw⟩ := (HZ.out.only HO.out fun _ _ _ => no_) k (by rw [← HN.out]; exact hp)
      have hc := hcw k (by rw [← HN.out]; exact hp)
      clear hcw
      subst hAe
      have Hm : Hid (bad n (zs.getD k 0) = true → zs.any (bad n) = true) := hid fun hb => List.any_eq_true.2 ⟨zs.getD k 0, by simp [List.getD, ← HN.out, hp], hb⟩
      have HB2 : Hid (0 ≤ zs.getD k 0 ∧ zs.getD k 0 < (n : Int) → ∀ j, j < k + 1 → 0 ≤ zs.getD j 0 ∧ zs.getD j 0 < (n : Int)) := hid fun h1 j hj => by
        by_cases e : j = k
        · subst e; exact h1
        · exact HB.out j (by omega)
      clear HB
      generalize zs.getD k 0 = z at hc Hm HB2
      have hkN : (k : Int) < (N : Int) := by omega
      by_cases h0 : z < 0
      · have HX : Hid (zs.any (bad n) = true) := hid (Hm.out (by simp [bad, h0]))
        clear Hm HB2
        go_wp2
        go_quiet (fail)
        go_wp2
        go_ret
        exact .inl ⟨HX.out, rfl, hid (HO.out.drewN _)⟩
      · have h0' : decide (z < 0) = false := by rw [decide_eq_false_iff_not]; exact h0
        by_cases h1 : (n : Int) ≤ z
        · have HX : Hid (zs.any (bad n) = true) := hid (Hm.out (by simp [bad, h1]))
          clear Hm HB2
          go_wp2
          go_quiet (fail)
          go_wp2
          go_ret
          exact .inl ⟨HX.out, rfl, hid (HO.out.drewN _)⟩
        · have h1' : decide ((n : Int) ≤ z) = false := by rw [decide_eq_false_iff_not]; exact h1
          have HB3 := hid (HB2.out ⟨by omega, by omega⟩)
          clear Hm HB2
          go_wp2
          go_quiet (fail)
          go_wp2
          go_roundw
          case rel => exact ⟨k + 1, by omega, by go_num, hid (HO.out.drewN _), HB3⟩
          case measure => simp [intOf]; omega
    · obtain rfl : k = N := by omega
      have HX : Hid (zs.any (bad n) = false) := hid (by
        rw [List.any_eq_false]
        intro z hz
        obtain ⟨j, hj, rfl⟩ := List.getElem_of_mem hz
        have h1 := HB.out j (by rw [HN.out]; exact hj)
        have e : zs.getD j 0 = zs[j] := by simp [List.getD, hj]
        rw [e] at h1
        unfold bad
        rw [decide_eq_true_eq]
        omega)
      have HRr := hid (HR.out.same HO.out)
      have HZr := hid (HZ.out.only HO.out fun _ _ _ => no_)
      go_wp2
      obtain ⟨v0, rfl⟩ : ∃ v0 : World, v0 = wr := ⟨_, rfl⟩
      go_loopw [8] (fun s wr => ∃ j : Nat, j ≤ k ∧ s = .int .i64 j ∧ Hid (RSet v0 r gl n cap (fset f one (zs.take j)) wr)) (fun s _ => k - (intOf s).toNat)
      case atStart => exact ⟨0, by omega, rfl, hid ⟨HRr.out, Only.refl _ _⟩⟩
      case round =>
        obtain ⟨j, hj, rfl, HI⟩ := hrel
        by_cases hp : j < k
        · have c0 := HI.out.1.head
          obtain ⟨b, off, hAe, hcw⟩ := (HZr.out.only HI.out.2 fun b off e => HA.out (by rw [← HN.out]; omega) b off e) j (by rw [← HN.out]; exact hp)
          have hc := hcw j (by rw [← HN.out]; exact hp)
          clear hcw
          have hrange := HB.out j hp
          have HS := hid (fset_snoc f one zs j (by rw [← HN.out]; exact hp))
          subst hAe
          obtain ⟨p, hpz⟩ := Int.eq_ofNat_of_zero_le hrange.1
          rw [hpz] at hc hrange HS
          have hpn : p < n := by omega
          have hpn' : (p : Int) < (n : Int) := by omega
          clear hrange hpz
          have HN2 : Hid (RSet v0 r gl n cap (fset f one (zs.take (j + 1))) (wr.setCell ⟨gl, p, none⟩ (.bool one))) := hid ⟨by rw [HS.out, Int.toNat_natCast]; exact HI.out.1.store HNe.out hpn, HI.out.2.setCell (.inl rfl) _⟩
          have cp := HI.out.1.cell hpn
          have fz : wr.frozen? ⟨gl, p, none⟩ = false := by
            obtain ⟨F, h4, _⟩ := HI.out.1.row
            exact h4.frozen p
          clear HI HS
          go_wp2
          go_region
          all_goals go_wp2
          go_roundw
          case rel => exact ⟨j + 1, by omega, by go_num, hid ⟨HN2.out.1.same ((Only.refl _ _).drew), HN2.out.2.drew⟩⟩
          case measure => simp [intOf]; omega
        · obtain rfl : j = k := by omega
          have HD : Hid (RSet w r gl n cap (fset f one zs) wr) := hid ⟨by have h := HI.out.1; rw [HN.out, List.take_length] at h; exact h, (HO.out.mono (fun _ _ h => h.elim)).trans HI.out.2⟩
          clear HI
          go_wp2
          go_ret
          exact .inr ⟨HX.out, rfl, HD⟩
end Go.Proofs.YtneipjocimcmnaaDoor
