/- Set. -/
import Derived.Test.YtmbcinbkijnblaaVecT
import Derived.Test.YtmbcinbkijnblaaLawR
namespace Go.Proofs.Ytmbcinbkijnblaa.V1
open Go.RowKit
open Fen

/-- A slice that reads as ints. -/
def RdI (w : World) (A : Option Addr) (zs : List Int) : Prop := ∀ j, j < zs.length → ∃ b off, A = some ⟨b, off, none⟩ ∧ ∀ j, j < zs.length → w.cell? ⟨b, off + j, none⟩ = some (.int .i64 (zs.getD j 0))
theorem RdI.only {S : Nat → Prop} {w w' : World} {A : Option Addr} {zs : List Int} (h : RdI w A zs) (ho : Only S w w') (hS : ∀ b off, A = some ⟨b, off, none⟩ → ¬ S b) : RdI w' A zs := by
  intro j hj
  obtain ⟨b, off, hA, hc⟩ := h j hj
  refine ⟨b, off, hA, fun i hi => ?_⟩
  have hci := hc i hi
  rw [ho.cell (cell_lt hci) (hS b off hA), hci]

def bad (n : Nat) (k : Int) : Bool := decide (k < 0 ∨ (n : Int) ≤ k)

set_option maxHeartbeats 400000 in
theorem setBad_any (bx g n : Nat) (k : Int) (w : World) (hb : w.cell? ⟨bx, 0, none⟩ = some (.pointer (some ⟨g, 0, none⟩))) (h4 : w.cell? ⟨g, 4, none⟩ = some (.int .i64 (n : Int))) :
    Calls Try.prog 99 #[.int .i64 k, .pointer (some ⟨bx, 0, none⟩)] w fun e w' => e = .returned (.bool (bad n k)) ∧ w = w' := by
  by_cases h0 : k < 0
  · have e : bad n k = true := by simp [bad, h0]
    rw [e]
    clear e
    go_enter Try.func99, Try.ntmps99
    go_wp2
    go_ret
    exact ⟨rfl, rfl⟩
  · by_cases h1 : (n : Int) ≤ k
    · have e : bad n k = true := by simp [bad, h1]
      rw [e]
      clear e
      have h0' : 0 ≤ k := by omega
      clear h0
      go_enter Try.func99, Try.ntmps99
      go_wp2
      go_ret
      exact ⟨rfl, rfl⟩
    · have e : bad n k = false := by simp [bad, h0, h1]
      rw [e]
      clear e
      have h0' : 0 ≤ k := by omega
      have h1' : k < (n : Int) := by omega
      clear h0 h1
      go_enter Try.func99, Try.ntmps99
      go_wp2
      go_ret
      refine ⟨ret_bool ?_, rfl⟩
      simp
      omega

set_option maxHeartbeats 1000000 in
theorem indexBad_any (bx g n cap : Nat) (A : Option Addr) (zs : List Int) (w : World) (hb : w.cell? ⟨bx, 0, none⟩ = some (.pointer (some ⟨g, 0, none⟩))) (h4 : w.cell? ⟨g, 4, none⟩ = some (.int .i64 (n : Int)))
    (hz : RdI w A zs) (hl : zs.length ≤ 9223372036854775807) :
    Calls Try.prog 104 #[.slice A zs.length cap, .func (.func 99) #[] #[.pointer (some ⟨bx, 0, none⟩)]] w fun e w' => ∃ r : Int, e = .returned (.int .i64 r) ∧ w = w' ∧ decide (0 ≤ r) = zs.any (bad n) := by
  have HC := hid (fun k => setBad_any bx g n k w hb h4)
  have HZ := hid hz
  clear hb h4 hz
  obtain ⟨N, hN⟩ : ∃ N, N = zs.length := ⟨_, rfl⟩
  rw [← hN] at hl ⊢
  have HN := hid hN
  clear hN
  go_enter Try.func104, Try.ntmps104
  go_wp2
  go_loop [8] (fun s => ∃ k : Nat, k ≤ N ∧ s = .int .i64 k ∧ Hid ((zs.take k).any (bad n) = false)) (fun s => N - (intOf s).toNat)
  case atStart => exact ⟨0, by omega, rfl, hid (by simp)⟩
  case round =>
    obtain ⟨k, hk, rfl, HA⟩ := hrel
    by_cases hp : k < N
    · obtain ⟨b, off, hA, hcw⟩ := HZ.out k (by rw [← HN.out]; exact hp)
      have hc := hcw k (by rw [← HN.out]; exact hp)
      clear hcw
      subst hA
      have hmem : zs.take (k + 1) = zs.take k ++ [zs.getD k 0] := by
        have hlt : k < zs.length := by rw [← HN.out]; exact hp
        rw [List.take_succ_eq_append_getElem hlt]; simp [List.getD, hlt]
      have hin : zs.getD k 0 ∈ zs := by
        have hlt : k < zs.length := by rw [← HN.out]; exact hp
        simp [List.getD, hlt]
      have HM := hid hmem
      have HI := hid hin
      clear hmem hin
      generalize zs.getD k 0 = z at hc HM HI
      cases hbz : bad n z with
      | true =>
        have HB := hid hbz
        clear hbz
        go_wp2_with (go_at_call 99; refine (HC.out z).mono ?_; rintro e w' ⟨rfl, rfl⟩; rw [HB.out])
        go_ret
        refine ⟨(k : Int), rfl, rfl, ?_⟩
        have : zs.any (bad n) = true := List.any_eq_true.2 ⟨z, HI.out, HB.out⟩
        rw [this]; simp
      | false =>
        have HB := hid hbz
        clear hbz
        go_wp2_with (go_at_call 99; refine (HC.out z).mono ?_; rintro e w' ⟨rfl, rfl⟩; rw [HB.out])
        go_round
        case rel => exact ⟨k + 1, by omega, by go_num, hid (by rw [HM.out, List.any_append, HA.out]; simp [HB.out])⟩
        case measure => simp [intOf]; omega
    · obtain rfl : k = N := by omega
      go_wp2
      go_ret
      refine ⟨-1, rfl, rfl, ?_⟩
      have := HA.out
      rw [HN.out, List.take_length] at this
      rw [this]; rfl

set_option maxHeartbeats 400000 in
theorem containsBad_any (bx g n cap : Nat) (A : Option Addr) (zs : List Int) (w : World) (hb : w.cell? ⟨bx, 0, none⟩ = some (.pointer (some ⟨g, 0, none⟩))) (h4 : w.cell? ⟨g, 4, none⟩ = some (.int .i64 (n : Int)))
    (hz : RdI w A zs) (hl : zs.length ≤ 9223372036854775807) :
    Calls Try.prog 81 #[.slice A zs.length cap, .func (.func 99) #[] #[.pointer (some ⟨bx, 0, none⟩)]] w fun e w' => e = .returned (.bool (zs.any (bad n))) ∧ w = w' := by
  have HC := hid (indexBad_any bx g n cap A zs w hb h4 hz hl)
  clear hb h4 hz hl
  generalize zs.length = N at HC ⊢
  go_enter Try.func81, Try.ntmps81
  go_wp2_with fail
  refine HC.out.mono ?_
  rintro e w' ⟨r, rfl, rfl, hr⟩
  have HR := hid hr
  clear hr
  go_wp2_with fail
  go_ret
  exact ⟨ret_bool HR.out, rfl⟩

def setf (f : Nat → Bool) (one : Bool) (p j : Nat) : Bool := if j = p then one else f j
def fset (f : Nat → Bool) (one : Bool) (zs : List Int) : Nat → Bool := zs.foldl (fun f p => setf f one p.toNat) f
theorem fset_snoc (f : Nat → Bool) (one : Bool) (zs : List Int) (k : Nat) (h : k < zs.length) : fset f one (zs.take (k + 1)) = setf (fset f one (zs.take k)) one (zs.getD k 0).toNat := by
  rw [List.take_succ_eq_append_getElem h]
  unfold fset
  rw [List.foldl_append]
  simp [List.getD, h]
theorem setf_same {f : Nat → Bool} {one : Bool} {p : Nat} (h : f p = one) : setf f one p = f := by
  funext j
  unfold setf
  by_cases e : j = p
  · subst e; simp [h]
  · simp [e]
theorem setf_flip {f : Nat → Bool} {one : Bool} {p : Nat} (h : f p ≠ one) : setf f one p = flip f p := by
  funext j
  unfold setf flip
  by_cases e : j = p
  · subst e
    simp
    cases hf : f j <;> cases one <;> simp_all
  · simp [e]

def SetI (w : World) (g gs gw n : Nat) (f : Nat → Bool) (wr : World) : Prop := IsVec wr g gs gw n f ∧ Only (fun k => k = g ∨ k = gs ∨ k = gw) w wr

set_option maxHeartbeats 1000000 in
theorem set_bad {g gs gw n : Nat} {f : Nat → Bool} {w : World} (h : IsVec w g gs gw n f) (one : Bool) (A : Option Addr) (cap : Nat) (zs : List Int) (hz : RdI w A zs) (hl : zs.length ≤ 9223372036854775807) (hb : zs.any (bad n) = true) :
    Calls Try.prog 66 #[.pointer (some ⟨g, 0, none⟩), .bool one, .slice A zs.length cap] w fun e w' => e = .returned (.int .i64 6) ∧ Hid (Only (fun _ => False) w w') := by
  have hrow := World.rowIs_alloc w #[.pointer (some ⟨g, 0, none⟩)] 50 (fun _ => .pointer (some ⟨g, 0, none⟩)) (fun i hi => by
    match i, hi with
    | 0, _ => rfl
    | i + 1, hi => exact absurd (show i + 1 < 1 from hi) (by omega))
  have ho : Only (fun _ => False) w (w.alloc (.cells #[.pointer (some ⟨g, 0, none⟩)] 50)) := (Only.refl _ w).alloc _
  have hv := h.only ho no_ no_ no_
  have cb := hrow.cell (i := 0) (by simp)
  have hc := containsBad_any w.heap.size g n cap A zs _ cb (hv.self.cell (i := 4) (by omega)) (hz.only ho fun _ _ _ => no_) hl
  rw [hb] at hc
  have HC := hid hc
  have HV := hid hv
  have HO := hid ho
  clear hrow hz hl hb hc hv ho h
  generalize zs.length = N at HC ⊢
  go_enter Try.func66, Try.ntmps66
  go_wp2_with fail
  refine (answered_ok HV.out).mono ?_
  rintro e w1 ⟨rfl, rfl⟩
  go_wp2_with fail
  refine HC.out.mono ?_
  rintro e w1 ⟨rfl, rfl⟩
  go_wp2_with fail
  go_ret
  exact ⟨rfl, HO⟩

set_option maxHeartbeats 1000000 in
theorem set_ok {g gs gw n : Nat} {f : Nat → Bool} {w : World} (h : IsVec w g gs gw n f) (one : Bool) (A : Option Addr) (cap : Nat) (zs : List Int) (hz : RdI w A zs) (hl : zs.length ≤ 9223372036854775807) (hb : zs.any (bad n) = false)
    (hA : ∀ b off, A = some ⟨b, off, none⟩ → b ≠ g ∧ b ≠ gs ∧ b ≠ gw) :
    Calls Try.prog 66 #[.pointer (some ⟨g, 0, none⟩), .bool one, .slice A zs.length cap] w fun e w' => e = .returned (.int .i64 0) ∧ Hid (SetI w g gs gw n (fset f one zs) w') := by
  have hrow := World.rowIs_alloc w #[.pointer (some ⟨g, 0, none⟩)] 50 (fun _ => .pointer (some ⟨g, 0, none⟩)) (fun i hi => by
    match i, hi with
    | 0, _ => rfl
    | i + 1, hi => exact absurd (show i + 1 < 1 from hi) (by omega))
  have ho : Only (fun _ => False) w (w.alloc (.cells #[.pointer (some ⟨g, 0, none⟩)] 50)) := (Only.refl _ w).alloc _
  have hv := h.only ho no_ no_ no_
  have cb := hrow.cell (i := 0) (by simp)
  have hz1 := hz.only ho fun _ _ _ => no_
  have hc := containsBad_any w.heap.size g n cap A zs _ cb (hv.self.cell (i := 4) (by omega)) hz1 hl
  rw [hb] at hc
  have HC := hid hc
  have HV := hid hv
  have HO := hid ho
  have HB : Hid (∀ k, k < zs.length → 0 ≤ zs.getD k 0 ∧ zs.getD k 0 < (n : Int)) := hid fun k hk => by
    have hm : zs.getD k 0 ∈ zs := by simp [List.getD, hk]
    have := List.any_eq_false.1 hb _ hm
    generalize zs.getD k 0 = z at this
    unfold bad at this
    rw [decide_eq_true_eq] at this
    exact ⟨by omega, by omega⟩
  have hne1 := h.self.lt
  have hne2 := h.sums.lt
  have hne3 := h.words.lt
  have HL : Hid (g < w.heap.size ∧ gs < w.heap.size ∧ gw < w.heap.size) := hid ⟨hne1, hne2, hne3⟩
  have HZ := hid hz1
  have HA := hid hA
  have HR := hid hrow
  clear hrow hz hb hc hv ho h hne1 hne2 hne3 hz1 hA
  obtain ⟨N, hN⟩ : ∃ N, N = zs.length := ⟨_, rfl⟩
  rw [← hN] at hl HC ⊢
  have HN := hid hN
  clear hN
  go_enter Try.func66, Try.ntmps66
  go_wp2_with fail
  refine (answered_ok HV.out).mono ?_
  rintro e w1 ⟨rfl, rfl⟩
  go_wp2_with fail
  refine HC.out.mono ?_
  rintro e w1 ⟨rfl, rfl⟩
  clear HC
  go_wp2_with fail
  obtain ⟨w0, hw0⟩ : ∃ w0, w0 = w.alloc (.cells #[.pointer (some ⟨g, 0, none⟩)] 50) := ⟨_, rfl⟩
  rw [← hw0] at HV HO HZ HR cb ⊢
  clear hw0
  go_loopw [17] (fun s wr => ∃ k : Nat, k ≤ N ∧ s = .int .i64 k ∧ Hid (SetI w0 g gs gw n (fset f one (zs.take k)) wr)) (fun s _ => N - (intOf s).toNat)
  case atStart => exact ⟨0, by omega, rfl, hid ⟨HV.out, Only.refl _ _⟩⟩
  case round =>
    obtain ⟨k, hk, rfl, HI⟩ := hrel
    clear cb
    by_cases hp : k < N
    · have hb0 : wr.cell? ⟨w.heap.size, 0, none⟩ = some (.pointer (some ⟨g, 0, none⟩)) := (HI.out.2.row HR.out (by have := HL.out; omega)).cell (i := 0) (by simp)
      obtain ⟨b, off, hAe, hcw⟩ := (HZ.out.only HI.out.2 fun b off e => by have := HA.out b off e; omega) k (by rw [← HN.out]; exact hp)
      have hc := hcw k (by rw [← HN.out]; exact hp)
      clear hcw
      have hrange := HB.out k (by rw [← HN.out]; exact hp)
      have HS := hid (fset_snoc f one zs k (by rw [← HN.out]; exact hp))
      subst hAe
      obtain ⟨p, hpz⟩ := Int.eq_ofNat_of_zero_le hrange.1
      rw [hpz] at hc hrange HS
      have hpn : p < n := by omega
      clear hrange hpz
      generalize hff : fset f one (zs.take k) = ff at HI HS
      have HG := hid (fun W (hv : IsVec W g gs gw n ff) => get_nat hv p (ff p) rfl)
      by_cases hfo : ff p = one
      · have HI2 : Hid (SetI w0 g gs gw n (fset f one (zs.take (k + 1))) wr) := hid (by rw [HS.out, Int.toNat_natCast, setf_same hfo]; exact HI.out)
        have Hfo := hid hfo
        clear hfo HS hff
        go_wp2_with fail
        refine (HG.out _ HI.out.1).mono ?_
        rintro e w1 ⟨rfl, rfl⟩
        rw [Hfo.out]
        go_wp2_with fail
        go_roundw
        case rel => exact ⟨k + 1, by omega, by go_num, HI2⟩
        case measure => simp [intOf]; omega
      · have hS2 : fset f one (zs.take (k + 1)) = flip ff p := by rw [HS.out, Int.toNat_natCast, setf_flip hfo]
        have HS2 := hid hS2
        have Hfo := hid hfo
        clear hfo HS hff hS2
        generalize ff p = v at HG Hfo
        have hcase : (v = true ∧ one = false) ∨ (v = false ∧ one = true) := by
          have := Hfo.out
          cases v <;> cases one <;> simp_all
        clear Hfo
        rcases hcase with ⟨rfl, rfl⟩ | ⟨rfl, rfl⟩
        all_goals
          go_wp2_with fail
          refine (HG.out _ HI.out.1).mono ?_
          rintro e w1 ⟨rfl, rfl⟩
          go_wp2_with fail
          refine (turn_any HI.out.1 p hpn).mono ?_
          rintro e w2 ⟨rfl, ht⟩
          have HI2 := hid (show SetI w0 g gs gw n (fset f _ (zs.take (k + 1))) w2 from ⟨by rw [HS2.out]; exact ht.out.1, HI.out.2.trans ht.out.2⟩)
          clear HI ht
          go_wp2_with fail
          go_roundw
          case rel => exact ⟨k + 1, by omega, by go_num, HI2⟩
          case measure => simp [intOf]; omega
    · obtain rfl : k = N := by omega
      have HI2 : Hid (SetI w g gs gw n (fset f one zs) wr) := hid (by
        have h := HI.out
        rw [HN.out, List.take_length] at h
        exact ⟨h.1, (HO.out.mono fun _ _ h => h.elim).trans h.2⟩)
      clear HI
      go_wp2_with fail
      go_ret
      exact ⟨rfl, HI2⟩
end Go.Proofs.Ytmbcinbkijnblaa.V1
