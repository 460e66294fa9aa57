/- What the writer's closures answer. -/
import Derived.Test.YtgdfiopdkidhfaaFl3
import Derived.Test.YtgdfiopdkidhfaaFn
namespace Go.Proofs.Ytgdfiopdkidhfaa
open Go.RowKit

def I64s (zs : List Int) : Prop := ∀ z ∈ zs, -9223372036854775808 ≤ z ∧ z ≤ 9223372036854775807
set_option maxHeartbeats 400000 in
theorem wide_any (bx : Nat) (wd z : Int) (w : World) (hb : w.cell? ⟨bx, 0, none⟩ = some (.int .i64 wd)) (hw : 0 ≤ wd) (hw6 : wd ≤ 60) (hz : -9223372036854775808 ≤ z ∧ z ≤ 9223372036854775807) :
    Calls Try.prog 35 #[.int .i64 z, .pointer (some ⟨bx, 0, none⟩)] w fun e w' => e = .returned (.bool (!fitB z wd)) ∧ w = w' := by
  have HF := hid (fits_any z wd w hw hw6 hz.1 hz.2)
  clear hz hw hw6
  go_enter Try.func35, Try.ntmps35
  go_wp2_with fail
  refine HF.out.mono ?_
  rintro e w' ⟨rfl, rfl⟩
  go_wp2_with fail
  go_ret
  exact ⟨rfl, rfl⟩
set_option maxHeartbeats 400000 in
theorem none_any (z : Int) (w : World) (hz : -9223372036854775808 ≤ z ∧ z ≤ 9223372036854775807) :
    Calls Try.prog 43 #[.int .i64 z] w fun e w' => e = .returned (.bool (!(decide (1 ≤ z) && fitB z 60))) ∧ w = w' := by
  by_cases h1 : z < 1
  · have e : (!(decide (1 ≤ z) && fitB z 60)) = true := by
      have : ¬ 1 ≤ z := by omega
      simp [this]
    rw [e]
    clear e hz
    go_enter Try.func43, Try.ntmps43
    go_wp2_with fail
    go_ret
    exact ⟨rfl, rfl⟩
  · have h2 : 1 ≤ z := by omega
    have HF := hid (fits_any z 60 w (by omega) (by omega) hz.1 hz.2)
    clear hz
    go_enter Try.func43, Try.ntmps43
    go_wp2_with fail
    refine HF.out.mono ?_
    rintro e w' ⟨rfl, rfl⟩
    go_wp2_with fail
    go_ret
    exact ⟨ret_bool (by simp [h2]), rfl⟩
theorem all_any (P : Int → Bool) (zs : List Int) : (!zs.any fun z => !P z) = zs.all P := by
  induction zs with
  | nil => rfl
  | cons z zs ih => simp only [List.any_cons, List.all_cons, ← ih]; cases P z <;> simp
set_option maxHeartbeats 400000 in
theorem may_num {bw bn bf cap : Nat} {wd : Int} {A : Option Addr} {zs : List Int} {w : World} (h1 : w.cell? ⟨bw, 0, none⟩ = some (.int .i64 wd)) (h2 : w.cell? ⟨bn, 0, none⟩ = some (.slice A zs.length cap))
    (h3 : w.cell? ⟨bf, 0, none⟩ = some (.func (.func 35) #[] #[.pointer (some ⟨bw, 0, none⟩)])) (hz : RdI w A zs) (hi : I64s zs) (hl : zs.length ≤ 9223372036854775807) :
    Calls Try.prog 37 #[.pointer (some ⟨bw, 0, none⟩), .pointer (some ⟨bn, 0, none⟩), .pointer (some ⟨bf, 0, none⟩)] w fun e w' => e = .returned (.bool (okN wd zs)) ∧ w = w' := by
  have HF : Hid (0 ≤ wd ∧ wd ≤ 60 → Calls Try.prog 39 #[.slice A zs.length cap, .func (.func 35) #[] #[.pointer (some ⟨bw, 0, none⟩)]] w fun e w' => e = .returned (.bool (zs.any fun z => !fitB z wd)) ∧ w = w') :=
    hid fun hw => containsFnN (fun z => !fitB z wd) bw cap A zs w (hid fun z hzm => wide_any bw wd z w h1 hw.1 hw.2 (hi z hzm)) hz hl
  have HA : Hid ((!zs.any fun z => !fitB z wd) = zs.all fun z => fitB z wd) := hid (all_any (fun z => fitB z wd) zs)
  unfold okN
  generalize (zs.all fun z => fitB z wd) = q at HA ⊢
  generalize (zs.any fun z => !fitB z wd) = r at HA HF
  generalize zs.length = N at h2 HF
  clear hz hi hl
  cases hq : okW wd with
  | true =>
    have h0 : 0 ≤ wd ∧ wd ≤ 60 := by unfold okW at hq; simp at hq; omega
    have HQ := hid hq
    clear hq
    go_enter Try.func37, Try.ntmps37
    go_wp2_with fail
    refine (isWidth_any wd w).mono ?_
    rintro e w' ⟨rfl, rfl⟩
    rw [HQ.out]
    go_wp2_with fail
    refine (HF.out h0).mono ?_
    rintro e w' ⟨rfl, rfl⟩
    go_wp2_with fail
    go_ret
    exact ⟨ret_bool (by rw [← HA.out]; simp), rfl⟩
  | false =>
    have HQ := hid hq
    clear hq
    go_enter Try.func37, Try.ntmps37
    go_wp2_with fail
    refine (isWidth_any wd w).mono ?_
    rintro e w' ⟨rfl, rfl⟩
    rw [HQ.out]
    go_wp2_with fail
    go_ret
    exact ⟨rfl, rfl⟩
set_option maxHeartbeats 400000 in
theorem size_num {bw bn cap N wd : Nat} {A : Option Addr} {w : World} (h1 : w.cell? ⟨bw, 0, none⟩ = some (.int .i64 (wd : Int))) (h2 : w.cell? ⟨bn, 0, none⟩ = some (.slice A N cap)) (hw : wd ≤ 60) (hN : N ≤ 3000000) :
    Calls Try.prog 40 #[.pointer (some ⟨bw, 0, none⟩), .pointer (some ⟨bn, 0, none⟩)] w fun e w' => e = .returned (.int .i64 ((wd * N : Nat) : Int)) ∧ w = w' := by
  have h3 : wd * N ≤ 60 * 3000000 := Nat.mul_le_mul hw hN
  have hm : wrap64 ((wd : Int) * (N : Int)) = ((wd * N : Nat) : Int) := by
    rw [← Int.natCast_mul]; exact IntWalk.wrap64_in _ ⟨by omega, by omega⟩
  have HM := hid hm
  clear hm h3
  go_enter Try.func40, Try.ntmps40
  go_wp2
  go_ret
  exact ⟨ret_int HM.out, rfl⟩
set_option maxHeartbeats 400000 in
theorem may_gam {bn bf cap : Nat} {A : Option Addr} {zs : List Int} {w : World} (h2 : w.cell? ⟨bn, 0, none⟩ = some (.slice A zs.length cap))
    (h3 : w.cell? ⟨bf, 0, none⟩ = some (.func (.func 43) #[] #[])) (hz : RdI w A zs) (hi : I64s zs) (hl : zs.length ≤ 9223372036854775807) :
    Calls Try.prog 44 #[.pointer (some ⟨bn, 0, none⟩), .pointer (some ⟨bf, 0, none⟩)] w fun e w' => e = .returned (.bool (okG zs)) ∧ w = w' := by
  have HF := hid (containsFnG (fun z => !(decide (1 ≤ z) && fitB z 60)) cap A zs w (hid fun z hzm => none_any z w (hi z hzm)) hz hl)
  have HA : Hid ((!zs.any fun z => !(decide (1 ≤ z) && fitB z 60)) = okG zs) := hid (all_any (fun z => decide (1 ≤ z) && fitB z 60) zs)
  generalize okG zs = q at HA ⊢
  generalize (zs.any fun z => !(decide (1 ≤ z) && fitB z 60)) = r at HA HF
  generalize zs.length = N at h2 HF
  clear hz hi hl
  go_enter Try.func44, Try.ntmps44
  go_wp2_with fail
  refine HF.out.mono ?_
  rintro e w' ⟨rfl, rfl⟩
  go_wp2_with fail
  go_ret
  exact ⟨ret_bool HA.out, rfl⟩

/-! How many bits gammas have, all together. -/
def glnS (zs : List Int) (k : Nat) : Int := (zs.take k).foldl (fun a z => a + (2 * ((nd z.toNat : Nat) : Int) - 1)) 0
theorem glnS_step {zs : List Int} {k : Nat} (h : k < zs.length) : glnS zs (k + 1) = glnS zs k + (2 * ((nd (zs.getD k 0).toNat : Nat) : Int) - 1) := by
  unfold glnS
  rw [take_getD h, List.foldl_append]; rfl
theorem glnS_le {zs : List Int} (hi : ∀ z ∈ zs, 0 ≤ z ∧ z ≤ 9223372036854775807) : ∀ k, k ≤ zs.length → -((k : Nat) : Int) ≤ glnS zs k ∧ glnS zs k ≤ 127 * (k : Int)
  | 0, _ => by simp [glnS]
  | k + 1, h => by
    have h1 := glnS_le hi k (by omega)
    have h2 := hi _ (getD_mem (zs := zs) (k := k) (by omega))
    have h3 := nd_le (zs.getD k 0).toNat (by omega)
    rw [glnS_step (by omega)]
    omega
set_option maxHeartbeats 1000000 in
theorem gammasLen_any {cap : Nat} {A : Option Addr} {zs : List Int} {w : World} (hz : RdI w A zs) (hi : ∀ z ∈ zs, 0 ≤ z ∧ z ≤ 9223372036854775807) (hl : zs.length ≤ 3000000) :
    Calls Try.prog 46 #[.slice A zs.length cap] w fun e w' => e = .returned (.int .i64 (glnS zs zs.length)) ∧ w = w' := by
  have HZ := hid hz
  have HI := hid hi
  have HB := hid (glnS_le hi)
  clear hz hi
  obtain ⟨N, hN⟩ : ∃ N, N = zs.length := ⟨_, rfl⟩
  rw [← hN] at hl ⊢
  have HN := hid hN
  clear hN
  go_enter Try.func46, Try.ntmps46
  go_wp2
  go_loop [3, 8] (fun s i => ∃ k : Nat, ∃ x : Int, k ≤ N ∧ s = .int .i64 x ∧ i = .int .i64 k ∧ Hid (x = glnS zs k)) (fun _ i => N - (intOf i).toNat)
  case atStart => exact ⟨0, 0, by omega, rfl, rfl, hid rfl⟩
  case round =>
    obtain ⟨k, x, hk, rfl, rfl, HX⟩ := hrel
    by_cases hp : k < N
    · obtain ⟨b, off, hA, hc, _⟩ := HZ.out.at (k := k) (by rw [← HN.out]; exact hp)
      subst hA
      unfold vI at hc
      have hr := HI.out _ (getD_mem (zs := zs) (k := k) (by rw [← HN.out]; exact hp))
      have HS := hid (glnS_step (zs := zs) (k := k) (by rw [← HN.out]; exact hp))
      have hb := HB.out k (by rw [← HN.out]; exact hk)
      rw [← HX.out] at hb
      generalize zs.getD k 0 = z at hc hr HS
      obtain ⟨n, rfl⟩ := Int.eq_ofNat_of_zero_le hr.1
      have hn : n < 9223372036854775808 := by omega
      have hL := nd_le n (by omega)
      rw [Int.toNat_natCast] at HS
      have HG : Hid (∀ W : World, Calls Try.prog 47 #[.int .i64 (n : Int)] W fun e' w' => e' = .returned (.int .i64 (2 * ((nd n : Nat) : Int) - 1)) ∧ W = w') := hid fun W => gammaLen_any n W hn
      generalize nd n = L at HG hL HS
      clear hr hn
      go_wp2_with fail
      refine (HG.out _).mono ?_
      rintro e w' ⟨rfl, rfl⟩
      go_wp2_with fail
      go_round
      case rel => exact ⟨k + 1, x + (2 * (L : Int) - 1), by omega, by go_num, by go_num, hid (by rw [HS.out, HX.out])⟩
      case measure => simp [intOf]; omega
    · obtain rfl : k = N := by omega
      go_wp2
      go_ret
      exact ⟨ret_int HX.out, rfl⟩
set_option maxHeartbeats 400000 in
theorem size_gam {bn cap : Nat} {A : Option Addr} {zs : List Int} {w : World} (h2 : w.cell? ⟨bn, 0, none⟩ = some (.slice A zs.length cap)) (hz : RdI w A zs) (hi : ∀ z ∈ zs, 0 ≤ z ∧ z ≤ 9223372036854775807) (hl : zs.length ≤ 3000000) :
    Calls Try.prog 45 #[.pointer (some ⟨bn, 0, none⟩)] w fun e w' => e = .returned (.int .i64 (glnS zs zs.length)) ∧ w = w' := by
  have HF := hid (gammasLen_any (cap := cap) hz hi hl)
  clear hz hi hl
  generalize glnS zs zs.length = q at HF ⊢
  generalize zs.length = N at h2 HF
  go_enter Try.func45, Try.ntmps45
  go_wp2_with fail
  refine HF.out.mono ?_
  rintro e w' ⟨rfl, rfl⟩
  go_wp2_with fail
  go_ret
  exact ⟨rfl, rfl⟩
set_option maxHeartbeats 400000 in
theorem may_put {w : World} : Calls Try.prog 32 #[] w fun e w' => e = .returned (.bool true) ∧ w = w' := by
  go_enter Try.func32, Try.ntmps32
  go_wp2
  go_ret
  exact ⟨rfl, rfl⟩
set_option maxHeartbeats 400000 in
theorem size_put {bn cap N : Nat} {A : Option Addr} {w : World} (h2 : w.cell? ⟨bn, 0, none⟩ = some (.slice A N cap)) :
    Calls Try.prog 33 #[.pointer (some ⟨bn, 0, none⟩)] w fun e w' => e = .returned (.int .i64 (N : Int)) ∧ w = w' := by
  go_enter Try.func33, Try.ntmps33
  go_wp2
  go_ret
  exact ⟨rfl, rfl⟩
end Go.Proofs.Ytgdfiopdkidhfaa
