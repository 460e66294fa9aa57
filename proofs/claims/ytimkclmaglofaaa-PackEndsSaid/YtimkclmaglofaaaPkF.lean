/- Find, of the document and of pack. -/
import Derived.Test.YtimkclmaglofaaaPkR2
import Derived.Test.YtimkclmaglofaaaPk3
import Derived.Deep.RegionHeld3
namespace Go.Proofs.Ytimkclmaglofaaa
open Go.RowKit
open Bit

/-- The first place of what is at least n, by the numbers x of N places. -/
def FirstAt (x : Nat → Int) (N : Nat) (n : Int) (k : Nat) : Prop := k ≤ N ∧ (∀ j, j < k → x j < n) ∧ (k < N → n ≤ x k)
theorem FirstAt.one {x : Nat → Int} {N : Nat} {n : Int} {k l : Nat} (h : FirstAt x N n k) (h' : FirstAt x N n l) : k = l := by
  rcases Nat.lt_trichotomy k l with a | a | a
  · have := h'.2.1 k a
    have := h.2.2 (by have := h'.1; omega)
    omega
  · exact a
  · have := h.2.1 l a
    have := h'.2.2 (by have := h.1; omega)
    omega
theorem FirstAt.congr {x y : Nat → Int} {N : Nat} {n : Int} {k : Nat} (h : FirstAt x N n k) (e : ∀ j, j < N → x j = y j) : FirstAt y N n k := by
  refine ⟨h.1, fun j hj => ?_, fun hk => ?_⟩
  · rw [← e j (by have := h.1; omega)]; exact h.2.1 j hj
  · rw [← e k hk]; exact h.2.2 hk
def hit (x : Nat → Int) (N : Nat) (n : Int) (k : Nat) : Bool := decide (k < N) && (x k == n)
def FindE (x : Nat → Int) (N : Nat) (n : Int) (w : World) (e : Ending) (w' : World) : Prop :=
  ∃ k : Nat, FirstAt x N n k ∧ e = .returned (.tuple #[.int .i64 (k : Int), .bool (hit x N n k)]) ∧ Below w.heap.size w w'

set_option maxHeartbeats 1000000 in
theorem refFind_any {r wd cap : Nat} {A : Option Addr} {zs : List Int} {w : World} (h : IsRef w r wd A cap zs) (n : Int) (hl : zs.length ≤ 16777216) :
    Calls Try.prog 26 #[.pointer (some ⟨r, 0, none⟩), .int .i64 n] w (FindE (fun j => zs.getD j 0) zs.length n w) := by
  have c1 : w.cell? ⟨r, 1, none⟩ = some (.slice A zs.length cap) := h.self.cell (i := 1) (by omega)
  have HZ : Hid (RdV w A zs.length (vI zs)) := hid h.rd
  clear h
  generalize zs.length = N at c1 HZ hl ⊢
  go_enter Try.func26, Try.ntmps26
  go_wp2
  go_loop [6] (fun s => ∃ k : Nat, k ≤ N ∧ s = .int .i64 k ∧ Hid (∀ j, j < k → zs.getD j 0 < n)) (fun s => N - (intOf s).toNat)
  case atStart => exact ⟨0, by omega, rfl, hid fun j hj => absurd hj (by omega)⟩
  case round =>
    obtain ⟨k, hk, rfl, HA⟩ := hrel
    by_cases hp : k < N
    · obtain ⟨b, off, hA, hc, _⟩ := HZ.out.at hp
      unfold vI at hc
      subst hA
      obtain ⟨z, hz⟩ : ∃ z, z = zs.getD k 0 := ⟨_, rfl⟩
      rw [← hz] at hc
      have Hz := hid hz
      clear hz
      have hp2 : (k : Int) < (N : Int) := by omega
      by_cases hq : z < n
      · have HN : Hid (∀ j, j < k + 1 → zs.getD j 0 < n) := hid fun j hj => by
          by_cases e : j = k
          · subst e; rw [← Hz.out]; exact hq
          · exact HA.out j (by omega)
        clear HA
        go_wp2
        go_round
        case rel => exact ⟨k + 1, by omega, by go_num, HN⟩
        case measure => simp [intOf]; omega
      · have HF : Hid (FirstAt (fun j => zs.getD j 0) N n k) := hid ⟨hk, HA.out, fun _ => by show n ≤ zs.getD k 0; rw [← Hz.out]; omega⟩
        have HH : Hid (hit (fun j => zs.getD j 0) N n k = (z == n)) := hid (by unfold hit; simp [hp, Hz.out])
        clear HA
        go_wp2
        go_quiet (fail)
        go_wp2
        go_ret2
        exact ⟨k, HF.out, (by rw [HH.out]; rfl), below_drewN (Below.refl _ _) _⟩
    · obtain rfl : k = N := by omega
      have HF : Hid (FirstAt (fun j => zs.getD j 0) k n k) := hid ⟨hk, HA.out, fun h => absurd h (by omega)⟩
      have HH : Hid (hit (fun j => zs.getD j 0) k n k = false) := hid (by unfold hit; simp)
      have hd : decide ((k : Int) < (k : Int)) = false := by simp
      clear HA
      go_wp2
      go_quiet (fail)
      go_wp2
      go_ret2
      exact ⟨k, HF.out, (by rw [HH.out]; rfl), below_drewN (Below.refl _ _) _⟩

set_option maxHeartbeats 400000 in
theorem findLess_any {g gw wd N bx bn : Nat} {f : Nat → Bool} {w : World} (h : IsRow w g gw wd N f) (n : Int) (hx : w.cell? ⟨bx, 0, none⟩ = some (.pointer (some ⟨g, 0, none⟩))) (hn : w.cell? ⟨bn, 0, none⟩ = some (.int .i64 n)) {k : Nat} (hk : k < N) :
    Calls Try.prog 53 #[.int .i64 (k : Int), .pointer (some ⟨bx, 0, none⟩), .pointer (some ⟨bn, 0, none⟩)] w fun e w' => e = .returned (.bool (decide (n ≤ ((dig f wd k : Nat) : Int)))) ∧ ∃ d, w' = w.drewN d := by
  have HN : Hid (∀ d, Calls Try.prog 54 #[.pointer (some ⟨g, 0, none⟩), .int .i64 (k : Int)] (w.drewN d) fun e w' => e = .returned (.int .i64 ((dig f wd k : Nat) : Int)) ∧ ∃ n, w' = (w.drewN d).drewN n) := hid fun d => number_any (h.drewN d) hk
  clear h hk
  generalize dig f wd k = x at HN
  go_enter Try.func53, Try.ntmps53
  go_wp2
  go_quiet ((go_at_call 54; exact quiet_more (HN.out _)))
  go_wp2
  go_ret
  exact ⟨rfl, _, rfl⟩

set_option maxHeartbeats 2000000 in
theorem search_any {bx bn N : Nat} {x : Nat → Int} {n : Int} {w : World} (hN : N ≤ 16777216) (hm : ∀ a b, a ≤ b → b < N → x a ≤ x b)
    (hf : ∀ k, k < N → ∀ d, Calls Try.prog 53 #[.int .i64 (k : Int), .pointer (some ⟨bx, 0, none⟩), .pointer (some ⟨bn, 0, none⟩)] (w.drewN d) fun e w' => e = .returned (.bool (decide (n ≤ x k))) ∧ ∃ d', w' = (w.drewN d).drewN d') :
    Calls Try.prog 52 #[.int .i64 (N : Int), .func (.func 53) #[] #[.pointer (some ⟨bx, 0, none⟩), .pointer (some ⟨bn, 0, none⟩)]] w fun e w' => ∃ k : Nat, e = .returned (.int .i64 (k : Int)) ∧ Hid (FirstAt x N n k) ∧ ∃ d, w' = w.drewN d := by
  have HM := hid hm
  have HF := hid hf
  clear hm hf
  go_enter Try.func52, Try.ntmps52
  go_wp2
  go_loopw [5, 6] (fun s t wr => ∃ i j : Nat, i ≤ j ∧ j ≤ N ∧ s = .int .i64 i ∧ t = .int .i64 j ∧ Hid (∀ m, m < i → x m < n) ∧ Hid (j < N → n ≤ x j) ∧ Hid (∃ d, wr = w.drewN d)) (fun s t _ => (intOf t).toNat - (intOf s).toNat)
  case atStart => exact ⟨0, N, by omega, by omega, rfl, rfl, hid fun m hm => absurd hm (by omega), hid fun h => absurd h (by omega), hid ⟨0, rfl⟩⟩
  case round =>
    obtain ⟨i, j, hij, hj, rfl, rfl, HI, HJ, HW⟩ := hrel
    obtain ⟨d, rfl⟩ := HW.out
    clear HW
    by_cases hp : i < j
    · have hp' : (i : Int) < (j : Int) := by omega
      have HC := hid (HF.out ((i + j) / 2) (by omega) d)
      by_cases hq : n ≤ x ((i + j) / 2)
      · have hd : decide (n ≤ x ((i + j) / 2)) = true := decide_eq_true hq
        rw [hd] at HC
        have HJ2 : Hid ((i + j) / 2 < N → n ≤ x ((i + j) / 2)) := hid fun _ => hq
        clear hd hq HJ
        have ei : ((i : Int) + (j : Int)) / 2 = (((i + j) / 2 : Nat) : Int) := by omega
        have hb1 : (i + j) / 2 < j := by omega
        have hb2 : i ≤ (i + j) / 2 := by omega
        generalize (i + j) / 2 = h at HC HJ2 ei hb1 hb2
        go_wp2_with fail
        refine HC.out.mono ?_
        rintro e w2 ⟨rfl, d2, rfl⟩
        go_wp2_with fail
        go_roundw
        case rel => exact ⟨i, h, by omega, by omega, rfl, rfl, HI, HJ2, hid ⟨d + d2, rfl⟩⟩
        case measure => simp [intOf]; omega
      · have hd : decide (n ≤ x ((i + j) / 2)) = false := decide_eq_false hq
        rw [hd] at HC
        have HI2 : Hid (∀ m, m < (i + j) / 2 + 1 → x m < n) := hid fun m hm => by
          have := HM.out m ((i + j) / 2) (by omega) (by omega)
          omega
        clear hd hq HI
        have ei : ((i : Int) + (j : Int)) / 2 = (((i + j) / 2 : Nat) : Int) := by omega
        have hb1 : (i + j) / 2 < j := by omega
        have hb2 : i ≤ (i + j) / 2 := by omega
        generalize (i + j) / 2 = h at HC HI2 ei hb1 hb2
        go_wp2_with fail
        refine HC.out.mono ?_
        rintro e w2 ⟨rfl, d2, rfl⟩
        go_wp2_with fail
        go_roundw
        case rel => exact ⟨h + 1, j, by omega, by omega, by go_num, rfl, HI2, HJ, hid ⟨d + d2, rfl⟩⟩
        case measure => simp [intOf]; omega
    · obtain rfl : i = j := by omega
      have hF : FirstAt x N n i := ⟨hj, HI.out, HJ.out⟩
      have HFA := hid hF
      clear hF HI HJ
      go_wp2
      go_ret
      exact ⟨i, rfl, HFA, _, rfl⟩

set_option maxHeartbeats 1000000 in
theorem find_any {g gw wd N : Nat} {f : Nat → Bool} {w : World} (h : IsRow w g gw wd N f) (n : Int) (hm : ∀ a b, a ≤ b → b < N → dig f wd a ≤ dig f wd b) :
    Calls Try.prog 25 #[.pointer (some ⟨g, 0, none⟩), .int .i64 n] w (FindE (fun j => ((dig f wd j : Nat) : Int)) N n w) := by
  have hN := h.few
  have hb1 := box_row w (.pointer (some ⟨g, 0, none⟩)) 29
  have hb2 := box_row (w.alloc (.cells #[.pointer (some ⟨g, 0, none⟩)] 29)) (.int .i64 n) 3
  have hal : Below w.heap.size w ((w.alloc (.cells #[.pointer (some ⟨g, 0, none⟩)] 29)).alloc (.cells #[.int .i64 n] 3)) := ((Below.refl _ w).alloc (Nat.le_refl _) _).alloc (by simp) _
  have HV := hid (h.below hal)
  have HB1 := hid (hb1.alloc (.cells #[.int .i64 n] 3))
  have HB2 : Hid (World.rowIs ((w.alloc (.cells #[.pointer (some ⟨g, 0, none⟩)] 29)).alloc (.cells #[.int .i64 n] 3)) (w.heap.size + 1) 3 1 (fun _ => .int .i64 n)) := hid (by simpa using hb2)
  have HA := hid hal
  have c3 : w.cell? ⟨g, 3, none⟩ = some (.int .i64 (N : Int)) := h.self.cell (i := 3) (by omega)
  have hlt := h.self.lt
  clear hb1 hb2 hal h
  have HM := hid hm
  clear hm
  go_enter Try.func25, Try.ntmps25
  go_wp2_with fail
  obtain ⟨w0, hw0⟩ : ∃ w0, w0 = (w.alloc (.cells #[.pointer (some ⟨g, 0, none⟩)] 29)).alloc (.cells #[.int .i64 n] 3) := ⟨_, rfl⟩
  rw [← hw0] at HV HB1 HB2 HA ⊢
  clear hw0 c3
  refine (answered_ok HV.out).mono ?_
  rintro e w' ⟨rfl, rfl⟩
  have c3 : w0.cell? ⟨g, 3, none⟩ = some (.int .i64 (N : Int)) := HV.out.self.cell (i := 3) (by omega)
  have cb1 := HB1.out.cell (i := 0) (by omega)
  have cb2 := HB2.out.cell (i := 0) (by omega)
  go_wp2_with fail
  refine (search_any (x := fun j => ((dig f wd j : Nat) : Int)) (n := n) hN (fun a b h1 h2 => by have := HM.out a b h1 h2; show ((dig f wd a : Nat) : Int) ≤ ((dig f wd b : Nat) : Int); omega)
    (fun k hk d => findLess_any (HV.out.drewN d) n cb1 cb2 hk)).mono ?_
  rintro e w2 ⟨k, rfl, HF, d, rfl⟩
  have HA2 := hid (below_drewN HA.out d)
  have HV2 := hid (HV.out.drewN d)
  have c3' : (w0.drewN d).cell? ⟨g, 3, none⟩ = some (.int .i64 (N : Int)) := c3
  have cb1' : (w0.drewN d).cell? ⟨w.heap.size, 0, none⟩ = some (.pointer (some ⟨g, 0, none⟩)) := cb1
  have cb2' : (w0.drewN d).cell? ⟨w.heap.size + 1, 0, none⟩ = some (.int .i64 n) := cb2
  clear c3 cb1 cb2 HV HA HM
  generalize w0.drewN d = w3 at HA2 HV2 c3' cb1' cb2' ⊢
  have hkN : k ≤ N := HF.out.1
  by_cases hk : k < N
  · have hk' : (k : Int) < (N : Int) := by omega
    have hd : decide ((k : Int) < (N : Int)) = true := decide_eq_true hk'
    have HN : Hid (∀ d, Calls Try.prog 54 #[.pointer (some ⟨g, 0, none⟩), .int .i64 (k : Int)] (w3.drewN d) fun e w' => e = .returned (.int .i64 ((dig f wd k : Nat) : Int)) ∧ ∃ n, w' = (w3.drewN d).drewN n) := hid fun d => number_any (HV2.out.drewN d) hk
    have HH : Hid (hit (fun j => ((dig f wd j : Nat) : Int)) N n k = (((dig f wd k : Nat) : Int) == n)) := hid (by unfold hit; simp [hk])
    generalize hxx : dig f wd k = x at HN HH
    clear hxx
    go_wp2
    go_quiet ((go_at_call 54; exact quiet_more (HN.out _)))
    go_wp2
    go_ret2
    exact ⟨k, HF.out, (by rw [HH.out]; rfl), below_drewN HA2.out _⟩
  · obtain rfl : k = N := by omega
    have hd : decide ((k : Int) < (k : Int)) = false := by simp
    have HH : Hid (hit (fun j => ((dig f wd j : Nat) : Int)) k n k = false) := hid (by unfold hit; simp)
    go_wp2
    go_quiet (fail)
    go_wp2
    go_ret2
    exact ⟨k, HF.out, (by rw [HH.out]; rfl), below_drewN HA2.out _⟩
end Go.Proofs.Ytimkclmaglofaaa
