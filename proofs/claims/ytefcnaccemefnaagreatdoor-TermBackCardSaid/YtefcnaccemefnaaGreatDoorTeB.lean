/- Show; how terms and triples stand. -/
import Derived.Test.YtefcnaccemefnaaGreatDoorTeA
namespace Go.Proofs.YtefcnaccemefnaaGreatDoor
open Go.RowKit U G

def cmpL (a b : List Nat) : Int := if lessL a b then -1 else if lessL b a then 1 else 0
theorem lessL_lt {a b : Nat} {x y : List Nat} (h : a < b) : lessL (a :: x) (b :: y) = true := by unfold lessL; rw [if_pos h]
theorem lessL_gt {a b : Nat} {x y : List Nat} (h : b < a) : lessL (a :: x) (b :: y) = false := by unfold lessL; rw [if_neg (by omega), if_pos h]
theorem lessL_eq {a : Nat} {x y : List Nat} : lessL (a :: x) (a :: y) = lessL x y := by
  rw [show lessL (a :: x) (a :: y) = if a < a then true else if a < a then false else lessL x y from rfl, if_neg (by omega), if_neg (by omega)]
theorem compareBytes_cmpL : ∀ (a b : List UInt8), Lib.compareBytes a b = cmpL (a.map UInt8.toNat) (b.map UInt8.toNat)
  | [], [] => rfl
  | [], _ :: _ => rfl
  | _ :: _, [] => rfl
  | a :: x, b :: y => by
    have ih := compareBytes_cmpL x y
    unfold cmpL at ih ⊢
    show (if a < b then (-1 : Int) else if b < a then 1 else Lib.compareBytes x y) = if lessL (a.toNat :: x.map UInt8.toNat) (b.toNat :: y.map UInt8.toNat) = true then -1 else if lessL (b.toNat :: y.map UInt8.toNat) (a.toNat :: x.map UInt8.toNat) = true then 1 else 0
    simp only [UInt8.lt_iff_toNat_lt]
    rcases Nat.lt_trichotomy a.toNat b.toNat with h | h | h
    · rw [if_pos h, lessL_lt h, if_pos rfl]
    · rw [if_neg (by omega), if_neg (by omega), h, lessL_eq, lessL_eq, ih]
    · rw [if_neg (by omega), if_pos h, lessL_gt h, lessL_lt h, if_neg (by simp), if_pos rfl]
theorem strCmp_any (s t : ByteArray) (w : World) : Calls Tryz.prog 37 #[.string s, .string t] w fun e w' => e = .returned (.int .i64 (cmpL (bl s) (bl t))) ∧ w = w' :=
  (Tryz.strings_Compare s t w).mono fun e w' h => ⟨by rw [h.1, compareBytes_cmpL]; rfl, h.2.symm⟩
def showV (t : Tm) : Value := if rightT t then (if 4096 < (textL t).length then .tuple #[.string ByteArray.empty, .int .i64 3] else .tuple #[.string (strB (textL t)), .int .i64 0]) else .tuple #[.string ByteArray.empty, .int .i64 2]
set_option maxHeartbeats 1000000 in
theorem show_any {t : Tm} {w : World} (hT : Tb w) (hs : sizeT t ≤ 1099511627776) :
    Calls Tryz.prog 16 #[tmV t] w fun e w' => e = .returned (showV t) ∧ StU w w' := by
  obtain ⟨w1, hw1⟩ : ∃ w1, w1 = w.alloc (.cells #[.int .i64 t.k, .string t.x, .string t.g, .string t.y] 27) := ⟨_, rfl⟩
  have HO0 : StU w w1 := hid (by rw [hw1]; exact (Only.refl _ w).alloc _)
  have HA0 : Hid (TmAt w1 w.heap.size t) := hid (by rw [hw1]; exact tm_new w t)
  obtain ⟨d0, d1, d2, d3⟩ := HA0.out.cells
  have HR : Hid (Calls Tryz.prog 18 #[.agg #[.int .i64 t.k, .string t.x, .string t.g, .string t.y]] w1 fun e w' => e = .returned (.bool (rightT t)) ∧ TmS w1 w.heap.size t w') := hid ((right_any (hT.stu HO0) (by omega)).mono fun e w' h => ⟨h.1, tmS_of HA0.out h.2⟩)
  have hsh : showV t = if rightT t then (if 4096 < (textL t).length then .tuple #[.string ByteArray.empty, .int .i64 3] else .tuple #[.string (strB (textL t)), .int .i64 0]) else .tuple #[.string ByteArray.empty, .int .i64 2] := rfl
  have HT : Hid (rightT t = true → ∀ W, StU w1 W → Calls Tryz.prog 31 #[.agg #[.int .i64 t.k, .string t.x, .string t.g, .string t.y]] W fun e w' => e = .returned (.string (strB (textL t))) ∧ StU w1 w') := hid fun hr W hW => (textOf_any hr hs).mono fun e w' h => ⟨h.1, hid (hW.out.trans h.2.out)⟩
  have hln : (strB (textL t)).size = (textL t).length := by rw [← bl_len, bl_strB (textL_bys t)]
  have hle := textL_len t
  generalize textL t = T at *
  rw [hsh]
  clear hsh
  cases hr : rightT t with
  | false =>
    rw [hr] at HR
    clear HT hr hln hle
    unfold tmV
    go_enter Tryz.func16, Tryz.ntmps16
    go_upto_region 1 with fail
    rw [← hw1]
    clear hw1
    go_wp2_with (go_at_call 18; refine HR.out.mono ?_; rintro e w2 ⟨rfl, q0, q1, q2, q3, qO⟩)
    go_ret2
    exact ⟨rfl, hid (HO0.out.trans qO.out)⟩
  | true =>
    rw [hr] at HR
    have HT2 := hid (HT.out hr)
    obtain ⟨z, hz⟩ : ∃ z, strB T = z := ⟨_, rfl⟩
    rw [hz] at hln HT2 ⊢
    rw [← hln]
    have hl48 : z.size ≤ 140737488355328 := by omega
    clear HT hr hz hle hln
    unfold tmV
    by_cases hl : 4096 < z.size
    · have hl' : (4096 : Int) < (z.size : Int) := by omega
      rw [if_pos hl]
      clear hl
      go_enter Tryz.func16, Tryz.ntmps16
      go_upto_region 1 with fail
      rw [← hw1]
      clear hw1
      go_wp2_with (first
        | (go_at_call 18; refine HR.out.mono ?_; rintro e w2 ⟨rfl, q0, q1, q2, q3, qO⟩)
        | (go_at_call 31; refine (HT2.out _ qO).mono ?_; rintro e w3 ⟨rfl, qO3⟩))
      go_ret2
      exact ⟨rfl, hid (HO0.out.trans qO3.out)⟩
    · have hl' : ¬ (4096 : Int) < (z.size : Int) := by omega
      rw [if_neg hl]
      clear hl
      go_enter Tryz.func16, Tryz.ntmps16
      go_upto_region 1 with fail
      rw [← hw1]
      clear hw1
      go_wp2_with (first
        | (go_at_call 18; refine HR.out.mono ?_; rintro e w2 ⟨rfl, q0, q1, q2, q3, qO⟩)
        | (go_at_call 31; refine (HT2.out _ qO).mono ?_; rintro e w3 ⟨rfl, qO3⟩))
      go_ret2
      exact ⟨rfl, hid (HO0.out.trans qO3.out)⟩
def cmpZ (a b : Int) : Int := if a < b then -1 else if b < a then 1 else 0
set_option maxHeartbeats 1000000 in
theorem kindCmp_any (a b : Int) (w : World) : Calls Tryz.prog 39 #[.int .i64 a, .int .i64 b] w fun e w' => e = .returned (.int .i64 (cmpZ a b)) ∧ w = w' := by
  have ha : (a != a) = false := by simp
  have hb : (b != b) = false := by simp
  rcases Int.lt_trichotomy a b with h | h | h
  · have e : cmpZ a b = -1 := by unfold cmpZ; rw [if_pos h]
    rw [e]
    clear e
    go_enter Tryz.func39, Tryz.ntmps39
    go_wp2
    go_ret
    exact ⟨rfl, rfl⟩
  · subst h
    have e : cmpZ a a = 0 := by unfold cmpZ; rw [if_neg (by omega), if_neg (by omega)]
    rw [e]
    clear e
    have h2 : ¬ a < a := by omega
    go_enter Tryz.func39, Tryz.ntmps39
    go_wp2
    go_ret
    exact ⟨rfl, rfl⟩
  · have e : cmpZ a b = 1 := by unfold cmpZ; rw [if_neg (by omega), if_pos h]
    rw [e]
    clear e
    have h2 : ¬ a < b := by omega
    go_enter Tryz.func39, Tryz.ntmps39
    go_wp2
    go_ret
    exact ⟨rfl, rfl⟩
/-- The first number that is not nought. -/
def orI : List Int → Int
  | [] => 0
  | z :: zs => if z = 0 then orI zs else z
def vZ (zs : List Int) (j : Nat) : Value := .int .i64 (zs.getD j 0)
theorem orI_drop {zs : List Int} {k : Nat} (h : k < zs.length) : orI (zs.drop k) = if zs.getD k 0 = 0 then orI (zs.drop (k + 1)) else zs.getD k 0 := by
  rw [List.drop_eq_getElem_cons h]
  simp [orI, List.getD, h]
set_option maxHeartbeats 1000000 in
theorem or_any {g n : Nat} {zs : List Int} {w : World} (hg : w.rowIs g 3 n (vZ zs)) (hn : n = zs.length) (hn2 : n ≤ 1000) :
    Calls Tryz.prog 38 #[.slice (some ⟨g, 0, none⟩) n n] w fun e w' => e = .returned (.int .i64 (orI zs)) ∧ w = w' := by
  have HC : Hid (∀ k, k < n → w.cell? ⟨g, k, none⟩ = some (.int .i64 (zs.getD k 0))) := hid fun k hk => World.rowIs.cell hg hk
  have HD : Hid (∀ k, k < n → orI (zs.drop k) = if zs.getD k 0 = 0 then orI (zs.drop (k + 1)) else zs.getD k 0) := hid fun k hk => orI_drop (by omega)
  have HE : Hid (orI (zs.drop n) = 0) := hid (by rw [hn, List.drop_length]; rfl)
  clear hg hn
  go_enter Tryz.func38, Tryz.ntmps38
  go_wp2_with fail
  go_loop [8] (fun s => ∃ k : Nat, k ≤ n ∧ s = .int .i64 (k : Int) ∧ Hid (orI zs = orI (zs.drop k))) (fun s => n - (intOf s).toNat)
  case atStart => exact ⟨0, by omega, rfl, hid rfl⟩
  case round =>
    obtain ⟨k, hk, rfl, HA⟩ := hrel
    by_cases hp : k < n
    · have hp' : (k : Int) < (n : Int) := by omega
      have d := HC.out k hp
      have hD := HD.out k hp
      generalize zs.getD k 0 = z at *
      by_cases hz : z = 0
      · rw [if_pos hz] at hD
        have HA2 := hid (HA.out.trans hD)
        subst hz
        clear hD HA
        go_wp2_with fail
        go_round
        case rel => exact ⟨k + 1, by omega, by go_num, HA2⟩
        case measure => simp [intOf]; omega
      · rw [if_neg hz] at hD
        have HA2 := hid (HA.out.trans hD)
        have hne : (z != 0) = true := by rw [bne_iff_ne]; exact hz
        clear hD HA hz
        go_wp2_with fail
        go_ret
        exact ⟨by rw [HA2.out]; rfl, rfl⟩
    · obtain rfl : k = n := by omega
      have HA2 := hid (HA.out.trans HE.out)
      go_wp2_with fail
      go_ret
      exact ⟨by rw [HA2.out]; rfl, rfl⟩
theorem or_newD {W : World} {n : Nat} {cs : Array Value} {zs : List Int} (hc : cs.toList = zs.map (Value.int .i64)) (hn : n = zs.length) (hn2 : n ≤ 1000) :
    Calls Tryz.prog 38 #[.slice (some ⟨W.heap.size, 0, none⟩) n n] (W.alloc (.cells cs 3)).drew fun e w' => e = .returned (.int .i64 (orI zs)) ∧ Only (fun _ => False) W.drew w' := by
  have hr : (W.alloc (.cells cs 3)).rowIs W.heap.size 3 n (vZ zs) := by
    have hsz : cs.size = n := by rw [← Array.length_toList, hc, List.length_map, hn]
    rw [← hsz]
    refine World.rowIs_alloc W cs 3 (vZ zs) fun i hi => ?_
    have : cs.toList[i]? = (zs.map (Value.int .i64))[i]? := by rw [hc]
    rw [Array.getElem?_toList, List.getElem?_map] at this
    rw [this, List.getElem?_eq_getElem (by omega : i < zs.length)]
    simp [vZ, List.getD, show i < zs.length by omega]
  have ho : Only (fun _ => False) W (W.alloc (.cells cs 3)).drew := ((Only.refl _ W).alloc _).drew
  exact (or_any (w := (W.alloc (.cells cs 3)).drew) hr hn hn2).mono fun e w' h => ⟨h.1, h.2 ▸ ⟨ho.os, ho.tape, ho.output, ho.size, ho.block⟩⟩
theorem or_new {W : World} {n : Nat} {cs : Array Value} {zs : List Int} (hc : cs.toList = zs.map (Value.int .i64)) (hn : n = zs.length) (hn2 : n ≤ 1000) :
    Calls Tryz.prog 38 #[.slice (some ⟨W.heap.size, 0, none⟩) n n] (W.alloc (.cells cs 3)) fun e w' => e = .returned (.int .i64 (orI zs)) ∧ Only (fun _ => False) W w' := by
  have hr : (W.alloc (.cells cs 3)).rowIs W.heap.size 3 n (vZ zs) := by
    have hsz : cs.size = n := by rw [← Array.length_toList, hc, List.length_map, hn]
    rw [← hsz]
    refine World.rowIs_alloc W cs 3 (vZ zs) fun i hi => ?_
    have : cs.toList[i]? = (zs.map (Value.int .i64))[i]? := by rw [hc]
    rw [Array.getElem?_toList, List.getElem?_map] at this
    rw [this, List.getElem?_eq_getElem (by omega : i < zs.length)]
    simp [vZ, List.getD, show i < zs.length by omega]
  exact (or_any hr hn hn2).mono fun e w' h => ⟨h.1, h.2 ▸ (Only.refl _ W).alloc _⟩
end Go.Proofs.YtefcnaccemefnaaGreatDoor
