/- Put, Number, Gamma of a writer. -/
import Derived.Test.YtgdfiopdkidhfaaFl5
namespace Go.Proofs.Ytgdfiopdkidhfaa
open Go.RowKit

theorem putAll_adm (e : Int) (xs : List Bool) (ok : Bool) (ys : List Bool) (sz : Int) (hs : ok = true → sz = ((ys.length : Nat) : Int)) :
    (admE e xs ok sz ≠ 0 ∧ putAll (e, xs) ok ys = (admE e xs ok sz, xs)) ∨ (admE e xs ok sz = 0 ∧ putAll (e, xs) ok ys = (0, xs ++ ys) ∧ ok = true ∧ xs.length + ys.length ≤ 16777216 ∧ e = 0) := by
  unfold admE putAll
  by_cases he : e = 0
  · subst he
    cases ok with
    | false => left; simp
    | true =>
      have := hs rfl
      by_cases hl : 16777216 < (xs.length : Int) + sz
      · left
        have h2 : 16777216 < xs.length + ys.length := by omega
        simp [hl, h2]
      · right
        have h2 : ¬ 16777216 < xs.length + ys.length := by omega
        refine ⟨by simp [hl], by simp [h2], rfl, by omega, rfl⟩
  · left
    simp [he]
theorem one_row (w : World) (v : Value) (t : TypeId) : (w.alloc (.cells #[v] t)).rowIs w.heap.size t 1 (fun _ => v) := World.rowIs_alloc w #[v] t _ (fun i hi => by
  match i, hi with
  | 0, _ => rfl
  | i + 1, hi => exact absurd (show i + 1 < 1 from hi) (by omega))
/-- What is put is not the writer's own. -/
def ArgOk (w : World) (A : Option Addr) (B : Nat) : Prop := ∀ b off, A = some ⟨b, off, none⟩ → b < w.heap.size → b < B ∨ ¬ TyAt w b TW
def WrE (B : Nat) (w : World) (g : Nat) (s : WSt) (e' : Ending) (w' : World) : Prop := e' = .returned (.int .i64 s.1) ∧ Hid (IsWr B w' g s.1 s.2 ∧ FrT TW B w w')

set_option maxHeartbeats 1000000 in
theorem put_any {B g cap : Nat} {e : Int} {xs ys : List Bool} {A : Option Addr} {w : World} (h : IsWr B w g e xs) (hB : B ≤ w.heap.size) (hy : RdB w A ys) (hA : 0 < ys.length → ArgOk w A B) (hl : ys.length ≤ 3000000) :
    Calls Try.prog 9 #[.pointer (some ⟨g, 0, none⟩), .slice A ys.length cap] w (WrE B w g (putB (e, xs) ys)) := by
  obtain ⟨w1, hw1⟩ : ∃ w1, w1 = w.alloc (.cells #[.slice A ys.length cap] 28) := ⟨_, rfl⟩
  have ho : Only (fun _ => False) w w1 := by rw [hw1]; exact (Only.refl _ w).alloc _
  have hb : w1.rowIs w.heap.size 28 1 (fun _ => .slice A ys.length cap) := by rw [hw1]; exact one_row w _ _
  have HI := hid (h.same ho)
  have HB := hid (Nat.le_trans hB ho.size)
  have HO := hid ho
  have HY0 := hid hy
  have HA := hid hA
  have hbc := hb.cell (i := 0) (by omega)
  have HRow := hid hb
  have HAd := hid (admit_put w.heap.size true ((ys.length : Nat) : Int) HI.out (fun _ => by omega) (hid fun W o => may_put) (hid fun _ W o => size_put ((HRow.out.of_block (o.block _ HRow.out.lt no_)).cell (i := 0) (by omega))))
  have hcase := putAll_adm e xs true ys ((ys.length : Nat) : Int) (fun _ => rfl)
  unfold putB
  clear h hB hy ho hb hA
  rcases hcase with ⟨hr, hp⟩ | ⟨hr, hp, _, hsum, rfl⟩
  · rw [hp]
    generalize admE e xs true ((ys.length : Nat) : Int) = r at HAd hr ⊢
    have hr2 : (r != 0) = true := bne_iff_ne.2 hr
    clear hp
    go_enter Try.func9, Try.ntmps9
    go_wp2_with fail
    rw [← hw1]
    clear hw1
    refine HAd.out.mono ?_
    rintro e' w2 ⟨rfl, h2⟩
    go_wp2_with fail
    go_ret
    exact ⟨rfl, hid ⟨h2.out.1, (FrT.of_only HO.out).trans h2.out.2⟩⟩
  · rw [hp]
    rw [hr] at HAd
    have HS := hid hsum
    clear hp hr hsum
    obtain ⟨N, hN⟩ : ∃ N, N = ys.length := ⟨_, rfl⟩
    rw [← hN] at hw1 hbc hl HRow ⊢
    have HN := hid hN
    clear hN
    go_enter Try.func9, Try.ntmps9
    go_wp2_with fail
    rw [← hw1]
    clear hw1
    refine HAd.out.mono ?_
    rintro e' w2 ⟨rfl, h2⟩
    have hbc2 := (h2.out.2.row HRow.out (by unfold TW; decide)).cell (i := 0) (by omega)
    have HK : Hid (BitE B w1 g 0 (xs ++ ys.take 0) w2) := hid ⟨by simpa using h2.out.1, h2.out.2⟩
    clear h2 hbc
    go_wp2_with fail
    go_loopw [16] (fun s wr => ∃ k : Nat, k ≤ N ∧ s = .int .i64 k ∧ Hid (BitE B w1 g 0 (xs ++ ys.take k) wr)) (fun s _ => N - (intOf s).toNat)
    case atStart => exact ⟨0, by omega, rfl, HK⟩
    case round =>
      obtain ⟨k, hk, rfl, HI2⟩ := hrel
      clear HK hbc2
      by_cases hp : k < N
      · obtain ⟨b, off, hAe, hc, _⟩ := (((FrT.of_only HO.out).trans HI2.out.2).rdV' HY0.out (HA.out (by have := HN.out; omega))).at (k := k) (by rw [← HN.out]; exact hp)
        subst hAe
        unfold vB at hc
        have HT : Hid (ys.take (k + 1) = ys.take k ++ [ys.getD k false]) := hid (by
          have hlt : k < ys.length := by rw [← HN.out]; exact hp
          rw [List.take_succ_eq_append_getElem hlt]; simp [List.getD, hlt])
        have HL : Hid ((xs ++ ys.take k).length < 16777216) := hid (by
          have h1 := HS.out
          have h2 := HN.out
          rw [List.length_append, List.length_take]; omega)
        generalize ys.getD k false = z at hc HT
        go_wp2_with fail
        refine (bit_any HI2.out.1 (Nat.le_trans HB.out HI2.out.2.size) HL.out z).mono ?_
        rintro e' w3 ⟨rfl, h3⟩
        have HN2 : Hid (BitE B w1 g 0 (xs ++ ys.take (k + 1)) w3) := hid (by
          rw [HT.out, ← List.append_assoc]
          exact ⟨h3.out.1, HI2.out.2.trans h3.out.2⟩)
        clear h3 HI2 HL HT hc
        go_wp2_with fail
        go_roundw
        case rel => exact ⟨k + 1, by omega, by go_num, HN2⟩
        case measure => simp [intOf]; omega
      · obtain rfl : k = N := by omega
        have HD : Hid (IsWr B wr g 0 (xs ++ ys) ∧ FrT TW B w wr) := hid (by
          have h := HI2.out
          rw [HN.out, List.take_length] at h
          exact ⟨h.1, (FrT.of_only HO.out).trans h.2⟩)
        clear HI2
        go_wp2_with fail
        go_ret
        exact ⟨rfl, HD⟩
end Go.Proofs.Ytgdfiopdkidhfaa
