/- The lengths in the best tree. -/
import Derived.Test.YthfnpgmjbfbocaaTk8
namespace Go.Proofs.Ythfnpgmjbfbocaa
open Go.RowKit

/-- One more at the places from a up to i. -/
def upF (F : Nat → Int) (a i k : Nat) : Int := if a ≤ k ∧ k < i then F k + 1 else F k
theorem upF_start (F : Nat → Int) (a : Nat) : upF F a a = F := by
  funext k
  unfold upF
  rw [if_neg (by omega)]
theorem upF_step {F : Nat → Int} {a i : Nat} (ha : a ≤ i) {W : World} {g n : Nat} {t : TypeId} (h : W.rowIs g t n (fun k => .int .i64 (upF F a i k))) {x : Int} (hx : x = F i + 1) : (W.setCell ⟨g, i, none⟩ (.int .i64 x)).rowIs g t n (fun k => .int .i64 (upF F a (i + 1) k)) := by
  subst hx
  refine (h.set i _).congr fun k _ => ?_
  by_cases e : k = i
  · subst e
    rw [if_pos rfl]
    unfold upF
    rw [if_pos (by omega)]
  · rw [if_neg e]
    unfold upF
    by_cases e2 : a ≤ k ∧ k < i
    · rw [if_pos e2, if_pos (by omega)]
    · rw [if_neg e2, if_neg (by omega)]

theorem TabH.onlyL {w w' : World} {gS gR gL : Nat} {gi : Nat → Nat} {N : Nat} {S : Nat → Int} {D : Nat → Nat → Int × Nat} (h : TabH w gS gR gi N S D) (ho : Only (fun c => c = gL) w w') (h1 : gS ≠ gL) {n : Nat} {f : Nat → Value} (hL : w.rowIs gL 3 n f) : TabH w' gS gR gi N S D :=
  ⟨ho.row h.sums h1, ho.row h.rows (rowIs_ne h.rows hL (by decide)), fun i hi => ho.row (h.row i hi) (rowIs_ne (h.row i hi) hL (by decide)), h.apart⟩

def DeepC (n : Nat) : Prop := ∀ (gS gR gL N a b : Nat) (gi : Nat → Nat) (S : Nat → Int) (F : Nat → Int) (w : World), b - a ≤ n → a < b → b ≤ N → N ≤ 257 → TabH w gS gR gi N S (tabD S (N + 1) 0) → gS ≠ gL → w.rowIs gL 3 N (fun k => .int .i64 (F k)) → (∀ k, a ≤ k → k < b → 0 ≤ F k ∧ F k + ((b - a : Nat) : Int) ≤ 1000) →
  Calls Try.prog 84 #[.agg #[sSV gS N, sRV gR N], .slice (some ⟨gL, 0, none⟩) N N, .int .i64 (a : Int), .int .i64 (b : Int)] w fun e w' => e = .returned (.tuple #[]) ∧ Hid (w'.rowIs gL 3 N (fun k => .int .i64 (F k + dpt (rt S) a b k)) ∧ Only (fun c => c = gL) w w')

set_option maxHeartbeats 4000000 in
theorem deepen_step (n : Nat) (IH : DeepC n) : DeepC (n + 1) := by
  intro gS gR gL N a b gi S F w hn hab hbN hN hT hne hL hF
  by_cases hs : b - a < 2
  · have hs' : (b : Int) - (a : Int) < 2 := by omega
    have HR : Hid (w.rowIs gL 3 N (fun k => .int .i64 (F k + dpt (rt S) a b k))) := hid (hL.congr fun k _ => by rw [dpt_small hs, Int.add_zero])
    clear hT hL hF IH
    go_enter Try.func84, Try.ntmps84
    go_wp2_with fail
    refine bodyPost_ret (results_none rfl _ _ _) rfl ?_
    exact ⟨rfl, hid ⟨((Only.refl (fun _ => False) w).alloc _).row HR.out no_, (Only.refl _ w).alloc _⟩⟩
  · have hs' : ¬ (b : Int) - (a : Int) < 2 := by omega
    have hr := rt_in (S := S) (i := a) (j := b) (by omega)
    have HRow : Hid (∀ u, Only (fun c => c = gL) w u → Calls Try.prog 105 #[.agg #[sSV gS N, sRV gR N], .int .i64 (a : Int), .int .i64 (b : Int)] u fun e w' => e = .returned (.agg #[.int .i64 (ct S a b), .int .i64 ((rt S a b : Nat) : Int)]) ∧ Hid (Only (fun c => c = gL) w w') ∧ Hid (Only (fun _ => False) u w')) := hid fun u hu => by
      have := row_any (hT.onlyL hu hne hL) (i := a) (j := b) (by omega) (by omega) hbN hN
      rw [tabD_of (by omega) (.inl (by omega)), show a + (b - a) = b by omega] at this
      exact this.mono fun e w' ⟨he, ho⟩ => ⟨he, hid (hu.trans (ho.out.mono fun _ _ h => h.elim)), ho⟩
    have HC1 : Hid (∀ u, Only (fun c => c = gL) w u → u.rowIs gL 3 N (fun k => .int .i64 (upF F a b k)) → Calls Try.prog 84 #[.agg #[sSV gS N, sRV gR N], .slice (some ⟨gL, 0, none⟩) N N, .int .i64 (a : Int), .int .i64 ((rt S a b : Nat) : Int)] u fun e w' => e = .returned (.tuple #[]) ∧ Hid (w'.rowIs gL 3 N (fun k => .int .i64 (upF F a b k + dpt (rt S) a (rt S a b) k))) ∧ Hid (Only (fun c => c = gL) w w') ∧ Hid (Only (fun c => c = gL) u w')) := hid fun u hu hr2 =>
      (IH gS gR gL N a (rt S a b) gi S (upF F a b) u (by omega) (by omega) (by omega) hN (hT.onlyL hu hne hL) hne hr2 (fun k k1 k2 => by
        have := hF k k1 (by omega)
        unfold upF
        rw [if_pos (by omega)]
        omega)).mono fun e w' ⟨he, ho⟩ => ⟨he, hid ho.out.1, hid (hu.trans ho.out.2), hid ho.out.2⟩
    have HC2 : Hid (∀ u, Only (fun c => c = gL) w u → u.rowIs gL 3 N (fun k => .int .i64 (upF F a b k + dpt (rt S) a (rt S a b) k)) → Calls Try.prog 84 #[.agg #[sSV gS N, sRV gR N], .slice (some ⟨gL, 0, none⟩) N N, .int .i64 ((rt S a b : Nat) : Int), .int .i64 (b : Int)] u fun e w' => e = .returned (.tuple #[]) ∧ Hid (w'.rowIs gL 3 N (fun k => .int .i64 (F k + dpt (rt S) a b k)) ∧ Only (fun c => c = gL) w w')) := hid fun u hu hr2 =>
      (IH gS gR gL N (rt S a b) b gi S (fun k => upF F a b k + dpt (rt S) a (rt S a b) k) u (by omega) (by omega) (by omega) hN (hT.onlyL hu hne hL) hne hr2 (fun k k1 k2 => by
        have := hF k (by omega) k2
        show 0 ≤ upF F a b k + dpt (rt S) a (rt S a b) k ∧ upF F a b k + dpt (rt S) a (rt S a b) k + _ ≤ 1000
        rw [dpt_out (r := rt S) (fun i j h => rt_in h) (a := a) (b := rt S a b) (.inr k1)]
        unfold upF
        rw [if_pos (by omega)]
        omega)).mono fun e w' ⟨he, ho⟩ => ⟨he, hid ⟨ho.out.1.congr fun k _ => by
          show Value.int .i64 (upF F a b k + dpt (rt S) a (rt S a b) k + dpt (rt S) (rt S a b) b k) = _
          rw [dpt_eq (r := rt S) (fun i j h => rt_in h) (a := a) (b := b) (by omega)]
          unfold upF
          split <;> congr 1 <;> omega, hu.trans ho.out.2⟩⟩
    have HF := hid hF
    have HL0 : Hid (w.rowIs gL 3 N (fun k => .int .i64 (upF F a a k))) := hid (by rw [upF_start]; exact hL)
    clear IH hT hL hF
    generalize ct S a b = cv at HRow
    generalize rt S a b = r at *
    go_enter Try.func84, Try.ntmps84
    go_upto_region 1 with fail
    have HB : Hid (Two (w.alloc (.cells #[sSV gS N, sRV gR N] 76)) w.heap.size 76 (sSV gS N) (sRV gR N)) := hid (row_two _ _ _ _)
    have HO1 : Hid (Only (fun c => c = gL) w (w.alloc (.cells #[sSV gS N, sRV gR N] 76))) := hid ((Only.refl _ w).alloc _)
    have HL1 : Hid ((w.alloc (.cells #[sSV gS N, sRV gR N] 76)).rowIs gL 3 N (fun k => .int .i64 (upF F a a k))) := hid (((Only.refl (fun _ => False) w).alloc _).row HL0.out no_)
    have HSz : Hid (gL ≠ w.heap.size) := hid (fun e => by have := HL0.out.lt; omega)
    clear HL0
    obtain ⟨w1, hw1⟩ : ∃ w1, w1 = w.alloc (.cells #[sSV gS N, sRV gR N] 76) := ⟨_, rfl⟩
    rw [← hw1] at HB HO1 HL1 ⊢
    clear hw1
    go_wp2_with fail
    go_loopw [8] (fun s wr => ∃ i : Nat, a ≤ i ∧ i ≤ b ∧ s = .int .i64 i ∧ Hid (wr.rowIs gL 3 N (fun k => .int .i64 (upF F a i k))) ∧ Hid (Only (fun c => c = gL) w wr) ∧ Hid (Two wr w.heap.size 76 (sSV gS N) (sRV gR N))) (fun s _ => b - (intOf s).toNat)
    case atStart => exact ⟨a, by omega, by omega, rfl, HL1, HO1, HB⟩
    case round =>
      obtain ⟨i, hai, hib, rfl, HL, HO, HB2⟩ := hrel
      clear HL1 HO1 HB
      by_cases hp : i < b
      · have cc : wr.cell? ⟨gL, i, none⟩ = some (.int .i64 (F i)) := by
          rw [HL.out.cell (by omega)]
          unfold upF
          rw [if_neg (by omega)]
        have fc := HL.out.frozen i
        have lt := HL.out.lt
        have hFi := HF.out i hai hp
        have HN : Hid (∀ x, x = F i + 1 → (wr.setCell ⟨gL, i, none⟩ (.int .i64 x)).rowIs gL 3 N (fun k => .int .i64 (upF F a (i + 1) k))) := hid fun x hx => upF_step hai HL.out hx
        have HN2 : Hid (∀ x : Value, Only (fun c => c = gL) w (wr.setCell ⟨gL, i, none⟩ x)) := hid fun x => HO.out.setCell (p := ⟨gL, i, none⟩) (.inl rfl) x
        have HN3 : Hid (∀ x : Value, Two (wr.setCell ⟨gL, i, none⟩ x) w.heap.size 76 (sSV gS N) (sRV gR N)) := hid fun x => HB2.out.only ((Only.refl (fun c => c = gL) wr).setCell (p := ⟨gL, i, none⟩) (.inl rfl) x) (fun e => HSz.out e.symm)
        clear HL HO HB2
        generalize F i = z at *
        go_wp2_with fail
        go_roundw
        case rel => exact ⟨i + 1, by omega, by omega, by go_num, hid (HN.out _ (by omega)), hid (HN2.out _), hid (HN3.out _)⟩
        case measure => simp [intOf]; omega
      · obtain rfl : i = b := by omega
        have d0 := HB2.out.c0
        have d1 := HB2.out.c1
        have hf1 := fld1
        go_wp2_with fail
        clear d0 d1
        refine (HRow.out _ HO.out).mono ?_
        rintro e w2 ⟨rfl, HO2, HO2'⟩
        have HL2 := hid (HO2'.out.row HL.out no_)
        have HB3 := hid (HB2.out.only HO2'.out no_)
        clear HL HO HB2 HO2'
        have d0 := HB3.out.c0
        have d1 := HB3.out.c1
        go_wp2_with fail
        clear d0 d1
        refine (HC1.out _ HO2.out HL2.out).mono ?_
        rintro e w3 ⟨rfl, HL3, HO3, HO3'⟩
        have HB4 := hid (HB3.out.only HO3'.out (fun e => HSz.out e.symm))
        clear HL2 HO2 HO3' HB3
        have d0 := HB4.out.c0
        have d1 := HB4.out.c1
        go_wp2_with fail
        clear d0 d1
        refine (HC2.out _ HO3.out HL3.out).mono ?_
        rintro e w4 ⟨rfl, HE⟩
        go_wp2_with fail
        go_end0
        exact ⟨rfl, HE⟩
theorem deepen_any : ∀ n, DeepC n
  | 0 => fun _ _ _ _ a b _ _ _ _ h1 h2 => absurd h2 (by omega)
  | n + 1 => deepen_step n (deepen_any n)

set_option maxHeartbeats 1000000 in
theorem lengths_any {gS gR N : Nat} {gi : Nat → Nat} {S : Nat → Int} {w : World} (hT : TabH w gS gR gi N S (tabD S (N + 1) 0)) (h1 : 1 ≤ N) (hN : N ≤ 257) :
    Calls Try.prog 47 #[.agg #[sSV gS N, sRV gR N]] w fun e w' => ∃ g : Nat, e = .returned (.slice (some ⟨g, 0, none⟩) N N) ∧ Hid (w.heap.size ≤ g ∧ w'.rowIs g 3 N (fun k => .int .i64 (dpt (rt S) 0 N k)) ∧ Only (fun _ => False) w w') := by
  have hmk := fun W => run_make_row' (P := Try.prog) 22 3 (.int .i64 0) 8 Try.underlying22 intInfoK rfl .i64 .i64 N (by omega) (by omega) W
  have hlS := hT.sums.lt
  have HD : Hid (∀ u gL, Only (fun _ => False) w u → w.heap.size ≤ gL → u.rowIs gL 3 N (fun _ => .int .i64 0) → Calls Try.prog 84 #[.agg #[sSV gS N, sRV gR N], .slice (some ⟨gL, 0, none⟩) N N, .int .i64 0, .int .i64 (N : Int)] u fun e w' => e = .returned (.tuple #[]) ∧ Hid (w'.rowIs gL 3 N (fun k => .int .i64 (dpt (rt S) 0 N k)) ∧ Only (fun c => c = gL) u w')) := hid fun u gL hu hg hr => by
    have := deepen_any N gS gR gL N 0 N gi S (fun _ => 0) u (by omega) (by omega) (Nat.le_refl _) hN (hT.only hu) (by omega) hr (fun k _ _ => by
      show (0 : Int) ≤ 0 ∧ (0 : Int) + _ ≤ 1000
      omega)
    refine this.mono fun e w' ⟨he, ho⟩ => ⟨he, hid ⟨ho.out.1.congr fun k _ => ?_, ho.out.2⟩⟩
    show Value.int .i64 (0 + dpt (rt S) 0 N k) = _
    rw [Int.zero_add]
  have HB : Hid (Two (w.alloc (.cells #[sSV gS N, sRV gR N] 76)) w.heap.size 76 (sSV gS N) (sRV gR N)) := hid (row_two _ _ _ _)
  clear hT hlS
  go_enter Try.func47, Try.ntmps47
  go_wp2_with fail
  have HR : Hid (((w.alloc (.cells #[sSV gS N, sRV gR N] 76)).alloc (.cells (madeCells #[.int .i64 0] N) 3)).rowIs (w.heap.size + 1) 3 N (fun _ => .int .i64 0)) := hid (by
    have := World.rowIs_made (w.alloc (.cells #[sSV gS N, sRV gR N] 76)) (.int .i64 0) N 3
    simpa using this)
  refine (HD.out _ _ (((Only.refl _ w).alloc _).alloc _) (Nat.le_succ _) HR.out).mono ?_
  rintro e w2 ⟨rfl, HE⟩
  have HO : Hid (Only (fun _ => False) w w2) := hid (by
    have h1 : Only (fun _ => False) w ((w.alloc (.cells #[sSV gS N, sRV gR N] 76)).alloc (.cells (madeCells #[.int .i64 0] N) 3)) := ((Only.refl _ w).alloc _).alloc _
    have h2 := HE.out.2
    exact ⟨h2.os.trans h1.os, h2.tape.trans h1.tape, h2.output.trans h1.output, Nat.le_trans h1.size h2.size, fun k hk hf => (h2.block k (Nat.lt_of_lt_of_le hk h1.size) (fun e => by have e' : k = w.heap.size + 1 := e; omega)).trans (h1.block k hk hf)⟩)
  have HR2 := hid HE.out.1
  clear HE HR HD HB hmk
  go_wp2_with fail
  go_ret
  exact ⟨_, rfl, hid ⟨Nat.le_succ _, HR2.out, HO.out⟩⟩

/-- What Lengths answers. -/
def LenE (w : World) (zs : List Int) (e : Ending) (w' : World) : Prop :=
  ∃ (A : Option Addr) (n c : Nat), e = .returned (.tuple #[.slice A n c, .int .i64 (if isW zs = true then 0 else 2)]) ∧
    Hid (n = (if isW zs = true then bestL zs else []).length) ∧ Hid (c = n) ∧ Hid (RdI w' A (if isW zs = true then bestL zs else [])) ∧ Hid (A = none → n = 0) ∧ Hid (n ≠ 0 → ∃ g, A = some ⟨g, 0, none⟩ ∧ w.heap.size ≤ g ∧ AnyRow w' 3 g n) ∧ StO w w'
set_option maxHeartbeats 1000000 in
theorem Lengths_any {A : Option Addr} {cap : Nat} {zs : List Int} {w : World} (hz : RdI w A zs) (hl : zs.length ≤ 9223372036854775807) :
    Calls Try.prog 10 #[.slice A zs.length cap] w (LenE w zs) := by
  have HA := hid (areW_any (cap := cap) hz hl)
  cases hw : isW zs with
  | false =>
    rw [hw] at HA
    have HE : Hid (∀ w', StO w w' → LenE w zs (.returned (.tuple #[.slice none 0 0, .int .i64 2])) w') := hid fun w' ho => ⟨none, 0, 0, by rw [hw]; rfl, hid (by rw [hw]; rfl), hid rfl, hid (by rw [hw]; exact RdV.nil _), hid fun _ => rfl, hid fun h => absurd rfl h, ho⟩
    clear hz
    generalize zs.length = N at *
    go_enter Try.func10, Try.ntmps10
    go_wp2_with (go_at_call 45; refine HA.out.mono ?_; rintro e w' ⟨rfl, rfl⟩)
    go_ret2
    exact HE.out _ (hid (Only.refl _ w))
  | true =>
    have ⟨h1, h2, h3⟩ := isW_of hw
    rw [hw] at HA
    by_cases hone : zs.length = 1
    · have HE : Hid (∀ w' g, w.heap.size ≤ g → StO w w' → w'.rowIs g 3 1 (vI [1]) → LenE w zs (.returned (.tuple #[.slice (some ⟨g, 0, none⟩) 1 1, .int .i64 0])) w') := hid fun w' g hg ho hr => by
        have hb : bestL zs = [1] := by unfold bestL; rw [if_pos hone]
        refine ⟨some ⟨g, 0, none⟩, 1, 1, by rw [hw]; rfl, hid (by rw [hw, if_pos rfl, hb]; rfl), hid rfl, hid (by rw [hw, if_pos rfl, hb]; exact RdV.of_row hr), hid (fun h => by cases h), hid fun _ => ⟨g, rfl, hg, _, hr⟩, ho⟩
      clear hz h3
      generalize zs.length = N at *
      subst hone
      go_enter Try.func10, Try.ntmps10
      go_wp2_with (go_at_call 45; refine HA.out.mono ?_; rintro e w' ⟨rfl, rfl⟩)
      go_ret2
      exact HE.out _ _ (Nat.le_refl _) (hid ((Only.refl _ w).alloc _)) (World.rowIs_alloc w #[.int .i64 1] 3 (vI [1]) (fun i hi => by
        match i, hi with
        | 0, _ => rfl
        | i + 1, hi => exact absurd (show i + 1 < 1 from hi) (by omega)))
    · have HT := hid (tableOf_any (cap := cap) hz hw)
      have HL : Hid (∀ gS gR gi w2, TabH w2 gS gR gi zs.length (sumW (wt zs)) (tabD (sumW (wt zs)) (zs.length + 1) 0) → Calls Try.prog 47 #[.agg #[sSV gS zs.length, sRV gR zs.length]] w2 fun e w' => ∃ g : Nat, e = .returned (.slice (some ⟨g, 0, none⟩) zs.length zs.length) ∧ Hid (w2.heap.size ≤ g ∧ w'.rowIs g 3 zs.length (fun k => .int .i64 (dpt (rt (sumW (wt zs))) 0 zs.length k)) ∧ Only (fun _ => False) w2 w')) := hid fun gS gR gi w2 h => lengths_any h h1 h2
      have HE : Hid (∀ w' g, w.heap.size ≤ g → StO w w' → w'.rowIs g 3 zs.length (fun k => .int .i64 (dpt (rt (sumW (wt zs))) 0 zs.length k)) → LenE w zs (.returned (.tuple #[.slice (some ⟨g, 0, none⟩) zs.length zs.length, .int .i64 0])) w') := hid fun w' g hg ho hr => by
        have hb : bestL zs = seg (fun k => dpt (rt (sumW (wt zs))) 0 zs.length k) 0 zs.length := by unfold bestL; rw [if_neg hone]
        refine ⟨some ⟨g, 0, none⟩, zs.length, zs.length, by rw [hw]; rfl, hid (by rw [hw, if_pos rfl, bestL_len]), hid rfl, hid ?_, hid (fun h => by cases h), hid fun _ => ⟨g, rfl, hg, _, hr⟩, ho⟩
        rw [hw, if_pos rfl]
        show RdV w' _ (bestL zs).length _
        rw [bestL_len]
        refine (RdV.of_row hr).congr fun j hj => ?_
        unfold vI
        rw [hb, seg_get _ _ _ _ hj, Nat.zero_add]
      clear hz h3
      generalize sumW (wt zs) = S at *
      generalize zs.length = N at *
      have hone' : ¬ (N : Int) = 1 := by omega
      unfold tabV at HT
      go_enter Try.func10, Try.ntmps10
      go_wp2_with (first | (go_at_call 45; refine HA.out.mono ?_; rintro e w' ⟨rfl, rfl⟩) | (go_at_call 46; refine HT.out.mono ?_; rintro e w2 ⟨gS, gR, gi, rfl, HTa, HO2⟩) | (go_at_call 47; refine (HL.out _ _ _ _ HTa.out).mono ?_; rintro e w3 ⟨g, rfl, HR3⟩))
      go_ret2
      exact HE.out _ _ (Nat.le_trans HO2.out.size HR3.out.1) (hid (HO2.out.trans HR3.out.2.2)) HR3.out.2.1
end Go.Proofs.Ythfnpgmjbfbocaa
