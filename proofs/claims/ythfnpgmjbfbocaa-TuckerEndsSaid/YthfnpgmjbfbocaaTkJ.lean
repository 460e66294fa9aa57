/- The document's lengths. -/
import Derived.Test.YthfnpgmjbfbocaaTkI
namespace Go.Proofs.Ythfnpgmjbfbocaa
open Go.RowKit

def gK (S : Nat → Int) (f j p : Nat) : Int := ct S f p + ct S p (j + 1)
/-- The tables, with the ways to part a row tried ahead of that one. -/
def DK (S : Nat → Int) (s f j k : Nat) (a b : Nat) : Int := if k = 1 then dC S s f a b else updD (dC S s f) f j (S (j + 1) - S f + gK S f j (leastK (gK S f j) (f + 1) (k - 2))) a b
def PK (S : Nat → Int) (s f j k : Nat) (a b : Nat) : Int := if k = 1 then dP S s f a b else updD (dP S s f) f j (((leastK (gK S f j) (f + 1) (k - 2) : Nat) : Int) - (f : Int)) a b
section
variable {S : Nat → Int} {s f j k : Nat}
theorem least_new (hk : 1 ≤ k) (h : k = 1 ∨ gK S f j (f + k) < gK S f j (leastK (gK S f j) (f + 1) (k - 2))) : leastK (gK S f j) (f + 1) (k + 1 - 2) = f + k := by
  by_cases e : k = 1
  · subst e; rfl
  · obtain ⟨q, rfl⟩ : ∃ q, k = q + 2 := ⟨k - 2, by omega⟩
    have e1 : q + 2 + 1 - 2 = q + 1 := by omega
    have e2 : f + 1 + q + 1 = f + (q + 2) := by omega
    have e3 : q + 2 - 2 = q := by omega
    rw [e1]
    rw [e3] at h
    show (if gK S f j (f + 1 + q + 1) < gK S f j (leastK (gK S f j) (f + 1) q) then f + 1 + q + 1 else _) = _
    rw [e2, if_pos (h.resolve_left e)]
theorem least_old (hk : 2 ≤ k) (h : ¬ gK S f j (f + k) < gK S f j (leastK (gK S f j) (f + 1) (k - 2))) : leastK (gK S f j) (f + 1) (k + 1 - 2) = leastK (gK S f j) (f + 1) (k - 2) := by
  obtain ⟨q, rfl⟩ : ∃ q, k = q + 2 := ⟨k - 2, by omega⟩
  have e1 : q + 2 + 1 - 2 = q + 1 := by omega
  have e2 : f + 1 + q + 1 = f + (q + 2) := by omega
  have e3 : q + 2 - 2 = q := by omega
  rw [e1, e3]
  rw [e3] at h
  show (if gK S f j (f + 1 + q + 1) < gK S f j (leastK (gK S f j) (f + 1) q) then f + 1 + q + 1 else leastK (gK S f j) (f + 1) q) = _
  rw [e2, if_neg h]
theorem DK_new (hk : 1 ≤ k) (h : k = 1 ∨ gK S f j (f + k) < gK S f j (leastK (gK S f j) (f + 1) (k - 2))) (a b : Nat) : updD (DK S s f j k) f j (S (j + 1) - S f + gK S f j (f + k)) a b = DK S s f j (k + 1) a b := by
  unfold DK
  rw [if_neg (by omega), least_new hk h]
  unfold updD
  by_cases e : a = f ∧ b = j
  · simp only [if_pos e]
  · simp only [if_neg e]
    split <;> rfl
theorem PK_new (hk : 1 ≤ k) (h : k = 1 ∨ gK S f j (f + k) < gK S f j (leastK (gK S f j) (f + 1) (k - 2))) (a b : Nat) : updD (PK S s f j k) f j (k : Int) a b = PK S s f j (k + 1) a b := by
  unfold PK
  rw [if_neg (by omega), least_new hk h]
  unfold updD
  by_cases e : a = f ∧ b = j
  · simp only [if_pos e]
    omega
  · simp only [if_neg e]
    split <;> rfl
theorem DK_old (hk : 2 ≤ k) (h : ¬ gK S f j (f + k) < gK S f j (leastK (gK S f j) (f + 1) (k - 2))) (a b : Nat) : DK S s f j k a b = DK S s f j (k + 1) a b := by
  unfold DK
  rw [if_neg (by omega), if_neg (by omega), least_old hk h]
theorem PK_old (hk : 2 ≤ k) (h : ¬ gK S f j (f + k) < gK S f j (leastK (gK S f j) (f + 1) (k - 2))) (a b : Nat) : PK S s f j k a b = PK S s f j (k + 1) a b := by
  unfold PK
  rw [if_neg (by omega), if_neg (by omega), least_old hk h]
theorem DK_left (h1 : 1 ≤ k) (h2 : k < s) (hj : j + 1 = f + s) : DK S s f j k f (f + k - 1) = ct S f (f + k) := by
  unfold DK
  have e : dC S s f f (f + k - 1) = ct S f (f + k) := by rw [dC_of (by omega) (by omega), show f + k - 1 + 1 = f + k by omega]
  split
  · exact e
  · unfold updD; rw [if_neg (by omega)]; exact e
theorem DK_right (h1 : 1 ≤ k) (h2 : k < s) (hj : j + 1 = f + s) : DK S s f j k (f + k) j = ct S (f + k) (j + 1) := by
  unfold DK
  have e : dC S s f (f + k) j = ct S (f + k) (j + 1) := dC_of (by omega) (by omega)
  split
  · exact e
  · unfold updD; rw [if_neg (by omega)]; exact e
theorem DK_at (hk : 2 ≤ k) : DK S s f j k f j = S (j + 1) - S f + gK S f j (leastK (gK S f j) (f + 1) (k - 2)) := by
  unfold DK updD
  rw [if_neg (by omega), if_pos ⟨rfl, rfl⟩]
theorem DK_end {n : Nat} (hs : 2 ≤ s) (hj : j + 1 = f + s) (hn : f + s ≤ n) (a b : Nat) (hb : b < n) : DK S s f j s a b = dC S s (f + 1) a b := by
  have h := ct_rt S (i := f) (j := j + 1) (by omega)
  have e2 : j + 1 - f - 2 = s - 2 := by omega
  rw [e2] at h
  unfold DK
  rw [if_neg (by omega)]
  have h2 : leastK (gK S f j) (f + 1) (s - 2) = rt S f (j + 1) := h.2.symm
  rw [h2]
  have h3 : S (j + 1) - S f + gK S f j (rt S f (j + 1)) = ct S f (f + s) := by rw [← hj]; exact h.1.symm
  rw [h3, ← dC_next (n := n) hb hs hn, show j = f + s - 1 by omega]
theorem PK_end {n : Nat} (hs : 2 ≤ s) (hj : j + 1 = f + s) (hn : f + s ≤ n) (a b : Nat) (hb : b < n) : PK S s f j s a b = dP S s (f + 1) a b := by
  have h := ct_rt S (i := f) (j := j + 1) (by omega)
  have e2 : j + 1 - f - 2 = s - 2 := by omega
  rw [e2] at h
  unfold PK
  rw [if_neg (by omega)]
  have h2 : leastK (gK S f j) (f + 1) (s - 2) = rt S f (j + 1) := h.2.symm
  rw [h2, ← dP_next (n := n) hb hs hn, hj, show j = f + s - 1 by omega]
end
theorem two_rows {w : World} {g h k : Nat} (o p : Obj) (hg : g < w.heap.size) (hh : h < w.heap.size) (x y : Value) : (((w.setCell ⟨g, k, none⟩ x).setCell ⟨h, k, none⟩ y).alloc o).alloc p = ((((w.alloc o).setCell ⟨g, k, none⟩ x).alloc p).setCell ⟨h, k, none⟩ y) := by
  have s1 : h < ((w.setCell ⟨g, k, none⟩ x).alloc o).heap.size := by simp [World.setCell]; omega
  have s2 : h < (w.setCell ⟨g, k, none⟩ x).heap.size := by simp [World.setCell]; omega
  rw [World.setCell_alloc_past o g k x hg, World.setCell_alloc_past p h k y s1, World.setCell_alloc_past o h k y s2]
theorem wrap_sum3 {a b c d : Int} (ha : -1103806595072 ≤ a ∧ a ≤ 1103806595072) (hb : 0 ≤ b ∧ b ≤ 283678294933504) (hc : 0 ≤ c ∧ c ≤ 283678294933504) (hd : d = a + (b + c)) : IntKind.i64.wrap (IntKind.i64.wrap (a + b) + c) = d := by
  subst hd
  rw [IntKind.wrap_i64, IntKind.wrap_i64]; omega
theorem sliceInfoK : (Try.prog.info? 22).map (fun i => (i.zero, i.size, i.bytes)) = some (some (.slice none 0 0), 1, 24) := by kernel_rfl

set_option maxRecDepth 100000 in
set_option maxHeartbeats 8000000 in
theorem refLen_main {A : Option Addr} {cap : Nat} {zs : List Int} {w : World} (hz : RdI w A zs) (hw : isW zs = true) (h2 : 2 ≤ zs.length) :
    Calls Try.prog 40 #[.slice A zs.length cap] w (LenE w zs) := by
  have ⟨_, h257, h3⟩ := isW_of hw
  have hS : ∀ i j, i ≤ j → sumW (wt zs) i ≤ sumW (wt zs) j := sumW_mono fun k => (h3 k).1
  have HB : Hid (∀ k, k ≤ 257 → 0 ≤ sumW (wt zs) k ∧ sumW (wt zs) k ≤ 1103806595072) := hid fun k hk => by
    have := sumW_bound (w := wt zs) (B := 4294967296) (fun j => (h3 j).2) k
    have := hS 0 k (by omega)
    have e : sumW (wt zs) 0 = 0 := rfl
    omega
  have HSt : Hid (∀ k, sumW (wt zs) (k + 1) = sumW (wt zs) k + zs.getD k 0) := hid fun k => rfl
  have HCb : Hid (∀ i j, i < j → j ≤ 257 → 0 ≤ ct (sumW (wt zs)) i j ∧ ct (sumW (wt zs)) i j ≤ 283678294933504) := hid fun i j h1 h2 => ct_bound2 hS HB.out h1 h2
  have HA : Hid (Calls Try.prog 76 #[.slice A zs.length cap] w fun e w' => e = .returned (.bool true) ∧ w = w') := hid (by
    have := refW_any (cap := cap) hz (by omega)
    rw [hw] at this
    exact this)
  have HZ : Hid (RdV w A zs.length (vI zs)) := hid hz
  have HE : Hid (∀ w' g, w.heap.size ≤ g → StO w w' → w'.rowIs g 3 zs.length (fun k => .int .i64 (dpt (rt (sumW (wt zs))) 0 zs.length k)) → LenE w zs (.returned (.tuple #[.slice (some ⟨g, 0, none⟩) zs.length zs.length, .int .i64 0])) w') := hid fun w' g hg ho hr => by
    have hb : bestL zs = seg (fun k => dpt (rt (sumW (wt zs))) 0 zs.length k) 0 zs.length := by unfold bestL; rw [if_neg (by omega)]
    refine ⟨some ⟨g, 0, none⟩, zs.length, zs.length, by rw [hw]; rfl, hid (by rw [hw, if_pos rfl, bestL_len]), hid rfl, hid ?_, hid (fun h => by cases h), hid fun _ => ⟨g, rfl, hg, _, hr⟩, ho⟩
    rw [hw, if_pos rfl]
    show RdV w' _ (bestL zs).length _
    rw [bestL_len]
    refine (RdV.of_row hr).congr fun j hj => ?_
    unfold vI
    rw [hb, seg_get _ _ _ _ hj, Nat.zero_add]
  clear hz h3 hw hS
  generalize sumW (wt zs) = S at *
  generalize zs.length = N at *
  have hone' : ¬ (N : Int) = 1 := by omega
  have hone2 : ((N : Int) == 1) = false := by simp; omega
  have hmk := fun W => run_make_row' (P := Try.prog) 122 22 (.slice none 0 0) 24 Try.underlying122 sliceInfoK rfl .i64 .i64 N (by omega) (by omega) W
  have hmk2 := fun W => run_make_row' (P := Try.prog) 22 3 (.int .i64 0) 8 Try.underlying22 intInfoK rfl .i64 .i64 N (by omega) (by omega) W
  go_enter Try.func40, Try.ntmps40
  go_wp2_with (go_at_call 76; refine HA.out.mono ?_; rintro e w' ⟨rfl, rfl⟩)
  have HT0 : Hid (TI w ((w.alloc (.cells (madeCells #[.slice none 0 0] N) 22)).alloc (.cells (madeCells #[.slice none 0 0] N) 22)) w.heap.size (w.heap.size + 1) (fun _ => 0) (fun _ => 0) N 0) := hid TI.start
  clear hmk
  go_loopw [7] (fun s wr => ∃ (k : Nat) (gc gp : Nat → Nat), k ≤ N ∧ s = .int .i64 k ∧ Hid (TI w wr w.heap.size (w.heap.size + 1) gc gp N k)) (fun s _ => N - (intOf s).toNat)
  case atStart => exact ⟨0, _, _, by omega, rfl, HT0⟩
  case round =>
    obtain ⟨k, gc, gp, hk, rfl, HK⟩ := hrel
    clear HT0
    by_cases hp : k < N
    · have c1 := HK.out.cO.cell hp
      rw [if_neg (by omega)] at c1
      have f1 := HK.out.cO.frozen k
      have l1 := HK.out.cO.lt
      have c2 := HK.out.pO.cell hp
      rw [if_neg (by omega)] at c2
      have f2 := HK.out.pO.frozen k
      have l2 := HK.out.pO.lt
      have HN := hid fun z hz => HK.out.step hp (z := z) hz
      clear HK
      go_wp2_with fail
      go_roundw
      case rel => exact ⟨k + 1, _, _, by omega, by go_num, hid (HN.out _ (two_rows _ _ l1 l2 _ _))⟩
      case measure => simp [intOf]; omega
    · obtain rfl : k = N := by omega
      have HL := hid (HK.out.done S)
      clear HK
      go_wp2_with fail
      generalize hgC : w.heap.size = gC at HL
      have HgC := hid hgC
      generalize hgP : gC + 1 = gP at HL
      have HgP := hid hgP
      go_loopw [8] (fun s8 wr => ∃ s : Nat, 2 ≤ s ∧ s ≤ k + 1 ∧ s8 = .int .i64 s ∧ Hid (TB w wr gC gP gc gp k (dC S s 0) (dP S s 0))) (fun s8 _ => k + 1 - (intOf s8).toNat)
      case atStart => exact ⟨2, by omega, by omega, rfl, HL⟩
      case round =>
        obtain ⟨s, hs2, hsN, rfl, HT⟩ := hrel
        clear HL
        by_cases hp2 : s ≤ k
        · have hp2' : (s : Int) ≤ (k : Int) := by omega
          go_wp2_with fail
          obtain ⟨wo, rfl⟩ : ∃ wo : World, wo = wr := ⟨_, rfl⟩
          go_loopw [9] (fun s9 wr => ∃ f : Nat, f + s ≤ k + 1 ∧ s9 = .int .i64 f ∧ Hid (TB w wr gC gP gc gp k (dC S s f) (dP S s f))) (fun s9 _ => k + 1 - (intOf s9).toNat)
          case atStart => exact ⟨0, by omega, rfl, HT⟩
          case round =>
            obtain ⟨f, hf, rfl, HF⟩ := hrel
            clear HT
            by_cases hp3 : f + s ≤ k
            · have hp3' : (f : Int) + (s : Int) ≤ (k : Int) := by omega
              obtain ⟨j, hj⟩ : ∃ j, j + 1 = f + s := ⟨f + s - 1, by omega⟩
              have hjI : (f : Int) + (s : Int) - 1 = (j : Int) := by omega
              have Hj := hid hj
              have hfj : f < j := by omega
              have hjk : j < k := by omega
              clear hj
              go_wp2_with fail
              have HFb := HB.out f (by omega)
              go_loop [11, 12] (fun s11 s12 => ∃ q : Nat, f ≤ q ∧ q ≤ j + 1 ∧ s12 = .int .i64 q ∧ s11 = .int .i64 (S q - S f)) (fun _ s12 => j + 1 - (intOf s12).toNat)
              case atStart => exact ⟨f, by omega, by omega, rfl, by simp⟩
              case round =>
                obtain ⟨q, hfq, hqj, rfl, rfl⟩ := hrel
                by_cases hpq : q ≤ j
                · have hpq' : (q : Int) ≤ (j : Int) := by omega
                  obtain ⟨b, off, hA, hc, _⟩ := (HZ.out.only HF.out.only fun _ _ _ => no_).at (k := q) (by omega)
                  unfold vI at hc
                  subst hA
                  have b1 := HB.out q (by omega)
                  have b2 := HB.out (q + 1) (by omega)
                  have HSq := hid (HSt.out q)
                  have hsq := HSt.out q
                  have hzb : -1103806595072 ≤ zs.getD q 0 ∧ zs.getD q 0 ≤ 1103806595072 := by omega
                  generalize zs.getD q 0 = z at *
                  clear hsq
                  obtain ⟨y, hy⟩ : ∃ y, y = S q := ⟨_, rfl⟩
                  obtain ⟨x, hx⟩ : ∃ x, x = S f := ⟨_, rfl⟩
                  have Hy := hid hy
                  have Hx := hid hx
                  rw [← hx] at HFb
                  rw [← hy] at b1
                  rw [← hx, ← hy]
                  clear hx hy b2
                  go_wp2_with fail
                  go_round
                  case rel => exact ⟨q + 1, by omega, by omega, by go_num, by rw [HSq.out, ← Hy.out]; congr 1; omega⟩
                  case measure => simp [intOf]; omega
                · obtain rfl : q = j + 1 := by omega
                  have hpq' : ¬ ((j + 1 : Nat) : Int) ≤ (j : Int) := by omega
                  obtain ⟨al, hal⟩ : ∃ al, al = S (j + 1) - S f := ⟨_, rfl⟩
                  have b1 := HB.out (j + 1) (by omega)
                  have halb : -1103806595072 ≤ al ∧ al ≤ 1103806595072 := by omega
                  rw [← hal]
                  have Hal := hid hal
                  clear hal b1 HFb
                  have HQ0 : Hid (TB w wr gC gP gc gp k (DK S s f j 1) (PK S s f j 1)) := hid (HF.out.congr (fun _ _ _ _ => by unfold DK; rw [if_pos rfl]) (fun _ _ _ _ => by unfold PK; rw [if_pos rfl]))
                  clear HF
                  go_wp2_with fail
                  obtain ⟨wo2, rfl⟩ : ∃ wo2 : World, wo2 = wr := ⟨_, rfl⟩
                  go_loopw [13] (fun s13 wr => ∃ q : Nat, 1 ≤ q ∧ q ≤ s ∧ s13 = .int .i64 q ∧ Hid (TB w wr gC gP gc gp k (DK S s f j q) (PK S s f j q))) (fun s13 _ => s - (intOf s13).toNat)
                  case atStart => exact ⟨1, by omega, by omega, rfl, HQ0⟩
                  case round =>
                    obtain ⟨q, hq1, hqs, rfl, HQ⟩ := hrel
                    clear HQ0
                    by_cases hpq : q < s
                    · have hpq2 : (q : Int) < (s : Int) := by omega
                      obtain ⟨r, hr⟩ : ∃ r, r = f + q := ⟨_, rfl⟩
                      obtain ⟨p, hpp⟩ : ∃ p, p + 1 = r := ⟨r - 1, by omega⟩
                      have he1 : (f : Int) + (q : Int) = (r : Int) := by omega
                      have he2 : (r : Int) - 1 = (p : Int) := by omega
                      have hj' := Hj.out
                      have hrj : r ≤ j := by omega
                      have cO1 := HQ.out.cO.cell (i := f) (by omega)
                      have cO2 := HQ.out.cO.cell (i := r) (by omega)
                      have pO1 := HQ.out.pO.cell (i := f) (by omega)
                      have x1 := (HQ.out.c f (by omega)).cell (i := p) (by omega)
                      have x2 := (HQ.out.c r (by omega)).cell (i := j) (by omega)
                      have x3 := (HQ.out.c f (by omega)).cell (i := j) (by omega)
                      have x4 := (HQ.out.p f (by omega)).cell (i := j) (by omega)
                      have fC := (HQ.out.c f (by omega)).frozen j
                      have fP := (HQ.out.p f (by omega)).frozen j
                      have lC := (HQ.out.c f (by omega)).lt
                      have lP := (HQ.out.p f (by omega)).lt
                      have lO := HQ.out.pO.lt
                      have n1 : gP ≠ gc f := rowIs_ne HQ.out.pO (HQ.out.c f (by omega)) (by decide)
                      have n2 : gc f ≠ gp f := HQ.out.cp f f (by omega) (by omega)
                      have e1 : DK S s f j q f p = ct S f r := by
                        have := DK_left (S := S) hq1 hpq Hj.out
                        rw [← hr, show r - 1 = p by omega] at this
                        exact this
                      have e2 : DK S s f j q r j = ct S r (j + 1) := by
                        have := DK_right (S := S) hq1 hpq Hj.out
                        rw [← hr] at this
                        exact this
                      rw [e1] at x1
                      rw [e2] at x2
                      have bx1 := HCb.out f r (by omega) (by omega)
                      have bx2 := HCb.out r (j + 1) (by omega) (by omega)
                      have Hg : Hid (gK S f j (f + q) = ct S f r + ct S r (j + 1)) := hid (by rw [← hr]; rfl)
                      have HN : Hid (∀ (u : World) (c : Int), Only (fun _ => False) wr u → c = al + gK S f j (f + q) → (q = 1 ∨ gK S f j (f + q) < gK S f j (leastK (gK S f j) (f + 1) (q - 2))) → TB w ((u.setCell ⟨gc f, j, none⟩ (.int .i64 c)).setCell ⟨gp f, j, none⟩ (.int .i64 (q : Int))) gC gP gc gp k (DK S s f j (q + 1)) (PK S s f j (q + 1))) := hid fun u c hu hc hcond => by
                        have h0 := ((HQ.out.st hu).setC (i := f) (j := j) (by omega) c).setP (i := f) (j := j) (by omega) (q : Int)
                        rw [hc, Hal.out] at h0 ⊢
                        exact h0.congr (fun a b _ _ => DK_new hq1 hcond a b) (fun a b _ _ => PK_new hq1 hcond a b)
                      have HKp : Hid (∀ u, Only (fun _ => False) wr u → 2 ≤ q → ¬ gK S f j (f + q) < gK S f j (leastK (gK S f j) (f + 1) (q - 2)) → TB w u gC gP gc gp k (DK S s f j (q + 1)) (PK S s f j (q + 1))) := hid fun u hu h2 hcond =>
                        (HQ.out.st hu).congr (fun a b _ _ => DK_old h2 hcond a b) (fun a b _ _ => PK_old h2 hcond a b)
                      have HX3 : Hid (2 ≤ q → DK S s f j q f j = al + gK S f j (leastK (gK S f j) (f + 1) (q - 2))) := hid fun h2 => by rw [DK_at h2, Hal.out]
                      clear HQ e1 e2 hr hj' hpp
                      generalize ct S f r = v1 at *
                      generalize ct S r (j + 1) = v2 at *
                      generalize gK S f j (f + q) = gq at *
                      generalize gK S f j (leastK (gK S f j) (f + 1) (q - 2)) = gk at *
                      generalize DK S s f j q f j = v3 at *
                      generalize PK S s f j q f j = v4 at *
                      generalize gc f = bC at *
                      generalize gc r = bR at *
                      generalize gp f = bP at *
                      by_cases hq2 : q = 1
                      · have hqI : ((q : Int) == 1) = true := by simp; omega
                        have HNq := hid fun u c hu hc => HN.out u c hu hc (.inl hq2)
                        obtain ⟨cv, hcv⟩ : ∃ cv, cv = al + gq := ⟨_, rfl⟩
                        have Hcv : Hid (cv = al + (v1 + v2)) := hid (by rw [hcv, Hg.out])
                        have Hcg := hid hcv
                        clear HN HKp HX3 hq2 hcv
                        have hp0 : (0 : Int) ≤ (p : Int) := by omega
                        have hpk : (p : Int) < (k : Int) := by omega
                        have hr0 : (0 : Int) ≤ (r : Int) := by omega
                        have hrk : (r : Int) < (k : Int) := by omega
                        have hf0 : (0 : Int) ≤ (f : Int) := by omega
                        have hfk : (f : Int) < (k : Int) := by omega
                        have hj0 : (0 : Int) ≤ (j : Int) := by omega
                        have hjk2 : (j : Int) < (k : Int) := by omega
                        have hw1 : IntKind.i64.wrap (r : Int) = (r : Int) := by rw [IntKind.wrap_i64]; omega
                        have hw2 : IntKind.i64.wrap (p : Int) = (p : Int) := by rw [IntKind.wrap_i64]; omega
                        go_wp2_with fail
                        go_region_held3 (fun w' => w'.cell? ⟨gC, f, none⟩ = some (.slice (some ⟨bC, 0, none⟩) k k) ∧ w'.cell? ⟨gC, r, none⟩ = some (.slice (some ⟨bR, 0, none⟩) k k) ∧ w'.cell? ⟨bC, p, none⟩ = some (.int .i64 v1) ∧ w'.cell? ⟨bR, j, none⟩ = some (.int .i64 v2)) (first | assumption | exact ⟨cO1, cO2, x1, x2⟩) (fail)
                        rw [wrap_sum3 halb bx1 bx2 Hcv.out]
                        go_wp2_with fail
                        go_roundw
                        case rel => exact ⟨q + 1, by omega, by omega, by go_num, hid (HNq.out _ _ (Only.refl _ _).drew Hcg.out)⟩
                        case measure => simp [intOf]; omega
                      · have hqI : ((q : Int) == 1) = false := by simp; omega
                        have hx3 := HX3.out (by omega)
                        obtain ⟨cv, hcv⟩ : ∃ cv, cv = al + gq := ⟨_, rfl⟩
                        have Hcv : Hid (cv = al + (v1 + v2)) := hid (by rw [hcv, Hg.out])
                        have Hcg := hid hcv
                        by_cases hlt : gq < gk
                        · have HNq := hid fun u c hu hc => HN.out u c hu hc (.inr hlt)
                          have hcl : cv < v3 := by omega
                          clear HN HKp HX3 hcv hx3 hlt
                          have hp0 : (0 : Int) ≤ (p : Int) := by omega
                          have hpk : (p : Int) < (k : Int) := by omega
                          have hr0 : (0 : Int) ≤ (r : Int) := by omega
                          have hrk : (r : Int) < (k : Int) := by omega
                          have hf0 : (0 : Int) ≤ (f : Int) := by omega
                          have hfk : (f : Int) < (k : Int) := by omega
                          have hj0 : (0 : Int) ≤ (j : Int) := by omega
                          have hjk2 : (j : Int) < (k : Int) := by omega
                          have hw1 : IntKind.i64.wrap (r : Int) = (r : Int) := by rw [IntKind.wrap_i64]; omega
                          have hw2 : IntKind.i64.wrap (p : Int) = (p : Int) := by rw [IntKind.wrap_i64]; omega
                          go_wp2_with fail
                          go_region_held3 (fun w' => w'.cell? ⟨gC, f, none⟩ = some (.slice (some ⟨bC, 0, none⟩) k k) ∧ w'.cell? ⟨gC, r, none⟩ = some (.slice (some ⟨bR, 0, none⟩) k k) ∧ w'.cell? ⟨bC, p, none⟩ = some (.int .i64 v1) ∧ w'.cell? ⟨bR, j, none⟩ = some (.int .i64 v2)) (first | assumption | exact ⟨cO1, cO2, x1, x2⟩) (fail)
                          rw [wrap_sum3 halb bx1 bx2 Hcv.out]
                          go_wp2_with fail
                          go_roundw
                          case rel => exact ⟨q + 1, by omega, by omega, by go_num, hid (HNq.out _ _ (Only.refl _ _).drew Hcg.out)⟩
                          case measure => simp [intOf]; omega
                        · have HKq := hid fun u hu => HKp.out u hu (by omega) hlt
                          have hcl : ¬ cv < v3 := by omega
                          clear HN HKp HX3 hcv hx3 hlt
                          have hp0 : (0 : Int) ≤ (p : Int) := by omega
                          have hpk : (p : Int) < (k : Int) := by omega
                          have hr0 : (0 : Int) ≤ (r : Int) := by omega
                          have hrk : (r : Int) < (k : Int) := by omega
                          have hf0 : (0 : Int) ≤ (f : Int) := by omega
                          have hfk : (f : Int) < (k : Int) := by omega
                          have hj0 : (0 : Int) ≤ (j : Int) := by omega
                          have hjk2 : (j : Int) < (k : Int) := by omega
                          have hw1 : IntKind.i64.wrap (r : Int) = (r : Int) := by rw [IntKind.wrap_i64]; omega
                          have hw2 : IntKind.i64.wrap (p : Int) = (p : Int) := by rw [IntKind.wrap_i64]; omega
                          go_wp2_with fail
                          go_region_held3 (fun w' => w'.cell? ⟨gC, f, none⟩ = some (.slice (some ⟨bC, 0, none⟩) k k) ∧ w'.cell? ⟨gC, r, none⟩ = some (.slice (some ⟨bR, 0, none⟩) k k) ∧ w'.cell? ⟨bC, p, none⟩ = some (.int .i64 v1) ∧ w'.cell? ⟨bR, j, none⟩ = some (.int .i64 v2)) (first | assumption | exact ⟨cO1, cO2, x1, x2⟩) (fail)
                          rw [wrap_sum3 halb bx1 bx2 Hcv.out]
                          go_wp2_with fail
                          go_roundw
                          case rel => exact ⟨q + 1, by omega, by omega, by go_num, hid (HKq.out _ (Only.refl _ _).drew)⟩
                          case measure => simp [intOf]; omega
                    · obtain rfl : q = s := by omega
                      have HF2 := hid (HQ.out.congr (D' := dC S q (f + 1)) (P' := dP S q (f + 1)) (fun a b _ hb => DK_end (n := k) hs2 Hj.out hp3 a b hb) (fun a b _ hb => PK_end (n := k) hs2 Hj.out hp3 a b hb))
                      clear HQ
                      go_wp2_with fail
                      go_roundw
                      case rel => exact ⟨f + 1, by omega, by go_num, HF2⟩
                      case measure => simp [intOf]; omega
            · have hp3' : ¬ (f : Int) + (s : Int) ≤ (k : Int) := by omega
              have HS3 := hid (HF.out.congr (D' := dC S (s + 1) 0) (P' := dP S (s + 1) 0) (fun i j _ hj => dC_size (n := k) hj (by omega)) (fun i j _ hj => dP_size (n := k) hj (by omega)))
              clear HF
              go_wp2_with fail
              go_roundw
              case rel => exact ⟨s + 1, by omega, by omega, by go_num, HS3⟩
              case measure => simp [intOf]; omega
        · obtain rfl : s = k + 1 := by omega
          have hp2' : ¬ ((k + 1 : Nat) : Int) ≤ (k : Int) := by omega
          have hgl := HT.out.only.size
          have HR : Hid (Calls Try.prog 77 #[.slice (some ⟨gP, 0, none⟩) k k, .slice (some ⟨wr.heap.size, 0, none⟩) k k, .int .i64 0, .int .i64 ((k : Int) - 1), .int .i64 0] (wr.alloc (.cells (madeCells #[.int .i64 0] k) 3)) fun e w' => e = .returned (.tuple #[]) ∧ Hid (w'.rowIs wr.heap.size 3 k (fun q => .int .i64 (dpt (rt S) 0 k q))) ∧ StO w w') := hid (by
            have ho : Only (fun _ => False) wr (wr.alloc (.cells (madeCells #[.int .i64 0] k) 3)) := (Only.refl _ wr).alloc _
            have ht := HT.out.st ho
            have := refRow_any (k - 1) gP wr.heap.size k 0 (k - 1) gp S (fun _ => 0) 0 _ (by omega) (by omega) (by omega) h257 ht.pO ht.p (fun i hi => by have := (HT.out.p i hi).lt; omega) (World.rowIs_made wr _ _ _) (by omega) (by omega)
            have e1 : ((k - 1 : Nat) : Int) = (k : Int) - 1 := by omega
            have e2 : k - 1 + 1 = k := by omega
            rw [e1, e2] at this
            refine this.mono fun e w' ⟨he, hx⟩ => ⟨he, hid (hx.out.1.congr fun q hq => ?_), hid ?_⟩
            · unfold outF
              rw [if_pos ⟨by omega, hq⟩, Int.zero_add]
            · have h1 := HT.out.only.trans ho
              have h2 := hx.out.2
              exact ⟨h2.os.trans h1.os, h2.tape.trans h1.tape, h2.output.trans h1.output, Nat.le_trans h1.size h2.size, fun q hq hf => (h2.block q (Nat.lt_of_lt_of_le hq h1.size) (fun e => by have e' : q = wr.heap.size := e; omega)).trans (h1.block q hq hf)⟩)
          clear HT
          go_wp2_with fail
          refine HR.out.mono ?_
          rintro e w9 ⟨rfl, HR9, HO9⟩
          go_wp2_with fail
          go_ret2
          exact HE.out _ _ hgl HO9 HR9.out
end Go.Proofs.Ythfnpgmjbfbocaa
