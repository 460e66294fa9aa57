/- Read. -/
import Derived.Test.YtmbcinbkijnblaaVecN
namespace Go.Proofs.Ytmbcinbkijnblaa.V1
open Go.RowKit
open Fen

theorem no_' : ¬ False := fun h => h
/-- A slice that reads as bytes. -/
def RdY (w : World) (A : Option Addr) (bs : List Nat) : Prop := (∀ j, bs.getD j 0 < 256) ∧ ∀ j, j < bs.length → ∃ b off, A = some ⟨b, off, none⟩ ∧ ∀ j, j < bs.length → w.cell? ⟨b, off + j, none⟩ = some (.int .u8 ((bs.getD j 0 : Nat) : Int))
theorem RdY.only {S : Nat → Prop} {w w' : World} {A : Option Addr} {bs : List Nat} (h : RdY w A bs) (ho : Only S w w') (hS : ∀ b off, A = some ⟨b, off, none⟩ → ¬ S b) : RdY w' A bs := by
  refine ⟨h.1, fun j hj => ?_⟩
  obtain ⟨b, off, hA, hc⟩ := h.2 j hj
  refine ⟨b, off, hA, fun i hi => ?_⟩
  have hci := hc i hi
  rw [ho.cell (cell_lt hci) (hS b off hA), hci]

/-- The bits of bytes. -/
def fB (bs : List Nat) (i : Nat) : Bool := (bs.getD (i / 8) 0).testBit (i % 8)
def fBk (bs : List Nat) (k i : Nat) : Bool := decide (i < 8 * k) && fB bs i
/-- Are they the bytes of n bits? -/
def shapeOk (n : Nat) (bs : List Nat) : Prop := bs.length = (n + 7) / 8 ∧ (n % 8 = 0 ∨ bs.getD (bs.length - 1) 0 / 2 ^ (n % 8) = 0)
theorem getDn_far (bs : List Nat) (i : Nat) (h : bs.length ≤ i) : bs.getD i 0 = 0 := by simp [List.getD, List.getElem?_eq_none h]
theorem fB_far {n : Nat} {bs : List Nat} (h : shapeOk n bs) (i : Nat) (hi : n ≤ i) : fB bs i = false := by
  obtain ⟨h1, h2⟩ := h
  unfold fB
  by_cases hl : bs.length ≤ i / 8
  · rw [getDn_far bs _ hl]; simp
  · have hm : n % 8 ≠ 0 := by omega
    have h3 := h2.resolve_left hm
    rw [show bs.length - 1 = i / 8 by omega] at h3
    have hlt : bs.getD (i / 8) 0 < 2 ^ (i % 8) := by
      have h4 := Nat.div_eq_zero_iff.1 h3
      have h5 : 2 ^ (n % 8) ≤ 2 ^ (i % 8) := Nat.pow_le_pow_right (by decide) (by omega)
      have := Nat.two_pow_pos (n % 8)
      omega
    exact Nat.testBit_lt_two_pow hlt
theorem fBk_all (bs : List Nat) : fBk bs bs.length = fB bs := by
  funext i
  unfold fBk
  by_cases h : i < 8 * bs.length
  · simp [h]
  · unfold fB
    rw [getDn_far bs _ (by omega)]; simp
theorem wordOf_byte (bs : List Nat) (k : Nat) (hb : bs.getD k 0 < 256) (j : Nat) : wordOf (fBk bs (k + 1)) j = if j = k / 8 then wordOf (fBk bs k) j ||| 2 ^ (k % 8 * 8) * bs.getD k 0 else wordOf (fBk bs k) j := by
  apply Nat.eq_of_testBit_eq
  intro i
  rw [testBit_wordOf]
  by_cases e : j = k / 8
  · rw [if_pos e, Nat.testBit_or, testBit_wordOf, Nat.testBit_two_pow_mul]
    by_cases hi : i < 64
    · unfold fBk
      by_cases h1 : 64 * j + i < 8 * k
      · have h2 : 64 * j + i < 8 * (k + 1) := by omega
        have h3 : ¬ i ≥ k % 8 * 8 := by omega
        simp [hi, h1, h2, h3]
      · by_cases h2 : 64 * j + i < 8 * (k + 1)
        · have h3 : i ≥ k % 8 * 8 := by omega
          unfold fB
          rw [show (64 * j + i) / 8 = k by omega, show (64 * j + i) % 8 = i - k % 8 * 8 by omega]
          simp [hi, h1, h2, h3]
        · have h3 : bs.getD k 0 < 2 ^ (i - k % 8 * 8) := by
            have : 2 ^ 8 ≤ 2 ^ (i - k % 8 * 8) := Nat.pow_le_pow_right (by decide) (by omega)
            omega
          rw [Nat.testBit_lt_two_pow h3]
          simp [h1, h2]
    · have h3 : bs.getD k 0 < 2 ^ (i - k % 8 * 8) := by
        have : 2 ^ 8 ≤ 2 ^ (i - k % 8 * 8) := Nat.pow_le_pow_right (by decide) (by omega)
        omega
      rw [Nat.testBit_lt_two_pow h3]
      simp [hi]
  · rw [if_neg e, testBit_wordOf]
    by_cases hi : i < 64
    · unfold fBk
      have : decide (64 * j + i < 8 * (k + 1)) = decide (64 * j + i < 8 * k) := by rw [decide_eq_decide]; omega
      rw [this]
    · simp [hi]
theorem IsBlank.storeB {w wr : World} {n : Nat} {bs : List Nat} (k : Nat) (hb : bs.getD k 0 < 256) (h : IsBlank w wr n (fBk bs k)) {z : Int} (hz : z = ((wordOf (fBk bs k) (k / 8) ||| 2 ^ (k % 8 * 8) * bs.getD k 0 : Nat) : Int)) :
    IsBlank w (wr.setCell ⟨w.heap.size, k / 8, none⟩ (.int .u64 z)) n (fBk bs (k + 1)) := by
  subst hz
  refine ⟨by simpa [World.setCell] using h.size, (h.words.set (k / 8) _).congr fun i _ => ?_, h.self.setOther (by simp) _, h.only.setCell (.inr (Nat.le_refl _)) _⟩
  rw [wordOf_byte bs k hb]
  by_cases e : i = k / 8
  · subst e; rw [if_pos rfl, if_pos rfl]
  · rw [if_neg e, if_neg e]

theorem orb_int (x y s : Nat) (hx : x < 18446744073709551616) (hy : y < 256) (hs : s ≤ 56) : bits .or .u64 (x : Int) (IntKind.u64.wrap ((y : Int) * 2 ^ s)) = ((x ||| 2 ^ s * y : Nat) : Int) := by
  have h56 : 2 ^ s ≤ 2 ^ 56 := Nat.pow_le_pow_right (by decide) hs
  have hlt : 2 ^ s * y < 18446744073709551616 := by
    have h1 : 2 ^ s * y ≤ 2 ^ 56 * 255 := Nat.mul_le_mul h56 (by omega)
    omega
  have e : (y : Int) * 2 ^ s = ((2 ^ s * y : Nat) : Int) := by rw [Nat.mul_comm]; simp
  rw [e, wrap_fit _ hlt]
  exact u64_or_nat x _ hx hlt

set_option maxHeartbeats 400000 in
theorem read_badN (n : Int) (v : Value) (w : World) (h : n < 0 ∨ 16777216 < n) :
    Calls Try.prog 65 #[.int .i64 n, v] w fun e w' => e = .returned (.tuple #[.pointer none, .int .i64 (if n < 0 then 2 else 3)]) ∧ w = w' := by
  have hx : ∃ x : Int, (if n < 0 then 2 else if 16777216 < n then 3 else 0) = x ∧ (if n < 0 then 2 else 3) = x ∧ (x = 2 ∨ x = 3) := by
    rcases h with h | h
    · exact ⟨2, by rw [if_pos h], by rw [if_pos h], .inl rfl⟩
    · exact ⟨3, by rw [if_neg (by omega), if_pos h], by rw [if_neg (by omega)], .inr rfl⟩
  obtain ⟨x, e1, e2, hx⟩ := hx
  rw [e2]
  have E1 := hid e1
  have hxb : (x != 0) = true := by rcases hx with rfl | rfl <;> rfl
  clear e1 e2 hx h
  go_enter Try.func65, Try.ntmps65
  go_wp2_with (go_at_call 95; refine (allowed_any n w).mono ?_; rintro e w' ⟨rfl, rfl⟩; rw [E1.out])
  go_ret2
  exact ⟨rfl, rfl⟩

set_option maxHeartbeats 1000000 in
theorem read_badL (n : Nat) (A : Option Addr) (L cap : Nat) (w : World) (hn : n ≤ 16777216) (hL : L ≠ (n + 7) / 8) (_hmax : L ≤ 9223372036854775807) :
    Calls Try.prog 65 #[.int .i64 (n : Int), .slice A L cap] w fun e w' => e = .returned (.tuple #[.pointer none, .int .i64 4]) ∧ w = w' := by
  have e1 : (if ((n : Nat) : Int) < 0 then 2 else if 16777216 < ((n : Nat) : Int) then 3 else 0 : Int) = 0 := by rw [if_neg (by omega), if_neg (by omega)]
  have E1 := hid e1
  have hb : (((L : Nat) : Int) != ((n : Int) + 8 - 1) / 8) = true := by rw [bne_iff_ne]; omega
  clear e1
  go_enter Try.func65, Try.ntmps65
  go_wp2_with (first | (go_at_call 95; refine (allowed_any n w).mono ?_; rintro e w' ⟨rfl, rfl⟩; rw [E1.out]) | (go_at_call 96; refine (pieces_any _ _ _ (by omega) (by omega) (by omega) (by omega)).mono ?_; rintro e w' ⟨rfl, rfl⟩))
  go_ret2
  exact ⟨rfl, rfl⟩

set_option maxHeartbeats 1000000 in
theorem read_badS (n x L cap b off : Nat) (w : World) (hn : n ≤ 16777216) (hL : L = (n + 7) / 8) (hm : n % 8 ≠ 0) (hc : w.cell? ⟨b, off + (L - 1), none⟩ = some (.int .u8 (x : Int))) (hx : x / 2 ^ (n % 8) ≠ 0) (hx8 : x < 256) :
    Calls Try.prog 65 #[.int .i64 (n : Int), .slice (some ⟨b, off, none⟩) L cap] w fun e w' => e = .returned (.tuple #[.pointer none, .int .i64 4]) ∧ w = w' := by
  have e1 : (if ((n : Nat) : Int) < 0 then 2 else if 16777216 < ((n : Nat) : Int) then 3 else 0 : Int) = 0 := by rw [if_neg (by omega), if_neg (by omega)]
  have E1 := hid e1
  have hb : (((L : Nat) : Int) != ((n : Int) + 8 - 1) / 8) = false := by rw [bne_eq_false_iff_eq]; omega
  have hL1 : 1 ≤ L := by omega
  have hL2 : L ≤ 2097152 := by omega
  have hm1 : 0 < (n : Int) % 8 := by omega
  have hx1 : (0 : Int) < (x : Int) / 2 ^ (n % 8) := by
    have e : (x : Int) / 2 ^ (n % 8) = ((x / 2 ^ (n % 8) : Nat) : Int) := by simp
    have := Nat.pos_of_ne_zero hx
    rw [e]
    generalize x / 2 ^ (n % 8) = q at this ⊢
    omega
  have hxi : (x : Int) < 256 := by omega
  clear e1 hL hm hx hx8
  go_enter Try.func65, Try.ntmps65
  go_wp2_with (first | (go_at_call 95; refine (allowed_any n w).mono ?_; rintro e w' ⟨rfl, rfl⟩; rw [E1.out]) | (go_at_call 96; refine (pieces_any _ _ _ (by omega) (by omega) (by omega) (by omega)).mono ?_; rintro e w' ⟨rfl, rfl⟩))
  go_ret2
  exact ⟨rfl, rfl⟩

set_option maxHeartbeats 2000000 in
theorem read_loop (n cap : Nat) (A : Option Addr) (bs : List Nat) (w : World) (hr : RdY w A bs) (hn : n ≤ 16777216) (hs : shapeOk n bs)
    (hguard : (n % 8 = 0 ∧ A = A) ∨ (n % 8 ≠ 0 ∧ ∃ b off x : Nat, A = some ⟨b, off, none⟩ ∧ w.cell? ⟨b, off + (bs.length - 1), none⟩ = some (.int .u8 (x : Int)) ∧ x / 2 ^ (n % 8) = 0 ∧ x < 256)) :
    Calls Try.prog 65 #[.int .i64 (n : Int), .slice A bs.length cap] w (Made w n (fB bs)) := by
  have e1 : (if ((n : Nat) : Int) < 0 then 2 else if 16777216 < ((n : Nat) : Int) then 3 else 0 : Int) = 0 := by rw [if_neg (by omega), if_neg (by omega)]
  have E1 := hid e1
  have HF := hid (fun i hi => fB_far hs i hi)
  have HY := hid hr
  obtain ⟨hs1, hs2⟩ := hs
  obtain ⟨L, hL⟩ : ∃ L, L = bs.length := ⟨_, rfl⟩
  rw [← hL] at hs1 hguard ⊢
  have HL := hid hL
  have hb : (((L : Nat) : Int) != ((n : Int) + 8 - 1) / 8) = false := by rw [bne_eq_false_iff_eq]; omega
  have hL2 : L ≤ 2097152 := by omega
  have hLW : Hid (∀ k, k < L → k / 8 < nw n) := hid fun k hk => by unfold nw; omega
  clear e1 hr hL hs2
  rcases hguard with ⟨hm, _⟩ | ⟨hm, b0, off0, x0, rfl, hc0, hx0, hx08⟩
  · have hm1 : ¬ 0 < (n : Int) % 8 := by omega
    clear hm hs1
    go_enter Try.func65, Try.ntmps65
    go_wp2_with (first | (go_at_call 95; refine (allowed_any n w).mono ?_; rintro e w' ⟨rfl, rfl⟩; rw [E1.out]) | (go_at_call 96; refine (pieces_any _ _ _ (by omega) (by omega) (by omega) (by omega)).mono ?_; rintro e w' ⟨rfl, rfl⟩) | (go_at_call 97; refine (blank_any n w hn).mono ?_; rintro e w1 ⟨rfl, hbl⟩))
    clear hm1
    go_loopw [41] (fun s wr => ∃ k : Nat, k ≤ L ∧ s = .int .i64 k ∧ Hid (IsBlank w wr n (fBk bs k))) (fun s _ => L - (intOf s).toNat)
    case atStart => exact ⟨0, by omega, rfl, by have e : fBk bs 0 = fun _ => false := (by funext i; simp [fBk]); rw [e]; exact hbl⟩
    case round =>
      obtain ⟨k, hk, rfl, HR⟩ := hrel
      clear hbl hb
      by_cases hp : k < L
      · obtain ⟨b, off, hAe, hcw⟩ := HY.out.2 k (by rw [← HL.out]; exact hp)
        have hc1 := hcw k (by rw [← HL.out]; exact hp)
        have hc := (HR.out.only.cell (p := ⟨b, off + k, none⟩) (cell_lt hc1) no_').trans hc1
        clear hcw hc1
        cases hAe
        have hy := HY.out.1 k
        have hkW := hLW.out k hp
        have c3 := HR.out.self.cell (i := 3) (by omega)
        simp only [bcell] at c3
        have dk := HR.out.words.cell hkW
        have fz := HR.out.words.frozen (k / 8)
        have hlt := wordOf_lt (fBk bs k) (k / 8)
        have HN : Hid (∀ z : Int, z = ((wordOf (fBk bs k) (k / 8) ||| 2 ^ (k % 8 * 8) * bs.getD k 0 : Nat) : Int) → IsBlank w (wr.setCell ⟨w.heap.size, k / 8, none⟩ (.int .u64 z)) n (fBk bs (k + 1))) := hid fun z hz => HR.out.storeB k hy hz
        clear HR
        generalize wordOf (fBk bs k) (k / 8) = x at dk hlt HN
        generalize bs.getD k 0 = y at hc hy HN
        have hwk : IntKind.i64.wrap ((k : Int) / 8) = (k : Int) / 8 := by rw [IntKind.wrap_i64]; omega
        have hk0 : 0 ≤ (k : Int) / 8 := by omega
        have hkW' : (k : Int) / 8 < ((nw n : Nat) : Int) := by omega
        have hkn : ((k : Int) / 8).toNat = k / 8 := by omega
        have hyw : IntKind.u64.wrap (y : Int) = (y : Int) := by rw [IntKind.wrap_u64]; omega
        go_wp2
        go_region
        all_goals go_wp2
        go_roundw
        case rel => exact ⟨k + 1, by omega, by go_num, hid (HN.out _ (orb_int x y (k % 8 * 8) hlt hy (by omega))).drew⟩
        case measure => simp [intOf]; omega
      · obtain rfl : k = L := by omega
        have HR2 : Hid (IsBlank w wr n (fB bs)) := hid (by have h := HR.out; rw [HL.out, fBk_all] at h; exact h)
        clear HR
        go_wp2_with fail
        refine (count_any (w.heap.size + 1) w.heap.size n (fB bs) _ wr hn HF.out HR2.out.self rfl HR2.out.words).mono ?_
        rintro e w2 ⟨rfl, c1, c2, c3, c4⟩
        have HM := hid (HR2.out.made hn HF.out c1 c2 c3 c4)
        clear c1 c2 c3 c4
        go_wp2_with fail
        go_ret2
        exact HM.out
  · have hm1 : 0 < (n : Int) % 8 := by omega
    have hL1 : 1 ≤ L := by omega
    have hx1 : (x0 : Int) / 2 ^ (n % 8) = 0 := by
      have e : (x0 : Int) / 2 ^ (n % 8) = ((x0 / 2 ^ (n % 8) : Nat) : Int) := by simp
      rw [e, hx0]; rfl
    have hxi : (x0 : Int) < 256 := by omega
    clear hm hs1 hx0 hx08
    go_enter Try.func65, Try.ntmps65
    go_wp2_with (first | (go_at_call 95; refine (allowed_any n w).mono ?_; rintro e w' ⟨rfl, rfl⟩; rw [E1.out]) | (go_at_call 96; refine (pieces_any _ _ _ (by omega) (by omega) (by omega) (by omega)).mono ?_; rintro e w' ⟨rfl, rfl⟩) | (go_at_call 97; refine (blank_any n w hn).mono ?_; rintro e w1 ⟨rfl, hbl⟩))
    clear hm1 hL1 hx1 hxi hc0
    go_loopw [41] (fun s wr => ∃ k : Nat, k ≤ L ∧ s = .int .i64 k ∧ Hid (IsBlank w wr n (fBk bs k))) (fun s _ => L - (intOf s).toNat)
    case atStart => exact ⟨0, by omega, rfl, by have e : fBk bs 0 = fun _ => false := (by funext i; simp [fBk]); rw [e]; exact hbl⟩
    case round =>
      obtain ⟨k, hk, rfl, HR⟩ := hrel
      clear hbl hb
      by_cases hp : k < L
      · obtain ⟨b, off, hAe, hcw⟩ := HY.out.2 k (by rw [← HL.out]; exact hp)
        have hc1 := hcw k (by rw [← HL.out]; exact hp)
        have hc := (HR.out.only.cell (p := ⟨b, off + k, none⟩) (cell_lt hc1) no_').trans hc1
        clear hcw hc1
        cases hAe
        have hy := HY.out.1 k
        have hkW := hLW.out k hp
        have c3 := HR.out.self.cell (i := 3) (by omega)
        simp only [bcell] at c3
        have dk := HR.out.words.cell hkW
        have fz := HR.out.words.frozen (k / 8)
        have hlt := wordOf_lt (fBk bs k) (k / 8)
        have HN : Hid (∀ z : Int, z = ((wordOf (fBk bs k) (k / 8) ||| 2 ^ (k % 8 * 8) * bs.getD k 0 : Nat) : Int) → IsBlank w (wr.setCell ⟨w.heap.size, k / 8, none⟩ (.int .u64 z)) n (fBk bs (k + 1))) := hid fun z hz => HR.out.storeB k hy hz
        clear HR
        generalize wordOf (fBk bs k) (k / 8) = x at dk hlt HN
        generalize bs.getD k 0 = y at hc hy HN
        have hwk : IntKind.i64.wrap ((k : Int) / 8) = (k : Int) / 8 := by rw [IntKind.wrap_i64]; omega
        have hk0 : 0 ≤ (k : Int) / 8 := by omega
        have hkW' : (k : Int) / 8 < ((nw n : Nat) : Int) := by omega
        have hkn : ((k : Int) / 8).toNat = k / 8 := by omega
        have hyw : IntKind.u64.wrap (y : Int) = (y : Int) := by rw [IntKind.wrap_u64]; omega
        go_wp2
        go_region
        all_goals go_wp2
        go_roundw
        case rel => exact ⟨k + 1, by omega, by go_num, hid (HN.out _ (orb_int x y (k % 8 * 8) hlt hy (by omega))).drew⟩
        case measure => simp [intOf]; omega
      · obtain rfl : k = L := by omega
        have HR2 : Hid (IsBlank w wr n (fB bs)) := hid (by have h := HR.out; rw [HL.out, fBk_all] at h; exact h)
        clear HR
        go_wp2_with fail
        refine (count_any (w.heap.size + 1) w.heap.size n (fB bs) _ wr hn HF.out HR2.out.self rfl HR2.out.words).mono ?_
        rintro e w2 ⟨rfl, c1, c2, c3, c4⟩
        have HM := hid (HR2.out.made hn HF.out c1 c2 c3 c4)
        clear c1 c2 c3 c4
        go_wp2_with fail
        go_ret2
        exact HM.out

theorem read_ok (n cap : Nat) (A : Option Addr) (bs : List Nat) (w : World) (hr : RdY w A bs) (hn : n ≤ 16777216) (hs : shapeOk n bs) :
    Calls Try.prog 65 #[.int .i64 (n : Int), .slice A bs.length cap] w (Made w n (fB bs)) := by
  refine read_loop n cap A bs w hr hn hs ?_
  by_cases hm : n % 8 = 0
  · exact .inl ⟨hm, rfl⟩
  · have hl : 0 < bs.length := by have := hs.1; omega
    obtain ⟨b, off, hA, hc⟩ := hr.2 (bs.length - 1) (by omega)
    exact .inr ⟨hm, b, off, _, hA, hc (bs.length - 1) (by omega), hs.2.resolve_left hm, hr.1 _⟩
theorem read_bad (n cap : Nat) (A : Option Addr) (bs : List Nat) (w : World) (hr : RdY w A bs) (hn : n ≤ 16777216) (hs : ¬ shapeOk n bs) (hl : bs.length ≤ 9223372036854775807) :
    Calls Try.prog 65 #[.int .i64 (n : Int), .slice A bs.length cap] w fun e w' => e = .returned (.tuple #[.pointer none, .int .i64 4]) ∧ w = w' := by
  by_cases h1 : bs.length = (n + 7) / 8
  · have hm : n % 8 ≠ 0 := fun h => hs ⟨h1, .inl h⟩
    have hx : bs.getD (bs.length - 1) 0 / 2 ^ (n % 8) ≠ 0 := fun h => hs ⟨h1, .inr h⟩
    obtain ⟨b, off, rfl, hc⟩ := hr.2 (bs.length - 1) (by omega)
    exact read_badS n _ bs.length cap b off w hn h1 hm (hc (bs.length - 1) (by omega)) hx (hr.1 _)
  · exact read_badL n A bs.length cap w hn h1 hl
end Go.Proofs.Ytmbcinbkijnblaa.V1
