/- The document's sum: bit by bit; rows joined, sealed, opened. -/
import Derived.Test.YthfelifcikiogaaDoorSu4
import Derived.RegionTactic
namespace Go.Proofs.YthfelifcikiogaaDoor
open Go.RowKit
open Cr

theorem Tn_succ (k x : Nat) : Tn (k + 1) x = T (Tn k x) := Tn_add k 1 x
/-- The document's register, k bits of a byte further. -/
def rb (r b k : Nat) : Nat := Tn k (r ^^^ b) ^^^ b / 2 ^ k
theorem rb_zero (r b : Nat) : rb r b 0 = r := by
  show r ^^^ b ^^^ b / 2 ^ 0 = r
  rw [Nat.pow_zero, Nat.div_one, Nat.xor_assoc, Nat.xor_self, Nat.xor_zero]
theorem rb_eight (r b : Nat) (h : b < 256) : rb r b 8 = step8 r b := by
  unfold rb step8
  rw [Nat.div_eq_of_lt (by omega), Nat.xor_zero]
theorem xor_cancel (a b : Nat) : a ^^^ b ^^^ b = a := by rw [Nat.xor_assoc, Nat.xor_self, Nat.xor_zero]
theorem rb_succ (r b k : Nat) : rb r b (k + 1) = rb r b k / 2 ^^^ (if rb r b k % 2 = b / 2 ^ k % 2 then 0 else P) := by
  have h : Tn k (r ^^^ b) = rb r b k ^^^ b / 2 ^ k := by unfold rb; rw [xor_cancel]
  have h2 : rb r b (k + 1) = T (rb r b k ^^^ b / 2 ^ k) ^^^ b / 2 ^ (k + 1) := by
    rw [← h, ← Tn_succ]; rfl
  rw [h2]
  generalize rb r b k = x
  have h3 : b / 2 ^ (k + 1) = b / 2 ^ k / 2 := by rw [Nat.pow_succ, Nat.div_div_eq_div_mul]
  rw [h3]
  generalize b / 2 ^ k = y
  unfold T
  rw [xor_div2]
  have hm := xor_mod2 x y
  rw [Nat.xor_assoc (x / 2), Nat.xor_comm (y / 2) _, Nat.xor_assoc, xor_cancel]
  congr 1
  by_cases hx : x % 2 = 1 <;> by_cases hy : y % 2 = 1
  · rw [if_neg (by rw [hm]; simp [hx, hy]), if_pos (by omega)]
  · rw [if_pos (by rw [hm]; simp [hx, hy]), if_neg (by omega)]
  · rw [if_pos (by rw [hm]; simp [hx, hy]), if_neg (by omega)]
  · rw [if_neg (by rw [hm]; simp [hx, hy]), if_pos (by omega)]
theorem rb_lt {r b k : Nat} (hr : r < 4294967296) (hb : b < 256) : rb r b k < 4294967296 := by
  refine Nat.xor_lt_two_pow (n := 32) (Tn_lt (Nat.xor_lt_two_pow hr (by omega))) (Nat.lt_of_le_of_lt (Nat.div_le_self _ _) (by omega))

def Quiet2 (v : Value) (w : World) (e : Ending) (w' : World) : Prop := e = .returned v ∧ w = w'
set_option maxHeartbeats 1000000 in
theorem refSumOf {cap : Nat} {A : Option Addr} {bs : List Nat} {w : World} (hr : RdY w A bs) (hB : ∀ b ∈ bs, b < 256) (hl : bs.length ≤ 9223372036854775807) :
    Calls Tryd.prog 15 #[.slice A bs.length cap] w (Quiet2 (.int .u32 ((crc bs : Nat) : Int)) w) := by
  have HR := hid hr
  have HB := hid hB
  have HE : Hid (reg 4294967295 (bs.take bs.length) ^^^ 4294967295 = crc bs) := hid (by rw [List.take_length]; rfl)
  have HL : Hid (∀ k, reg 4294967295 (bs.take k) < 4294967296) := hid fun k => reg_lt begin_lt fun x hx => hB x (List.mem_of_mem_take hx)
  unfold Quiet2
  clear hr hB
  generalize crc bs = res at HE
  go_enter Tryd.func15, Tryd.ntmps15
  go_wp2
  go_loopw [3, 4] (fun z s wr => ∃ i : Nat, i ≤ bs.length ∧ s = .int .i64 i ∧ z = .int .u32 ((reg 4294967295 (bs.take i) : Nat) : Int) ∧ w = wr) (fun _ s _ => bs.length - (intOf s).toNat)
  case atStart => exact ⟨0, by omega, rfl, rfl, rfl⟩
  case round =>
    obtain ⟨i, hi, rfl, rfl, rfl⟩ := hrel
    by_cases hp : i < bs.length
    · obtain ⟨b, off, h1, d1, _⟩ := HR.out.at hp
      have hx : bs.getD i 0 < 256 := HB.out _ (getDn_mem hp)
      have hr0 := HL.out i
      have HN : Hid (rb (reg 4294967295 (bs.take i)) (bs.getD i 0) 8 = reg 4294967295 (bs.take (i + 1))) := hid (by rw [take_snoc hp, reg_snoc, rb_eight _ _ hx])
      have HZ := hid (rb_zero (reg 4294967295 (bs.take i)) (bs.getD i 0))
      unfold vY at d1
      subst h1
      generalize reg 4294967295 (bs.take i) = r at hr0 HN HZ ⊢
      generalize bs.getD i 0 = x at hx d1 HN HZ
      have HLk := hid fun k => rb_lt (k := k) hr0 hx
      go_wp2_with fail
      go_loopw [3, 5] (fun z s wr => ∃ k : Nat, k ≤ 8 ∧ s = .int .i64 k ∧ z = .int .u32 ((rb r x k : Nat) : Int) ∧ w = wr) (fun _ s _ => 8 - (intOf s).toNat)
      case atStart => exact ⟨0, by omega, rfl, by rw [HZ.out], rfl⟩
      case round =>
        obtain ⟨k, hk, rfl, rfl, rfl⟩ := hrel
        by_cases hq : k < 8
        · have hy := HLk.out k
          have HSu := hid (rb_succ r x k)
          have htm : ((x : Int) / 2 ^ k).tmod 2 % 4294967296 = ((x / 2 ^ k % 2 : Nat) : Int) := by
            rw [show (x : Int) / 2 ^ k = ((x / 2 ^ k : Nat) : Int) by simp]
            generalize x / 2 ^ k = q
            rw [Int.tmod_eq_emod_of_nonneg (by omega)]; omega
          generalize rb r x k = y at hy HSu ⊢
          have hdv : (y : Int) / 2 % 4294967296 = ((y / 2 : Nat) : Int) := by omega
          generalize x / 2 ^ k % 2 = u at htm HSu
          by_cases hc : y % 2 = u
          · have hb : ((y : Int) % 2 != ((x : Int) / 2 ^ k).tmod 2 % 4294967296) = false := by rw [htm]; simp; omega
            rw [if_pos hc, Nat.xor_zero] at HSu
            clear htm
            go_wp2_with fail
            go_roundw
            case rel => exact ⟨k + 1, by omega, by go_num, by rw [HSu.out, show (y : Int) / 2 = ((y / 2 : Nat) : Int) by omega], trivial⟩
            case measure => simp [intOf]; omega
          · have hb : ((y : Int) % 2 != ((x : Int) / 2 ^ k).tmod 2 % 4294967296) = true := by rw [htm]; simp; omega
            rw [if_neg hc] at HSu
            have hx2 : bits .xor .u32 ((y / 2 : Nat) : Int) 3988292384 = ((y / 2 ^^^ P : Nat) : Int) := u32_xor_nat (y / 2) P (by omega) (by unfold P; omega)
            clear htm
            go_wp2_with fail
            go_roundw
            case rel => exact ⟨k + 1, by omega, by go_num, by rw [HSu.out, show (y : Int) / 2 = ((y / 2 : Nat) : Int) by omega, hx2], trivial⟩
            case measure => simp [intOf]; omega
        · obtain rfl : k = 8 := by omega
          rw [HN.out]
          go_wp2_with fail
          go_roundw
          case rel => exact ⟨i + 1, by omega, by go_num, rfl, trivial⟩
          case measure => simp [intOf]; omega
    · obtain rfl : i = bs.length := by omega
      have hrr := HL.out bs.length
      have HEx : Hid (bits .xor .u32 ((reg 4294967295 (bs.take bs.length) : Nat) : Int) 4294967295 = (res : Int)) := hid (by rw [← HE.out]; exact u32_xor_nat _ 4294967295 hrr begin_lt)
      clear hrr
      generalize reg 4294967295 (bs.take bs.length) = r at HEx ⊢
      go_wp2_with fail
      go_ret
      exact ⟨ret_int HEx.out, rfl⟩

set_option maxHeartbeats 1000000 in
theorem refJoin {cap : Nat} {A : Option Addr} {L : List (List Nat)} {aF : Nat → Option Addr} {cF : Nat → Nat} {w : World} (hr : RdR w A L aF cF) (hL : L.length ≤ 16777216) (hf : L.flatten.length ≤ 16777216) :
    Calls Tryd.prog 10 #[.slice A L.length cap] w fun e w' => ∃ v, e = .returned v ∧ Hid (OwY w w' v L.flatten) := by
  have HR := hid hr
  have HLen := hid fun k => jn_len_le (L := L) k
  have HJ := hid fun k (hk : k < L.length) => jn_succ hk
  have HJl := hid fun k (hk : k < L.length) => congrArg List.length (jn_succ hk)
  have HE : Hid (jn L L.length = L.flatten) := hid (jn_all L)
  have HZ : Hid (jn L 0 = []) := hid (jn_zero L)
  have HO := hid (OwY.begin (Only.refl (fun _ => False) w))
  clear hr
  generalize L.flatten = res at HE HLen hf
  go_enter Tryd.func10, Tryd.ntmps10
  go_wp2
  go_loopw [3, 4] (fun z s wr => ∃ k : Nat, k ≤ L.length ∧ s = .int .i64 k ∧ Hid (OwY w wr z (jn L k))) (fun _ s _ => L.length - (intOf s).toNat)
  case atStart => exact ⟨0, by omega, rfl, hid (by rw [HZ.out]; exact HO.out)⟩
  case round =>
    obtain ⟨k, hk, rfl, HV⟩ := hrel
    clear HO
    by_cases hp : k < L.length
    · have HRw : Hid (RdR wr A L aF cF) := hid (HR.out.only HV.out.only)
      obtain ⟨b, off, h1, d1, _⟩ := HRw.out.out.at hp
      have HRk : Hid (RdY wr (aF k) (L.getD k [])) := hid (HRw.out.row k hp)
      have hl1 := HLen.out (k + 1)
      have hl2 := HJl.out k hp
      rw [List.length_append] at hl2
      rw [hl2] at hl1
      have HJk := hid (HJ.out k hp)
      have HNil := hid (HR.out.nil k hp)
      subst h1
      clear HRw hl2
      generalize jn L k = jk at HV hl1 HJk
      generalize L.getD k [] = ys at HRk hl1 HJk d1 HNil
      generalize aF k = ak at HRk d1 HNil
      generalize cF k = ck at d1 HNil
      go_wp2_with (at_builtin; refine wpList_addY w wr rfl (.tmp 12) (.tmp 16) rfl _ jk rfl HV ak ys.length ck ys rfl rfl HNil HRk (by omega) ?_; intro v2 w2 HO2)
      go_roundw
      case rel => exact ⟨k + 1, by omega, by go_num, hid (by rw [HJk.out]; exact HO2.out)⟩
      case measure => simp [intOf]; omega
    · obtain rfl : k = L.length := by omega
      rw [HE.out] at HV
      go_wp2_with fail
      go_ret
      exact ⟨_, rfl, HV⟩

theorem foot_new (w : World) (n : Nat) : RdY (w.alloc (.cells #[.int .u8 ((n % 256 : Nat) : Int), .int .u8 ((n / 256 % 256 : Nat) : Int), .int .u8 ((n / 65536 % 256 : Nat) : Int), .int .u8 ((n / 16777216 % 256 : Nat) : Int)] 5)) (some ⟨w.heap.size, 0, none⟩) (foot n) :=
  RdV.of_row (World.rowIs_alloc w _ _ (vY (foot n)) fun i hi => by
    match i, hi with
    | 0, _ => rfl
    | 1, _ => rfl
    | 2, _ => rfl
    | 3, _ => rfl
    | k + 4, hi => exact absurd hi (by simp))
set_option maxHeartbeats 1000000 in
theorem refSeal {cap : Nat} {A : Option Addr} {bs : List Nat} {w : World} (hr : RdY w A bs) (hA : A = none → bs.length = 0 ∧ cap = 0) (hB : ∀ b ∈ bs, b < 256) (hl : bs.length ≤ 10000000) :
    Calls Tryd.prog 17 #[.slice A bs.length cap] w fun e w' => ∃ v, e = .returned v ∧ Hid (OwY w w' v (sealed bs)) := by
  have HOf := hid (refSumOf (cap := cap) hr hB (by omega))
  have hq : crc bs < 4294967296 := crc_lt hB
  have HO := hid (OwY.begin (Only.refl (fun _ => False) w))
  have HR : Hid (RdY (w.alloc (.cells #[] 5)) A bs) := hid (hr.only ((Only.refl _ w).alloc _) fun _ _ _ => no_)
  have HA := hid hA
  have HE : Hid (∀ w' v, OwY w w' v ([] ++ bs ++ foot (crc bs)) → OwY w w' v (sealed bs)) := hid fun _ _ h => h
  have HFo : Hid (∀ v, Only (fun _ => False) w v → RdY (v.alloc (.cells #[.int .u8 ((crc bs % 256 : Nat) : Int), .int .u8 ((crc bs / 256 % 256 : Nat) : Int), .int .u8 ((crc bs / 65536 % 256 : Nat) : Int), .int .u8 ((crc bs / 16777216 % 256 : Nat) : Int)] 5)) (some ⟨v.heap.size, 0, none⟩) (foot (crc bs))) := hid fun v _ => foot_new v _
  have HEn : Hid (∀ v o, OwY w v o ([] ++ bs) → ∀ ob, OwY w (v.alloc ob) o ([] ++ bs)) := hid fun v o h ob => h.carry ((Only.refl _ v).alloc ob)
  have hl0 : ([] ++ bs).length ≤ 10000000 := hl
  clear hr hA hB
  generalize sealed bs = res at HE
  generalize crc bs = q at HE HOf HFo hq
  have h4 : (q : Int) / 16777216 = ((q / 16777216 % 256 : Nat) : Int) := by omega
  have h3 : (q : Int) / 65536 % 256 = ((q / 65536 % 256 : Nat) : Int) := by omega
  have h2 : (q : Int) / 256 % 256 = ((q / 256 % 256 : Nat) : Int) := by omega
  have h1 : (q : Int) % 256 = ((q % 256 : Nat) : Int) := by omega
  have H4 := hid h4
  have H3 := hid h3
  have H2 := hid h2
  have H1 := hid h1
  clear h1 h2 h3 h4
  go_enter Tryd.func17, Tryd.ntmps17
  go_wp2_with fail
  refine HOf.out.mono ?_
  rintro e w1 ⟨rfl, rfl⟩
  go_wp2_with (at_builtin; first
    | (refine wpList_addY w _ rfl (.tmp 6) (.tmp 7) rfl _ [] rfl HO A bs.length cap bs rfl rfl HA HR (by simp; omega) ?_; intro v2 w2 HO2)
    | (rw [H4.out, H3.out, H2.out, H1.out]; refine wpList_addY w _ rfl (.tmp 8) (.tmp 20) rfl v2 ([] ++ bs) rfl (hid (HEn.out _ _ HO2.out _)) (some ⟨w2.heap.size, 0, none⟩) 4 4 (foot q) rfl rfl (hid (fun h => by cases h)) (hid (HFo.out w2 HO2.out.only)) (by rw [Cr.foot_len]; omega) ?_; intro v3 w3 HO3))
  go_ret
  exact ⟨_, rfl, hid (HE.out _ _ HO3.out)⟩

theorem refOpen_short {cap : Nat} {A : Option Addr} {bs : List Nat} {w : World} (h4 : bs.length < 4) :
    Calls Tryd.prog 13 #[.slice A bs.length cap] w (OpenE w bs) := by
  have HE : Hid (opened bs = (4, [])) := hid (by unfold opened; rw [if_pos h4])
  unfold OpenE
  rw [HE.out]
  generalize bs.length = n at h4
  go_enter Tryd.func13, Tryd.ntmps13
  go_wp2
  go_ret2
  exact ⟨_, rfl, hid (ow_nil (Only.refl _ w))⟩
set_option maxHeartbeats 2000000 in
theorem refOpen_long {cap : Nat} {A : Option Addr} {bs : List Nat} {w : World} (hr : RdY w A bs) (hB : ∀ b ∈ bs, b < 256) (h4 : 4 ≤ bs.length) (hl : bs.length ≤ 10000000) (hc : bs.length ≤ cap) :
    Calls Tryd.prog 13 #[.slice A bs.length cap] w (OpenE w bs) := by
  obtain ⟨b, off, rfl, hcell⟩ := hr (by omega)
  obtain ⟨xs, ys, e1, e2, e3, e4, e5⟩ := split4 h4
  have hBx : ∀ b ∈ xs, b < 256 := fun b hb => hB b (by rw [e1]; exact List.mem_append_left _ hb)
  have HE1 : Hid (bs = sealed xs → opened bs = (0, xs)) := hid fun h => by
    have h2 : ys = foot (crc xs) := List.append_cancel_left (show xs ++ ys = xs ++ foot (crc xs) by rw [← e1]; exact h)
    unfold opened; rw [if_neg (by omega), e3, e4, if_pos h2]
  have HE2 : Hid (bs ≠ sealed xs → opened bs = (7, [])) := hid fun h => by
    have h2 : ¬ ys = foot (crc xs) := fun h2 => h (by rw [e1, h2]; rfl)
    unfold opened; rw [if_neg (by omega), e3, e4, if_neg h2]
  have hrx : RdY w (some ⟨b, off, none⟩) xs := fun _ => ⟨b, off, rfl, fun j hj => by
    rw [hcell j (by omega), e1]; simp [vY, List.getD, List.getElem?_append_left hj]⟩
  have HRx : Hid (RdY (w.alloc (.cells #[] 5)) (some ⟨b, off, none⟩) xs) := hid (hrx.only ((Only.refl _ w).alloc _) fun _ _ _ => no_)
  have HO := hid (OwY.begin (Only.refl (fun _ => False) w))
  have HSl : Hid (∀ v A c, RdY v A xs → (A = none → xs.length = 0 ∧ c = 0) → Calls Tryd.prog 17 #[.slice A xs.length c] v fun e w' => ∃ o, e = .returned o ∧ Hid (OwY v w' o (sealed xs))) := hid fun v A c h hA => refSeal h hA hBx (by omega)
  have hsl : (sealed xs).length = bs.length := by rw [sealed_len, e5]
  have HBs : Hid (∀ j, bs.getD j 0 < 256) := hid (byts_of hB)
  have HSs : Hid (∀ j, (sealed xs).getD j 0 < 256) := hid (byts_of (sealed_lt hBx))
  have HSame : Hid ((∀ j, j < bs.length → bs.getD j 0 = (sealed xs).getD j 0) → bs = sealed xs) := hid fun h => by
    apply List.ext_getElem (by rw [hsl])
    intro i h1 h2
    have := h i h1
    simpa [List.getD, h1, h2] using this
  have HR := hid hr
  unfold OpenE
  have hk : (bs.length : Int) - 4 = (xs.length : Int) := by omega
  have hx10 : xs.length ≤ 10000000 := by omega
  clear hr hB hBx hrx hcell e1 e2 e3 e4
  generalize sealed xs = ss at HE1 HE2 HSl hsl HSs HSame
  obtain ⟨n, hn⟩ : ∃ n, n = bs.length := ⟨_, rfl⟩
  rw [← hn] at hk hl hc h4 hsl HSame ⊢
  have HN := hid hn
  have HNs := hid hsl
  clear hn hsl
  obtain ⟨k, hkx⟩ : ∃ k, k = xs.length := ⟨_, rfl⟩
  rw [← hkx] at hk hx10
  have HK := hid hkx
  clear hkx e5
  have g0 : (0 : Int) ≤ (k : Int) := by omega
  have g1 : (k : Int) ≤ (n : Int) := by omega
  have g2 : k ≤ cap := by omega
  have g3 : (k : Int) ≤ (cap : Int) := by omega
  have g4 : (n : Int) ≤ (cap : Int) := by omega
  have g5 : ¬ (n : Int) < 4 := by omega
  go_enter Tryd.func13, Tryd.ntmps13
  go_wp2_with (at_builtin; refine wpList_addY w _ rfl (.tmp 10) (.tmp 15) rfl _ [] rfl HO (some ⟨b, off, none⟩) k cap xs rfl HK.out (hid (fun h => by cases h)) HRx (by simp; have := HK.out; omega) ?_; intro v2 w2 HO2)
  rw [List.nil_append] at HO2
  obtain ⟨A1, cap1, rfl, h1, h2, _⟩ := HO2.out.shape
  have HC2 := hid (HSl.out w2 A1 cap1 h1 h2)
  clear h1 h2 HSl
  refine HC2.out.mono ?_
  rintro e w3 ⟨v3, rfl, HO3⟩
  obtain ⟨A3, cap3, rfl, h1, h2, _⟩ := HO3.out.shape
  have HR3 : Hid (RdV w3 A3 n (vY ss)) := hid (by rw [← HNs.out]; exact h1)
  rw [HNs.out]
  have HX3 : Hid (OwY w w3 (.slice A1 xs.length cap1) xs) := hid (HO2.out.carry HO3.out.only)
  have HB3 : Hid (RdV w3 (some ⟨b, off, none⟩) n (vY bs)) := hid (by rw [HN.out]; exact HR.out.only HX3.out.only fun _ _ _ => no_)
  clear h1 h2 HC2 HO2 HO3 HO HRx HR
  generalize Value.slice A1 xs.length cap1 = v2 at HX3 ⊢
  go_wp2_with fail
  go_loopw [6] (fun s wr => ∃ i : Nat, i ≤ n ∧ s = .int .i64 i ∧ Hid (∀ j, j < i → bs.getD j 0 = ss.getD j 0) ∧ Hid (∃ d, wr = w3.drewN d)) (fun s _ => n - (intOf s).toNat)
  case atStart => exact ⟨0, by omega, rfl, hid fun j h => absurd h (by omega), hid ⟨0, rfl⟩⟩
  case round =>
    obtain ⟨i, hi, rfl, HF, HW⟩ := hrel
    obtain ⟨d, rfl⟩ := HW.out
    clear HW
    by_cases hp : i < n
    · obtain ⟨b1, off1, e1, d1, _⟩ := HB3.out.at hp
      obtain ⟨b2, off2, e2, d2, _⟩ := HR3.out.at hp
      injection e1 with e1
      injection e1 with e1 e1'
      subst e1
      subst e1'
      subst e2
      have hx := HBs.out i
      have hz := HSs.out i
      have HF2 : Hid (bs.getD i 0 = ss.getD i 0 → ∀ j, j < i + 1 → bs.getD j 0 = ss.getD j 0) := hid fun h j hj => by
        rcases Nat.lt_or_ge j i with h2 | h2
        · exact HF.out j h2
        · obtain rfl : j = i := by omega
          exact h
      have HNe : Hid (bs.getD i 0 ≠ ss.getD i 0 → bs ≠ ss) := hid fun h e => h (by rw [e])
      unfold vY at d1 d2
      generalize bs.getD i 0 = x at d1 hx HF2 HNe
      generalize ss.getD i 0 = z at d2 hz HF2 HNe
      by_cases hxz : x = z
      · have hne : ((x : Int) != (z : Int)) = false := by simp [hxz]
        have HF3 := hid (HF2.out hxz)
        clear hxz HF2 HNe
        go_wp2_with fail
        go_quiet (fail)
        go_wp2_with fail
        go_roundw
        case rel => exact ⟨i + 1, by omega, by go_num, HF3, hid ⟨_, rfl⟩⟩
        case measure => simp [intOf]; omega
      · have hne : ((x : Int) != (z : Int)) = true := by simp; omega
        have HE3 := hid (HE2.out (HNe.out hxz))
        clear hxz HF2 HNe
        go_wp2_with fail
        go_quiet (fail)
        go_wp2_with fail
        go_ret2
        rw [HE3.out]
        exact ⟨_, rfl, hid (ow_nil ((HX3.out.only.drewN _).drewN _))⟩
    · obtain rfl : i = n := by omega
      have HE3 := hid (HE1.out (HSame.out HF.out))
      go_wp2_with fail
      go_ret2
      rw [HE3.out]
      exact ⟨_, rfl, hid (HX3.out.carry ((Only.refl _ w3).drewN _))⟩
theorem refOpen_any {cap : Nat} {A : Option Addr} {bs : List Nat} {w : World} (hr : RdY w A bs) (hB : ∀ b ∈ bs, b < 256) (hl : bs.length ≤ 10000000) (hc : bs.length ≤ cap) :
    Calls Tryd.prog 13 #[.slice A bs.length cap] w (OpenE w bs) := by
  by_cases h4 : bs.length < 4
  · exact refOpen_short h4
  · exact refOpen_long hr hB (by omega) hl hc
end Go.Proofs.YthfelifcikiogaaDoor
