/- Ints of the call's own: appended to, cut; the rows that are joined, and whether lengths fit. -/
import Derived.Test.YthfnpgmjbfbocaaTk3
import Derived.Test.YthfnpgmjbfbocaaKtI
import Derived.Lib.Walk
import Derived.Laws.Append
namespace Go.Proofs.Ythfnpgmjbfbocaa
open Go.RowKit

def iv (z : Int) : Value := .int .i64 z
def lenV : Value → Nat
  | .slice _ n _ => n
  | _ => 0
/-- Ints of the call's own, which that value reaches. -/
structure OwI (w0 w : World) (v : Value) (zs : List Int) : Prop where
  own : w.ownsRow w0.heap.size 3 1 v zs.length (zs.map iv)
  only : Only (fun _ => False) w0 w
theorem vals_mapI (zs : List Int) : valsL (vI zs) zs.length = zs.map iv := by
  apply List.ext_getElem?
  intro j
  by_cases hj : j < zs.length
  · rw [valsL_get hj]; simp [vI, iv, List.getD, hj]
  · rw [List.getElem?_eq_none (by rw [valsL_len]; omega), List.getElem?_eq_none (by rw [List.length_map]; omega)]
theorem iv_one (zs : List Int) : ∀ u ∈ zs.map iv, u.oneCell' = true := by
  intro u hu
  obtain ⟨b, _, rfl⟩ := List.mem_map.1 hu
  rfl
section
variable {w0 w w' : World} {v : Value} {zs : List Int}
theorem OwI.shape (h : OwI w0 w v zs) : ∃ A cap, v = .slice A zs.length cap ∧ RdI w A zs ∧ (A = none → zs.length = 0 ∧ cap = 0) ∧ (zs.length ≠ 0 → ∃ g F, A = some ⟨g, 0, none⟩ ∧ w0.heap.size ≤ g ∧ w.rowIs g 3 cap F ∧ (∀ j, j < zs.length → F j = vI zs j) ∧ zs.length ≤ cap) ∧ zs.length ≤ cap ∧ cap ≤ maxLen := by
  by_cases h0 : zs.length = 0
  · rcases h.own.2 with ⟨rfl, _⟩ | ⟨g, cap, cur, rfl, hge, hh, hle, hcm, hsz, ht⟩
    · exact ⟨none, 0, by rw [h0], by show RdV w none zs.length _; rw [h0]; exact RdV.nil _, fun _ => ⟨h0, rfl⟩, fun h => absurd h0 h, by omega, Nat.zero_le _⟩
    · exact ⟨_, cap, rfl, by show RdV w _ zs.length _; rw [h0]; exact RdV.nil _, fun h => (by cases h), fun h => absurd h0 h, hle, hcm⟩
  · have h1 := h.own
    rw [← vals_mapI] at h1
    obtain ⟨g, cap, F, rfl, hge, hF, hF2, hle, hcm⟩ := own_at h1 (by omega)
    exact ⟨_, cap, rfl, fun _ => ⟨g, 0, rfl, fun j hj => by rw [Nat.zero_add, hF.cell (by omega), hF2 j hj]⟩, fun h => (by cases h), fun _ => ⟨g, F, rfl, hge, hF, hF2, hle⟩, hle, hcm⟩
theorem OwI.carry (h : OwI w0 w v zs) (ho : Only (fun _ => False) w w') : OwI w0 w' v zs := ⟨own_of_block h.own fun g _ hg => ho.block g hg no_, h.only.trans ho⟩
theorem OwI.begin {w0 w : World} (ho : Only (fun _ => False) w0 w) : OwI w0 (w.alloc (.cells #[] 3)) (.slice (some ⟨w.heap.size, 0, none⟩) 0 0) [] :=
  ⟨World.ownsRow_made w _ 0 ho.size (by simp [maxLen]) (by simp), ho.alloc _⟩
theorem OwI.nil {w0 w : World} (ho : Only (fun _ => False) w0 w) : OwI w0 w (.slice none 0 0) [] := ⟨World.ownsRow_nil _ _ _ _, ho⟩
/-- A shorter beginning. -/
theorem OwI.take {A : Option Addr} {n c : Nat} (h : OwI w0 w (.slice A n c) zs) {k : Nat} (hk : k ≤ zs.length) : OwI w0 w (.slice A k c) (zs.take k) := by
  refine ⟨?_, h.only⟩
  have hl : (zs.take k).length = k := by rw [List.length_take]; omega
  have h1 := h.own
  refine ⟨by rw [List.length_map, Nat.mul_one], ?_⟩
  rcases h1.2 with ⟨e, h0⟩ | ⟨g, cap, cur, e, hge, hh, hle, hcm, hsz, ht⟩
  · injection e with e1 e2 e3
    subst e1
    subst e3
    left
    exact ⟨by rw [show k = 0 by omega], by omega⟩
  · injection e with e1 e2 e3
    subst e1
    subst e3
    right
    refine ⟨g, c, cur, by rw [hl], hge, hh, by omega, hcm, hsz, ?_⟩
    rw [hl, Nat.mul_one, List.map_take, ← ht, List.take_take, Nat.mul_one]
    congr 1
    omega
end
theorem intInfoK2 : ∃ i0, Try.prog.info? 3 = some i0 ∧ i0.zero = some (.int .i64 0) ∧ i0.size = 1 ∧ i0.bytes = 8 := info_parts intInfoK

theorem wpList_addI {ops : Array Oper} {rest : List Oper} {o : Oper} {a : Act} {Q : Exit → Act → World → Prop} (w0 w : World) (hgd : o.guard = none) (s x : Operand)
    (hop : o.op = Op.call { callee := Callee.builtin Builtin.append, args := #[s, x], argTypes := #[22, 22] })
    (v : Value) (xs : List Int) (hs : a.eval s = v) (h : Hid (OwI w0 w v xs)) (A : Option Addr) (n c : Nat) (ys : List Int) (hx : a.eval x = .slice A n c) (hn : n = ys.length) (hA : Hid (A = none → n = 0 ∧ c = 0)) (hr : Hid (RdI w A ys)) (hb : xs.length + ys.length ≤ 16777216)
    (K : ∀ v' w', Hid (OwI w0 w' v' (xs ++ ys)) → wpList Try.prog ops Q rest (a.put o.dst v') w') :
    wpList Try.prog ops Q (o :: rest) a w := by
  subst hn
  obtain ⟨i0, hi0, hz0, hz1, hz2⟩ := info_parts intInfoK
  cases A with
  | some ad =>
    refine wpList_append_own_at w hgd s x 22 hop w0.heap.size 3 i0 (.int .i64 0) 1 8 Try.underlying22 hi0 hz0 hz1 hz2 rfl (by omega) v xs.length _ hs h.out.own ad ys.length c (ys.map iv) hx (by simp) (by rw [← vals_mapI]; exact hr.out.news ad rfl) (iv_one ys) (by unfold maxLen; omega) (by omega) h.out.only.size ?_
    intro v' w' hown hg _ _
    refine K v' w' (hid ⟨by rw [List.length_append, List.map_append]; exact hown, h.out.only.grown hg fun k e => .inr ?_⟩)
    rcases h.out.own.2 with ⟨rfl, _⟩ | ⟨g, cap, cur, rfl, hge, _⟩
    · cases e
    · simp [Value.ownBlock] at e; omega
  | none =>
    obtain ⟨h0, rfl⟩ := hA.out rfl
    obtain rfl : ys = [] := List.eq_nil_of_length_eq_zero h0
    refine wpList_plain hgd fun K' hK' => ?_
    have hrun := run_append_owned_none (P := Try.prog) w w0.heap.size 22 o.type 3 i0 1 Try.underlying22 hi0 v xs.length _ h.out.own
    have hx' : a.eval x = .slice none 0 0 := hx
    unfold Oper.wp
    simp [execOp, hop, resolve, invoke, builtin, hs, hx', hrun, Result.andThen]
    exact hK' _ _ (K v w (by simpa using h))
theorem rd_oneI (w : World) (z : Int) : RdI (w.alloc (Obj.cells #[.int .i64 z] 3)) (some ⟨w.heap.size, 0, none⟩) [z] :=
  RdV.of_row (World.rowIs_alloc w #[.int .i64 z] 3 (vI [z]) (fun i hi => by
    match i, hi with
    | 0, _ => rfl
    | i + 1, hi => exact absurd (show i + 1 < 1 from hi) (by omega)))

/-! Rows that are joined. -/
/-- A heap of rows, its top first, that lies in a slice of the call's own. -/
def StI (w0 w : World) (A : Option Addr) (c m : Nat) (s : List Int) : Prop := s.length = m ∧ OwI w0 w (.slice A m c) s.reverse
theorem StI.top {w0 w : World} {A : Option Addr} {c m t : Nat} {d : Int} {s : List Int} (h : StI w0 w A c m (d :: s)) (ht : t + 1 = m) : ∃ g, A = some ⟨g, 0, none⟩ ∧ w.cell? ⟨g, t, none⟩ = some (.int .i64 d) := by
  obtain ⟨hl, ho⟩ := h
  simp at hl
  obtain ⟨A', c', e, hr, _, hx, _⟩ := ho.shape
  injection e with e1 e2 e3
  subst e1
  subst e3
  obtain ⟨g, F, rfl, _, hrow, hF, hle⟩ := hx (by simp)
  have hlen : (d :: s).reverse.length = m := by simp [hl]
  refine ⟨g, rfl, ?_⟩
  rw [hrow.cell (by omega), hF t (by omega)]
  unfold vI
  have : (d :: s).reverse.getD t 0 = d := by
    have : s.length = t := by omega
    subst this
    simp [List.getD]
  rw [this]
theorem StI.pop {w0 w : World} {A : Option Addr} {c m t : Nat} {d : Int} {s : List Int} (h : StI w0 w A c m (d :: s)) (ht : t + 1 = m) : StI w0 w A c t s := by
  obtain ⟨hl, ho⟩ := h
  simp at hl
  have h1 := ho.take (k := t) (by simp; omega)
  have e : (d :: s).reverse.take t = s.reverse := by
    rw [List.reverse_cons, List.take_append_of_le_length (by simp; omega), List.take_of_length_le (by simp; omega)]
  rw [e] at h1
  exact ⟨by omega, h1⟩
theorem StI.cap {w0 w : World} {A : Option Addr} {c m : Nat} {s : List Int} (h : StI w0 w A c m s) : m ≤ c ∧ c ≤ maxLen := by
  obtain ⟨hl, ho⟩ := h
  obtain ⟨A', c', e, _, _, _, h1, h2⟩ := ho.shape
  injection e with e1 e2 e3
  subst e3
  rw [List.length_reverse] at h1
  exact ⟨by omega, h2⟩

theorem StI.made {w0 w : World} {v : Value} {d : Int} {s : List Int} {m : Nat} (h : OwI w0 w v (s.reverse ++ [d])) (hm : s.length = m) : ∃ A c, v = .slice A (m + 1) c ∧ StI w0 w A c (m + 1) (d :: s) := by
  obtain ⟨A, c, rfl, _⟩ := h.shape
  have e : (s.reverse ++ [d]).length = m + 1 := by simp [hm]
  rw [e] at h ⊢
  exact ⟨A, c, rfl, by simp [hm], by rw [List.reverse_cons]; exact h⟩
theorem push_ne {t d : Int} {s : List Int} (h : ¬ t = d) : push (t :: s) d = d :: t :: s := by
  show (if t = d then push s (i64w (d - 1)) else d :: t :: s) = _
  rw [if_neg h]
theorem push_eq {t : Int} {s : List Int} : push (t :: s) t = push s (i64w (t - 1)) := by
  show (if t = t then push s (i64w (t - 1)) else t :: t :: s) = _
  rw [if_pos rfl]

set_option maxHeartbeats 4000000 in
theorem joined_any {A : Option Addr} {cap : Nat} {zs : List Int} {w : World} (hz : RdI w A zs) (hl : zs.length ≤ 1000000) :
    Calls Try.prog 79 #[.slice A zs.length cap] w fun e w' => ∃ A' m c', e = .returned (.slice A' m c') ∧ Hid (StI w w' A' c' m (pushes [] zs)) := by
  obtain ⟨i0, hi0, hz0, hz1, hz2⟩ := intInfoK2
  obtain ⟨N, hN⟩ : ∃ N, N = zs.length := ⟨_, rfl⟩
  have HN := hid hN
  rw [← hN] at hl ⊢
  have hmk := fun W => run_make (P := Try.prog) W 22 3 i0 (.int .i64 0) Try.underlying22 hi0 hz0 .i64 .i64 0 (N : Int) (by omega) (by omega) (by rw [hz2]; omega) (by omega)
  have e12 : ((N : Int)).toNat = N := by omega
  rw [e12, hz1] at hmk
  have HZ := hid hz
  have HS0 : Hid (StI w (w.alloc (.cells (madeCells #[(.int .i64 0)] N) 3)) (some ⟨w.heap.size, 0, none⟩) N 0 []) := hid ⟨rfl, World.ownsRow_made w _ N (Nat.le_refl _) (by unfold maxLen; omega) (by rw [size_madeCells, Nat.mul_one]), (Only.refl _ w).alloc _⟩
  have HD : Hid (∀ k, k < N → pushes [] (zs.take (k + 1)) = push (pushes [] (zs.take k)) (zs.getD k 0)) := hid fun k hk => by rw [take_getD (by omega), pushes_append, pushes_one]
  have HE : Hid (zs.take N = zs) := hid (by rw [hN, List.take_length])
  clear hz hN hi0 hz0 hz1 hz2 e12
  go_enter Try.func79, Try.ntmps79
  go_wp2
  clear hmk
  go_loopw [3, 11] (fun v i wr => ∃ (k m c : Nat) (B : Option Addr) (s : List Int), k ≤ N ∧ i = .int .i64 k ∧ v = .slice B m c ∧ m ≤ k ∧ Hid (s = pushes [] (zs.take k)) ∧ Hid (StI w wr B c m s)) (fun _ i _ => N - (intOf i).toNat)
  case atStart => exact ⟨0, 0, N, _, [], by omega, rfl, by simp, by omega, hid rfl, HS0⟩
  case round =>
    obtain ⟨k, m, c, B, s, hk, rfl, rfl, hm, HP, HS⟩ := hrel
    clear HS0
    by_cases hp : k < N
    · obtain ⟨b, off, hA, hc, _⟩ := (HZ.out.only HS.out.2.only fun _ _ _ => no_).at (k := k) (by rw [← HN.out]; exact hp)
      unfold vI at hc
      subst hA
      obtain ⟨z, hz⟩ : ∃ z, z = zs.getD k 0 := ⟨_, rfl⟩
      rw [← hz] at hc
      have HT : Hid (push s z = pushes [] (zs.take (k + 1))) := hid (by rw [HD.out k hp, ← HP.out, hz])
      clear hz HP
      go_wp2
      clear hc
      obtain ⟨wo, rfl⟩ : ∃ wo : World, wo = wr := ⟨_, rfl⟩
      go_loopw [3, 5] (fun v x wr => ∃ (m2 c2 : Nat) (B2 : Option Addr) (s2 : List Int) (d : Int), v = .slice B2 m2 c2 ∧ x = .int .i64 d ∧ m2 ≤ k ∧ Hid (push s2 d = pushes [] (zs.take (k + 1))) ∧ Hid (StI w wr B2 c2 m2 s2)) (fun v _ _ => lenV v)
      case atStart => exact ⟨m, c, B, s, z, rfl, rfl, hm, HT, HS⟩
      case round =>
        obtain ⟨m2, c2, B2, s2, d, rfl, rfl, hm2, HT2, HS2⟩ := hrel
        clear HS HT
        have hcp := HS2.out.cap
        have hcp1 := hcp.1
        have hcp2 := hcp.2
        unfold maxLen at hcp2
        clear hcp
        cases s2 with
        | nil =>
          obtain rfl : m2 = 0 := HS2.out.1.symm
          go_wp2_with (at_builtin; (refine wpList_addI w _ rfl _ _ rfl _ ([] : List Int) rfl (hid (HS2.out.2.carry ((Only.refl _ _).alloc _))) _ 1 1 [d] rfl rfl (hid (fun h => by cases h)) (hid (rd_oneI _ d)) (by simp) ?_); intro v' w' HO)
          obtain ⟨A3, c3, rfl, h3⟩ := StI.made (s := []) HO.out rfl
          have HN3 := hid h3
          clear h3 HO
          go_roundw
          case rel => exact ⟨k + 1, 0 + 1, _, _, [d], by omega, by go_num, rfl, by show 0 + 1 ≤ k + 1; omega, hid HT2.out, HN3⟩
          case measure => simp [intOf]; omega
        | cons t s2 =>
          obtain ⟨m3, rfl⟩ : ∃ m3, m2 = m3 + 1 := ⟨s2.length, by have := HS2.out.1; simp at this; omega⟩
          obtain ⟨g, rfl, hcell⟩ := HS2.out.top rfl
          by_cases hq : t = d
          · subst hq
            have HT3 : Hid (push s2 (wrap64 (t - 1)) = pushes [] (zs.take (k + 1))) := hid (by have h := HT2.out; rw [push_eq] at h; exact h)
            have HS3 : Hid (StI w wr (some ⟨g, 0, none⟩) c2 m3 s2) := hid (HS2.out.pop rfl)
            clear HS2 HT2
            go_wp2
            go_roundw
            case rel => exact ⟨m3, c2, _, s2, _, rfl, rfl, by omega, HT3, HS3⟩
            case measure => simp [lenV]
          · have HT3 : Hid (d :: t :: s2 = pushes [] (zs.take (k + 1))) := hid (by have h := HT2.out; rw [push_ne hq] at h; exact h)
            clear HT2
            go_wp2_with (at_builtin; (refine wpList_addI w _ rfl _ _ rfl _ _ rfl (hid (HS2.out.2.carry ((Only.refl _ _).alloc _))) _ 1 1 [d] rfl rfl (hid (fun h => by cases h)) (hid (rd_oneI _ d)) (by have := HS2.out.1; simp at this ⊢; omega) ?_); intro v' w' HO)
            obtain ⟨A3, c3, rfl, h3⟩ := StI.made (s := t :: s2) HO.out (by have := HS2.out.1; exact this)
            have HN3 := hid h3
            clear h3 HO HS2
            go_roundw
            case rel => exact ⟨k + 1, _, _, _, d :: t :: s2, by omega, by go_num, rfl, by omega, HT3, HN3⟩
            case measure => simp [intOf]; omega
    · obtain rfl : k = N := by omega
      have HP2 : Hid (s = pushes [] zs) := hid (by rw [HP.out, HE.out])
      clear HP
      go_wp2
      go_ret
      exact ⟨_, _, _, rfl, hid (by rw [← HP2.out]; exact HS.out)⟩

set_option maxHeartbeats 1000000 in
theorem fits_any {A : Option Addr} {cap : Nat} {zs : List Int} {w : World} (hz : RdI w A zs) (hi : InI zs) (hl : zs.length ≤ 9223372036854775807) :
    Calls Try.prog 43 #[.slice A zs.length cap] w fun e w' => e = .returned (.bool (fitB zs)) ∧ Hid (Only (fun _ => False) w w') := by
  obtain ⟨N, hN⟩ : ∃ N, N = zs.length := ⟨_, rfl⟩
  have HN := hid hN
  have HM := hid (many_any N w (by omega))
  rw [← hN] at hl ⊢
  by_cases hb : 1 ≤ N ∧ N ≤ 257
  · have hd : decide (1 ≤ N ∧ N ≤ 257) = true := decide_eq_true hb
    rw [hd] at HM
    obtain ⟨hb1, hb2⟩ := hb
    by_cases h1 : N = 1
    · obtain ⟨z, rfl⟩ : ∃ z, zs = [z] := by
        match zs, h1, hN with
        | [z], _, _ => exact ⟨z, rfl⟩
        | [], h1, hN => simp at hN; omega
        | _ :: _ :: _, h1, hN => simp at hN; omega
      obtain ⟨b, off, rfl, hc, _⟩ := hz.at (k := 0) (by simp)
      have hc' : w.cell? ⟨b, off, none⟩ = some (.int .i64 z) := hc
      have HF : Hid ((z == 1) = fitB [z]) := hid (fitB_of (by
        constructor
        · intro h
          have : z = 1 := by simpa using h
          subst this
          exact .inl ⟨rfl, rfl⟩
        · intro h
          rcases h with ⟨_, h⟩ | ⟨h, _⟩
          · simp at h; subst h; rfl
          · simp at h))
      clear hz hi hc hd hN
      subst h1
      go_enter Try.func43, Try.ntmps43
      go_wp2_with (go_at_call 78; refine HM.out.mono ?_; rintro e w' ⟨rfl, rfl⟩)
      go_ret
      exact ⟨ret_bool HF.out, hid (Only.refl _ w)⟩
    · have HC := hid (joined_any (cap := cap) hz (by omega))
      rw [← hN] at HC
      have HF : Hid (∀ x : Bool, (x = true ↔ pushes [] zs = [0]) → x = fitB zs) := hid fun x hx => fitB_of (by
        rw [hx, pushes_iff hi (by omega)]
        constructor
        · intro h; exact .inr ⟨by omega, by omega, h⟩
        · rintro (⟨h, _⟩ | ⟨_, _, h⟩)
          · omega
          · exact h)
      clear hz hi hd hN
      generalize pushes [] zs = s at HC HF
      generalize fitB zs = fb at HF ⊢
      go_enter Try.func43, Try.ntmps43
      go_upto_region 6 with (first | (go_at_call 78; refine HM.out.mono ?_; rintro e w' ⟨rfl, rfl⟩) | (go_at_call 79; refine HC.out.mono ?_; rintro e w2 ⟨A2, m, c, rfl, HS⟩))
      have HO := hid HS.out.2.only
      match s with
      | [d] =>
        obtain rfl : m = 1 := HS.out.1.symm
        obtain ⟨g, rfl, hcell⟩ := HS.out.top (t := 0) rfl
        have HF2 : Hid ((d == 0) = fb) := hid (HF.out _ (by simp))
        clear HF HS HC HM
        go_wp2
        go_ret
        exact ⟨ret_bool HF2.out, HO⟩
      | [] =>
        obtain rfl : m = 0 := HS.out.1.symm
        have HF2 : Hid (false = fb) := hid (HF.out _ (by simp))
        clear HF HS HC HM
        go_wp2
        go_ret
        exact ⟨ret_bool HF2.out, HO⟩
      | d :: d2 :: s2 =>
        obtain ⟨m2, rfl⟩ : ∃ m2, m = m2 + 2 := ⟨s2.length, by have := HS.out.1; simp at this; omega⟩
        have HF2 : Hid (false = fb) := hid (HF.out _ (by simp))
        have hne : ¬ ((m2 : Int) + 2 = 1) := by omega
        clear HF HS HC HM
        go_wp2
        go_ret
        exact ⟨ret_bool HF2.out, HO⟩
  · have hd : decide (1 ≤ N ∧ N ≤ 257) = false := decide_eq_false hb
    rw [hd] at HM
    have HF : Hid (false = fitB zs) := hid (fitB_of ⟨fun h => (by cases h), fun h => by have := h.few; omega⟩)
    clear hz hi hd hN hb
    generalize fitB zs = fb at HF ⊢
    go_enter Try.func43, Try.ntmps43
    go_wp2_with (go_at_call 78; refine HM.out.mono ?_; rintro e w' ⟨rfl, rfl⟩)
    go_ret
    exact ⟨ret_bool HF.out, hid (Only.refl _ w)⟩
end Go.Proofs.Ythfnpgmjbfbocaa
