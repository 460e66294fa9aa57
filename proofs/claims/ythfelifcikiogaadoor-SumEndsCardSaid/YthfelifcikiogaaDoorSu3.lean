/- sum: bytes of the call's own: appended to; slices.Grow of none; rows, one behind the other. -/
import Derived.Test.YthfelifcikiogaaDoorSu2
import Derived.Test.YthfelifcikiogaaDoorOwn
import Derived.Test.YthfelifcikiogaaDoorKtY
import Derived.Lib.Walk
import Derived.Lib.AppendZerosOnto
import Derived.Laws.Append
namespace Go.Proofs.YthfelifcikiogaaDoor
open Go.RowKit
open Cr

def yv (b : Nat) : Value := .int .u8 (b : Int)
/-- Bytes of the call's own, which that value reaches. -/
structure OwY (w0 w : World) (v : Value) (bs : List Nat) : Prop where
  own : w.ownsRow w0.heap.size 5 1 v bs.length (bs.map yv)
  only : Only (fun _ => False) w0 w
theorem vals_map (bs : List Nat) : valsL (vY bs) bs.length = bs.map yv := by
  apply List.ext_getElem?
  intro j
  by_cases hj : j < bs.length
  · rw [valsL_get hj]; simp [vY, yv, List.getD, hj]
  · rw [List.getElem?_eq_none (by rw [valsL_len]; omega), List.getElem?_eq_none (by rw [List.length_map]; omega)]
theorem yv_one (bs : List Nat) : ∀ u ∈ bs.map yv, u.oneCell' = true := by
  intro u hu
  obtain ⟨b, _, rfl⟩ := List.mem_map.1 hu
  rfl
section
variable {w0 w w' : World} {v : Value} {bs : List Nat}
theorem OwY.shape (h : OwY w0 w v bs) : ∃ A cap, v = .slice A bs.length cap ∧ RdY w A bs ∧ (A = none → bs.length = 0 ∧ cap = 0) ∧ (bs.length ≠ 0 → ∃ g F, A = some ⟨g, 0, none⟩ ∧ w0.heap.size ≤ g ∧ w.rowIs g 5 cap F ∧ (∀ j, j < bs.length → F j = vY bs j) ∧ bs.length ≤ cap) ∧ bs.length ≤ cap ∧ cap ≤ maxLen := by
  by_cases h0 : bs.length = 0
  · rcases h.own.2 with ⟨rfl, _⟩ | ⟨g, cap, cur, rfl, hge, hh, hle, hcm, hsz, ht⟩
    · exact ⟨none, 0, by rw [h0], by show RdV w none bs.length _; rw [h0]; exact RdV.nil _, fun _ => ⟨h0, rfl⟩, fun h => absurd h0 h, by omega, Nat.zero_le _⟩
    · exact ⟨_, cap, rfl, by show RdV w _ bs.length _; rw [h0]; exact RdV.nil _, fun h => (by cases h), fun h => absurd h0 h, hle, hcm⟩
  · have h1 := h.own
    rw [← vals_map] at h1
    obtain ⟨g, cap, F, rfl, hge, hF, hF2, hle, hcm⟩ := own_at h1 (by omega)
    exact ⟨_, cap, rfl, fun _ => ⟨g, 0, rfl, fun j hj => by rw [Nat.zero_add, hF.cell (by omega), hF2 j hj]⟩, fun h => (by cases h), fun _ => ⟨g, F, rfl, hge, hF, hF2, hle⟩, hle, hcm⟩
theorem OwY.carry (h : OwY w0 w v bs) (ho : Only (fun _ => False) w w') : OwY w0 w' v bs := ⟨own_of_block h.own fun g _ hg => ho.block g hg no_, h.only.trans ho⟩
theorem OwY.begin {w0 w : World} (ho : Only (fun _ => False) w0 w) : OwY w0 (w.alloc (.cells #[] 5)) (.slice (some ⟨w.heap.size, 0, none⟩) 0 0) [] :=
  ⟨World.ownsRow_made w _ 0 ho.size (by simp [maxLen]) (by simp), ho.alloc _⟩
end

theorem wpList_addY {ops : Array Oper} {rest : List Oper} {o : Oper} {a : Act} {Q : Exit → Act → World → Prop} (w0 w : World) (hgd : o.guard = none) (s x : Operand)
    (hop : o.op = Op.call { callee := Callee.builtin Builtin.append, args := #[s, x], argTypes := #[23, 23] })
    (v : Value) (xs : List Nat) (hs : a.eval s = v) (h : Hid (OwY w0 w v xs)) (A : Option Addr) (n c : Nat) (ys : List Nat) (hx : a.eval x = .slice A n c) (hn : n = ys.length) (hA : Hid (A = none → n = 0 ∧ c = 0)) (hr : Hid (RdY w A ys)) (hb : xs.length + ys.length ≤ 16777216)
    (K : ∀ v' w', Hid (OwY w0 w' v' (xs ++ ys)) → wpList Tryd.prog ops Q rest (a.put o.dst v') w') :
    wpList Tryd.prog ops Q (o :: rest) a w := by
  subst hn
  obtain ⟨i0, hi0, hz0, hz1, hz2⟩ := info_parts byteInfoK
  cases A with
  | some ad =>
    refine wpList_append_own_at w hgd s x 23 hop w0.heap.size 5 i0 (.int .u8 0) 1 1 Tryd.underlying23 hi0 hz0 hz1 hz2 rfl (by omega) v xs.length _ hs h.out.own ad ys.length c (ys.map yv) hx (by simp) (by rw [← vals_map]; exact hr.out.news ad rfl) (yv_one ys) (by unfold maxLen; omega) (by omega) h.out.only.size ?_
    intro v' w' hown hg _ _
    refine K v' w' (hid ⟨by rw [List.length_append, List.map_append]; exact hown, h.out.only.grown hg fun k e => .inr ?_⟩)
    rcases h.out.own.2 with ⟨rfl, _⟩ | ⟨g, cap, cur, rfl, hge, _⟩
    · cases e
    · simp [Value.ownBlock] at e; omega
  | none =>
    obtain ⟨h0, rfl⟩ := hA.out rfl
    obtain rfl : ys = [] := List.eq_nil_of_length_eq_zero h0
    refine wpList_plain hgd fun K' hK' => ?_
    have hrun := run_append_owned_none (P := Tryd.prog) w w0.heap.size 23 o.type 5 i0 1 Tryd.underlying23 hi0 v xs.length _ h.out.own
    have hx' : a.eval x = .slice none 0 0 := hx
    unfold Oper.wp
    simp [execOp, hop, resolve, invoke, builtin, hs, hx', hrun, Result.andThen]
    exact hK' _ _ (K v w (by simpa using h))

set_option maxHeartbeats 2000000 in
theorem grow_none (n : Nat) (w : World) (hn : n ≤ 16777216) :
    Calls Tryd.prog 30 #[.slice none 0 0, .int .i64 (n : Int)] w fun e w' => ∃ v, e = .returned v ∧ Hid (OwY w w' v []) := by
  obtain ⟨i0, hi0, hz0, hz1, hz2⟩ := info_parts byteInfoK
  by_cases h0 : n = 0
  · subst h0
    go_enter Tryd.func30, Tryd.ntmps30
    go_wp2
    go_ret
    exact ⟨_, rfl, hid ⟨World.ownsRow_nil _ _ _ _, Only.refl _ w⟩⟩
  · have hold : (Builtin.firstCells i0.size 0 (.slice none 0 0)).run Tryd.prog w.drew = .ok #[] w.drew := run_firstCells_none w.drew i0.size 0 0 0
    have hrz : ∀ ty, (Builtin.append_ #[23, 3] ty #[.slice none 0 0, .int .i64 (n : Int)]).run Tryd.prog w = .ok (.slice (some ⟨w.heap.size, 0, none⟩) n (grownCap w n 0 5)) (w.drew.alloc (.cells (#[] ++ Builtin.zeroCells #[.int .u8 0] n ++ Builtin.zeroCells #[.int .u8 0] (grownCap w n 0 5 - n)) 5)) := fun ty => by
      have h := Lib.run_append_grow_zeros w 23 3 ty 5 i0 (.int .u8 0) .i64 .i64 Tryd.underlying23 Tryd.underlying3 hi0 hz0 none 0 0 [] hold n (by omega) (by omega) (by omega) (by omega) (by rw [hz2]; omega) (by rw [Nat.zero_add]; exact growslice_fits (by omega) (by rw [hz2]; omega))
      rw [Nat.zero_add] at h
      exact h
    have hge : n ≤ grownCap w n 0 5 := grownCap_ge w _ _ _
    have hle := grownCap_le_maxLen w n 0 5 (by unfold maxLen; omega)
    have hG : Hid (OwY w (w.drew.alloc (.cells (#[] ++ Builtin.zeroCells #[.int .u8 0] n ++ Builtin.zeroCells #[.int .u8 0] (grownCap w n 0 5 - n)) 5)) (.slice (some ⟨w.heap.size, 0, none⟩) 0 (grownCap w n 0 5)) []) := hid ⟨⟨rfl, .inr ⟨w.heap.size, _, _, rfl, Nat.le_refl _, heap_alloc_new w.drew _, Nat.zero_le _, hle, by simp [size_zeroCells]; omega, rfl⟩⟩, (Only.refl _ w).drew.alloc _⟩
    clear hold hi0 hz0 hz1 hz2
    generalize grownCap w n 0 5 = G at hrz hge hle hG
    unfold maxLen at hle
    generalize Obj.cells (#[] ++ Builtin.zeroCells #[.int .u8 0] n ++ Builtin.zeroCells #[.int .u8 0] (G - n)) 5 = ob at hrz hG
    go_enter Tryd.func30, Tryd.ntmps30
    go_wp2_with (at_builtin; refine Lib.wpList_append_run _ rfl _ _ _ _ rfl _ _ rfl rfl _ _ (hrz _) ?_)
    all_goals (go_ret; exact ⟨_, rfl, hG⟩)

theorem jn_len_le {L : List (List Nat)} (k : Nat) : (jn L k).length ≤ L.flatten.length := by
  have h : L.flatten = jn L k ++ (L.drop k).flatten := by unfold jn; rw [← List.flatten_append, List.take_append_drop]
  rw [h, List.length_append]; omega
theorem row_len_le {L : List (List Nat)} (k : Nat) : (L.getD k []).length ≤ L.flatten.length := by
  by_cases h : k < L.length
  · have h1 := jn_succ h
    have h2 := jn_len_le (L := L) (k + 1)
    rw [h1, List.length_append] at h2; omega
  · simp [List.getD, List.getElem?_eq_none (by omega : L.length ≤ k)]
set_option maxHeartbeats 2000000 in
/-- The library's rows, one behind the other. -/
theorem concat_any {cap : Nat} {A : Option Addr} {L : List (List Nat)} {aF : Nat → Option Addr} {cF : Nat → Nat} {w : World} (hr : RdR w A L aF cF) (hL : L.length ≤ 16777216) (hf : L.flatten.length ≤ 16777216) :
    Calls Tryd.prog 22 #[.slice A L.length cap] w fun e w' => ∃ v, e = .returned v ∧ Hid (OwY w w' v L.flatten) := by
  have HR := hid hr
  have HLen := hid fun k => jn_len_le (L := L) k
  have HRow := hid fun k => row_len_le (L := L) k
  have HJ := hid fun k (hk : k < L.length) => jn_succ hk
  have HJl := hid fun k (hk : k < L.length) => congrArg List.length (jn_succ hk)
  have HE : Hid (jn L L.length = L.flatten) := hid (jn_all L)
  have HZ : Hid (jn L 0 = []) := hid (jn_zero L)
  clear hr
  generalize L.flatten = res at HE HLen HRow hf
  go_enter Tryd.func22, Tryd.ntmps22
  go_wp2
  go_loopw [3, 11] (fun z s wr => ∃ k : Nat, k ≤ L.length ∧ s = .int .i64 k ∧ z = .int .i64 ((jn L k).length : Nat) ∧ w = wr) (fun _ s _ => L.length - (intOf s).toNat)
  case atStart => exact ⟨0, by omega, rfl, by rw [HZ.out]; rfl, rfl⟩
  case round =>
    obtain ⟨k, hk, rfl, rfl, rfl⟩ := hrel
    by_cases hp : k < L.length
    · obtain ⟨b, off, h1, d1, _⟩ := HR.out.out.at hp
      have hl1 := HLen.out (k + 1)
      have hl2 := HJl.out k hp
      rw [List.length_append] at hl2
      subst h1
      have HN : Hid (∀ z : Int, z = ((jn L k).length : Nat) + ((L.getD k []).length : Nat) → z = ((jn L (k + 1)).length : Nat)) := hid fun z hz => by omega
      rw [hl2] at hl1
      clear hl2
      generalize (jn L k).length = n0 at hl1 HN
      generalize (L.getD k []).length = n2 at hl1 d1 HN
      have hnn : ¬ ((n0 : Int) + (n2 : Int) < 0) := by omega
      go_wp2_with fail
      go_roundw
      case rel => exact ⟨k + 1, by omega, by go_num, by rw [HN.out _ rfl], trivial⟩
      case measure => simp [intOf]; omega
    · obtain rfl : k = L.length := by omega
      rw [HE.out]
      have HG := hid (grow_none res.length w hf)
      go_wp2_with fail
      refine HG.out.mono ?_
      rintro e w1 ⟨v, rfl, HO⟩
      go_wp2_with fail
      go_loopw [6, 27] (fun z s wr => ∃ k : Nat, k ≤ L.length ∧ s = .int .i64 k ∧ Hid (OwY w wr z (jn L k))) (fun _ s _ => L.length - (intOf s).toNat)
      case atStart => exact ⟨0, by omega, rfl, hid (by rw [HZ.out]; exact HO.out)⟩
      case round =>
        obtain ⟨k, hk, rfl, HV⟩ := hrel
        clear HG HO
        by_cases hp : k < L.length
        · have HRw : Hid (RdR wr A L aF cF) := hid (HR.out.only HV.out.only)
          obtain ⟨b, off, h1, d1, _⟩ := HRw.out.out.at hp
          have HRk : Hid (RdY wr (aF k) (L.getD k [])) := hid (HRw.out.row k hp)
          have hl1 := HLen.out (k + 1)
          have hl2 := HJl.out k hp
          rw [List.length_append] at hl2
          rw [hl2] at hl1
          have HJk := hid (HJ.out k hp)
          have HNil := hid (HR.out.nil k hp)
          subst h1
          clear HRw hl2
          generalize jn L k = jk at HV hl1 HJk
          generalize L.getD k [] = ys at HRk hl1 HJk d1 HNil
          generalize aF k = ak at HRk d1 HNil
          generalize cF k = ck at d1 HNil
          go_wp2_with (at_builtin; refine wpList_addY w wr rfl (.tmp 31) (.tmp 32) rfl _ jk rfl HV ak ys.length ck ys rfl rfl HNil HRk (by omega) ?_; intro v2 w2 HO2)
          go_roundw
          case rel => exact ⟨k + 1, by omega, by go_num, hid (by rw [HJk.out]; exact HO2.out)⟩
          case measure => simp [intOf]; omega
        · obtain rfl : k = L.length := by omega
          rw [HE.out] at HV
          go_wp2_with fail
          go_ret
          exact ⟨_, rfl, HV⟩
end Go.Proofs.YthfelifcikiogaaDoor
