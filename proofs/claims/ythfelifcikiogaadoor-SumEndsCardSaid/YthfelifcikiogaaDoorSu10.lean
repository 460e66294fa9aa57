/- SumParts, walked. -/
import Derived.Test.YthfelifcikiogaaDoorSu9
import Derived.Deep.Cut
import Derived.Deep.CutRange
import Derived.Deep.RegionHeld3
namespace Go.Proofs.YthfelifcikiogaaDoor
open Go.RowKit
open Cr

set_option maxHeartbeats 2000000 in
theorem sumParts_long {A : Option Addr} {cap n : Nat} {x y : Int} {w : World} (hn : ¬ n ≤ 3000) (hT : TabS w) :
    Calls Tryd.prog 6 #[.slice A n cap, .int .i64 x, .int .i64 y] w (YesB w) := by
  have HA := hid (awake_any w hT)
  clear hT
  have hq : (3000 : Int) < (n : Int) := by omega
  go_enter Tryd.func6, Tryd.ntmps6
  go_wp2_with fail
  refine HA.out.mono ?_
  rintro e w1 ⟨rfl, HO⟩
  go_wp2_with fail
  go_ret
  exact ⟨rfl, hid (only_below HO.out)⟩
theorem rdY_sub {w : World} {A : Option Addr} {cap l m : Nat} {bs : List Nat} (hr : RdY w A bs) (hc : bs.length ≤ cap) (h : l + m ≤ bs.length) : RdY w (if cap = l then A else A.map (fun x => x.add l)) ((bs.drop l).take m) := by
  have hlen : ((bs.drop l).take m).length = m := by rw [List.length_take, List.length_drop]; omega
  intro h0
  rw [hlen] at h0
  obtain ⟨b, off, rfl, hcell⟩ := hr (by omega)
  have ha : (⟨b, off, none⟩ : Addr).add l = ⟨b, off + l, none⟩ := by
    unfold Addr.add
    by_cases e : l = 0 <;> simp [e]
  refine ⟨b, off + l, by rw [if_neg (by omega)]; simp [ha], fun j hj => ?_⟩
  rw [hlen] at hj
  rw [Nat.add_assoc, hcell (l + j) (by omega)]
  simp [vY, List.getD, List.getElem?_take_of_lt hj, List.getElem?_drop]
theorem nil_sub {A : Option Addr} {cap l m n : Nat} (hA : A = none → n = 0 ∧ cap = 0) (h : l + m ≤ n) : (if cap = l then A else A.map (fun x => x.add l)) = none → m = 0 ∧ cap - l = 0 := by
  intro e
  have : A = none := by
    cases A with
    | none => rfl
    | some a => split at e <;> cases e
  have := hA this
  omega
/-- What parts there are. -/
def parts4 (A : Option Addr) (cap i k : Nat) (bs : List Nat) : List Rw :=
  [(A, bs.take i, cap), (if cap = i then A else A.map (fun x => x.add i), (bs.drop i).take (k - i), cap - i), (none, [], 0), (if cap = k then A else A.map (fun x => x.add k), (bs.drop k).take (bs.length - k), cap - k)]
def parts2 (A : Option Addr) (cap i : Nat) (bs : List Nat) : List Rw :=
  [(A, bs.take i, cap), (if cap = i then A else A.map (fun x => x.add i), (bs.drop i).take (bs.length - i), cap - i)]
theorem parts4_ok {w : World} {A : Option Addr} {cap i k : Nat} {bs : List Nat} (hr : RdY w A bs) (hc : bs.length ≤ cap) (hA : A = none → bs.length = 0 ∧ cap = 0) (h1 : i ≤ k) (h2 : k ≤ bs.length) : ∀ r ∈ parts4 A cap i k bs, RdY w r.1 r.2.1 ∧ (r.1 = none → r.2.1.length = 0 ∧ r.2.2 = 0) := by
  intro r hm
  unfold parts4 at hm
  simp only [List.mem_cons, List.not_mem_nil, or_false] at hm
  rcases hm with rfl | rfl | rfl | rfl
  · refine ⟨((hr.take (k := (bs.take i).length) (by rw [List.length_take]; omega))).congr fun j hj => ?_, fun e => ?_⟩
    · have hj' : j < i := by rw [List.length_take] at hj; omega
      simp [vY, List.getD, List.getElem?_take_of_lt hj']
    · have := hA e; exact ⟨by rw [List.length_take]; show min i bs.length = 0; omega, this.2⟩
  · refine ⟨rdY_sub hr hc (by omega), fun e => ?_⟩
    have := nil_sub hA (show i + (k - i) ≤ bs.length by omega) e
    exact ⟨by show ((bs.drop i).take (k - i)).length = 0; rw [List.length_take]; omega, this.2⟩
  · exact ⟨RdV.nil _, fun _ => ⟨rfl, rfl⟩⟩
  · refine ⟨rdY_sub hr hc (by omega), fun e => ?_⟩
    have := nil_sub hA (show k + (bs.length - k) ≤ bs.length by omega) e
    exact ⟨by show ((bs.drop k).take (bs.length - k)).length = 0; rw [List.length_take]; omega, this.2⟩
theorem parts2_ok {w : World} {A : Option Addr} {cap i : Nat} {bs : List Nat} (hr : RdY w A bs) (hc : bs.length ≤ cap) (hA : A = none → bs.length = 0 ∧ cap = 0) (h1 : i ≤ bs.length) : ∀ r ∈ parts2 A cap i bs, RdY w r.1 r.2.1 ∧ (r.1 = none → r.2.1.length = 0 ∧ r.2.2 = 0) := by
  intro r hm
  unfold parts2 at hm
  simp only [List.mem_cons, List.not_mem_nil, or_false] at hm
  rcases hm with rfl | rfl
  · exact parts4_ok hr hc hA (Nat.le_refl i) h1 _ (List.mem_cons_self ..)
  · refine ⟨rdY_sub hr hc (by omega), fun e => ?_⟩
    have := nil_sub hA (show i + (bs.length - i) ≤ bs.length by omega) e
    exact ⟨by show ((bs.drop i).take (bs.length - i)).length = 0; rw [List.length_take]; omega, this.2⟩
theorem parts4_flat {A : Option Addr} {cap i k : Nat} {bs : List Nat} (h1 : i ≤ k) : ((parts4 A cap i k bs).map fun (r : Rw) => r.2.1).flatten = bs := by
  have e1 : (bs.drop k).take (bs.length - k) = bs.drop k := List.take_of_length_le (by rw [List.length_drop]; omega)
  have e2 : (bs.drop i).take (k - i) ++ bs.drop k = bs.drop i := by
    have h := List.take_append_drop (k - i) (bs.drop i)
    rw [List.drop_drop, show i + (k - i) = k by omega] at h
    exact h
  simp only [parts4, List.map_cons, List.map_nil, List.flatten_cons, List.flatten_nil, List.append_nil, List.nil_append]
  rw [e1, e2, List.take_append_drop]
theorem parts2_flat {A : Option Addr} {cap i : Nat} {bs : List Nat} : ((parts2 A cap i bs).map fun (r : Rw) => r.2.1).flatten = bs := by
  have e1 : (bs.drop i).take (bs.length - i) = bs.drop i := List.take_of_length_le (by rw [List.length_drop]; omega)
  simp only [parts2, List.map_cons, List.map_nil, List.flatten_cons, List.flatten_nil, List.append_nil]
  rw [e1, List.take_append_drop]
theorem parts4_arr {A : Option Addr} {cap i k n : Nat} {bs : List Nat} (hn : n = bs.length) (h1 : i ≤ k) (_h2 : k ≤ bs.length) : ((parts4 A cap i k bs).map rwVal).toArray = #[Value.slice A i cap, Value.slice (if cap = i then A else A.map (fun x => x.add i)) (k - i) (cap - i), Value.slice none 0 0, Value.slice (if cap = k then A else A.map (fun x => x.add k)) (n - k) (cap - k)] := by
  subst hn
  have e1 : min i bs.length = i := by omega
  have e2 : min (k - i) (bs.length - i) = k - i := by omega
  have e3 : min (bs.length - k) (bs.length - k) = bs.length - k := by omega
  simp only [parts4, rwVal, List.map_cons, List.map_nil, List.length_take, List.length_drop, e1, e2, e3, List.length_nil]
theorem parts2_arr {A : Option Addr} {cap i n : Nat} {bs : List Nat} (hn : n = bs.length) (h1 : i ≤ bs.length) : ((parts2 A cap i bs).map rwVal).toArray = #[Value.slice A i cap, Value.slice (if cap = i then A else A.map (fun x => x.add i)) (n - i) (cap - i)] := by
  subst hn
  have e1 : min i bs.length = i := by omega
  have e2 : min (bs.length - i) (bs.length - i) = bs.length - i := by omega
  simp only [parts2, rwVal, List.map_cons, List.map_nil, List.length_take, List.length_drop, e1, e2]
/-- Parts laid side by side, whatever came behind. -/
theorem rdR_parts {w u v : World} {a : Nat} (rs : List Rw) (h : ∀ r ∈ rs, RdY w r.1 r.2.1 ∧ (r.1 = none → r.2.1.length = 0 ∧ r.2.2 = 0)) (ha : a = u.heap.size) (h1 : Only (fun _ => False) w u) (h2 : Only (fun _ => False) (u.alloc (.cells (rs.map rwVal).toArray 23)) v) :
    RdR v (some ⟨a, 0, none⟩) (rs.map fun r => r.2.1) (fun j => (rs.getD j (none, [], 0)).1) (fun j => (rs.getD j (none, [], 0)).2.2) := by
  subst ha
  exact (rdR_lit rs fun r hr => ⟨(h r hr).1.only h1 fun _ _ _ => no_, (h r hr).2⟩).only h2
/-- Of, Seal of rows that lie somewhere. -/
theorem ofParts {w u v : World} {a : Nat} {bs : List Nat} (rs : List Rw) (c : Nat) (h : ∀ r ∈ rs, RdY w r.1 r.2.1 ∧ (r.1 = none → r.2.1.length = 0 ∧ r.2.2 = 0)) (hf : (rs.map fun (r : Rw) => r.2.1).flatten = bs) (hB : ∀ b ∈ bs, b < 256) (hl : bs.length ≤ 3000) (hn : rs.length ≤ 3000) (hT : TabS w) (ha : a = u.heap.size) (h1 : Only (fun _ => False) w u) (h2 : Only (fun _ => False) (u.alloc (.cells (rs.map rwVal).toArray 23)) v) :
    Calls Tryd.prog 14 #[.slice (some ⟨a, 0, none⟩) rs.length c] v fun e w' => e = .returned (.int .u32 ((crc bs : Nat) : Int)) ∧ Hid (Only (fun _ => False) v w') ∧ Hid (Only (fun _ => False) w w') := by
  have hB2 : BtsR (rs.map fun (r : Rw) => r.2.1) := fun l hl b hb => hB b (by rw [← hf]; exact List.mem_flatten.2 ⟨l, hl, hb⟩)
  have hR := rdR_parts rs h ha h1 h2
  have hj : ∀ j, ((rs.map fun (r : Rw) => r.2.1).getD j []).length ≤ 3000 := fun j => Nat.le_trans (row_len_le j) (by rw [hf]; exact hl)
  have ho : Only (fun _ => False) w v := (h1.alloc _).trans h2
  have := sumOf_any (cap := c) hR hB2 (by rw [List.length_map]; omega) (fun j => by have := hj j; omega) (hT.only ho)
  rw [hf, List.length_map] at this
  exact this.mono fun e w' ⟨h3, h4⟩ => ⟨h3, hid (Only.of_below h4.out _), hid (ho.trans (Only.of_below h4.out _))⟩
theorem sealParts {w u v : World} {a : Nat} {bs : List Nat} (rs : List Rw) (c : Nat) (h : ∀ r ∈ rs, RdY w r.1 r.2.1 ∧ (r.1 = none → r.2.1.length = 0 ∧ r.2.2 = 0)) (hf : (rs.map fun (r : Rw) => r.2.1).flatten = bs) (hB : ∀ b ∈ bs, b < 256) (hl : bs.length ≤ 3000) (hn : rs.length ≤ 3000) (hT : TabS w) (ha : a = u.heap.size) (h1 : Only (fun _ => False) w u) (h2 : Only (fun _ => False) (u.alloc (.cells (rs.map rwVal).toArray 23)) v) :
    Calls Tryd.prog 11 #[.slice (some ⟨a, 0, none⟩) rs.length c] v fun e w' => ∃ o, e = .returned o ∧ Hid (OwY v w' o (sealed bs)) ∧ Hid (Only (fun _ => False) w w') := by
  have hB2 : BtsR (rs.map fun (r : Rw) => r.2.1) := fun l hl b hb => hB b (by rw [← hf]; exact List.mem_flatten.2 ⟨l, hl, hb⟩)
  have hR := rdR_parts rs h ha h1 h2
  have ho : Only (fun _ => False) w v := (h1.alloc _).trans h2
  have := seal_any (cap := c) hR hB2 (by rw [List.length_map]; omega) (by rw [hf]; omega) (hT.only ho)
  rw [hf, List.length_map] at this
  exact this.mono fun e w' ⟨o, h3, h4⟩ => ⟨o, h3, h4, hid (ho.trans h4.out.only)⟩
abbrev At (w v : World) (a : Nat) (C : Array Value) : Prop := ∃ u, a = u.heap.size ∧ Only (fun _ => False) w u ∧ Only (fun _ => False) (u.alloc (.cells C 23)) v
theorem keepD {w v : World} {k : Nat} (h : True ∧ Hid (Only (fun _ => False) w v)) : True ∧ Hid (Only (fun _ => False) w (v.drewN k)) := ⟨trivial, hid (h.2.out.drewN k)⟩
theorem keepO {w v v' : World} (h : True ∧ Hid (Only (fun _ => False) w v)) {x : Value} {bs : List Nat} (k : Hid (OwY v v' x bs)) : True ∧ Hid (Only (fun _ => False) w v') := ⟨trivial, hid (h.2.out.trans k.out.only)⟩
set_option maxRecDepth 100000 in
set_option maxHeartbeats 4000000 in
theorem sumParts_short {A : Option Addr} {cap : Nat} {x y : Int} {bs : List Nat} {w : World} (hl : bs.length ≤ 3000) (hc : bs.length ≤ cap) (hr : RdY w A bs) (hB : ∀ b ∈ bs, b < 256) (hA : A = none → bs.length = 0 ∧ cap = 0) (hx : -9223372036854775808 ≤ x ∧ x ≤ 9223372036854775807) (hy : -9223372036854775808 ≤ y ∧ y ≤ 9223372036854775807) (hT : TabS w) :
    Calls Tryd.prog 6 #[.slice A bs.length cap, .int .i64 x, .int .i64 y] w (YesB w) := by
  have HA := hid (awake_any w hT)
  have HR := hid hr
  have HB := hid hB
  have HT := hid hT
  have HN := hid hA
  have HX := hid hx
  have HY := hid hy
  clear hr hB hT hA hx hy
  obtain ⟨n, hn⟩ : ∃ n, n = bs.length := ⟨_, rfl⟩
  rw [← hn] at hl hc ⊢
  have HNe := hid hn
  clear hn
  go_enter Tryd.func6, Tryd.ntmps6
  go_wp2_with fail
  refine HA.out.mono ?_
  rintro e w1 ⟨rfl, HO⟩
  clear HA
  have HP1 := hid (pick_any x ((n : Int) + 1) w1 (by omega) (by omega) HX.out.1 HX.out.2)
  go_wp2_with fail
  refine HP1.out.mono ?_
  rintro e w2 ⟨i, rfl, hi, rfl⟩
  clear HP1
  have HP2 := hid (pick_any y ((n : Int) - (i : Int) + 1) w1 (by omega) (by omega) HY.out.1 HY.out.2)
  go_wp2_with fail
  refine HP2.out.mono ?_
  rintro e w2 ⟨j, rfl, hj, rfl⟩
  clear HP2
  obtain ⟨k, hk⟩ : ∃ k : Nat, (i : Int) + (j : Int) = (k : Int) := ⟨i + j, by omega⟩
  have g1 : (0 : Int) ≤ (i : Int) := by omega
  have g2 : (i : Int) ≤ (k : Int) := by omega
  have g3 : (k : Int) ≤ (n : Int) := by omega
  have g4 : (i : Int) ≤ (n : Int) := by omega
  have g5 : (n : Int) ≤ (cap : Int) := by omega
  have g6 : (k : Int) ≤ (cap : Int) := by omega
  have g7 : (i : Int) ≤ (cap : Int) := by omega
  have g8 : (0 : Int) ≤ (k : Int) := by omega
  have hRA := parts4_ok (w := w1) (HR.out.only HO.out fun _ _ _ => no_) (by rw [← HNe.out]; exact hc) HN.out (show i ≤ k by omega) (by rw [← HNe.out]; omega)
  have hRB := parts2_ok (w := w1) (HR.out.only HO.out fun _ _ _ => no_) (by rw [← HNe.out]; exact hc) HN.out (show i ≤ bs.length by rw [← HNe.out]; omega)
  have hRC : ∀ r ∈ [((A, bs, cap) : Rw)], RdY w1 r.1 r.2.1 ∧ (r.1 = none → r.2.1.length = 0 ∧ r.2.2 = 0) := fun r hr => by
    obtain rfl : r = (A, bs, cap) := by simpa using hr
    exact ⟨HR.out.only HO.out fun _ _ _ => no_, HN.out⟩
  have hTw := HT.out.only HO.out
  have eA : ((parts4 A cap i k bs).map rwVal).toArray = _ := parts4_arr (n := n) HNe.out (by omega) (by rw [← HNe.out]; omega)
  have eB : ((parts2 A cap i bs).map rwVal).toArray = _ := parts2_arr (n := n) HNe.out (by rw [← HNe.out]; omega)
  have eC : (([((A, bs, cap) : Rw)]).map rwVal).toArray = #[Value.slice A n cap] := by rw [HNe.out]; rfl
  have HF4 : Hid (∀ v a, At w1 v a #[Value.slice A i cap, Value.slice (if cap = i then A else A.map (fun x => x.add i)) (k - i) (cap - i), Value.slice none 0 0, Value.slice (if cap = k then A else A.map (fun x => x.add k)) (n - k) (cap - k)] → Calls Tryd.prog 14 #[.slice (some ⟨a, 0, none⟩) 4 4] v fun e w' => e = .returned (.int .u32 ((crc bs : Nat) : Int)) ∧ Hid (Only (fun _ => False) v w') ∧ Hid (Only (fun _ => False) w1 w')) := hid fun v a ⟨u, h1, h2, h3⟩ => ofParts (parts4 A cap i k bs) 4 hRA (parts4_flat (by omega)) HB.out (by rw [← HNe.out]; exact hl) (by simp [parts4]) hTw h1 h2 (by rw [eA]; exact h3)
  have HF1 : Hid (∀ v a, At w1 v a #[Value.slice A n cap] → Calls Tryd.prog 14 #[.slice (some ⟨a, 0, none⟩) 1 1] v fun e w' => e = .returned (.int .u32 ((crc bs : Nat) : Int)) ∧ Hid (Only (fun _ => False) v w') ∧ Hid (Only (fun _ => False) w1 w')) := hid fun v a ⟨u, h1, h2, h3⟩ => ofParts [((A, bs, cap) : Rw)] 1 hRC (by simp) HB.out (by rw [← HNe.out]; exact hl) (by simp) hTw h1 h2 (by rw [eC]; exact h3)
  have HS2 : Hid (∀ v a, At w1 v a #[Value.slice A i cap, Value.slice (if cap = i then A else A.map (fun x => x.add i)) (n - i) (cap - i)] → Calls Tryd.prog 11 #[.slice (some ⟨a, 0, none⟩) 2 2] v fun e w' => ∃ o, e = .returned o ∧ Hid (OwY v w' o (sealed bs)) ∧ Hid (Only (fun _ => False) w1 w')) := hid fun v a ⟨u, h1, h2, h3⟩ => sealParts (parts2 A cap i bs) 2 hRB parts2_flat HB.out (by rw [← HNe.out]; exact hl) (by simp [parts2]) hTw h1 h2 (by rw [eB]; exact h3)
  have HS1 : Hid (∀ v a, At w1 v a #[Value.slice A n cap] → Calls Tryd.prog 11 #[.slice (some ⟨a, 0, none⟩) 1 1] v fun e w' => ∃ o, e = .returned o ∧ Hid (OwY v w' o (sealed bs)) ∧ Hid (Only (fun _ => False) w1 w')) := hid fun v a ⟨u, h1, h2, h3⟩ => sealParts [((A, bs, cap) : Rw)] 1 hRC (by simp) HB.out (by rw [← HNe.out]; exact hl) (by simp) hTw h1 h2 (by rw [eC]; exact h3)
  have HsB := hid (sealed_lt HB.out)
  have hsl : (sealed bs).length ≤ 3004 := by rw [sealed_len, ← HNe.out]; omega
  clear hRA hRB hRC hTw eA eB eC
  obtain ⟨Ai, hAi⟩ : ∃ Ai, (if cap = i then A else A.map (fun x => x.add i)) = Ai := ⟨_, rfl⟩
  obtain ⟨Ak, hAk⟩ : ∃ Ak, (if cap = k then A else A.map (fun x => x.add k)) = Ak := ⟨_, rfl⟩
  rw [hAi, hAk] at HF4
  rw [hAi] at HS2
  go_upto_region 7 with fail
  go_cut [64] from 34 to 64 (fun s64 wx => s64 = .bool false ∧ Hid (Only (fun _ => False) w1 wx))
  case first =>
    generalize crc bs = q at HF4 HF1
    generalize sealed bs = sl at HS2 HS1 HsB hsl
    go_region_held3 (fun w' => True ∧ Hid (Only (fun _ => False) w1 w'))
      (first | with_reducible assumption | with_reducible exact ⟨trivial, by with_reducible assumption⟩ | with_reducible exact ⟨trivial, hid (Only.refl _ _).drew⟩ | with_reducible exact ⟨trivial, hid (Only.refl _ _)⟩ | with_reducible exact ⟨trivial, hid ((Only.refl _ _).alloc _).drew⟩ | with_reducible exact ⟨trivial, hid (((Only.refl _ _).alloc _).alloc _).drew⟩ | with_reducible exact keepA (by with_reducible assumption)  | with_reducible exact keepD (by with_reducible assumption))
      (first
        | (go_at_call 14; (with_reducible show Calls _ _ #[Value.slice _ 4 _] _ _); (with_reducible refine (HF4.out _ _ ?_).mono ?_); (first | with_reducible exact ⟨w1, rfl, Only.refl _ _, (Only.refl _ _)⟩ | with_reducible exact ⟨w1, rfl, Only.refl _ _, ((Only.refl _ _).alloc _)⟩ | with_reducible exact ⟨w1.alloc _, by simp, (Only.refl _ _).alloc _, (Only.refl _ _)⟩ | with_reducible exact ⟨w1, rfl, Only.refl _ _, (Only.refl _ _).drew⟩ | with_reducible exact ⟨w1, rfl, Only.refl _ _, ((Only.refl _ _).alloc _).drew⟩ | with_reducible exact ⟨w1.alloc _, by simp, (Only.refl _ _).alloc _, (Only.refl _ _).drew⟩); rintro e wa ⟨rfl, HOa, HWa⟩)
        | (go_at_call 14; (with_reducible show Calls _ _ #[Value.slice _ 1 _] _ _); (with_reducible refine (HF1.out _ _ ?_).mono ?_); (first | with_reducible exact ⟨wa, rfl, HWa.out, (Only.refl _ _)⟩ | with_reducible exact ⟨wa, rfl, HWa.out, (Only.refl _ _).drew⟩ | with_reducible exact ⟨w1, rfl, Only.refl _ _, (((Only.refl _ _).alloc _)).trans HOa.out⟩ | with_reducible exact ⟨w1.alloc _, by simp, (Only.refl _ _).alloc _, ((Only.refl _ _)).trans HOa.out⟩ | with_reducible exact ⟨w1, rfl, Only.refl _ _, (((Only.refl _ _).alloc _).drew).trans HOa.out⟩ | with_reducible exact ⟨w1.alloc _, by simp, (Only.refl _ _).alloc _, ((Only.refl _ _).drew).trans HOa.out⟩); rintro e wb ⟨rfl, HOb, HWb⟩)
        | (go_at_call 11; (with_reducible show Calls _ _ #[Value.slice _ 2 _] _ _); (with_reducible refine (HS2.out _ _ ?_).mono ?_); (first | with_reducible exact ⟨wb, rfl, HWb.out, (Only.refl _ _)⟩ | with_reducible exact ⟨wb, rfl, HWb.out, ((Only.refl _ _).alloc _)⟩ | with_reducible exact ⟨wb.alloc _, by simp, (HWb.out).alloc _, (Only.refl _ _)⟩ | with_reducible exact ⟨wb, rfl, HWb.out, (Only.refl _ _).drew⟩ | with_reducible exact ⟨wb, rfl, HWb.out, ((Only.refl _ _).alloc _).drew⟩ | with_reducible exact ⟨wb.alloc _, by simp, (HWb.out).alloc _, (Only.refl _ _).drew⟩); rintro e wc ⟨vc, rfl, HOc, HWc⟩; (obtain ⟨Ac, capc, rfl, _⟩ := HOc.out.isSlice))
        | (go_at_call 11; (with_reducible show Calls _ _ #[Value.slice _ 1 _] _ _); (with_reducible refine (HS1.out _ _ ?_).mono ?_); (first | with_reducible exact ⟨wc, rfl, HWc.out, (Only.refl _ _)⟩ | with_reducible exact ⟨wc, rfl, HWc.out, (Only.refl _ _).drew⟩ | with_reducible exact ⟨wb, rfl, HWb.out, (((Only.refl _ _).alloc _)).trans HOc.out.only⟩ | with_reducible exact ⟨wb.alloc _, by simp, (HWb.out).alloc _, ((Only.refl _ _)).trans HOc.out.only⟩ | with_reducible exact ⟨wb, rfl, HWb.out, (((Only.refl _ _).alloc _).drew).trans HOc.out.only⟩ | with_reducible exact ⟨wb.alloc _, by simp, (HWb.out).alloc _, ((Only.refl _ _).drew).trans HOc.out.only⟩); rintro e wd ⟨vd, rfl, HOd, HWd⟩; (obtain ⟨Ad, capd, rfl, _⟩ := HOd.out.isSlice))
        | (go_at_call 16; (with_reducible refine (same_two HOc.out HOd.out ?_ (Only.refl _ _) HsB.out (by omega)).mono ?_); (first | with_reducible exact HOd.out.only | with_reducible exact ((Only.refl _ _).alloc _).trans HOd.out.only | with_reducible exact ((Only.refl _ _).alloc _).drew.trans HOd.out.only); rintro e we ⟨rfl, ke, rfl⟩))
    all_goals (go_wp2_with fail; go_meet; case rel => exact ⟨rfl, (show True ∧ Hid (Only (fun _ => False) w1 _) by with_reducible assumption).2⟩)
  case rest =>
    obtain ⟨rfl, HOc⟩ := hcut
    have HOw := hid (HO.out.trans HOc.out)
    clear HF4 HF1 HS2 HS1 hAi hAk HOc HX HY
    have HSl := hid (sealOne (cap := cap) (HR.out.only HOw.out fun _ _ _ => no_) HN.out HB.out (by rw [← HNe.out]; omega) (HT.out.only HOw.out))
    have HOpB : Hid (∀ W, Only (fun _ => False) w W → Calls Tryd.prog 12 #[.slice A n cap] W fun e w' => ∃ v, e = .returned (.tuple #[v, .int .i64 (opened bs).1]) ∧ Hid (OwY W w' v (opened bs).2)) := hid fun W h => by
      have := open_any (cap := cap) (HR.out.only h fun _ _ _ => no_) HB.out (by rw [← HNe.out]; omega) (by rw [← HNe.out]; exact hc) (HT.out.only h)
      rw [← HNe.out] at this
      exact this
    have HSo : Hid (∀ (W : World) A2 c, RdY W A2 (opened bs).2 → (A2 = none → (opened bs).2.length = 0 ∧ c = 0) → Only (fun _ => False) w W → (opened bs).1 = 0 → Calls Tryd.prog 11 #[.slice (some ⟨W.heap.size, 0, none⟩) 1 1] (W.alloc (.cells #[.slice A2 (opened bs).2.length c] 23)) fun e w' => ∃ v, e = .returned v ∧ Hid (OwY W w' v bs)) := hid fun W A2 c h1 h2 h3 h4 => by
      have := sealOne (cap := c) h1 h2 (opened_lt HB.out) (by have := opened_len bs; have := HNe.out; omega) (HT.out.only h3)
      rw [opened_ok h4] at this
      exact this
    have HSs : Hid (∀ (W : World) A2 c, RdY W A2 (sealed bs) → (A2 = none → (sealed bs).length = 0 ∧ c = 0) → Only (fun _ => False) w W → Calls Tryd.prog 11 #[.slice (some ⟨W.heap.size, 0, none⟩) 1 1] (W.alloc (.cells #[.slice A2 (sealed bs).length c] 23)) fun e w' => ∃ v, e = .returned v ∧ Hid (OwY W w' v (sealed (sealed bs)))) := hid fun W A2 c h1 h2 h3 => sealOne h1 h2 HsB.out (by omega) (HT.out.only h3)
    have hss : (sealed (sealed bs)).length ≤ 3008 := by rw [sealed_len]; omega
    have HOp2 : Hid (∀ W A2 c, RdY W A2 (sealed (sealed bs)) → Only (fun _ => False) w W → (sealed (sealed bs)).length ≤ c → Calls Tryd.prog 12 #[.slice A2 (sealed (sealed bs)).length c] W fun e w' => ∃ v, e = .returned (.tuple #[v, .int .i64 0]) ∧ Hid (OwY W w' v (sealed bs))) := hid fun W A2 c h1 h2 h3 => by
      have h := open_any h1 (sealed_lt HsB.out) (by omega) h3 (HT.out.only h2)
      unfold OpenE at h
      rw [sealed_opened] at h
      exact h
    have HOp1 : Hid (∀ W A2 c, RdY W A2 (sealed bs) → Only (fun _ => False) w W → (sealed bs).length ≤ c → Calls Tryd.prog 12 #[.slice A2 (sealed bs).length c] W fun e w' => ∃ v, e = .returned (.tuple #[v, .int .i64 0]) ∧ Hid (OwY W w' v bs)) := hid fun W A2 c h1 h2 h3 => by
      have h := open_any h1 HsB.out (by omega) h3 (HT.out.only h2)
      unfold OpenE at h
      rw [sealed_opened] at h
      exact h
    have HSm : Hid (∀ W A1 A2 c1 c2, RdY W A1 bs → RdY W A2 bs → Calls Tryd.prog 16 #[.slice A1 n c1, .slice A2 n c2] W (Quiet1 (.bool true) W)) := hid fun W A1 A2 c1 c2 h1 h2 => by
      have := same_rd (c1 := c1) (c2 := c2) h1 h2 HB.out (by rw [← HNe.out]; omega)
      rw [← HNe.out] at this
      exact this
    rw [← HNe.out] at HSl
    generalize (opened bs).1 = eo at HOpB HSo
    generalize (opened bs).2 = ol at HOpB HSo
    generalize sealed (sealed bs) = ss at HSs HOp2 hss
    generalize sealed bs = sl at HSl HSs HOp2 HOp1 hsl HsB
    go_wp2_with fail
    refine HSl.out.mono ?_
    rintro e w3 ⟨v3, rfl, HO3⟩
    obtain ⟨A3, cap3, rfl, _⟩ := HO3.out.isSlice
    have HW3 := hid (HOw.out.trans HO3.out.only)
    clear HSl HOw
    go_wp2_with fail
    refine (HSs.out _ _ _ (HO3.out.rd (Only.refl _ _)).2 HO3.out.nilA HW3.out).mono ?_
    rintro e w4 ⟨v4, rfl, HO4⟩
    obtain ⟨A4, cap4, rfl, hc4⟩ := HO4.out.isSlice
    have HW4 := hid (HW3.out.trans HO4.out.only)
    clear HSs HO3 HW3
    go_wp2_with fail
    refine (HOp2.out _ _ _ (HO4.out.rd (Only.refl _ _)).2 HW4.out hc4).mono ?_
    rintro e w5 ⟨v5, rfl, HO5⟩
    obtain ⟨A5, cap5, rfl, hc5⟩ := HO5.out.isSlice
    have HW5 := hid (HW4.out.trans HO5.out.only)
    clear HOp2 HO4 HW4
    go_wp2_with fail
    refine (HOp1.out _ _ _ (HO5.out.rd (Only.refl _ _)).2 HW5.out hc5).mono ?_
    rintro e w6 ⟨v6, rfl, HO6⟩
    obtain ⟨A6, cap6, rfl, hc6⟩ := HO6.out.isSlice
    rw [← HNe.out]
    have HW6 := hid (HW5.out.trans HO6.out.only)
    clear HOp1 HO5 HW5
    go_wp2_with fail
    refine (HOpB.out _ HW6.out).mono ?_
    rintro e w7 ⟨v7, rfl, HO7⟩
    obtain ⟨A7, cap7, rfl, hc7⟩ := HO7.out.isSlice
    have HW7 := hid (HW6.out.trans HO7.out.only)
    have HR6 : Hid (RdY w7 A6 bs) := hid (HO6.out.rd HO7.out.only).2
    clear HOpB HW6
    go_wp2_with fail
    refine (HSm.out _ _ _ _ _ HR6.out (HR.out.only HW7.out fun _ _ _ => no_)).mono ?_
    rintro e w8 ⟨rfl, k8, rfl⟩
    have HW8 := hid (HW7.out.drewN k8)
    have HR8 := hid (HO7.out.rd ((Only.refl _ w7).drewN k8)).2
    generalize w7.drewN k8 = w8 at HW8 HR8 ⊢
    by_cases he : eo = 0
    · subst he
      go_wp2_with fail
      refine (HSo.out _ _ _ HR8.out HO7.out.nilA HW8.out trivial).mono ?_
      rintro e w9 ⟨v9, rfl, HO9⟩
      obtain ⟨A9, cap9, rfl, hc9⟩ := HO9.out.isSlice
      rw [← HNe.out]
      have HW9 := hid (HW8.out.trans HO9.out.only)
      go_wp2_with fail
      refine (HSm.out _ _ _ _ _ (HO9.out.rd (Only.refl _ _)).2 (HR.out.only HW9.out fun _ _ _ => no_)).mono ?_
      rintro e w10 ⟨rfl, k10, rfl⟩
      go_wp2_with fail
      go_ret
      exact ⟨rfl, hid (only_below (HW9.out.drewN k10))⟩
    · have he2 : (eo != 0) = true := by rw [bne_iff_ne]; exact he
      go_wp2_with fail
      go_ret
      exact ⟨rfl, hid (only_below HW8.out)⟩
theorem sumParts_any {A : Option Addr} {cap : Nat} {x y : Int} {bs : List Nat} {w : World} (hc : bs.length ≤ cap) (hr : RdY w A bs) (hB : ∀ b ∈ bs, b < 256) (hA : A = none → bs.length = 0 ∧ cap = 0) (hx : -9223372036854775808 ≤ x ∧ x ≤ 9223372036854775807) (hy : -9223372036854775808 ≤ y ∧ y ≤ 9223372036854775807) (hT : TabS w) :
    Calls Tryd.prog 6 #[.slice A bs.length cap, .int .i64 x, .int .i64 y] w (YesB w) := by
  by_cases h : bs.length ≤ 3000
  · exact sumParts_short h hc hr hB hA hx hy hT
  · exact sumParts_long h hT
end Go.Proofs.YthfelifcikiogaaDoor
