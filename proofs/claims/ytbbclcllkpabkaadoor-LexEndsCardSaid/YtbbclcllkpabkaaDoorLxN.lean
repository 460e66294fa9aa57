/- LexEnds. -/
import Derived.Test.YtbbclcllkpabkaaDoorLxM
namespace Go.Proofs.YtbbclcllkpabkaaDoor.X
open Go.RowKit U G

/-- A short text. -/
def shV (m : Nat) : Value → Bool
  | .string t => decide (t.size ≤ m)
  | _ => false
theorem shV_is {m : Nat} {y : Value} (h : shV m y = true) : ∃ t : ByteArray, y = .string t ∧ t.size ≤ m := by
  cases y <;> simp [shV] at h
  exact ⟨_, rfl, h⟩
/-- Short texts in a row of the call's own. -/
def SsS (w wr : World) (v : Value) (n : Nat) : Prop := (∃ xs : List Value, OwG 9 w wr v xs ∧ xs.length = n ∧ ∀ y ∈ xs, shV 8 y = true) ∧ Only (fun _ => False) w wr
theorem strInfo9 : (Tryd.prog.info? 9).map (fun i => (i.zero, i.size, i.bytes)) = some (some (.string ByteArray.empty), 1, 16) := by kernel_rfl
theorem shV_one {m : Nat} {y : Value} (h : shV m y = true) : y.oneCell' = true := by
  obtain ⟨t, rfl, _⟩ := shV_is h
  rfl
theorem wpList_addC9 {ops : Array Oper} {rest : List Oper} {o : Oper} {a : Act} {Q : Exit → Act → World → Prop} (w0 w : World) (hgd : o.guard = none) (s x : Operand) (hop : o.op = Op.call { callee := Callee.builtin Builtin.append, args := #[s, x], argTypes := #[24, 24] })
    (v : Value) (n : Nat) (hs : a.eval s = v) (u : World) (h : Hid (SsS w0 u v n)) (cs : Array Value) (m b c : Nat) (hx : a.eval x = .slice (some ⟨b, 0, none⟩) m c) (hm : cs.size = m) (hcs : cs.toList.all (shV 8) = true) (hb : n + m ≤ 1000000) (hbu : b = u.heap.size) (hwu : w = u.alloc (.cells cs 9))
    (K : ∀ v' w', Hid (SsS w0 w' v' (n + m)) → wpList Tryd.prog ops Q rest (a.put o.dst v') w') :
    wpList Tryd.prog ops Q (o :: rest) a w := by
  obtain ⟨⟨xs, h1, h2, h3⟩, h4⟩ := h.out
  subst hwu
  have h5 : Hid (OwG 9 w0 (u.alloc (.cells cs 9)) v xs) := hid (h1.same ((Only.refl _ u).alloc _))
  have hone : ∀ y ∈ cs.toList, shV 8 y = true := fun y hy => List.all_eq_true.1 hcs y hy
  refine wpList_addAs w0 _ 24 9 (.string ByteArray.empty) 16 Tryd.underlying24 strInfo9 (by decide) rfl hgd s x hop v xs hs h5 cs.toList (fun y hy => shV_one (hone y hy)) ⟨b, 0, none⟩ m c hx (by simpa using hm) (by omega) (hid fun j y hj => ?_) ?_
  · have hj' : cs[j]? = some y := by simpa using hj
    subst hbu
    have : (u.alloc (.cells cs 9)).cell? ⟨u.heap.size, j, none⟩ = cs[j]? := by simp
    by_cases e : j = 0
    · subst e; rw [← hj', ← this]; rfl
    · rw [← hj', ← this]; simp [Addr.add, e]
  · intro v' w' k1 k2
    refine K v' w' (hid ⟨⟨_, k1.out, by rw [List.length_append, h2]; simpa using hm, fun y hy => ?_⟩, frx_only (h4.alloc _) k2.out⟩)
    rcases List.mem_append.1 hy with hy | hy
    · exact h3 y hy
    · exact hone y hy
theorem SsS.done {w wr : World} {v : Value} {n : Nat} (h : SsS w wr v n) (hn : 0 < n) : ∃ b cap, v = .slice (some ⟨b, 0, none⟩) n cap ∧ n ≤ cap ∧ ∀ W, StU wr W → ∀ i, i < n → ∃ t : ByteArray, b < W.heap.size ∧ W.cell? ⟨b, i, none⟩ = some (.string t) ∧ t.size ≤ 8 := by
  obtain ⟨⟨xs, h1, h2, h3⟩, h4⟩ := h
  rcases h1.own.2 with ⟨_, h0⟩ | ⟨g, cap, cur, e, hge, hh, hle, hcm, hsz, ht⟩
  · omega
  · refine ⟨g, cap, by rw [e, h2], by omega, fun W hW i hi => ?_⟩
    have hlt := Lib.lt_of_heap hh
    have h5 : (cur.toList.take (xs.length * 1))[i]? = xs[i]? := by rw [ht]
    rw [List.getElem?_take_of_lt (by omega)] at h5
    have hx : xs[i]? = some xs[i] := List.getElem?_eq_getElem (by omega)
    obtain ⟨t, e2, ht8⟩ := shV_is (h3 xs[i] (List.getElem_mem _))
    refine ⟨t, Nat.lt_of_lt_of_le hlt hW.out.size, ?_, ht8⟩
    rw [hW.out.cell (p := ⟨g, i, none⟩) hlt no_]
    have h6 : cur[i]? = some xs[i] := by rw [← hx, ← h5]; simp
    simp [World.cell?, hh, h6, e2]
theorem app_sizeN (a b : ByteArray) : (a ++ b).size = a.size + b.size := by rw [← bl_len, bl_append, List.length_append, bl_len, bl_len]
theorem sz1 {t : ByteArray} (h : t.size ≤ 8) : t.size ≤ 100000 := by omega
theorem sz2 {t a b : ByteArray} (h : t.size ≤ 8) (ha : a.size ≤ 50) (hb : b.size ≤ 50) : (a ++ t ++ b).size ≤ 100000 := by rw [app_sizeN, app_sizeN]; omega
theorem sz3 {t a : ByteArray} (h : t.size ≤ 8) (ha : a.size ≤ 50) : (a ++ t).size ≤ 100000 := by rw [app_sizeN]; omega
theorem sz4 {t u a b : ByteArray} (h : t.size ≤ 8) (h2 : u.size ≤ 8) (ha : a.size ≤ 50) (hb : b.size ≤ 50) : (a ++ t ++ u ++ b).size ≤ 100000 := by rw [app_sizeN, app_sizeN, app_sizeN]; omega
def sh4 : Value → Bool
  | .string t => decide (t.size = 4)
  | _ => false
theorem sh4_is {y : Value} (h : sh4 y = true) : ∃ t : ByteArray, y = .string t ∧ t.size = 4 := by
  cases y <;> simp [sh4] at h
  exact ⟨_, rfl, h⟩
def strV : Value → ByteArray
  | .string t => t
  | _ => ByteArray.empty
/-- A row of texts that is laid. -/
theorem row_new (w : World) (cs : Array Value) (hc : cs.toList.all sh4 = true) : ∃ f : Nat → ByteArray, (∀ i, i < cs.size → (f i).size = 4) ∧ ∀ W, StU (w.alloc (.cells cs 9)) W → ∀ i, i < cs.size → w.heap.size < W.heap.size ∧ W.cell? ⟨w.heap.size, i, none⟩ = some (.string (f i)) := by
  have key : ∀ i (hi : i < cs.size), ∃ t : ByteArray, cs[i] = .string t ∧ t.size = 4 := fun i hi => sh4_is (List.all_eq_true.1 hc _ (Array.getElem_mem_toList hi))
  refine ⟨fun i => strV (cs.getD i undef), fun i hi => ?_, fun W hW i hi => ?_⟩
  · obtain ⟨t, e, ht⟩ := key i hi
    simp [hi, e, strV, ht]
  · obtain ⟨t, e, ht⟩ := key i hi
    have hlt : w.heap.size < (w.alloc (.cells cs 9)).heap.size := by simp
    refine ⟨Nat.lt_of_lt_of_le hlt hW.out.size, ?_⟩
    rw [hW.out.cell (p := ⟨w.heap.size, i, none⟩) hlt no_]
    have : (w.alloc (.cells cs 9)).cell? ⟨w.heap.size, i, none⟩ = cs[i]? := by simp
    rw [this, Array.getElem?_eq_getElem hi]
    simp [hi, e, strV]
theorem sz5 {s : ByteArray} {a b : Nat} (h : s.size ≤ 100) : (s.extract a b).size ≤ 100000 := by
  have : (s.extract a b).size ≤ s.size := ext_szJ
  omega
theorem str_one (c : Nat) : ∃ x : ByteArray, strOfNums [(c : Int)] = x ∧ x.size ≤ 8 := ⟨_, rfl, by
  rw [strOfNums_size]; simp⟩
set_option maxRecDepth 100000 in
set_option maxHeartbeats 16000000 in
theorem lexEnds_any {w : World} (hT : Tb w) (hE : XerrAt w) :
    Calls Tryd.prog 4 #[] w fun e w' => e = .returned (.bool true) ∧ StU w w' := by
  have HTl : Hid (∀ (x : ByteArray) W, x.size ≤ 100000 → StU w W → Calls Tryd.prog 8 #[.string x] W fun e w' => e = .returned (.bool true) ∧ StU W w') := hid fun x W hx hW => tells_any (hT.stu hW) (hE.stu hW) hx
  have HAw : Hid (∀ W, StU w W → Calls Tryd.prog 7 #[] W fun e w' => e = .returned (.bool true) ∧ StU w w') := hid fun W hW => (awake9_any (hT.stu hW) (hE.stu hW)).mono fun e w' h => ⟨h.1, hid (hW.out.trans h.2.out)⟩
  have HI : Hid (SsS w w (.slice none 0 0) 0) := hid ⟨⟨[], OwG.nil (Nat.le_refl _), rfl, by simp⟩, Only.refl _ w⟩
  clear hT hE
  go_enter Tryd.func4, Tryd.ntmps4
  go_wp2_with fail
  go_loopw [1, 2] (fun v iv wr => ∃ (c : Nat) (v0 : Value), v0 = v ∧ iv = .int .i64 (c : Int) ∧ c ≤ 256 ∧ Hid (SsS w wr v0 c)) (fun _ iv _ => 256 - (intOf iv).toNat)
  case atStart => exact ⟨0, _, rfl, rfl, by omega, HI⟩
  case round =>
    obtain ⟨c, v0, rfl, rfl, hc, HS⟩ := hrel
    clear HI
    by_cases hlt : c < 256
    · have hlt' : (c : Int) < 256 := by omega
      have hw1 : IntKind.i64.wrap ((c : Int) + 1) = ((c + 1 : Nat) : Int) := by rw [IntKind.wrap_i64]; omega
      have hw2 : IntKind.u8.wrap (c : Int) = (c : Int) := by rw [IntKind.wrap_u8]; omega
      obtain ⟨x1, hx1, hx2⟩ := str_one c
      have hcv := run_convert_bytes_arg (P := Tryd.prog) (wr.alloc (.cells #[.int .u8 (c : Int)] 5)) 25 5 Tryd.underlying25 Tryd.underlying5 wr.heap.size 0 1 1 [(c : Int)] rfl (fun i hi => by
        obtain rfl : i = 0 := by omega
        simp) 9 Tryd.underlying9
      rw [hx1] at hcv
      have hsh : (#[Value.string x1] : Array Value).toList.all (shV 8) = true := by simp [shV, hx2]
      have HS1 : Hid (SsS w (wr.alloc (.cells #[.int .u8 (c : Int)] 5)) v0 c) := hid (by
        obtain ⟨⟨xs, k1, k2, k3⟩, k4⟩ := HS.out
        exact ⟨⟨xs, k1.same ((Only.refl _ wr).alloc _), k2, k3⟩, k4.alloc _⟩)
      clear hx1 hx2 HS
      go_wp2_with (at_builtin; refine wpList_addC9 w _ rfl _ _ rfl v0 c rfl _ HS1 #[.string x1] 1 _ _ rfl rfl hsh (by omega) (by simp) rfl ?_; intro v3 w3 HS3)
      go_roundw
      case rel => exact ⟨c + 1, _, rfl, by go_num, by omega, HS3⟩
      case measure => simp [intOf]; omega
    · obtain rfl : c = 256 := by omega
      go_upto_region 7 with (at_builtin; refine wpList_addC9 w _ rfl _ _ rfl v0 256 rfl _ HS _ 16 _ _ rfl (by rfl) (by rfl) (by omega) (by rfl) rfl ?_; intro v3 w3 HS3)
      obtain ⟨g, cap, hv3, hcap, hrow⟩ := HS3.out.done (by omega)
      subst hv3
      have HRow := hid hrow
      have HW3 : StU w w3 := hid HS3.out.2
      have hcap' : (272 : Int) ≤ (cap : Int) := by omega
      have HT2 : Hid (∀ (x : ByteArray) W, x.size ≤ 100000 → StU w3 W → Calls Tryd.prog 8 #[.string x] W fun e w' => e = .returned (.bool true) ∧ StU w3 w') := hid fun x W hx hW => (HTl.out x W hx (hid (HW3.out.trans hW.out))).mono fun e w' h => ⟨h.1, hid (hW.out.trans h.2.out)⟩
      clear HS HS3 hrow hcap hlt hc
      go_wp2_with fail
      go_loopw [3] (fun iv wr => ∃ i : Nat, i ≤ 272 ∧ iv = .int .i64 (i : Int) ∧ StU w3 wr) (fun iv _ => 272 - (intOf iv).toNat)
      case atStart => exact ⟨0, by omega, rfl, hid (Only.refl _ _)⟩
      case round =>
        obtain ⟨i, hi, rfl, HS⟩ := hrel
        by_cases hp : i < 272
        · have hp' : (i : Int) < 272 := by omega
          have h0 : (0 : Int) ≤ (i : Int) := by omega
          have hw1 : IntKind.i64.wrap ((i : Int) + 1) = ((i + 1 : Nat) : Int) := by rw [IntKind.wrap_i64]; omega
          obtain ⟨t, hb, hcell, ht8⟩ := HRow.out wr HS i hp
          have Ht8 := hid ht8
          have ht8i : (t.size : Int) ≤ 8 := by omega
          go_wp2_with (first
            | (go_at_call 8; with_reducible (refine (HT2.out _ _ (sz2 Ht8.out (by decide) (by decide)) HS).mono ?_); rintro e w9 ⟨rfl, HO⟩; clear HS; have HS := HO; clear HO)
            | (go_at_call 8; with_reducible (refine (HT2.out _ _ (sz3 Ht8.out (by decide)) HS).mono ?_); rintro e w9 ⟨rfl, HO⟩; clear HS; have HS := HO; clear HO)
            | (go_at_call 8; with_reducible (refine (HT2.out _ _ (sz1 Ht8.out) HS).mono ?_); rintro e w9 ⟨rfl, HO⟩; clear HS; have HS := HO; clear HO))
          go_roundw
          case rel => (repeat apply Exists.intro); exact ⟨⟨i + 1, by omega, by go_num, HS⟩, rfl⟩
          case measure => simp [intOf]; omega
        · obtain rfl : i = 272 := by omega
          clear HRow hp
          go_upto_region 13 with fail
          obtain ⟨w4, hw4⟩ : ∃ w4, w4 = wr.alloc (.cells #[.string { data := #[48, 48, 48, 48] }, .string { data := #[48, 48, 52, 49] }, .string { data := #[48, 48, 101, 57] }, .string { data := #[48, 48, 69, 57] }, .string { data := #[100, 55, 102, 102] }, .string { data := #[68, 56, 48, 48] }, .string { data := #[100, 102, 102, 102] }, .string { data := #[69, 48, 48, 48] }, .string { data := #[102, 102, 102, 102] }, .string { data := #[48, 48, 48, 103] }, .string { data := #[45, 48, 52, 49] }, .string { data := #[43, 48, 52, 49] }, .string { data := #[48, 95, 52, 49] }] 9) := ⟨_, rfl⟩
          obtain ⟨g4, hg4⟩ : ∃ g4, g4 = wr.heap.size := ⟨_, rfl⟩
          have HR4 : Hid (∃ f : Nat → ByteArray, (∀ i, i < 13 → (f i).size = 4) ∧ ∀ W, StU w4 W → ∀ i, i < 13 → g4 < W.heap.size ∧ W.cell? ⟨g4, i, none⟩ = some (.string (f i))) := hid (by rw [hw4, hg4]; exact row_new wr #[.string { data := #[48, 48, 48, 48] }, .string { data := #[48, 48, 52, 49] }, .string { data := #[48, 48, 101, 57] }, .string { data := #[48, 48, 69, 57] }, .string { data := #[100, 55, 102, 102] }, .string { data := #[68, 56, 48, 48] }, .string { data := #[100, 102, 102, 102] }, .string { data := #[69, 48, 48, 48] }, .string { data := #[102, 102, 102, 102] }, .string { data := #[48, 48, 48, 103] }, .string { data := #[45, 48, 52, 49] }, .string { data := #[43, 48, 52, 49] }, .string { data := #[48, 95, 52, 49] }] (by rfl))
          obtain ⟨f, hf4, hfc⟩ := HR4.out
          have Hf4 := hid hf4
          have Hfc := hid hfc
          clear HR4 hf4 hfc
          have HW4 : StU w w4 := hid (by rw [hw4]; exact (HW3.out.trans HS.out).alloc _)
          have HT4 : Hid (∀ (x : ByteArray) W, x.size ≤ 100000 → StU w4 W → Calls Tryd.prog 8 #[.string x] W fun e w' => e = .returned (.bool true) ∧ StU w4 w') := hid fun x W hx hW => (HTl.out x W hx (hid (HW4.out.trans hW.out))).mono fun e w' h => ⟨h.1, hid (hW.out.trans h.2.out)⟩
          clear HW3 HS HT2
          go_upto_region 14 with fail
          rw [← hw4, ← hg4]
          clear hw4 hg4
          go_wp2_with fail
          go_loopw [6] (fun iv wr => ∃ i : Nat, i ≤ 13 ∧ iv = .int .i64 (i : Int) ∧ StU w4 wr) (fun iv _ => 13 - (intOf iv).toNat)
          case atStart => exact ⟨0, by omega, rfl, hid (Only.refl _ _)⟩
          case round =>
            obtain ⟨i, hi, rfl, HS⟩ := hrel
            by_cases hp : i < 13
            · have hp' : (i : Int) < 13 := by omega
              have h0 : (0 : Int) ≤ (i : Int) := by omega
              have hw1 : IntKind.i64.wrap ((i : Int) + 1) = ((i + 1 : Nat) : Int) := by rw [IntKind.wrap_i64]; omega
              have HCl : Hid (∀ W, StU w4 W → g4 < W.heap.size ∧ W.cell? ⟨g4, i, none⟩ = some (.string (f i))) := hid fun W hW => Hfc.out W hW i hp
              have hd4 := Hf4.out i hp
              generalize f i = d at *
              have hd8i : (d.size : Int) ≤ 8 := by omega
              have Hd8 : Hid (d.size ≤ 8) := hid (by omega)
              have Hd4 := hid hd4
              clear hd4
              go_wp2_with fail
              go_loopw [7] (fun kv wr => ∃ k : Nat, k ≤ 5 ∧ kv = .int .i64 (k : Int) ∧ StU w4 wr) (fun kv _ => 5 - (intOf kv).toNat)
              case atStart => exact ⟨0, by omega, rfl, HS⟩
              case round =>
                obtain ⟨k, hk, rfl, HQ⟩ := hrel
                by_cases hkp : k < 5
                · have hkp' : (k : Int) < 5 := by omega
                  have hw2 : IntKind.i64.wrap ((k : Int) + 1) = ((k + 1 : Nat) : Int) := by rw [IntKind.wrap_i64]; omega
                  have hw3 : IntKind.i64.wrap (4 - (k : Int)) = ((4 - k : Nat) : Int) := by rw [IntKind.wrap_i64]; omega
                  have hmx : max ((4 - k : Nat) : Int) 0 = ((4 - k : Nat) : Int) := by omega
                  have hmn : ¬ ((4 - k : Nat) : Int) < 0 := by omega
                  have hb0 : (0 : Int) ≤ ((4 - k : Nat) : Int) := by omega
                  have hb1 : ((4 - k : Nat) : Int) ≤ (d.size : Int) := by have := Hd4.out; omega
                  have ht8 : (d.extract 0 (4 - k)).size ≤ 8 := by
                    have : (d.extract 0 (4 - k)).size ≤ d.size := ext_szJ
                    have := Hd8.out
                    omega
                  obtain ⟨hgl, dcell⟩ := HCl.out _ HQ
                  go_upto_region 21 with fail
                  generalize d.extract 0 (4 - k) = t at *
                  have Ht8 := hid ht8
                  have ht8i : (t.size : Int) ≤ 8 := by omega
                  go_wp2_with (first
                      | (go_at_call 8; with_reducible (refine (HT4.out _ _ (sz2 Ht8.out (by decide) (by decide)) HQ).mono ?_); rintro e w9 ⟨rfl, HO⟩; clear HQ dcell; have HQ := HO; clear HO; have dcell := (HCl.out _ HQ).2)
                      | (go_at_call 8; with_reducible (refine (HT4.out _ _ (sz4 Ht8.out Hd8.out (by decide) (by decide)) HQ).mono ?_); rintro e w9 ⟨rfl, HO⟩; clear HQ dcell; have HQ := HO; clear HO; have dcell := (HCl.out _ HQ).2))
                  go_roundw
                  case rel => first | exact ⟨k + 1, by omega, by go_num, HQ⟩ | ((repeat apply Exists.intro); exact ⟨⟨k + 1, by omega, by go_num, HQ⟩, rfl⟩)
                  case measure => simp [intOf]; omega
                · obtain rfl : k = 5 := by omega
                  clear hkp HCl
                  go_wp2_with fail
                  go_roundw
                  case rel => first | exact ⟨i + 1, by omega, by go_num, HQ⟩ | ((repeat apply Exists.intro); exact ⟨⟨i + 1, by omega, by go_num, HQ⟩, rfl⟩)
                  case measure => simp [intOf]; omega
            · obtain rfl : i = 13 := by omega
              clear Hf4 Hfc hp
              go_wp2_with fail
              go_loopw [10] (fun iv wr => ∃ i : Nat, i ≤ 40 ∧ iv = .int .i64 (i : Int) ∧ StU w4 wr) (fun iv _ => 40 - (intOf iv).toNat)
              case atStart => exact ⟨0, by omega, rfl, HS⟩
              case round =>
                obtain ⟨i, hi, rfl, HQ⟩ := hrel
                by_cases hp : i < 40
                · have hp' : (i : Int) ≤ 39 := by omega
                  have h0 : (0 : Int) ≤ (i : Int) := by omega
                  have hw1 : IntKind.i64.wrap ((i : Int) + 1) = ((i + 1 : Nat) : Int) := by rw [IntKind.wrap_i64]; omega
                  go_wp2_with (go_at_call 8; refine (HT4.out _ _ (sz5 (by decide)) HQ).mono ?_; rintro e w9 ⟨rfl, HO⟩; clear HQ; have HQ := HO; clear HO)
                  go_roundw
                  case rel => first | exact ⟨i + 1, by omega, by go_num, HQ⟩ | ((repeat apply Exists.intro); exact ⟨⟨i + 1, by omega, by go_num, HQ⟩, rfl⟩)
                  case measure => simp [intOf]; omega
                · obtain rfl : i = 40 := by omega
                  clear hp
                  go_wp2_with (go_at_call 7; refine (HAw.out _ (hid (HW4.out.trans HQ.out))).mono ?_; rintro e w9 ⟨rfl, HO⟩)
                  go_ret
                  exact ⟨rfl, HO⟩
end Go.Proofs.YtbbclcllkpabkaaDoor.X
