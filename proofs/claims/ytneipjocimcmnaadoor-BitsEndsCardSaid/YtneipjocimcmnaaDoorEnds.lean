/- BitsEnds. -/
import Derived.Test.YtneipjocimcmnaaDoorEndsB
import Derived.Deep.Cut
import Derived.Deep.CutRange
import Derived.Deep.RegionHeld3
import Derived.WalkSpells
namespace Go.Proofs.YtneipjocimcmnaaDoor
open Go.RowKit
open Fen

structure En3 (w W : World) (Aa Ab Ac : Option Addr) (m : Nat) : Prop where
  bel : Below w.heap.size w W
  a : BR W Aa m
  b : BR W Ab m
  c : BR W Ac m
theorem En3.step {w W W' : World} {Aa Ab Ac : Option Addr} {m : Nat} (h : En3 w W Aa Ab Ac m) (hb : Below W.heap.size W W') : En3 w W' Aa Ab Ac m := ⟨h.bel.trans (hb.mono h.bel.size), h.a.below hb, h.b.below hb, h.c.below hb⟩
theorem bel2 (w : World) (o1 o2 : Obj) : Below w.heap.size w ((w.alloc o1).alloc o2) := ((Below.refl _ _).alloc (Nat.le_refl _) _).alloc (by simp) _
theorem bel4 (w : World) (o1 o2 o3 o4 : Obj) : Below w.heap.size w ((((w.alloc o1).alloc o2).alloc o3).alloc o4) := ((bel2 w o1 o2).alloc (by simp; omega) _).alloc (by simp; omega) _
theorem below_drews (w : World) (k : Nat) : Below w.heap.size w (w.drewN k) := below_drewN (Below.refl _ _) k

/-- Among the readings. -/
structure EnX (w W : World) (gx m : Nat) : Prop where
  bel : Below w.heap.size w W
  x : YR W (some ⟨gx, 0, none⟩) m
theorem EnX.step {w W W' : World} {gx m : Nat} (h : EnX w W gx m) (hb : Below W.heap.size W W') : EnX w W' gx m := ⟨h.bel.trans (hb.mono h.bel.size), h.x.below hb⟩
theorem exOf {w W W' : World} {gx m : Nat} {P : Prop} (h : P ∧ Hid (EnX w W gx m)) (hb : Below W.heap.size W W') : True ∧ Hid (EnX w W' gx m) := ⟨trivial, hid (h.2.out.step hb)⟩
theorem exTab {w W : World} {gx m : Nat} {P : Prop} (hT : Hid (Tab w)) (h : P ∧ Hid (EnX w W gx m)) : Tab W := hT.out.only (Only.of_below h.2.out.bel (fun _ => False)) no_
theorem exTab2 {w W W' : World} {gx m : Nat} {P : Prop} (hT : Hid (Tab w)) (h : P ∧ Hid (EnX w W gx m)) (hb : Below W.heap.size W W') : Tab W' := exTab hT (exOf h hb)
theorem made_x {w v : World} {m : Nat} (h : Below w.heap.size w v) : EnX w (v.alloc (Obj.cells (madeCells #[Value.int IntKind.u8 0] m) 5)) v.heap.size m :=
  ⟨h.alloc h.size _, YR.of_cells (V := fun _ => 0) fun j hj => ⟨by rw [Nat.zero_add]; exact (World.rowIs_made v (.int .u8 0) m 5).cell hj, by omega, by omega⟩⟩
theorem cellN {w : World} {arr : Array Value} {t : TypeId} {i : Nat} {v : Value} (h : arr[i]? = some v) : (w.alloc (.cells arr t)).cell? ⟨w.heap.size, i, none⟩ = some v := by
  have hi : i < arr.size := by
    rcases Nat.lt_or_ge i arr.size with a | a
    · exact a
    · rw [Array.getElem?_eq_none a] at h; cases h
  have := (World.rowIs_alloc w arr t (fun j => arr.getD j undef) (fun j hj => by simp [hj])).cell (i := i) hi
  rw [this]
  simp [h]
theorem cellK {w : World} {o : Obj} {a : Addr} {v : Value} (h : w.cell? a = some v) : (w.alloc o).cell? a = some v := by
  rw [((Only.refl (fun _ => False) w).alloc o).cell (cell_lt h) no_, h]
theorem cell1 {w : World} {o : Obj} {arr : Array Value} {t : TypeId} {i : Nat} {v : Value} (h : arr[i]? = some v) : ((w.alloc o).alloc (.cells arr t)).cell? ⟨w.heap.size + 1, i, none⟩ = some v := by
  have e : w.heap.size + 1 = (w.alloc o).heap.size := by simp
  rw [e]; exact cellN h
theorem cell2 {w : World} {o o' : Obj} {arr : Array Value} {t : TypeId} {i : Nat} {v : Value} (h : arr[i]? = some v) : (((w.alloc o).alloc o').alloc (.cells arr t)).cell? ⟨w.heap.size + 1 + 1, i, none⟩ = some v := by
  have e : w.heap.size + 1 + 1 = ((w.alloc o).alloc o').heap.size := by simp
  rw [e]; exact cellN h
theorem cell3 {w : World} {o o' o'' : Obj} {arr : Array Value} {t : TypeId} {i : Nat} {v : Value} (h : arr[i]? = some v) : ((((w.alloc o).alloc o').alloc o'').alloc (.cells arr t)).cell? ⟨w.heap.size + 1 + 1 + 1, i, none⟩ = some v := by
  have e : w.heap.size + 1 + 1 + 1 = (((w.alloc o).alloc o').alloc o'').heap.size := by simp
  rw [e]; exact cellN h
theorem tabE {w W : World} {Aa Ab Ac : Option Addr} {m : Nat} (hT : Hid (Tab w)) (h : En3 w W Aa Ab Ac m) : Tab W := hT.out.only (Only.of_below h.bel (fun _ => False)) no_
theorem tabB {w W : World} (hT : Hid (Tab w)) (h : Below w.heap.size w W) : Tab W := hT.out.only (Only.of_below h (fun _ => False)) no_
theorem exX {w W : World} {gx m : Nat} {P : Prop} (h : P ∧ Hid (EnX w W gx m)) : YR W (some ⟨gx, 0, none⟩) m := h.2.out.x
theorem YR.take {w : World} {b n : Nat} (h : YR w (some ⟨b, 0, none⟩) n) {k : Nat} (hk : k ≤ n) : YR w (some ⟨b, 0, none⟩) k := by
  obtain ⟨V, hV⟩ : ∃ V : Nat → Nat, ∀ j, j < n → w.cell? ⟨b, 0 + j, none⟩ = some (.int .u8 ((V j : Nat) : Int)) ∧ V j < 256 :=
    ⟨fun j => if hj : j < n then Classical.choose (h.cell hj) else 0, fun j hj => by
      have := Classical.choose_spec (h.cell hj)
      simp only [hj, dif_pos]
      exact this⟩
  exact YR.of_cells (V := fun j => ((V j : Nat) : Int)) fun j hj => ⟨(hV j (by omega)).1, by omega, by have := (hV j (by omega)).2; omega⟩
theorem exXT {w W : World} {gx m k : Nat} {P : Prop} (hk : k ≤ m) (h : P ∧ Hid (EnX w W gx m)) : YR W (some ⟨gx, 0, none⟩) k := h.2.out.x.take hk
theorem u8_bd (n : Int) : 0 ≤ IntKind.u8.wrap n ∧ IntKind.u8.wrap n ≤ 255 := by rw [IntKind.wrap_u8]; omega

/-! The ends. -/
def EndV (z : Int) : Prop := z < 0 ∨ 16777216 < z ∨ (0 ≤ z ∧ z ≤ 9)
structure EdS (w W : World) (ge : Nat) (F : Nat → Int) : Prop where
  bel : Below w.heap.size w W
  row : W.rowIs ge 3 8 (fun j => .int .i64 (F j))
  bd : ∀ j, j < 8 → EndV (F j)
theorem EdS.step {w W W' : World} {ge : Nat} {F : Nat → Int} (h : EdS w W ge F) (hb : Below W.heap.size W W') : EdS w W' ge F := ⟨h.bel.trans (hb.mono h.bel.size), rowIs_below' h.row hb, h.bd⟩
theorem ends_made (w : World) : ∃ F : Nat → Int, (w.alloc (.cells #[.int .i64 (-9223372036854775808), .int .i64 (-1), .int .i64 0, .int .i64 1, .int .i64 8, .int .i64 9, .int .i64 16777217, .int .i64 9223372036854775807] 3)).rowIs w.heap.size 3 8 (fun j => .int .i64 (F j)) ∧ ∀ j, j < 8 → EndV (F j) := by
  refine ⟨fun j => [-9223372036854775808, -1, 0, 1, 8, 9, 16777217, 9223372036854775807].getD j 0, World.rowIs_alloc w _ _ _ (fun i hi => ?_), fun j hj => ?_⟩
  · match i, hi with
    | 0, _ => rfl
    | 1, _ => rfl
    | 2, _ => rfl
    | 3, _ => rfl
    | 4, _ => rfl
    | 5, _ => rfl
    | 6, _ => rfl
    | 7, _ => rfl
    | i + 8, hi => exact absurd (show i + 8 < 8 from hi) (by omega)
  · match j, hj with
    | 0, _ => exact .inl (by decide)
    | 1, _ => exact .inl (by decide)
    | 2, _ => exact .inr (.inr (by decide))
    | 3, _ => exact .inr (.inr (by decide))
    | 4, _ => exact .inr (.inr (by decide))
    | 5, _ => exact .inr (.inr (by decide))
    | 6, _ => exact .inr (.inl (by decide))
    | 7, _ => exact .inr (.inl (by decide))
    | i + 8, hi => exact absurd hi (by omega)
theorem yr1 {w : World} {b : Nat} {y : Int} (hy : 0 ≤ y ∧ y ≤ 255) (h : w.cell? ⟨b, 0, none⟩ = some (.int .u8 y)) : YR w (some ⟨b, 0, none⟩) 1 :=
  YR.of_cells (V := fun _ => y) fun j hj => by
    obtain rfl : j = 0 := by omega
    exact ⟨h, hy⟩
theorem one_most : C (cf (fset (fun _ => false) true [(16777215 : Int)])) 16777215 = 0 ∧ C (cf (fset (fun _ => false) true [(16777215 : Int)])) (16777215 + 1) = 1 := one_bit 16777215
theorem most_in : [(16777215 : Int)].any (bad 16777216) = false := by simp [bad]
theorem RdI_lit (w : World) (t : TypeId) (k : Int) : RdI (w.alloc (Obj.cells #[.int .i64 k] t)) (some ⟨w.heap.size, 0, none⟩) [k] := RdI_one w t k

set_option maxRecDepth 100000 in
set_option maxHeartbeats 16000000 in
theorem bitsEnds_any (w : World) (hT : Tab w) :
    Calls Tryd.prog 5 #[] w (Fine w) := by
  have HT := hid hT
  clear hT
  go_enter Tryd.func5, Tryd.ntmps5
  go_wp2_with fail
  go_loopw [1] (fun s wr => ∃ n : Nat, n ≤ 1100 ∧ s = .int .i64 n ∧ Hid (Below w.heap.size w wr)) (fun s _ => 1100 - (intOf s).toNat)
  case atStart => exact ⟨0, by omega, rfl, hid (Below.refl _ _)⟩
  case round =>
    obtain ⟨n, hn, rfl, HB⟩ := hrel
    by_cases hp : n < 1100
    · go_upto_if 20 with fail
      go_cut [1] from 15 to 116 (fun s1 w' => ∃ m : Nat, n ≤ m ∧ m ≤ 1099 ∧ s1 = .int .i64 m ∧ Hid (Below w.heap.size w w'))
      case first =>
        by_cases h71 : n = 71
        · subst h71
          go_wp2_with fail
          go_meet
          case rel => exact ⟨500, by omega, by omega, rfl, HB⟩
        · have h71' : ((n : Int) == 71) = false := by rw [beq_eq_false_iff_ne]; omega
          go_wp2_with fail
          go_meet
          case rel => exact ⟨n, by omega, by omega, rfl, HB⟩
      case rest =>
        obtain ⟨m1, hm1, hm2, rfl, HB1⟩ := hcut
        clear HB
        go_upto_if 22 with fail
        go_cut [1] from 15 to 116 (fun s1 w' => ∃ m : Nat, n ≤ m ∧ m ≤ 1099 ∧ s1 = .int .i64 m ∧ Hid (Below w.heap.size w w'))
        case first =>
          by_cases h530 : m1 = 530
          · subst h530
            go_wp2_with fail
            go_meet
            case rel => exact ⟨1015, by omega, by omega, rfl, HB1⟩
          · have h530' : ((m1 : Int) == 530) = false := by rw [beq_eq_false_iff_ne]; omega
            go_wp2_with fail
            go_meet
            case rel => exact ⟨m1, by omega, by omega, rfl, HB1⟩
        case rest =>
          clear HB1 hm1 hm2
          obtain ⟨m, hm1, hm2, rfl, HB⟩ := hcut
          have HL0 := hid (L3.begin HB.out)
          go_wp2_with fail
          obtain ⟨v0, rfl⟩ : ∃ v0 : World, v0 = wc := ⟨_, rfl⟩
          go_loopw [2, 3, 4, 5] (fun a b c s wr => ∃ k : Nat, k ≤ m ∧ s = .int .i64 k ∧ Hid (L3 w wr a b c k k k)) (fun _ _ _ s _ => m - (intOf s).toNat)
          case atStart => exact ⟨0, by omega, rfl, HL0⟩
          case round =>
            obtain ⟨k, hk, rfl, HL⟩ := hrel
            clear HL0 HB
            by_cases hpk : k < m
            · have hbase : w.heap.size ≤ wr.heap.size := HL.out.bel.size
              have hpk' : (k : Int) < (m : Int) := by omega
              go_wp2_with (first
                | (at_builtin; refine wpList_snoc_bool _ rfl (.tmp 28) (.tmp 29) rfl w.heap.size k _ rfl (hid (HL.out.a.alloc _)) ⟨wr.heap.size, 0, none⟩ 1 _ rfl (cell_new1 _ _ _) (by omega) (by simp; omega) ?_; intro va w1 ho1 hg1 hb1; have HL1 := hid (HL.out.push ho1.out hg1.out hb1.out); have hz1 := HL1.out.bel.size; clear ho1 hg1 hb1)
                | (at_builtin; refine wpList_snoc_bool _ rfl (.tmp 31) (.tmp 32) rfl w.heap.size k _ rfl (hid (HL1.out.b.alloc _)) ⟨w1.heap.size, 0, none⟩ 1 _ rfl (cell_new1 _ _ _) (by omega) (by simp; omega) ?_; intro vb w2 ho2 hg2 hb2; have HL2 := hid (HL1.out.rot.push ho2.out hg2.out hb2.out); have hz2 := HL2.out.bel.size; clear ho2 hg2 hb2)
                | (at_builtin; refine wpList_snoc_bool _ rfl (.tmp 34) (.tmp 38) rfl w.heap.size k _ rfl (hid (HL2.out.b.alloc _)) ⟨w2.heap.size, 0, none⟩ 1 _ rfl (cell_new1 _ _ _) (by omega) (by simp; omega) ?_; intro vc w3 ho3 hg3 hb3; have HL3 := hid (HL2.out.rot.push ho3.out hg3.out hb3.out); clear ho3 hg3 hb3))
              have HN := hid HL3.out.rot
              clear HL HL1 HL2 HL3
              go_roundw
              case rel => exact ⟨k + 1, by omega, by go_num, HN⟩
              case measure => simp [intOf]; omega
            · obtain rfl : k = m := by omega
              obtain ⟨Aa, ca, rfl, ra, na⟩ := HL.out.a.read
              obtain ⟨Ab, cb, rfl, rb, nb⟩ := HL.out.b.read
              obtain ⟨Ac, cc, rfl, rc, nc⟩ := HL.out.c.read
              obtain ⟨v1, rfl⟩ : ∃ v1 : World, v1 = wr := ⟨_, rfl⟩
              have HE : Hid (En3 w v1 Aa Ab Ac k) := hid ⟨HL.out.bel, ra, rb, rc⟩
              have HNa := hid na
              have HNb := hid nb
              have HNc := hid nc
              clear HL ra rb rc na nb nc
              go_wp2_with fail
              refine (doE (HE.out.a.below (bel2 _ _ _)) HNa.out (dr1 (zs := [0, (k : Int) - 1]) rfl (by simp) (cell1 rfl) (cell1 rfl) (rdi2 (cellK (cellN rfl)) (cellK (cellN rfl)))) (tabE HT (HE.out.step (bel2 _ _ _))) (by omega) (by omega)).mono ?_
              rintro e w1 ⟨rfl, hb⟩
              have HE1 := hid ((HE.out.step (bel2 v1 _ _)).step hb.out)
              clear HE hb HNa
              go_wp2_with fail
              refine (doE (HE1.out.b.below (bel4 _ _ _ _ _)) HNb.out (dr3 (z1 := (k : Int) / 2) (z2 := (k : Int)) (z3 := -1) (cell3 rfl) (cell3 rfl) (cell3 rfl) (cell3 rfl) (cell3 rfl) (cell3 rfl) (rdi1 (cellK (cellK (cellK (cellN rfl))))) (rdi1 (cellK (cellK (cell1 rfl)))) (rdi1 (cellK (cell2 rfl)))) (tabE HT (HE1.out.step (bel4 _ _ _ _ _))) (by omega) (by omega)).mono ?_
              rintro e w2 ⟨rfl, hb⟩
              have HE2 := hid ((HE1.out.step (bel4 w1 _ _ _ _)).step hb.out)
              clear HE1 hb HNb
              go_wp2_with fail
              refine (doE (HE2.out.c.below (bel2 _ _ _)) HNc.out (dr2 (z1 := (k : Int) / 2) (z2 := (k : Int) / 2) (cell1 rfl) (cell1 rfl) (cell1 rfl) (cell1 rfl) (rdi2 (cellK (cellN rfl)) (cellK (cellN rfl)))) (tabE HT (HE2.out.step (bel2 _ _ _))) (by omega) (by omega)).mono ?_
              rintro e w3 ⟨rfl, hb⟩
              have HB3 := hid ((HE2.out.step (bel2 w2 _ _)).step hb.out).bel
              clear HE2 hb HNc
              obtain ⟨mx, hmx⟩ : ∃ mx, mx = k % 130 := ⟨_, rfl⟩
              have hx1 : (k : Int) % 130 = (mx : Int) := by omega
              have hx2 : mx < 130 := by omega
              have hmk := fun W => run_make_row' (P := Tryd.prog) 41 5 (.int .u8 0) 1 Tryd.underlying41 byteInfoE rfl .i64 .i64 mx (by omega) (by omega) W
              clear hmx
              go_upto_region 18 with fail
              have HX0 := hid (made_x (m := mx) HB3)
              clear HB3 hmk hx1
              go_cut [116] from 15 to 116 (fun s116 w' => s116 = .bool false ∧ Hid (Below w.heap.size w w'))
              case first => as_aux_lemma =>
                by_cases hm0 : mx = 0
                · as_aux_lemma =>
                    subst hm0
                    refine wp_region_noPanic ?_
                    refine wp_region_held_drew (S := fun w' => True ∧ Hid (EnX w w' w3.heap.size 0)) (by kernel_rfl) (exOf ⟨trivial, HX0⟩ (below_drews _ 1)) (fun hHeld => ?_)
                    refine wpAnyH_take (i := 0) (oi := { dst := some 84, op := Op.move (Operand.tmp 1), type := 3, pos := "law.go:120", after := #[], guard := none }) (v := ?v0) rfl (by kernel_rfl) (by kernel_rfl) (by kernel_rfl) (fun _ _ _ h => h) (Or.inl ⟨by rfl, ?h0⟩) (by assumption) ?r0
                    case h0 => (intro w' hSw; first | (go_simp; done) | (go_simp; with_reducible rfl))
                    (try simp only [Act.put, List.setIfInBounds_toArray, List.set_cons_zero, List.set_cons_succ])
                    refine wpAnyH_take (i := 1) (oi := { dst := some 85, op := Op.move (Operand.tmp 6), type := 41, pos := "law.go:120", after := #[], guard := none }) (v := ?v1) rfl (by kernel_rfl) (by kernel_rfl) (by kernel_rfl) (fun _ _ _ h => h) (Or.inl ⟨by rfl, ?h1⟩) (by assumption) ?r1
                    case h1 => (intro w' hSw; first | (go_simp; done) | (go_simp; with_reducible rfl))
                    (try simp only [Act.put, List.setIfInBounds_toArray, List.set_cons_zero, List.set_cons_succ])
                    refine wpAnyH_ready (rs := [2]) (by kernel_rfl) (by simp) ?_
                    refine AllReadyH.cons (o := { dst := some 86, op := Op.call { callee := Callee.value (Operand.func 4), args := #[Operand.tmp 84, Operand.tmp 85, Operand.const (Value.int IntKind.i64 0)], argTypes := #[3, 41, 3] }, type := 4, pos := "law.go:120", after := #[{ on := 0, ground := Ground.data }, { on := 1, ground := Ground.data }], guard := none }) rfl (fun K hK => ?_) AllReadyH.nil
                    go_simp
                    (refine (readE ?_ (by intro h; cases h) ?_ (by omega) (by omega)).mono ?_)
                    exact exX (by assumption)
                    exact exTab HT (by assumption)
                    rintro e wa ⟨rfl, HO⟩
                    go_wp2_with fail
                    refine hK.out _ _ (exOf (by assumption) HO.out) (fun hHeld => ?_)
                    clear hK K
                    (try simp only [Act.put, List.setIfInBounds_toArray, List.set_cons_zero, List.set_cons_succ])
                    refine wpAnyH_take (i := 3) (oi := { dst := some 87, op := Op.unOp UnOp.not 4 (Operand.tmp 86), type := 4, pos := "law.go:120", after := #[{ on := 2, ground := Ground.data }], guard := none }) (v := ?v3) rfl (by kernel_rfl) (by kernel_rfl) (by kernel_rfl) (fun _ _ _ h => h) (Or.inl ⟨by rfl, ?h3⟩) (by assumption) ?r3
                    case h3 => (intro w' hSw; first | (go_simp; done) | (go_simp; with_reducible rfl))
                    (try simp only [Act.put, List.setIfInBounds_toArray, List.set_cons_zero, List.set_cons_succ])
                    refine wpAnyH_take (i := 4) (oi := { dst := some 88, op := Op.move (Operand.tmp 87), type := 4, pos := "law.go:120", after := #[{ on := 3, ground := Ground.data }, { on := 2, ground := Ground.chain }], guard := none }) (v := ?v4) rfl (by kernel_rfl) (by kernel_rfl) (by kernel_rfl) (fun _ _ _ h => h) (Or.inl ⟨by rfl, ?h4⟩) (by assumption) ?r4
                    case h4 => (intro w' hSw; first | (go_simp; done) | (go_simp; with_reducible rfl))
                    (try simp only [Act.put, List.setIfInBounds_toArray, List.set_cons_zero, List.set_cons_succ])
                    refine wpAnyH_take (i := 5) (oi := { dst := some 89, op := Op.move (Operand.tmp 6), type := 41, pos := "law.go:120", after := #[{ on := 4, ground := Ground.guard }], guard := some (4, false) }) (v := ?v5) rfl (by kernel_rfl) (by kernel_rfl) (by kernel_rfl) (fun _ _ _ h => h) (Or.inl ⟨by rfl, ?h5⟩) (by assumption) ?r5
                    case h5 => (intro w' hSw; first | (go_simp; done) | (go_simp; with_reducible rfl))
                    (try simp only [Act.put, List.setIfInBounds_toArray, List.set_cons_zero, List.set_cons_succ])
                    refine wpAnyH_take (i := 6) (oi := { dst := some 90, op := Op.call { callee := Callee.builtin Builtin.len, args := #[Operand.tmp 89], argTypes := #[41] }, type := 3, pos := "law.go:120", after := #[{ on := 5, ground := Ground.data }, { on := 4, ground := Ground.guard }], guard := some (4, false) }) (v := ?v6) rfl (by kernel_rfl) (by kernel_rfl) (by kernel_rfl) (fun _ _ _ h => h) (Or.inl ⟨by rfl, ?h6⟩) (by assumption) ?r6
                    case h6 => (intro w' hSw; first | (go_simp; done) | (go_simp; with_reducible rfl))
                    (try simp only [Act.put, List.setIfInBounds_toArray, List.set_cons_zero, List.set_cons_succ])
                    refine wpAnyH_take (i := 7) (oi := { dst := some 91, op := Op.binOp BinOp.gtr 3 (Operand.tmp 90) (Operand.const (Value.int IntKind.i64 0)) 3, type := 4, pos := "law.go:120", after := #[{ on := 6, ground := Ground.data }, { on := 4, ground := Ground.guard }], guard := some (4, false) }) (v := ?v7) rfl (by kernel_rfl) (by kernel_rfl) (by kernel_rfl) (fun _ _ _ h => h) (Or.inl ⟨by rfl, ?h7⟩) (by assumption) ?r7
                    case h7 => (intro w' hSw; first | (go_simp; done) | (go_simp; with_reducible rfl))
                    (try simp only [Act.put, List.setIfInBounds_toArray, List.set_cons_zero, List.set_cons_succ])
                    refine wpAnyH_take (i := 8) (oi := { dst := some 92, op := Op.move (Operand.tmp 91), type := 4, pos := "law.go:120", after := #[{ on := 7, ground := Ground.data }, { on := 4, ground := Ground.chain }, { on := 4, ground := Ground.guard }], guard := some (4, false) }) (v := ?v8) rfl (by kernel_rfl) (by kernel_rfl) (by kernel_rfl) (fun _ _ _ h => h) (Or.inl ⟨by rfl, ?h8⟩) (by assumption) ?r8
                    case h8 => (intro w' hSw; first | (go_simp; done) | (go_simp; with_reducible rfl))
                    (try simp only [Act.put, List.setIfInBounds_toArray, List.set_cons_zero, List.set_cons_succ])
                    refine wpAnyH_take (i := 9) (oi := { dst := some 93, op := Op.move (Operand.tmp 6), type := 41, pos := "law.go:120", after := #[{ on := 8, ground := Ground.guard }], guard := some (8, true) }) (v := undef) rfl (by kernel_rfl) (by kernel_rfl) (by kernel_rfl) (fun _ _ _ h => h) (Or.inr ⟨by rfl, rfl⟩) (by assumption) ?_
                    (try simp only [Act.put, List.setIfInBounds_toArray, List.set_cons_zero, List.set_cons_succ])
                    refine wpAnyH_take (i := 10) (oi := { dst := some 94, op := Op.call { callee := Callee.builtin Builtin.len, args := #[Operand.tmp 93], argTypes := #[41] }, type := 3, pos := "law.go:120", after := #[{ on := 9, ground := Ground.data }, { on := 8, ground := Ground.guard }], guard := some (8, true) }) (v := undef) rfl (by kernel_rfl) (by kernel_rfl) (by kernel_rfl) (fun _ _ _ h => h) (Or.inr ⟨by rfl, rfl⟩) (by assumption) ?_
                    (try simp only [Act.put, List.setIfInBounds_toArray, List.set_cons_zero, List.set_cons_succ])
                    refine wpAnyH_take (i := 11) (oi := { dst := some 95, op := Op.binOp BinOp.mul 3 (Operand.const (Value.int IntKind.i64 8)) (Operand.tmp 94) 3, type := 3, pos := "law.go:120", after := #[{ on := 10, ground := Ground.data }, { on := 8, ground := Ground.guard }], guard := some (8, true) }) (v := undef) rfl (by kernel_rfl) (by kernel_rfl) (by kernel_rfl) (fun _ _ _ h => h) (Or.inr ⟨by rfl, rfl⟩) (by assumption) ?_
                    (try simp only [Act.put, List.setIfInBounds_toArray, List.set_cons_zero, List.set_cons_succ])
                    refine wpAnyH_take (i := 12) (oi := { dst := some 96, op := Op.move (Operand.tmp 1), type := 3, pos := "law.go:120", after := #[{ on := 8, ground := Ground.guard }], guard := some (8, true) }) (v := undef) rfl (by kernel_rfl) (by kernel_rfl) (by kernel_rfl) (fun _ _ _ h => h) (Or.inr ⟨by rfl, rfl⟩) (by assumption) ?_
                    (try simp only [Act.put, List.setIfInBounds_toArray, List.set_cons_zero, List.set_cons_succ])
                    refine wpAnyH_take (i := 13) (oi := { dst := some 97, op := Op.binOp BinOp.rem 3 (Operand.tmp 96) (Operand.const (Value.int IntKind.i64 9)) 3, type := 3, pos := "law.go:120", after := #[{ on := 12, ground := Ground.data }, { on := 8, ground := Ground.guard }], guard := some (8, true) }) (v := undef) rfl (by kernel_rfl) (by kernel_rfl) (by kernel_rfl) (fun _ _ _ h => h) (Or.inr ⟨by rfl, rfl⟩) (by assumption) ?_
                    (try simp only [Act.put, List.setIfInBounds_toArray, List.set_cons_zero, List.set_cons_succ])
                    refine wpAnyH_take (i := 14) (oi := { dst := some 98, op := Op.binOp BinOp.sub 3 (Operand.tmp 95) (Operand.tmp 97) 3, type := 3, pos := "law.go:120", after := #[{ on := 11, ground := Ground.data }, { on := 13, ground := Ground.data }, { on := 8, ground := Ground.guard }], guard := some (8, true) }) (v := undef) rfl (by kernel_rfl) (by kernel_rfl) (by kernel_rfl) (fun _ _ _ h => h) (Or.inr ⟨by rfl, rfl⟩) (by assumption) ?_
                    (try simp only [Act.put, List.setIfInBounds_toArray, List.set_cons_zero, List.set_cons_succ])
                    refine wpAnyH_take (i := 15) (oi := { dst := some 99, op := Op.move (Operand.tmp 6), type := 41, pos := "law.go:120", after := #[{ on := 8, ground := Ground.guard }], guard := some (8, true) }) (v := undef) rfl (by kernel_rfl) (by kernel_rfl) (by kernel_rfl) (fun _ _ _ h => h) (Or.inr ⟨by rfl, rfl⟩) (by assumption) ?_
                    (try simp only [Act.put, List.setIfInBounds_toArray, List.set_cons_zero, List.set_cons_succ])
                    refine wpAnyH_take (i := 16) (oi := { dst := some 100, op := Op.move (Operand.tmp 6), type := 41, pos := "law.go:120", after := #[{ on := 8, ground := Ground.guard }], guard := some (8, true) }) (v := undef) rfl (by kernel_rfl) (by kernel_rfl) (by kernel_rfl) (fun _ _ _ h => h) (Or.inr ⟨by rfl, rfl⟩) (by assumption) ?_
                    (try simp only [Act.put, List.setIfInBounds_toArray, List.set_cons_zero, List.set_cons_succ])
                    refine wpAnyH_take (i := 17) (oi := { dst := some 101, op := Op.call { callee := Callee.builtin Builtin.len, args := #[Operand.tmp 100], argTypes := #[41] }, type := 3, pos := "law.go:120", after := #[{ on := 16, ground := Ground.data }, { on := 8, ground := Ground.guard }], guard := some (8, true) }) (v := undef) rfl (by kernel_rfl) (by kernel_rfl) (by kernel_rfl) (fun _ _ _ h => h) (Or.inr ⟨by rfl, rfl⟩) (by assumption) ?_
                    (try simp only [Act.put, List.setIfInBounds_toArray, List.set_cons_zero, List.set_cons_succ])
                    refine wpAnyH_take (i := 18) (oi := { dst := some 102, op := Op.binOp BinOp.sub 3 (Operand.tmp 101) (Operand.const (Value.int IntKind.i64 1)) 3, type := 3, pos := "law.go:120", after := #[{ on := 17, ground := Ground.data }, { on := 8, ground := Ground.guard }], guard := some (8, true) }) (v := undef) rfl (by kernel_rfl) (by kernel_rfl) (by kernel_rfl) (fun _ _ _ h => h) (Or.inr ⟨by rfl, rfl⟩) (by assumption) ?_
                    (try simp only [Act.put, List.setIfInBounds_toArray, List.set_cons_zero, List.set_cons_succ])
                    refine wpAnyH_take (i := 19) (oi := { dst := some 103, op := Op.move (Operand.tmp 6), type := 41, pos := "law.go:120", after := #[{ on := 8, ground := Ground.guard }], guard := some (8, true) }) (v := undef) rfl (by kernel_rfl) (by kernel_rfl) (by kernel_rfl) (fun _ _ _ h => h) (Or.inr ⟨by rfl, rfl⟩) (by assumption) ?_
                    (try simp only [Act.put, List.setIfInBounds_toArray, List.set_cons_zero, List.set_cons_succ])
                    refine wpAnyH_take (i := 20) (oi := { dst := some 104, op := Op.call { callee := Callee.builtin Builtin.len, args := #[Operand.tmp 103], argTypes := #[41] }, type := 3, pos := "law.go:120", after := #[{ on := 19, ground := Ground.data }, { on := 8, ground := Ground.guard }], guard := some (8, true) }) (v := undef) rfl (by kernel_rfl) (by kernel_rfl) (by kernel_rfl) (fun _ _ _ h => h) (Or.inr ⟨by rfl, rfl⟩) (by assumption) ?_
                    (try simp only [Act.put, List.setIfInBounds_toArray, List.set_cons_zero, List.set_cons_succ])
                    refine wpAnyH_take (i := 21) (oi := { dst := some 105, op := Op.binOp BinOp.sub 3 (Operand.tmp 104) (Operand.const (Value.int IntKind.i64 1)) 3, type := 3, pos := "law.go:120", after := #[{ on := 20, ground := Ground.data }, { on := 8, ground := Ground.guard }], guard := some (8, true) }) (v := undef) rfl (by kernel_rfl) (by kernel_rfl) (by kernel_rfl) (fun _ _ _ h => h) (Or.inr ⟨by rfl, rfl⟩) (by assumption) ?_
                    (try simp only [Act.put, List.setIfInBounds_toArray, List.set_cons_zero, List.set_cons_succ])
                    refine wpAnyH_take (i := 22) (oi := { dst := some 106, op := Op.slice 41 (Operand.tmp 99) none (some (Operand.tmp 102)) (some (Operand.tmp 105)), type := 41, pos := "law.go:120", after := #[{ on := 15, ground := Ground.data }, { on := 18, ground := Ground.data }, { on := 21, ground := Ground.data }, { on := 8, ground := Ground.guard }], guard := some (8, true) }) (v := undef) rfl (by kernel_rfl) (by kernel_rfl) (by kernel_rfl) (fun _ _ _ h => h) (Or.inr ⟨by rfl, rfl⟩) (by assumption) ?_
                    (try simp only [Act.put, List.setIfInBounds_toArray, List.set_cons_zero, List.set_cons_succ])
                    refine wpAnyH_take (i := 23) (oi := { dst := some 107, op := Op.move (Operand.tmp 1), type := 3, pos := "law.go:120", after := #[{ on := 8, ground := Ground.guard }], guard := some (8, true) }) (v := undef) rfl (by kernel_rfl) (by kernel_rfl) (by kernel_rfl) (fun _ _ _ h => h) (Or.inr ⟨by rfl, rfl⟩) (by assumption) ?_
                    (try simp only [Act.put, List.setIfInBounds_toArray, List.set_cons_zero, List.set_cons_succ])
                    refine wpAnyH_take (i := 24) (oi := { dst := some 108, op := Op.binOp BinOp.rem 3 (Operand.tmp 107) (Operand.const (Value.int IntKind.i64 8)) 3, type := 3, pos := "law.go:120", after := #[{ on := 23, ground := Ground.data }, { on := 8, ground := Ground.guard }], guard := some (8, true) }) (v := undef) rfl (by kernel_rfl) (by kernel_rfl) (by kernel_rfl) (fun _ _ _ h => h) (Or.inr ⟨by rfl, rfl⟩) (by assumption) ?_
                    (try simp only [Act.put, List.setIfInBounds_toArray, List.set_cons_zero, List.set_cons_succ])
                    refine wpAnyH_take (i := 25) (oi := { dst := some 109, op := Op.binOp BinOp.shl 5 (Operand.const (Value.int IntKind.u8 1)) (Operand.tmp 108) 3, type := 5, pos := "law.go:120", after := #[{ on := 24, ground := Ground.data }, { on := 8, ground := Ground.guard }], guard := some (8, true) }) (v := undef) rfl (by kernel_rfl) (by kernel_rfl) (by kernel_rfl) (fun _ _ _ h => h) (Or.inr ⟨by rfl, rfl⟩) (by assumption) ?_
                    (try simp only [Act.put, List.setIfInBounds_toArray, List.set_cons_zero, List.set_cons_succ])
                    refine wpAnyH_take (i := 26) (oi := { dst := some 110, op := Op.buildSlice 41 1 #[(0, Operand.tmp 109)], type := 41, pos := "law.go:120", after := #[{ on := 25, ground := Ground.data }, { on := 8, ground := Ground.guard }], guard := some (8, true) }) (v := undef) rfl (by kernel_rfl) (by kernel_rfl) (by kernel_rfl) (fun _ _ _ h => h) (Or.inr ⟨by rfl, rfl⟩) (by assumption) ?_
                    (try simp only [Act.put, List.setIfInBounds_toArray, List.set_cons_zero, List.set_cons_succ])
                    refine wpAnyH_take (i := 27) (oi := { dst := some 111, op := Op.call { callee := Callee.builtin Builtin.append, args := #[Operand.tmp 106, Operand.tmp 110], argTypes := #[41, 41] }, type := 41, pos := "law.go:120", after := #[{ on := 22, ground := Ground.data }, { on := 26, ground := Ground.data }, { on := 8, ground := Ground.chain }, { on := 8, ground := Ground.guard }], guard := some (8, true) }) (v := undef) rfl (by kernel_rfl) (by kernel_rfl) (by kernel_rfl) (fun _ _ _ h => h) (Or.inr ⟨by rfl, rfl⟩) (by assumption) ?_
                    (try simp only [Act.put, List.setIfInBounds_toArray, List.set_cons_zero, List.set_cons_succ])
                    refine wpAnyH_take (i := 28) (oi := { dst := some 112, op := Op.move (Operand.tmp 1), type := 3, pos := "law.go:120", after := #[{ on := 8, ground := Ground.guard }], guard := some (8, true) }) (v := undef) rfl (by kernel_rfl) (by kernel_rfl) (by kernel_rfl) (fun _ _ _ h => h) (Or.inr ⟨by rfl, rfl⟩) (by assumption) ?_
                    (try simp only [Act.put, List.setIfInBounds_toArray, List.set_cons_zero, List.set_cons_succ])
                    refine wpAnyH_take (i := 29) (oi := { dst := some 113, op := Op.call { callee := Callee.value (Operand.func 4), args := #[Operand.tmp 98, Operand.tmp 111, Operand.tmp 112], argTypes := #[3, 41, 3] }, type := 4, pos := "law.go:120", after := #[{ on := 14, ground := Ground.data }, { on := 27, ground := Ground.data }, { on := 28, ground := Ground.data }, { on := 27, ground := Ground.chain }, { on := 8, ground := Ground.guard }], guard := some (8, true) }) (v := undef) rfl (by kernel_rfl) (by kernel_rfl) (by kernel_rfl) (fun _ _ _ h => h) (Or.inr ⟨by rfl, rfl⟩) (by assumption) ?_
                    (try simp only [Act.put, List.setIfInBounds_toArray, List.set_cons_zero, List.set_cons_succ])
                    refine wpAnyH_take (i := 30) (oi := { dst := some 114, op := Op.unOp UnOp.not 4 (Operand.tmp 113), type := 4, pos := "law.go:120", after := #[{ on := 29, ground := Ground.data }, { on := 8, ground := Ground.guard }], guard := some (8, true) }) (v := undef) rfl (by kernel_rfl) (by kernel_rfl) (by kernel_rfl) (fun _ _ _ h => h) (Or.inr ⟨by rfl, rfl⟩) (by assumption) ?_
                    (try simp only [Act.put, List.setIfInBounds_toArray, List.set_cons_zero, List.set_cons_succ])
                    refine wpAnyH_take (i := 31) (oi := { dst := some 115, op := Op.pick (Operand.tmp 92) (Operand.tmp 114) (Operand.const (Value.bool false)), type := 4, pos := "law.go:120", after := #[{ on := 8, ground := Ground.data }, { on := 30, ground := Ground.data }, { on := 4, ground := Ground.guard }], guard := some (4, false) }) (v := ?v31) rfl (by kernel_rfl) (by kernel_rfl) (by kernel_rfl) (fun _ _ _ h => h) (Or.inl ⟨by rfl, ?h31⟩) (by assumption) ?r31
                    case h31 => (intro w' hSw; first | (go_simp; done) | (go_simp; with_reducible rfl))
                    (try simp only [Act.put, List.setIfInBounds_toArray, List.set_cons_zero, List.set_cons_succ])
                    refine wpAnyH_take (i := 32) (oi := { dst := some 116, op := Op.pick (Operand.tmp 88) (Operand.const (Value.bool true)) (Operand.tmp 115), type := 4, pos := "law.go:120", after := #[{ on := 4, ground := Ground.data }, { on := 31, ground := Ground.data }], guard := none }) (v := ?v32) rfl (by kernel_rfl) (by kernel_rfl) (by kernel_rfl) (fun _ _ _ h => h) (Or.inl ⟨by rfl, ?h32⟩) (by assumption) ?r32
                    case h32 => (intro w' hSw; first | (go_simp; done) | (go_simp; with_reducible rfl))
                    (try simp only [Act.put, List.setIfInBounds_toArray, List.set_cons_zero, List.set_cons_succ])
                    refine wpAnyH_done (by kernel_rfl) ?_ _
                    refine NoPanic.normal ?_
                    have HE9 := (show (_ ∧ Hid (EnX w wa w3.heap.size 0)) from by assumption).2
                    go_wp2_with fail
                    go_meet
                    case rel => exact ⟨rfl, hid HE9.out.bel⟩
                · as_aux_lemma =>
                    obtain ⟨j, rfl⟩ : ∃ j, mx = j + 1 := ⟨mx - 1, by omega⟩
                    obtain ⟨q9, hq9⟩ : ∃ q, q = k % 9 := ⟨_, rfl⟩
                    obtain ⟨q8, hq8⟩ : ∃ q, q = k % 8 := ⟨_, rfl⟩
                    have h9a : (k : Int).tmod 9 = (q9 : Int) := by rw [Int.tmod_eq_emod_of_nonneg (by omega)]; omega
                    have h9b : IntKind.i64.wrap (q9 : Int) = (q9 : Int) := by rw [IntKind.wrap_i64]; omega
                    have h8a : (k : Int).tmod 8 = (q8 : Int) := by rw [Int.tmod_eq_emod_of_nonneg (by omega)]; omega
                    have h8b : IntKind.i64.wrap (q8 : Int) = (q8 : Int) := by rw [IntKind.wrap_i64]; omega
                    have h8c : (0 : Int) ≤ (q8 : Int) := by omega
                    have h8d : ((q8 : Int)).toNat = q8 := by omega
                    have h9c : q9 < 9 := by omega
                    have hwa : IntKind.i64.wrap (8 * ((j : Int) + 1)) = 8 * ((j : Int) + 1) := by rw [IntKind.wrap_i64]; omega
                    have hwb : IntKind.i64.wrap (8 * ((j : Int) + 1) - (q9 : Int)) = 8 * ((j : Int) + 1) - (q9 : Int) := by rw [IntKind.wrap_i64]; omega
                    have hw3 : IntKind.i64.wrap (j : Int) = (j : Int) := by rw [IntKind.wrap_i64]; omega
                    have hj0 : (0 : Int) ≤ (j : Int) := by omega
                    have hj2 : (j : Int) ≤ (j : Int) + 1 := by omega
                    have hj4 : 0 < (j : Int) + 1 := by omega
                    clear hq9 hq8
                    go_region_held3 (fun w' => True ∧ Hid (EnX w w' w3.heap.size (j + 1)))
                      (first | assumption | exact exOf (by assumption) (Hid.out (by assumption)) | exact exOf (by assumption) ((Below.refl _ _).alloc (Nat.le_refl _) _) | exact exOf ⟨trivial, HX0⟩ (below_drews _ 1) | exact ⟨trivial, HX0⟩)
                      (first
                        | (refine step_snoc_bytes (by rfl) (.tmp 106) (.tmp 110) rfl w3.heap.size j j 1 (by rfl) (hid (exXT (m := j + 1) (by omega) (by assumption))) ⟨wa.heap.size, 0, none⟩ _ (by rfl) (hid (cellN rfl)) (u8_bd _) (by omega) (by omega) ?_; intro g9 cap9 w9 HY9 HB9)
                        | (go_at_call 4; (refine (readE ?_ (by intro h; cases h) ?_ (by omega) (by omega)).mono ?_); (first | exact exX (by assumption) | exact HY9.out); exact exTab HT (by assumption); rintro e wa ⟨rfl, HO⟩))
                    all_goals
                      have HE9 := (show (_ ∧ Hid (EnX w wa w3.heap.size (j + 1))) from by assumption).2
                      go_wp2_with fail
                      go_meet
                      case rel => exact ⟨rfl, hid HE9.out.bel⟩
              case rest =>
                obtain ⟨rfl, HB4⟩ := hcut
                clear HX0
                go_wp2_with fail
                go_roundw
                case rel => exact ⟨k + 1, by omega, by go_num, HB4⟩
                case measure => simp [intOf]; omega
    · obtain rfl : n = 1100 := by omega
      go_wp2_with fail
      obtain ⟨v0, rfl⟩ : ∃ v0 : World, v0 = wr := ⟨_, rfl⟩
      obtain ⟨F, hF1, hF2⟩ := ends_made v0
      have HE0 : Hid (EdS w (v0.alloc (.cells #[.int .i64 (-9223372036854775808), .int .i64 (-1), .int .i64 0, .int .i64 1, .int .i64 8, .int .i64 9, .int .i64 16777217, .int .i64 9223372036854775807] 3)) v0.heap.size F) := hid ⟨HB.out.alloc HB.out.size _, hF1, hF2⟩
      clear hF1 hF2
      go_loopw [8] (fun s wr => ∃ k : Nat, k ≤ 8 ∧ s = .int .i64 k ∧ Hid (EdS w wr v0.heap.size F)) (fun s _ => 8 - (intOf s).toNat)
      case atStart => exact ⟨0, by omega, rfl, HE0⟩
      case round =>
        obtain ⟨k, hk, rfl, HE⟩ := hrel
        clear HE0 HB
        by_cases hp8 : k < 8
        · have Hk := hid hp8
          obtain ⟨z, hz⟩ : ∃ z, z = F k := ⟨_, rfl⟩
          have Hz := hid hz
          have hv : EndV z := by rw [hz]; exact HE.out.bd k hp8
          have d1 : wr.cell? ⟨v0.heap.size, k, none⟩ = some (.int .i64 z) := by rw [hz]; exact HE.out.row.cell hp8
          have hk8 : (k : Int) < 8 := by omega
          clear hz
          by_cases hbad : z < 0 ∨ 16777216 < z
          · obtain ⟨x, hx, hx2⟩ : ∃ x : Int, (if z < 0 then 2 else 3) = x ∧ (x = 2 ∨ x = 3) := by
              by_cases h0 : z < 0
              · exact ⟨2, by rw [if_pos h0], .inl rfl⟩
              · exact ⟨3, by rw [if_neg h0], .inr rfl⟩
            have HC := hid (new_bad z wr hbad)
            have HD := hid (refNew_bad z wr hbad)
            rw [hx] at HC HD
            have hxb : (x != 0) = true := by rcases hx2 with rfl | rfl <;> rfl
            have hxc : (x == 0) = false := by rcases hx2 with rfl | rfl <;> rfl
            have Hg : Hid (z ≤ 24000 ∨ 16777216 < z) := hid (by omega)
            clear hx hx2 hv hbad
            go_wp2_with fail
            refine HC.out.mono ?_
            rintro e w' ⟨rfl, rfl⟩
            go_wp2_with fail
            refine HD.out.mono ?_
            rintro e w' ⟨rfl, rfl⟩
            clear HC HD
            go_wp2_with fail
            refine (readE (yr1 (y := 1) (by omega) (cellN rfl)) (by intro h; cases h) (tabB HT ((HE.out.step ((Below.refl _ _).alloc (Nat.le_refl _) _)).bel)) (by omega) Hg.out).mono ?_
            rintro e w1 ⟨rfl, hb⟩
            have HE1 := hid ((HE.out.step ((Below.refl _ _).alloc (Nat.le_refl _) _)).step hb.out)
            have d2 : w1.cell? ⟨v0.heap.size, k, none⟩ = some (.int .i64 z) := by rw [Hz.out]; exact HE1.out.row.cell Hk.out
            clear HE hb d1
            go_wp2_with fail
            refine (readE (YR.nil _) (fun _ => ⟨rfl, rfl⟩) (tabB HT HE1.out.bel) (by omega) Hg.out).mono ?_
            rintro e w2 ⟨rfl, hb⟩
            have HE2 := hid (HE1.out.step hb.out)
            clear HE1 hb d2
            go_wp2_with fail
            go_roundw
            case rel => (repeat apply Exists.intro); exact ⟨⟨k + 1, by omega, by go_num, HE2⟩, rfl⟩
            case measure => simp [intOf]; omega
          · have hz9 : 0 ≤ z ∧ z ≤ 9 := by rcases hv with h | h | h <;> omega
            obtain ⟨j, rfl⟩ := Int.eq_ofNat_of_zero_le hz9.1
            have hj9 : j ≤ 9 := by omega
            clear hv hbad
            go_wp2_with fail
            refine (new_ok j _ (by omega)).mono ?_
            rintro e w1 ⟨g, gs, gw, rfl, hvv, _, _, _, hb⟩
            have HV := hid hvv
            have HE1 := hid (HE.out.step hb)
            have d2 : w1.cell? ⟨v0.heap.size, k, none⟩ = some (.int .i64 (j : Int)) := by have := HE1.out.row.cell Hk.out; rw [this, ← Hz.out]
            clear HE hb d1 hvv
            go_wp2_with fail
            refine (refNew_new j _ (by omega)).mono ?_
            rintro e w2 ⟨rfl, hnew⟩
            have hb := hnew.out.only.to_below (B := w1.heap.size) (fun _ h => h.elim) (Nat.le_refl _)
            have HR : Hid (IsRef w2 (w1.heap.size + 1) w1.heap.size j j (fun _ => false)) := hid ⟨by omega, fun _ _ => rfl, hnew.out.self, ⟨_, hnew.out.row, fun _ _ => rfl⟩, Nat.le_refl _⟩
            have HV2 := hid (HV.out.below' hb)
            have HE2 := hid (HE1.out.step hb)
            have d3 : w2.cell? ⟨v0.heap.size, k, none⟩ = some (.int .i64 (j : Int)) := by have := HE2.out.row.cell Hk.out; rw [this, ← Hz.out]
            clear HE1 hb d2 hnew HV
            go_wp2_with fail
            refine (same_any 0 HV2.out HR.out (tabB HT HE2.out.bel)).mono ?_
            rintro e w3 ⟨rfl, ho⟩
            have HE3 := hid (HE2.out.step (ho.out.to_below (fun _ h => h.elim) (Nat.le_refl _)))
            have d4 : w3.cell? ⟨v0.heap.size, k, none⟩ = some (.int .i64 (j : Int)) := by have := HE3.out.row.cell Hk.out; rw [this, ← Hz.out]
            clear HE2 d3 HV2 HR ho
            go_wp2_with fail
            refine (readE (yr1 (y := 1) (by omega) (cellN rfl)) (by intro h; cases h) (tabB HT ((HE3.out.step ((Below.refl _ _).alloc (Nat.le_refl _) _)).bel)) (by omega) (by omega)).mono ?_
            rintro e w4 ⟨rfl, hb⟩
            have HE4 := hid ((HE3.out.step ((Below.refl _ _).alloc (Nat.le_refl _) _)).step hb.out)
            have d5 : w4.cell? ⟨v0.heap.size, k, none⟩ = some (.int .i64 (j : Int)) := by have := HE4.out.row.cell Hk.out; rw [this, ← Hz.out]
            clear HE3 hb d4
            go_wp2_with fail
            refine (readE (YR.nil _) (fun _ => ⟨rfl, rfl⟩) (tabB HT HE4.out.bel) (by omega) (by omega)).mono ?_
            rintro e w5 ⟨rfl, hb⟩
            have HE5 := hid (HE4.out.step hb.out)
            clear HE4 hb d5
            go_wp2_with fail
            go_roundw
            case rel => (repeat apply Exists.intro); exact ⟨⟨k + 1, by omega, by go_num, HE5⟩, rfl⟩
            case measure => simp [intOf]; omega
        · obtain rfl : k = 8 := by omega
          obtain ⟨v1, rfl⟩ : ∃ v1 : World, v1 = wr := ⟨_, rfl⟩
          have HB1 := hid HE.out.bel
          have HM := hid one_most
          clear HE
          go_wp2_with fail
          refine (new_ok 16777216 v1 (by omega)).mono ?_
          rintro e v2 ⟨g, gs, gw, rfl, hv, hg, hgs, hgw, hb⟩
          have HV2 := hid hv
          have HL2 : Hid (w.heap.size ≤ g ∧ w.heap.size ≤ gs ∧ w.heap.size ≤ gw ∧ g < v2.heap.size ∧ gs < v2.heap.size ∧ gw < v2.heap.size) := hid (by have h1 := hv.self.lt; have h2 := hv.sums.lt; have h3 := hv.words.lt; have h4 := HB1.out.size; omega)
          have HB2 : Hid (Below w.heap.size w v2) := hid (HB1.out.trans (hb.mono HB1.out.size))
          clear hv hg hgs hgw hb HB1
          go_wp2_with fail
          have ho : Only (fun _ => False) v2 (v2.alloc (Obj.cells #[.int .i64 16777215] 3)) := (Only.refl _ v2).alloc _
          refine (set_ok (HV2.out.same ho) true (some ⟨v2.heap.size, 0, none⟩) 1 [16777215] (RdI_lit v2 3 16777215) (by simp) most_in (fun b off e => by injection e with e; injection e with e; have := HL2.out; omega)).mono ?_
          rintro e v3 ⟨rfl, hs⟩
          have HV3 := hid hs.out.1
          have HB3 : Hid (Below w.heap.size w v3) := hid ((HB2.out.trans (ho.to_below (fun _ h => h.elim) HB2.out.size)).trans (hs.out.2.to_below (fun k hk => by have := HL2.out; omega) (Nat.le_trans HB2.out.size ho.size)))
          clear hs ho HV2 HB2
          go_wp2_with fail
          refine (rank_nat HV3.out 16777216 1 (by rw [show (16777216 : Int).toNat = 16777215 + 1 by omega]; exact HM.out.2)).mono ?_
          rintro e v4 ⟨rfl, hq⟩
          have HV4 := hid (HV3.out.same (quiet_only hq))
          have HB4 := hid (Below.only HB3.out (quiet_only hq) (fun _ h => h.elim) HB3.out.size)
          clear hq HV3 HB3
          go_wp2_with fail
          refine (rank_nat HV4.out 16777215 0 (by rw [show (16777215 : Int).toNat = 16777215 by omega]; exact HM.out.1)).mono ?_
          rintro e v5 ⟨rfl, hq⟩
          have HB5 := hid (Below.only HB4.out (quiet_only hq) (fun _ h => h.elim) HB4.out.size)
          clear hq HV4 HB4
          go_wp2_with fail
          refine (none_any v5).mono ?_
          rintro e v6 ⟨rfl, hb⟩
          have HB6 := hid (HB5.out.trans (hb.out.mono HB5.out.size))
          clear hb HB5
          go_wp2_with fail
          refine (awake_any v6 (HT.out.only (Only.of_below HB6.out (fun _ => False)) no_)).mono ?_
          rintro e v7 ⟨rfl, hb⟩
          have HB7 := hid (HB6.out.trans (hb.out.mono HB6.out.size))
          clear hb HB6
          go_wp2_with fail
          go_ret
          exact ⟨rfl, HB7⟩
end Go.Proofs.YtneipjocimcmnaaDoor
