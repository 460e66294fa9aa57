/- PackEnds: the first loops. -/
import Derived.Test.YtimkclmaglofaaaPkE1
import Derived.Maps.AppendAt
import Derived.WalkSpells
import Derived.Deep.Cut
import Derived.Deep.CutRange
import Derived.Deep.RegionHeld3
namespace Go.Proofs.Ytimkclmaglofaaa
open Go.RowKit
open Bit

/-- The numbers laid so far, in the call's own memory. -/
def LS (w wr : World) (v : Value) (k : Nat) : Prop := Below w.heap.size w wr ∧ ∃ zs : List Int, zs.length = k ∧ Ints zs ∧ wr.ownsRow w.heap.size 3 1 v k (valsL (vI zs) k)

theorem LS.begin {w wr : World} (hb : Below w.heap.size w wr) : LS w wr (.slice none 0 0) 0 := ⟨hb, [], rfl, (fun _ h => by cases h), rfl, .inl ⟨rfl, rfl⟩⟩
theorem own_base {w : World} {b : Nat} {t : TypeId} {v : Value} {n : Nat} {xs : List Value} (h : w.ownsRow b t 1 v n xs) : ∀ k, v.ownBlock = some k → b ≤ k := by
  rcases h.2 with ⟨rfl, _⟩ | ⟨g, cap, cur, rfl, hge, _⟩
  · intro k hk; cases hk
  · intro k hk; injection hk with hk; subst hk; exact hge
def OwnZ (w : World) (base : Nat) (v : Value) (k : Nat) : Prop := ∃ zs : List Int, zs.length = k ∧ Ints zs ∧ w.ownsRow base 3 1 v k (valsL (vI zs) k)
theorem OwnZ.alloc {w : World} {base : Nat} {v : Value} {k : Nat} (h : OwnZ w base v k) (o : Obj) : OwnZ (w.alloc o) base v k := by
  obtain ⟨zs, h1, h2, h3⟩ := h
  exact ⟨zs, h1, h2, h3.alloc _⟩
theorem LS.own {w wr : World} {v : Value} {k : Nat} (h : LS w wr v k) : OwnZ wr w.heap.size v k := h.2
theorem LS.next {w wr w2 : World} {v v' : Value} {k : Nat} {o1 o2 : Obj} (h : LS w wr v k) (ho : OwnZ w2 w.heap.size v' (k + 1)) (hg : ((wr.alloc o1).alloc o2).grownBy w2 v.ownBlock) : LS w w2 v' (k + 1) := by
  obtain ⟨zs, _, _, hown⟩ := h.2
  have hv := own_base hown
  exact ⟨(((((Only.refl (fun _ => False) w).trans (Only.of_below h.1 _)).alloc o1).alloc o2).grown hg (fun b he => .inr (hv b he))).to_below (fun _ h => h.elim) (Nat.le_refl _), ho⟩
theorem wpList_snoc_own {ops : Array Oper} {rest : List Oper} {o : Oper} {a : Act} {Q : Exit → Act → World → Prop} (w : World) (hgd : o.guard = none) (s x : Operand)
    (hop : o.op = Op.call { callee := Callee.builtin Builtin.append, args := #[s, x], argTypes := #[22, 22] }) (base n : Nat) (v : Value) (hs : a.eval s = v) (hr : Hid (OwnZ w base v n))
    (ad : Addr) (c : Nat) (z : Int) (hx : a.eval x = .slice (some ad) 1 c) (hc : w.cell? ad = some (.int .i64 z)) (hz : -9223372036854775808 ≤ z ∧ z ≤ 9223372036854775807) (hn : n ≤ 2000) (hbase : base ≤ w.heap.size)
    (h : ∀ v' w', Hid (OwnZ w' base v' (n + 1)) → Hid (w.grownBy w' v.ownBlock) → wpList Try.prog ops Q rest (a.put o.dst v') w') : wpList Try.prog ops Q (o :: rest) a w := by
  obtain ⟨i0, hi0, hz0, hz1, hz2⟩ := info_parts intInfo
  obtain ⟨zs, hl, h2, hown⟩ := hr.out
  refine wpList_append_own_at _ hgd s x _ hop base 3 i0 (.int .i64 0) 1 8 Try.underlying22 hi0 hz0 hz1 hz2 rfl (by omega) v n _ hs hown ad 1 c [.int .i64 z] hx rfl (one_cell w hc) (by intro u hu; simp at hu; subst hu; rfl) (by unfold maxLen; omega) (by omega) hbase ?_
  intro v' w' hown' hg _ _
  have e : valsL (vI zs) n ++ [.int .i64 z] = valsL (vI (zs ++ [z])) (n + 1) := by rw [← hl]; exact snoc_vals z
  rw [e] at hown'
  exact h v' w' (hid ⟨_, by simp [hl], ints_snoc h2 hz, hown'⟩) (hid hg)
theorem bits_bd (op : BinOp) (a b : Int) : -9223372036854775808 ≤ bits op .i64 a b ∧ bits op .i64 a b ≤ 9223372036854775807 := by
  unfold bits
  have : ∀ n : Int, -9223372036854775808 ≤ IntKind.i64.wrap n ∧ IntKind.i64.wrap n ≤ 9223372036854775807 := fun n => by rw [IntKind.wrap_i64]; omega
  exact this _
theorem cell_new2 (w : World) (o : Obj) (v : Value) (t : TypeId) : ((w.alloc o).alloc (.cells #[v] t)).cell? ⟨w.heap.size + 1, 0, none⟩ = some v := by
  have e : w.heap.size + 1 = (w.alloc o).heap.size := by simp
  rw [e]; simp

theorem cell_new1 (w : World) (v : Value) (t : TypeId) : (w.alloc (.cells #[v] t)).cell? ⟨w.heap.size, 0, none⟩ = some v := by simp
theorem great_in (x : Int) (hx : x < 63) : 0 ≤ wrap64 (wrap64 (2 ^ (max (min x 62) 0).toNat) - 1) ∧ wrap64 (wrap64 (2 ^ (max (min x 62) 0).toNat) - 1) ≤ 4611686018427387903 := by
  obtain ⟨e, he⟩ : ∃ e, e = (max (min x 62) 0).toNat := ⟨_, rfl⟩
  rw [← he]
  have h1 : 2 ^ e ≤ 2 ^ 62 := Nat.pow_le_pow_right (by decide) (by omega)
  have h2 := Nat.two_pow_pos e
  have e2 : (2 : Int) ^ e = ((2 ^ e : Nat) : Int) := by simp
  rw [e2]
  generalize 2 ^ e = q at h1 h2
  rw [IntWalk.wrap64_in (q : Int) ⟨by omega, by omega⟩, IntWalk.wrap64_in ((q : Int) - 1) ⟨by omega, by omega⟩]
  omega

/-- How it stands in the loop over lengths: the list, the lengths, old memory. -/
structure EnS (w W : World) (g g6 : Nat) : Prop where
  bel : Below w.heap.size w W
  l : IR W (some ⟨g, 0, none⟩) 67
  six : ∃ F : Nat → Nat, W.rowIs g6 3 6 (fun j => .int .i64 ((F j : Nat) : Int)) ∧ ∀ j, j < 6 → F j ≤ 67
theorem EnS.step {w W W' : World} {g g6 : Nat} (h : EnS w W g g6) (hb : Below W.heap.size W W') : EnS w W' g g6 :=
  ⟨h.bel.trans (hb.mono h.bel.size), h.l.below hb, by obtain ⟨F, h1, h2⟩ := h.six; exact ⟨F, rowIs_below' h1 hb, h2⟩⟩
theorem six_made (w : World) : ∃ F : Nat → Nat, (w.alloc (.cells #[.int .i64 0, .int .i64 1, .int .i64 2, .int .i64 13, .int .i64 64, .int .i64 67] 3)).rowIs w.heap.size 3 6 (fun j => .int .i64 ((F j : Nat) : Int)) ∧ ∀ j, j < 6 → F j ≤ 67 := by
  refine ⟨fun j => [0, 1, 2, 13, 64, 67].getD j 0, World.rowIs_alloc w _ _ _ (fun i hi => ?_), fun j hj => ?_⟩
  · match i, hi with
    | 0, _ => rfl
    | 1, _ => rfl
    | 2, _ => rfl
    | 3, _ => rfl
    | 4, _ => rfl
    | 5, _ => rfl
    | i + 6, hi => exact absurd (show i + 6 < 6 from hi) (by omega)
  · match j, hj with
    | 0, _ => decide
    | 1, _ => decide
    | 2, _ => decide
    | 3, _ => decide
    | 4, _ => decide
    | 5, _ => decide
    | i + 6, hi => exact absurd hi (by omega)

/-- How it stands among the readings: the bytes, besides. -/
structure EnB (w W : World) (g g6 gb : Nat) (bs : List Nat) : Prop where
  en : EnS w W g g6
  rd : RdY W (some ⟨gb, 0, none⟩) bs
  byts : Byts bs
theorem EnB.step {w W W' : World} {g g6 gb : Nat} {bs : List Nat} (h : EnB w W g g6 gb bs) (hb : Below W.heap.size W W') : EnB w W' g g6 gb bs := ⟨h.en.step hb, h.rd.below hb, h.byts⟩
theorem EnB.yr {w W : World} {g g6 gb : Nat} {bs : List Nat} (h : EnB w W g g6 gb bs) : YR W (some ⟨gb, 0, none⟩) bs.length := ⟨bs, rfl, h.rd, h.byts⟩
theorem EnB.cell {w W : World} {g g6 gb : Nat} {bs : List Nat} (h : EnB w W g g6 gb bs) {j : Nat} (hj : j < bs.length) : W.cell? ⟨gb, j, none⟩ = some (.int .u8 ((bs.getD j 0 : Nat) : Int)) := by
  obtain ⟨b, off, hA, hc, _⟩ := RdV.at h.rd hj
  injection hA with hA
  injection hA with h1 h2
  subst h1
  subst h2
  rw [Nat.zero_add] at hc
  exact hc
def SB (w : World) (g g6 gb : Nat) (bs : List Nat) (j y : Nat) (W : World) : Prop := (j < bs.length → W.cell? ⟨gb, j, none⟩ = some (.int .u8 (y : Int))) ∧ Hid (EnB w W g g6 gb bs)
theorem enbOf {w W W' : World} {g g6 gb j y : Nat} {bs : List Nat} {P : Prop} (hj : j < bs.length) (hy : Hid (y = bs.getD j 0)) (h : P ∧ Hid (EnB w W g g6 gb bs)) (hb : Below W.heap.size W W') : W'.cell? ⟨gb, j, none⟩ = some (.int .u8 (y : Int)) ∧ Hid (EnB w W' g g6 gb bs) := by
  have h2 := h.2.out.step hb
  rw [hy.out]
  exact ⟨h2.cell hj, hid h2⟩
theorem readsB {w W : World} {g g6 gb m cap : Nat} {bs : List Nat} {P : Prop} {wd n i : Int} (hm : Hid (m = bs.length)) (hm2 : m ≤ 600) (h : P ∧ Hid (EnB w W g g6 gb bs)) :
    Calls Try.prog 4 #[.int .i64 wd, .int .i64 n, .slice (some ⟨gb, 0, none⟩) m cap, .int .i64 i] W (Yes W) := by
  obtain rfl := hm.out
  exact readsE h.2.out.yr (by omega) (by intro h; cases h)
theorem readsB1 {w W : World} {g g6 gb m cap : Nat} {bs : List Nat} {P : Prop} {wd n i : Int} (hm : Hid (m + 1 = bs.length)) (hm2 : m + 1 ≤ 600) (h : P ∧ Hid (EnB w W g g6 gb bs)) :
    Calls Try.prog 4 #[.int .i64 wd, .int .i64 n, .slice (some ⟨gb, 1, none⟩) m cap, .int .i64 i] W (Yes W) := by
  have h2 := h.2.out.yr.drop (k := 1) (by have := hm.out; omega)
  rw [show bs.length - 1 = m by have := hm.out; omega, Nat.zero_add] at h2
  exact readsE h2 (by omega) (by intro h; cases h)
theorem ybOf {w W : World} {g g6 gb m : Nat} {bs : List Nat} {P : Prop} (hm : Hid (m = bs.length)) (h : P ∧ Hid (EnB w W g g6 gb bs)) : YR W (some ⟨gb, 0, none⟩) m := by
  rw [hm.out]; exact h.2.out.yr
theorem ybOf1 {w W : World} {g g6 gb m : Nat} {bs : List Nat} {P : Prop} (hm : Hid (m + 1 = bs.length)) (h : P ∧ Hid (EnB w W g g6 gb bs)) : YR W (some ⟨gb, 1, none⟩) m := by
  have h2 := h.2.out.yr.drop (k := 1) (by have := hm.out; omega)
  rw [show bs.length - 1 = m by have := hm.out; omega, Nat.zero_add] at h2
  exact h2
theorem ybOfT {w W : World} {g g6 gb m : Nat} {bs : List Nat} {P : Prop} (hm : Hid (m + 1 = bs.length)) (h : P ∧ Hid (EnB w W g g6 gb bs)) : YR W (some ⟨gb, 0, none⟩) m := (ybOf hm h).take (by omega)
theorem kbOf {w W W' : World} {g g6 gb : Nat} {bs : List Nat} {P : Prop} (h : P ∧ Hid (EnB w W g g6 gb bs)) (hb : Below W.heap.size W W') : True ∧ Hid (EnB w W' g g6 gb bs) := ⟨trivial, hid (h.2.out.step hb)⟩
theorem or128 (y : Nat) : ∃ p : Nat, p < 256 ∧ bits .or .u8 (y : Int) 128 = (p : Int) := by
  have : ∀ n : Int, 0 ≤ IntKind.u8.wrap n ∧ IntKind.u8.wrap n ≤ 255 := fun n => by rw [IntKind.wrap_u8]; omega
  have h : 0 ≤ bits .or .u8 (y : Int) 128 ∧ bits .or .u8 (y : Int) 128 ≤ 255 := by unfold bits; exact this _
  exact ⟨(bits .or .u8 (y : Int) 128).toNat, by omega, by omega⟩

/-! The ends. -/
structure EdS (w W : World) (ge : Nat) (F : Nat → Int) : Prop where
  bel : Below w.heap.size w W
  row : W.rowIs ge 3 6 (fun j => .int .i64 (F j))
  bd : ∀ j, j < 6 → -9223372036854775808 ≤ F j ∧ F j ≤ 9223372036854775807
theorem EdS.step {w W W' : World} {ge : Nat} {F : Nat → Int} (h : EdS w W ge F) (hb : Below W.heap.size W W') : EdS w W' ge F := ⟨h.bel.trans (hb.mono h.bel.size), rowIs_below' h.row hb, h.bd⟩
theorem edOf {w W W' : World} {ge k q : Nat} {F : Nat → Int} {P Q : Prop} {z y : Int} (hk : k < 6) (hq : q < 6) (hz : Hid (z = F k)) (hy : Hid (y = F q)) (h : P ∧ Q ∧ Hid (EdS w W ge F)) (hb : Below W.heap.size W W') :
    W'.cell? ⟨ge, k, none⟩ = some (.int .i64 z) ∧ W'.cell? ⟨ge, q, none⟩ = some (.int .i64 y) ∧ Hid (EdS w W' ge F) := by
  have h2 := h.2.2.out.step hb
  rw [hz.out, hy.out]
  exact ⟨h2.row.cell hk, h2.row.cell hq, hid h2⟩
theorem ends_made (w : World) : ∃ F : Nat → Int, (w.alloc (.cells #[.int .i64 (-9223372036854775808), .int .i64 (-1), .int .i64 0, .int .i64 1, .int .i64 16777217, .int .i64 9223372036854775807] 3)).rowIs w.heap.size 3 6 (fun j => .int .i64 (F j)) ∧ ∀ j, j < 6 → -9223372036854775808 ≤ F j ∧ F j ≤ 9223372036854775807 := by
  refine ⟨fun j => [-9223372036854775808, -1, 0, 1, 16777217, 9223372036854775807].getD j 0, World.rowIs_alloc w _ _ _ (fun i hi => ?_), fun j hj => ?_⟩
  · match i, hi with
    | 0, _ => rfl
    | 1, _ => rfl
    | 2, _ => rfl
    | 3, _ => rfl
    | 4, _ => rfl
    | 5, _ => rfl
    | i + 6, hi => exact absurd (show i + 6 < 6 from hi) (by omega)
  · match j, hj with
    | 0, _ => decide
    | 1, _ => decide
    | 2, _ => decide
    | 3, _ => decide
    | 4, _ => decide
    | 5, _ => decide
    | i + 6, hi => exact absurd hi (by omega)
theorem yr1 {w : World} {b y : Nat} (h : w.cell? ⟨b, 0, none⟩ = some (.int .u8 (y : Int))) (hy : y < 256) : YR w (some ⟨b, 0, none⟩) 1 :=
  YR.of_cells (V := fun _ => y) fun j hj => by
    obtain rfl : j = 0 := by omega
    exact ⟨h, hy⟩
theorem ir1 {w : World} {b : Nat} {z : Int} (hz : -9223372036854775808 ≤ z ∧ z ≤ 9223372036854775807) (h : w.cell? ⟨b, 0, none⟩ = some (.int .i64 z)) : IR w (some ⟨b, 0, none⟩) 1 :=
  IR.of_cells (V := fun _ => z) fun j hj => by
    obtain rfl : j = 0 := by omega
    exact ⟨h, hz⟩
theorem ir4 {w : World} {b : Nat} (h0 : w.cell? ⟨b, 0, none⟩ = some (.int .i64 0)) (h1 : w.cell? ⟨b, 1, none⟩ = some (.int .i64 3)) (h2 : w.cell? ⟨b, 2, none⟩ = some (.int .i64 3)) (h3 : w.cell? ⟨b, 3, none⟩ = some (.int .i64 9)) : IR w (some ⟨b, 0, none⟩) 4 :=
  IR.of_cells (V := fun j => [0, 3, 3, 9].getD j 0) fun j hj => by
    match j, hj with
    | 0, _ => exact ⟨h0, by decide⟩
    | 1, _ => exact ⟨h1, by decide⟩
    | 2, _ => exact ⟨h2, by decide⟩
    | 3, _ => exact ⟨h3, by decide⟩
    | i + 4, hi => exact absurd hi (by omega)
theorem ir5 {w : World} {b : Nat} {z : Int} (hz : -9223372036854775808 ≤ z ∧ z ≤ 9223372036854775807) (h0 : w.cell? ⟨b, 0, none⟩ = some (.int .i64 0)) (h1 : w.cell? ⟨b, 1, none⟩ = some (.int .i64 3)) (h2 : w.cell? ⟨b, 2, none⟩ = some (.int .i64 3)) (h3 : w.cell? ⟨b, 3, none⟩ = some (.int .i64 9)) (h4 : w.cell? ⟨b, 4, none⟩ = some (.int .i64 z)) : IR w (some ⟨b, 0, none⟩) 5 :=
  IR.of_cells (V := fun j => [0, 3, 3, 9, z].getD j 0) fun j hj => by
    match j, hj with
    | 0, _ => exact ⟨h0, by simp⟩
    | 1, _ => exact ⟨h1, by simp⟩
    | 2, _ => exact ⟨h2, by simp⟩
    | 3, _ => exact ⟨h3, by simp⟩
    | 4, _ => exact ⟨h4, hz⟩
    | i + 5, hi => exact absurd hi (by omega)

set_option maxRecDepth 100000 in
set_option maxHeartbeats 40000000 in
theorem packEnds_any (w : World) : Calls Try.prog 6 #[] w (Yes w) := by
  obtain ⟨i0, hi0, hz0, hz1, hz2⟩ := info_parts intInfo
  have HI0 := hid (And.intro hi0 (And.intro hz0 (And.intro hz1 hz2)))
  clear hi0 hz0 hz1 hz2
  go_enter Try.func6, Try.ntmps6
  go_wp2_with fail
  go_loopw [1] (fun s wr => ∃ x : Int, -1 ≤ x ∧ x ≤ 63 ∧ s = .int .i64 x ∧ Hid (Below w.heap.size w wr)) (fun s _ => (63 - intOf s).toNat)
  case atStart => exact ⟨-1, by omega, by omega, rfl, hid (Below.refl _ _)⟩
  case round =>
    obtain ⟨x, hx1, hx2, rfl, HB⟩ := hrel
    by_cases hp : x < 63
    · go_wp2_with fail
      have hG := great_in x hp
      generalize wrap64 (wrap64 (2 ^ (max (min x 62) 0).toNat) - 1) = G at hG ⊢
      obtain ⟨hG0, hG1⟩ := hG
      have HL0 := hid (LS.begin HB.out)
      obtain ⟨v0, rfl⟩ : ∃ v0 : World, v0 = wr := ⟨_, rfl⟩
      go_loopw [2, 4] (fun l s wr => ∃ k : Nat, k ≤ 67 ∧ s = .int .i64 k ∧ Hid (LS w wr l k)) (fun _ s _ => 67 - (intOf s).toNat)
      case atStart => exact ⟨0, by omega, rfl, HL0⟩
      case round =>
        obtain ⟨k, hk, rfl, HK⟩ := hrel
        clear HL0 HB
        by_cases hpk : k < 67
        · have HOz := hid HK.out.own
          have hD := bits_bd .and 1 G
          generalize hDe : bits .and .i64 1 G = D at hD
          have hbase : w.heap.size ≤ wr.heap.size := HK.out.1.size
          rcases (by omega : (k : Int) % 5 = 0 ∨ (k : Int) % 5 = 1 ∨ (k : Int) % 5 = 2 ∨ (k : Int) % 5 = 3 ∨ (k : Int) % 5 = 4) with hm | hm | hm | hm | hm
          all_goals
            go_wp2_with (at_builtin; go_loud (refine wpList_snoc_own _ rfl (.tmp 29) (.tmp 44) rfl w.heap.size k _ rfl (hid ((HOz.out.alloc _).alloc _)) ⟨wr.heap.size + 1, 0, none⟩ 1 _ rfl (cell_new2 _ _ _ _) (by omega) (by omega) (by simp; omega) ?_; intro v' w2 hown2 hg2))
            have HN := hid (HK.out.next hown2.out hg2.out)
            clear HK HOz hown2 hg2 hDe hD
            go_roundw
            case rel => exact ⟨k + 1, by omega, by go_num, HN⟩
            case measure => simp [intOf]; omega
        · obtain rfl : k = 67 := by omega
          obtain ⟨zs, hzl, hzi, hown⟩ := HK.out.own
          obtain ⟨g, cap, rfl, hcap, hir⟩ := IR.of_own hzl (by omega) hzi hown
          have HIR := hid hir
          have HB2 := hid HK.out.1
          have hcap' : (67 : Int) ≤ (cap : Int) := by omega
          clear HK hown hzl hzi hir
          obtain ⟨v1, rfl⟩ : ∃ v1 : World, v1 = wr := ⟨_, rfl⟩
          have HE0 : Hid (EnS w (v1.alloc (.cells #[.int .i64 0, .int .i64 1, .int .i64 2, .int .i64 13, .int .i64 64, .int .i64 67] 3)) g v1.heap.size) := hid ⟨HB2.out.alloc HB2.out.size _, HIR.out.below ((Below.refl _ _).alloc (Nat.le_refl _) _), six_made _⟩
          go_wp2_with fail
          go_loopw [48] (fun s wr => ∃ k : Nat, k ≤ 6 ∧ s = .int .i64 k ∧ Hid (EnS w wr g v1.heap.size)) (fun s _ => 6 - (intOf s).toNat)
          case atStart => exact ⟨0, by omega, rfl, HE0⟩
          case round =>
            obtain ⟨k, hk, rfl, HE⟩ := hrel
            clear HE0 HB2 HIR
            by_cases hp6 : k < 6
            · obtain ⟨F, hF1, hF2⟩ := HE.out.six
              have ck := hF1.cell hp6
              have hn67 := hF2 k hp6
              have hk6 : (k : Int) < 6 := by omega
              clear hF1 hF2
              generalize F k = n at ck hn67
              have hn67' : (n : Int) ≤ 67 := by omega
              have hncap : (n : Int) ≤ (cap : Int) := by omega
              go_upto_region 13 with fail
              go_cut [90] from 49 to 159 (fun s90 w' => s90 = .bool false ∧ Hid (EnS w w' g v1.heap.size))
              case first => as_aux_lemma =>
                  by_cases hn0 : n = 0
                  · subst hn0
                    go_wp2_with fail
                    refine (putsE (HE.out.l.take (k := 0) (by omega)) (by omega) (by intro h; cases h)).mono ?_
                    rintro e w1 ⟨rfl, HB1⟩
                    have HE1 := hid (HE.out.step HB1.out)
                    clear HE HB1 ck
                    go_wp2_with fail
                    refine (putsE (HE1.out.l.take (k := 0) (by omega)) (by omega) (by intro h; cases h)).mono ?_
                    rintro e w2 ⟨rfl, HB1⟩
                    have HE2 := hid (HE1.out.step HB1.out)
                    clear HE1 HB1
                    go_wp2_with fail
                    go_meet
                    case rel => exact ⟨rfl, HE2⟩
                  · obtain ⟨m, rfl⟩ : ∃ m, n = m + 1 := ⟨n - 1, by omega⟩
                    have hm1 : ((m + 1 : Nat) : Int) = (m : Int) + 1 := by omega
                    rw [hm1] at ck hn67' hncap
                    clear hm1
                    go_wp2_with fail
                    refine (putsE (HE.out.l.take (k := m + 1) (by omega)) (by omega) (by intro h; cases h)).mono ?_
                    rintro e w1 ⟨rfl, HB1⟩
                    have HE1 := hid (HE.out.step HB1.out)
                    clear HE HB1 ck
                    go_wp2_with (at_builtin; refine wpList_snoc_ints _ (by rfl) (.tmp 70) (.tmp 73) rfl ⟨g, 0, none⟩ m m 1 rfl (hid ((HE1.out.l.take (k := m) (by omega)).below ((Below.refl _ _).alloc (Nat.le_refl _) _))) ⟨w1.heap.size, 0, none⟩ (G + 1) rfl (hid (cell_new1 _ _ _)) (by omega) (by omega) (by omega) ?_; intro g9 cap9 w2 HI9 HB9)
                    refine (putsE HI9.out (by omega) (by intro h; cases h)).mono ?_
                    rintro e w3 ⟨rfl, HB1⟩
                    have HE2 := hid ((HE1.out.step (((Below.refl _ w1).alloc (Nat.le_refl _) _).trans (HB9.out.mono (by simp)))).step HB1.out)
                    clear HE1 HB1 HB9 HI9
                    go_wp2_with fail
                    refine (putsE (HE2.out.l.take (k := m + 1) (by omega)) (by omega) (by intro h; cases h)).mono ?_
                    rintro e w4 ⟨rfl, HB1⟩
                    have HE3 := hid (HE2.out.step HB1.out)
                    clear HE2 HB1
                    go_wp2_with fail
                    go_meet
                    case rel => exact ⟨rfl, HE3⟩
              case rest =>
                obtain ⟨rfl, HE1⟩ := hcut
                clear HE ck
                go_wp2_with fail
                refine (refNewE (HE1.out.l.take (k := n) (by omega)) (by omega) (by intro h; cases h)).mono ?_
                rintro e w3 (⟨xe, rfl, hxe, HB1⟩ | ⟨r, rfl, HR, HB1⟩)
                · have HE2 := hid (HE1.out.step HB1.out)
                  have hxb : (xe != 0) = true := by rw [bne_iff_ne]; exact hxe
                  clear HE1 HB1 hxe
                  go_wp2_with fail
                  go_roundw
                  case rel => (repeat apply Exists.intro); exact ⟨⟨k + 1, by omega, by go_num, HE2⟩, rfl⟩
                  case measure => simp [intOf]; omega
                · have HE2 := hid (HE1.out.step HB1.out)
                  clear HE1 HB1
                  go_wp2_with fail
                  refine (refBytesE HR.out).mono ?_
                  rintro e w4 ⟨gb, mb, rfl, hmb, HY, HB1⟩
                  have HE3 := hid (HE2.out.step HB1.out)
                  clear HE2 HB1 HR
                  go_upto_region 18 with fail
                  go_cut [158] from 49 to 159 (fun s158 w' => s158 = .bool false ∧ Hid (EnS w w' g v1.heap.size))
                  case first => as_aux_lemma =>
                      obtain ⟨bs, hbl, hbr, hbb⟩ := HY.out
                      have HL := hid hbl.symm
                      have HB0 : Hid (EnB w w4 g v1.heap.size gb bs) := hid ⟨HE3.out, hbr, hbb⟩
                      clear hbl hbr hbb HY HE3
                      by_cases hm : mb = 0
                      · as_aux_lemma =>
                          subst hm
                          refine wp_region_noPanic ?_
                          refine wp_region_held_drew (S := fun w' => True ∧ Hid (EnB w w' g v1.heap.size gb bs)) (by kernel_rfl) (kbOf ⟨trivial, HB0⟩ (below_drews _ 1)) (fun hHeld => ?_)
                          refine wpAnyH_take (i := 0) (oi := { dst := some 103, op := Op.move (Operand.tmp 1), type := 3, pos := "law.go:108", after := #[], guard := none }) (v := ?v0) rfl (by kernel_rfl) (by kernel_rfl) (by kernel_rfl) (fun _ _ _ h => h) (Or.inl ⟨by rfl, ?h0⟩) (by assumption) ?r0
                          case h0 => (intro w' hSw; first | (go_simp; done) | (go_simp; with_reducible rfl))
                          (try simp only [Act.put, List.setIfInBounds_toArray, List.set_cons_zero, List.set_cons_succ])
                          refine wpAnyH_take (i := 1) (oi := { dst := some 104, op := Op.move (Operand.tmp 6), type := 3, pos := "law.go:108", after := #[], guard := none }) (v := ?v1) rfl (by kernel_rfl) (by kernel_rfl) (by kernel_rfl) (fun _ _ _ h => h) (Or.inl ⟨by rfl, ?h1⟩) (by assumption) ?r1
                          case h1 => (intro w' hSw; first | (go_simp; done) | (go_simp; with_reducible rfl))
                          (try simp only [Act.put, List.setIfInBounds_toArray, List.set_cons_zero, List.set_cons_succ])
                          refine wpAnyH_take (i := 2) (oi := { dst := some 105, op := Op.move (Operand.tmp 9), type := 41, pos := "law.go:108", after := #[], guard := none }) (v := ?v2) rfl (by kernel_rfl) (by kernel_rfl) (by kernel_rfl) (fun _ _ _ h => h) (Or.inl ⟨by rfl, ?h2⟩) (by assumption) ?r2
                          case h2 => (intro w' hSw; first | (go_simp; done) | (go_simp; with_reducible rfl))
                          (try simp only [Act.put, List.setIfInBounds_toArray, List.set_cons_zero, List.set_cons_succ])
                          refine wpAnyH_ready (rs := [3]) (by kernel_rfl) (by simp) ?_
                          refine AllReadyH.cons (o := { dst := some 106, op := Op.call { callee := Callee.value (Operand.func 4), args := #[Operand.tmp 103, Operand.tmp 104, Operand.tmp 105, Operand.const (Value.int IntKind.i64 0)], argTypes := #[3, 3, 41, 3] }, type := 4, pos := "law.go:108", after := #[{ on := 0, ground := Ground.data }, { on := 1, ground := Ground.data }, { on := 2, ground := Ground.data }], guard := none }) rfl (fun K hK => ?_) AllReadyH.nil
                          go_simp
                          (refine (readsE ?_ (by omega) (by intro h; cases h)).mono ?_)
                          exact ybOf HL (by assumption)
                          rintro e wa ⟨rfl, HO⟩
                          go_wp2_with fail
                          refine hK.out _ _ (kbOf (by assumption) HO.out) (fun hHeld => ?_)
                          clear hK K
                          (try simp only [Act.put, List.setIfInBounds_toArray, List.set_cons_zero, List.set_cons_succ])
                          refine wpAnyH_take (i := 4) (oi := { dst := some 107, op := Op.unOp UnOp.not 4 (Operand.tmp 106), type := 4, pos := "law.go:108", after := #[{ on := 3, ground := Ground.data }], guard := none }) (v := ?v4) rfl (by kernel_rfl) (by kernel_rfl) (by kernel_rfl) (fun _ _ _ h => h) (Or.inl ⟨by rfl, ?h4⟩) (by assumption) ?r4
                          case h4 => (intro w' hSw; first | (go_simp; done) | (go_simp; with_reducible rfl))
                          (try simp only [Act.put, List.setIfInBounds_toArray, List.set_cons_zero, List.set_cons_succ])
                          refine wpAnyH_take (i := 5) (oi := { dst := some 108, op := Op.move (Operand.tmp 107), type := 4, pos := "law.go:108", after := #[{ on := 4, ground := Ground.data }, { on := 3, ground := Ground.chain }], guard := none }) (v := ?v5) rfl (by kernel_rfl) (by kernel_rfl) (by kernel_rfl) (fun _ _ _ h => h) (Or.inl ⟨by rfl, ?h5⟩) (by assumption) ?r5
                          case h5 => (intro w' hSw; first | (go_simp; done) | (go_simp; with_reducible rfl))
                          (try simp only [Act.put, List.setIfInBounds_toArray, List.set_cons_zero, List.set_cons_succ])
                          refine wpAnyH_take (i := 6) (oi := { dst := some 109, op := Op.move (Operand.tmp 1), type := 3, pos := "law.go:108", after := #[{ on := 5, ground := Ground.guard }], guard := some (5, false) }) (v := ?v6) rfl (by kernel_rfl) (by kernel_rfl) (by kernel_rfl) (fun _ _ _ h => h) (Or.inl ⟨by rfl, ?h6⟩) (by assumption) ?r6
                          case h6 => (intro w' hSw; first | (go_simp; done) | (go_simp; with_reducible rfl))
                          (try simp only [Act.put, List.setIfInBounds_toArray, List.set_cons_zero, List.set_cons_succ])
                          refine wpAnyH_take (i := 7) (oi := { dst := some 110, op := Op.move (Operand.tmp 6), type := 3, pos := "law.go:108", after := #[{ on := 5, ground := Ground.guard }], guard := some (5, false) }) (v := ?v7) rfl (by kernel_rfl) (by kernel_rfl) (by kernel_rfl) (fun _ _ _ h => h) (Or.inl ⟨by rfl, ?h7⟩) (by assumption) ?r7
                          case h7 => (intro w' hSw; first | (go_simp; done) | (go_simp; with_reducible rfl))
                          (try simp only [Act.put, List.setIfInBounds_toArray, List.set_cons_zero, List.set_cons_succ])
                          refine wpAnyH_take (i := 8) (oi := { dst := some 111, op := Op.move (Operand.tmp 9), type := 41, pos := "law.go:108", after := #[{ on := 5, ground := Ground.guard }], guard := some (5, false) }) (v := ?v8) rfl (by kernel_rfl) (by kernel_rfl) (by kernel_rfl) (fun _ _ _ h => h) (Or.inl ⟨by rfl, ?h8⟩) (by assumption) ?r8
                          case h8 => (intro w' hSw; first | (go_simp; done) | (go_simp; with_reducible rfl))
                          (try simp only [Act.put, List.setIfInBounds_toArray, List.set_cons_zero, List.set_cons_succ])
                          refine wpAnyH_ready (rs := [9]) (by kernel_rfl) (by simp) ?_
                          refine AllReadyH.cons (o := { dst := some 112, op := Op.buildSlice 41 1 #[(0, Operand.const (Value.int IntKind.u8 0))], type := 41, pos := "law.go:108", after := #[{ on := 5, ground := Ground.guard }], guard := some (5, false) }) rfl (fun K hK => ?_) AllReadyH.nil
                          go_simp
                          refine hK.out _ _ (kbOf (by assumption) ((Below.refl _ _).alloc (Nat.le_refl _) _)) (fun hHeld => ?_)
                          clear hK K
                          (try simp only [Act.put, List.setIfInBounds_toArray, List.set_cons_zero, List.set_cons_succ])
                          refine wpAnyH_ready (rs := [10]) (by kernel_rfl) (by simp) ?_
                          refine AllReadyH.cons (o := { dst := some 113, op := Op.call { callee := Callee.builtin Builtin.append, args := #[Operand.tmp 111, Operand.tmp 112], argTypes := #[41, 41] }, type := 41, pos := "law.go:108", after := #[{ on := 8, ground := Ground.data }, { on := 9, ground := Ground.data }, { on := 5, ground := Ground.chain }, { on := 5, ground := Ground.guard }], guard := some (5, false) }) rfl (fun K hK => ?_) AllReadyH.nil
                          refine step_snoc_bytes (by rfl) (.tmp 111) (.tmp 112) rfl ⟨gb, 0, none⟩ 0 0 1 (by rfl) (hid (ybOf HL (by assumption))) ⟨wa.heap.size, 0, none⟩ 0 (by rfl) (hid (by simp)) (by omega) (by omega) (by omega) ?_
                          intro g9 cap9 w9 HY9 HB9
                          refine hK.out _ _ (kbOf (by assumption) HB9.out) (fun hHeld => ?_)
                          clear hK K
                          (try simp only [Act.put, List.setIfInBounds_toArray, List.set_cons_zero, List.set_cons_succ])
                          refine wpAnyH_ready (rs := [11]) (by kernel_rfl) (by simp) ?_
                          refine AllReadyH.cons (o := { dst := some 114, op := Op.call { callee := Callee.value (Operand.func 4), args := #[Operand.tmp 109, Operand.tmp 110, Operand.tmp 113, Operand.const (Value.int IntKind.i64 0)], argTypes := #[3, 3, 41, 3] }, type := 4, pos := "law.go:108", after := #[{ on := 6, ground := Ground.data }, { on := 7, ground := Ground.data }, { on := 10, ground := Ground.data }, { on := 10, ground := Ground.chain }, { on := 5, ground := Ground.guard }], guard := some (5, false) }) rfl (fun K hK => ?_) AllReadyH.nil
                          go_simp
                          (refine (readsE ?_ (by omega) (by intro h; cases h)).mono ?_)
                          exact HY9.out
                          rintro e wb ⟨rfl, HO2⟩
                          go_wp2_with fail
                          refine hK.out _ _ (kbOf (by assumption) HO2.out) (fun hHeld => ?_)
                          clear hK K
                          (try simp only [Act.put, List.setIfInBounds_toArray, List.set_cons_zero, List.set_cons_succ])
                          refine wpAnyH_take (i := 12) (oi := { dst := some 115, op := Op.unOp UnOp.not 4 (Operand.tmp 114), type := 4, pos := "law.go:108", after := #[{ on := 11, ground := Ground.data }, { on := 5, ground := Ground.guard }], guard := some (5, false) }) (v := ?v12) rfl (by kernel_rfl) (by kernel_rfl) (by kernel_rfl) (fun _ _ _ h => h) (Or.inl ⟨by rfl, ?h12⟩) (by assumption) ?r12
                          case h12 => (intro w' hSw; first | (go_simp; done) | (go_simp; with_reducible rfl))
                          (try simp only [Act.put, List.setIfInBounds_toArray, List.set_cons_zero, List.set_cons_succ])
                          refine wpAnyH_take (i := 13) (oi := { dst := some 116, op := Op.pick (Operand.tmp 108) (Operand.const (Value.bool true)) (Operand.tmp 115), type := 4, pos := "law.go:108", after := #[{ on := 5, ground := Ground.data }, { on := 12, ground := Ground.data }], guard := none }) (v := ?v13) rfl (by kernel_rfl) (by kernel_rfl) (by kernel_rfl) (fun _ _ _ h => h) (Or.inl ⟨by rfl, ?h13⟩) (by assumption) ?r13
                          case h13 => (intro w' hSw; first | (go_simp; done) | (go_simp; with_reducible rfl))
                          (try simp only [Act.put, List.setIfInBounds_toArray, List.set_cons_zero, List.set_cons_succ])
                          refine wpAnyH_take (i := 14) (oi := { dst := some 117, op := Op.move (Operand.tmp 116), type := 4, pos := "law.go:108", after := #[{ on := 13, ground := Ground.data }, { on := 11, ground := Ground.chain }], guard := none }) (v := ?v14) rfl (by kernel_rfl) (by kernel_rfl) (by kernel_rfl) (fun _ _ _ h => h) (Or.inl ⟨by rfl, ?h14⟩) (by assumption) ?r14
                          case h14 => (intro w' hSw; first | (go_simp; done) | (go_simp; with_reducible rfl))
                          (try simp only [Act.put, List.setIfInBounds_toArray, List.set_cons_zero, List.set_cons_succ])
                          refine wpAnyH_take (i := 15) (oi := { dst := some 118, op := Op.move (Operand.tmp 9), type := 41, pos := "law.go:108", after := #[{ on := 14, ground := Ground.guard }], guard := some (14, false) }) (v := ?v15) rfl (by kernel_rfl) (by kernel_rfl) (by kernel_rfl) (fun _ _ _ h => h) (Or.inl ⟨by rfl, ?h15⟩) (by assumption) ?r15
                          case h15 => (intro w' hSw; first | (go_simp; done) | (go_simp; with_reducible rfl))
                          (try simp only [Act.put, List.setIfInBounds_toArray, List.set_cons_zero, List.set_cons_succ])
                          refine wpAnyH_take (i := 16) (oi := { dst := some 119, op := Op.call { callee := Callee.builtin Builtin.len, args := #[Operand.tmp 118], argTypes := #[41] }, type := 3, pos := "law.go:108", after := #[{ on := 15, ground := Ground.data }, { on := 14, ground := Ground.guard }], guard := some (14, false) }) (v := ?v16) rfl (by kernel_rfl) (by kernel_rfl) (by kernel_rfl) (fun _ _ _ h => h) (Or.inl ⟨by rfl, ?h16⟩) (by assumption) ?r16
                          case h16 => (intro w' hSw; first | (go_simp; done) | (go_simp; with_reducible rfl))
                          (try simp only [Act.put, List.setIfInBounds_toArray, List.set_cons_zero, List.set_cons_succ])
                          refine wpAnyH_take (i := 17) (oi := { dst := some 120, op := Op.binOp BinOp.gtr 3 (Operand.tmp 119) (Operand.const (Value.int IntKind.i64 0)) 3, type := 4, pos := "law.go:108", after := #[{ on := 16, ground := Ground.data }, { on := 14, ground := Ground.guard }], guard := some (14, false) }) (v := ?v17) rfl (by kernel_rfl) (by kernel_rfl) (by kernel_rfl) (fun _ _ _ h => h) (Or.inl ⟨by rfl, ?h17⟩) (by assumption) ?r17
                          case h17 => (intro w' hSw; first | (go_simp; done) | (go_simp; with_reducible rfl))
                          (try simp only [Act.put, List.setIfInBounds_toArray, List.set_cons_zero, List.set_cons_succ])
                          refine wpAnyH_take (i := 18) (oi := { dst := some 121, op := Op.move (Operand.tmp 120), type := 4, pos := "law.go:108", after := #[{ on := 17, ground := Ground.data }, { on := 14, ground := Ground.chain }, { on := 14, ground := Ground.guard }], guard := some (14, false) }) (v := ?v18) rfl (by kernel_rfl) (by kernel_rfl) (by kernel_rfl) (fun _ _ _ h => h) (Or.inl ⟨by rfl, ?h18⟩) (by assumption) ?r18
                          case h18 => (intro w' hSw; first | (go_simp; done) | (go_simp; with_reducible rfl))
                          (try simp only [Act.put, List.setIfInBounds_toArray, List.set_cons_zero, List.set_cons_succ])
                          refine wpAnyH_take (i := 19) (oi := { dst := some 122, op := Op.move (Operand.tmp 1), type := 3, pos := "law.go:108", after := #[{ on := 18, ground := Ground.guard }], guard := some (18, true) }) (v := undef) rfl (by kernel_rfl) (by kernel_rfl) (by kernel_rfl) (fun _ _ _ h => h) (Or.inr ⟨by rfl, rfl⟩) (by assumption) ?_
                          (try simp only [Act.put, List.setIfInBounds_toArray, List.set_cons_zero, List.set_cons_succ])
                          refine wpAnyH_take (i := 20) (oi := { dst := some 123, op := Op.move (Operand.tmp 6), type := 3, pos := "law.go:108", after := #[{ on := 18, ground := Ground.guard }], guard := some (18, true) }) (v := undef) rfl (by kernel_rfl) (by kernel_rfl) (by kernel_rfl) (fun _ _ _ h => h) (Or.inr ⟨by rfl, rfl⟩) (by assumption) ?_
                          (try simp only [Act.put, List.setIfInBounds_toArray, List.set_cons_zero, List.set_cons_succ])
                          refine wpAnyH_take (i := 21) (oi := { dst := some 124, op := Op.move (Operand.tmp 9), type := 41, pos := "law.go:108", after := #[{ on := 18, ground := Ground.guard }], guard := some (18, true) }) (v := undef) rfl (by kernel_rfl) (by kernel_rfl) (by kernel_rfl) (fun _ _ _ h => h) (Or.inr ⟨by rfl, rfl⟩) (by assumption) ?_
                          (try simp only [Act.put, List.setIfInBounds_toArray, List.set_cons_zero, List.set_cons_succ])
                          refine wpAnyH_take (i := 22) (oi := { dst := some 125, op := Op.slice 41 (Operand.tmp 124) (some (Operand.const (Value.int IntKind.i64 1))) none none, type := 41, pos := "law.go:108", after := #[{ on := 21, ground := Ground.data }, { on := 18, ground := Ground.guard }], guard := some (18, true) }) (v := undef) rfl (by kernel_rfl) (by kernel_rfl) (by kernel_rfl) (fun _ _ _ h => h) (Or.inr ⟨by rfl, rfl⟩) (by assumption) ?_
                          (try simp only [Act.put, List.setIfInBounds_toArray, List.set_cons_zero, List.set_cons_succ])
                          refine wpAnyH_take (i := 23) (oi := { dst := some 126, op := Op.call { callee := Callee.value (Operand.func 4), args := #[Operand.tmp 122, Operand.tmp 123, Operand.tmp 125, Operand.const (Value.int IntKind.i64 0)], argTypes := #[3, 3, 41, 3] }, type := 4, pos := "law.go:108", after := #[{ on := 19, ground := Ground.data }, { on := 20, ground := Ground.data }, { on := 22, ground := Ground.data }, { on := 18, ground := Ground.chain }, { on := 18, ground := Ground.guard }], guard := some (18, true) }) (v := undef) rfl (by kernel_rfl) (by kernel_rfl) (by kernel_rfl) (fun _ _ _ h => h) (Or.inr ⟨by rfl, rfl⟩) (by assumption) ?_
                          (try simp only [Act.put, List.setIfInBounds_toArray, List.set_cons_zero, List.set_cons_succ])
                          refine wpAnyH_take (i := 24) (oi := { dst := some 127, op := Op.unOp UnOp.not 4 (Operand.tmp 126), type := 4, pos := "law.go:108", after := #[{ on := 23, ground := Ground.data }, { on := 18, ground := Ground.guard }], guard := some (18, true) }) (v := undef) rfl (by kernel_rfl) (by kernel_rfl) (by kernel_rfl) (fun _ _ _ h => h) (Or.inr ⟨by rfl, rfl⟩) (by assumption) ?_
                          (try simp only [Act.put, List.setIfInBounds_toArray, List.set_cons_zero, List.set_cons_succ])
                          refine wpAnyH_take (i := 25) (oi := { dst := some 128, op := Op.pick (Operand.tmp 121) (Operand.tmp 127) (Operand.const (Value.bool false)), type := 4, pos := "law.go:108", after := #[{ on := 18, ground := Ground.data }, { on := 24, ground := Ground.data }, { on := 14, ground := Ground.guard }], guard := some (14, false) }) (v := ?v25) rfl (by kernel_rfl) (by kernel_rfl) (by kernel_rfl) (fun _ _ _ h => h) (Or.inl ⟨by rfl, ?h25⟩) (by assumption) ?r25
                          case h25 => (intro w' hSw; first | (go_simp; done) | (go_simp; with_reducible rfl))
                          (try simp only [Act.put, List.setIfInBounds_toArray, List.set_cons_zero, List.set_cons_succ])
                          refine wpAnyH_take (i := 26) (oi := { dst := some 129, op := Op.pick (Operand.tmp 117) (Operand.const (Value.bool true)) (Operand.tmp 128), type := 4, pos := "law.go:108", after := #[{ on := 14, ground := Ground.data }, { on := 25, ground := Ground.data }], guard := none }) (v := ?v26) rfl (by kernel_rfl) (by kernel_rfl) (by kernel_rfl) (fun _ _ _ h => h) (Or.inl ⟨by rfl, ?h26⟩) (by assumption) ?r26
                          case h26 => (intro w' hSw; first | (go_simp; done) | (go_simp; with_reducible rfl))
                          (try simp only [Act.put, List.setIfInBounds_toArray, List.set_cons_zero, List.set_cons_succ])
                          refine wpAnyH_take (i := 27) (oi := { dst := some 130, op := Op.move (Operand.tmp 129), type := 4, pos := "law.go:108", after := #[{ on := 26, ground := Ground.data }, { on := 23, ground := Ground.chain }], guard := none }) (v := ?v27) rfl (by kernel_rfl) (by kernel_rfl) (by kernel_rfl) (fun _ _ _ h => h) (Or.inl ⟨by rfl, ?h27⟩) (by assumption) ?r27
                          case h27 => (intro w' hSw; first | (go_simp; done) | (go_simp; with_reducible rfl))
                          (try simp only [Act.put, List.setIfInBounds_toArray, List.set_cons_zero, List.set_cons_succ])
                          refine wpAnyH_take (i := 28) (oi := { dst := some 131, op := Op.move (Operand.tmp 9), type := 41, pos := "law.go:108", after := #[{ on := 27, ground := Ground.guard }], guard := some (27, false) }) (v := ?v28) rfl (by kernel_rfl) (by kernel_rfl) (by kernel_rfl) (fun _ _ _ h => h) (Or.inl ⟨by rfl, ?h28⟩) (by assumption) ?r28
                          case h28 => (intro w' hSw; first | (go_simp; done) | (go_simp; with_reducible rfl))
                          (try simp only [Act.put, List.setIfInBounds_toArray, List.set_cons_zero, List.set_cons_succ])
                          refine wpAnyH_take (i := 29) (oi := { dst := some 132, op := Op.call { callee := Callee.builtin Builtin.len, args := #[Operand.tmp 131], argTypes := #[41] }, type := 3, pos := "law.go:108", after := #[{ on := 28, ground := Ground.data }, { on := 27, ground := Ground.guard }], guard := some (27, false) }) (v := ?v29) rfl (by kernel_rfl) (by kernel_rfl) (by kernel_rfl) (fun _ _ _ h => h) (Or.inl ⟨by rfl, ?h29⟩) (by assumption) ?r29
                          case h29 => (intro w' hSw; first | (go_simp; done) | (go_simp; with_reducible rfl))
                          (try simp only [Act.put, List.setIfInBounds_toArray, List.set_cons_zero, List.set_cons_succ])
                          refine wpAnyH_take (i := 30) (oi := { dst := some 133, op := Op.binOp BinOp.gtr 3 (Operand.tmp 132) (Operand.const (Value.int IntKind.i64 0)) 3, type := 4, pos := "law.go:108", after := #[{ on := 29, ground := Ground.data }, { on := 27, ground := Ground.guard }], guard := some (27, false) }) (v := ?v30) rfl (by kernel_rfl) (by kernel_rfl) (by kernel_rfl) (fun _ _ _ h => h) (Or.inl ⟨by rfl, ?h30⟩) (by assumption) ?r30
                          case h30 => (intro w' hSw; first | (go_simp; done) | (go_simp; with_reducible rfl))
                          (try simp only [Act.put, List.setIfInBounds_toArray, List.set_cons_zero, List.set_cons_succ])
                          refine wpAnyH_take (i := 31) (oi := { dst := some 134, op := Op.move (Operand.tmp 133), type := 4, pos := "law.go:108", after := #[{ on := 30, ground := Ground.data }, { on := 27, ground := Ground.chain }, { on := 27, ground := Ground.guard }], guard := some (27, false) }) (v := ?v31) rfl (by kernel_rfl) (by kernel_rfl) (by kernel_rfl) (fun _ _ _ h => h) (Or.inl ⟨by rfl, ?h31⟩) (by assumption) ?r31
                          case h31 => (intro w' hSw; first | (go_simp; done) | (go_simp; with_reducible rfl))
                          (try simp only [Act.put, List.setIfInBounds_toArray, List.set_cons_zero, List.set_cons_succ])
                          refine wpAnyH_take (i := 32) (oi := { dst := some 135, op := Op.move (Operand.tmp 1), type := 3, pos := "law.go:108", after := #[{ on := 31, ground := Ground.guard }], guard := some (31, true) }) (v := undef) rfl (by kernel_rfl) (by kernel_rfl) (by kernel_rfl) (fun _ _ _ h => h) (Or.inr ⟨by rfl, rfl⟩) (by assumption) ?_
                          (try simp only [Act.put, List.setIfInBounds_toArray, List.set_cons_zero, List.set_cons_succ])
                          refine wpAnyH_take (i := 33) (oi := { dst := some 136, op := Op.move (Operand.tmp 6), type := 3, pos := "law.go:108", after := #[{ on := 31, ground := Ground.guard }], guard := some (31, true) }) (v := undef) rfl (by kernel_rfl) (by kernel_rfl) (by kernel_rfl) (fun _ _ _ h => h) (Or.inr ⟨by rfl, rfl⟩) (by assumption) ?_
                          (try simp only [Act.put, List.setIfInBounds_toArray, List.set_cons_zero, List.set_cons_succ])
                          refine wpAnyH_take (i := 34) (oi := { dst := some 137, op := Op.move (Operand.tmp 9), type := 41, pos := "law.go:108", after := #[{ on := 31, ground := Ground.guard }], guard := some (31, true) }) (v := undef) rfl (by kernel_rfl) (by kernel_rfl) (by kernel_rfl) (fun _ _ _ h => h) (Or.inr ⟨by rfl, rfl⟩) (by assumption) ?_
                          (try simp only [Act.put, List.setIfInBounds_toArray, List.set_cons_zero, List.set_cons_succ])
                          refine wpAnyH_take (i := 35) (oi := { dst := some 138, op := Op.move (Operand.tmp 9), type := 41, pos := "law.go:108", after := #[{ on := 31, ground := Ground.guard }], guard := some (31, true) }) (v := undef) rfl (by kernel_rfl) (by kernel_rfl) (by kernel_rfl) (fun _ _ _ h => h) (Or.inr ⟨by rfl, rfl⟩) (by assumption) ?_
                          (try simp only [Act.put, List.setIfInBounds_toArray, List.set_cons_zero, List.set_cons_succ])
                          refine wpAnyH_take (i := 36) (oi := { dst := some 139, op := Op.call { callee := Callee.builtin Builtin.len, args := #[Operand.tmp 138], argTypes := #[41] }, type := 3, pos := "law.go:108", after := #[{ on := 35, ground := Ground.data }, { on := 31, ground := Ground.guard }], guard := some (31, true) }) (v := undef) rfl (by kernel_rfl) (by kernel_rfl) (by kernel_rfl) (fun _ _ _ h => h) (Or.inr ⟨by rfl, rfl⟩) (by assumption) ?_
                          (try simp only [Act.put, List.setIfInBounds_toArray, List.set_cons_zero, List.set_cons_succ])
                          refine wpAnyH_take (i := 37) (oi := { dst := some 140, op := Op.binOp BinOp.sub 3 (Operand.tmp 139) (Operand.const (Value.int IntKind.i64 1)) 3, type := 3, pos := "law.go:108", after := #[{ on := 36, ground := Ground.data }, { on := 31, ground := Ground.guard }], guard := some (31, true) }) (v := undef) rfl (by kernel_rfl) (by kernel_rfl) (by kernel_rfl) (fun _ _ _ h => h) (Or.inr ⟨by rfl, rfl⟩) (by assumption) ?_
                          (try simp only [Act.put, List.setIfInBounds_toArray, List.set_cons_zero, List.set_cons_succ])
                          refine wpAnyH_take (i := 38) (oi := { dst := some 141, op := Op.move (Operand.tmp 9), type := 41, pos := "law.go:108", after := #[{ on := 31, ground := Ground.guard }], guard := some (31, true) }) (v := undef) rfl (by kernel_rfl) (by kernel_rfl) (by kernel_rfl) (fun _ _ _ h => h) (Or.inr ⟨by rfl, rfl⟩) (by assumption) ?_
                          (try simp only [Act.put, List.setIfInBounds_toArray, List.set_cons_zero, List.set_cons_succ])
                          refine wpAnyH_take (i := 39) (oi := { dst := some 142, op := Op.call { callee := Callee.builtin Builtin.len, args := #[Operand.tmp 141], argTypes := #[41] }, type := 3, pos := "law.go:108", after := #[{ on := 38, ground := Ground.data }, { on := 31, ground := Ground.guard }], guard := some (31, true) }) (v := undef) rfl (by kernel_rfl) (by kernel_rfl) (by kernel_rfl) (fun _ _ _ h => h) (Or.inr ⟨by rfl, rfl⟩) (by assumption) ?_
                          (try simp only [Act.put, List.setIfInBounds_toArray, List.set_cons_zero, List.set_cons_succ])
                          refine wpAnyH_take (i := 40) (oi := { dst := some 143, op := Op.binOp BinOp.sub 3 (Operand.tmp 142) (Operand.const (Value.int IntKind.i64 1)) 3, type := 3, pos := "law.go:108", after := #[{ on := 39, ground := Ground.data }, { on := 31, ground := Ground.guard }], guard := some (31, true) }) (v := undef) rfl (by kernel_rfl) (by kernel_rfl) (by kernel_rfl) (fun _ _ _ h => h) (Or.inr ⟨by rfl, rfl⟩) (by assumption) ?_
                          (try simp only [Act.put, List.setIfInBounds_toArray, List.set_cons_zero, List.set_cons_succ])
                          refine wpAnyH_take (i := 41) (oi := { dst := some 144, op := Op.slice 41 (Operand.tmp 137) none (some (Operand.tmp 140)) (some (Operand.tmp 143)), type := 41, pos := "law.go:108", after := #[{ on := 34, ground := Ground.data }, { on := 37, ground := Ground.data }, { on := 40, ground := Ground.data }, { on := 31, ground := Ground.guard }], guard := some (31, true) }) (v := undef) rfl (by kernel_rfl) (by kernel_rfl) (by kernel_rfl) (fun _ _ _ h => h) (Or.inr ⟨by rfl, rfl⟩) (by assumption) ?_
                          (try simp only [Act.put, List.setIfInBounds_toArray, List.set_cons_zero, List.set_cons_succ])
                          refine wpAnyH_take (i := 42) (oi := { dst := some 145, op := Op.move (Operand.tmp 9), type := 41, pos := "law.go:108", after := #[{ on := 31, ground := Ground.guard }], guard := some (31, true) }) (v := undef) rfl (by kernel_rfl) (by kernel_rfl) (by kernel_rfl) (fun _ _ _ h => h) (Or.inr ⟨by rfl, rfl⟩) (by assumption) ?_
                          (try simp only [Act.put, List.setIfInBounds_toArray, List.set_cons_zero, List.set_cons_succ])
                          refine wpAnyH_take (i := 43) (oi := { dst := some 146, op := Op.move (Operand.tmp 9), type := 41, pos := "law.go:108", after := #[{ on := 31, ground := Ground.guard }], guard := some (31, true) }) (v := undef) rfl (by kernel_rfl) (by kernel_rfl) (by kernel_rfl) (fun _ _ _ h => h) (Or.inr ⟨by rfl, rfl⟩) (by assumption) ?_
                          (try simp only [Act.put, List.setIfInBounds_toArray, List.set_cons_zero, List.set_cons_succ])
                          refine wpAnyH_take (i := 44) (oi := { dst := some 147, op := Op.call { callee := Callee.builtin Builtin.len, args := #[Operand.tmp 146], argTypes := #[41] }, type := 3, pos := "law.go:108", after := #[{ on := 43, ground := Ground.data }, { on := 31, ground := Ground.guard }], guard := some (31, true) }) (v := undef) rfl (by kernel_rfl) (by kernel_rfl) (by kernel_rfl) (fun _ _ _ h => h) (Or.inr ⟨by rfl, rfl⟩) (by assumption) ?_
                          (try simp only [Act.put, List.setIfInBounds_toArray, List.set_cons_zero, List.set_cons_succ])
                          refine wpAnyH_take (i := 45) (oi := { dst := some 148, op := Op.binOp BinOp.sub 3 (Operand.tmp 147) (Operand.const (Value.int IntKind.i64 1)) 3, type := 3, pos := "law.go:108", after := #[{ on := 44, ground := Ground.data }, { on := 31, ground := Ground.guard }], guard := some (31, true) }) (v := undef) rfl (by kernel_rfl) (by kernel_rfl) (by kernel_rfl) (fun _ _ _ h => h) (Or.inr ⟨by rfl, rfl⟩) (by assumption) ?_
                          (try simp only [Act.put, List.setIfInBounds_toArray, List.set_cons_zero, List.set_cons_succ])
                          refine wpAnyH_take (i := 46) (oi := { dst := some 149, op := Op.indexAddr 41 (Operand.tmp 145) (Operand.tmp 148), type := 0, pos := "law.go:108", after := #[{ on := 42, ground := Ground.data }, { on := 45, ground := Ground.data }, { on := 31, ground := Ground.guard }], guard := some (31, true) }) (v := undef) rfl (by kernel_rfl) (by kernel_rfl) (by kernel_rfl) (fun _ _ _ h => h) (Or.inr ⟨by rfl, rfl⟩) (by assumption) ?_
                          (try simp only [Act.put, List.setIfInBounds_toArray, List.set_cons_zero, List.set_cons_succ])
                          refine wpAnyH_take (i := 47) (oi := { dst := some 150, op := Op.load 5 (Operand.tmp 149), type := 5, pos := "law.go:108", after := #[{ on := 46, ground := Ground.data }, { on := 31, ground := Ground.guard }], guard := some (31, true) }) (v := undef) rfl (by kernel_rfl) (by kernel_rfl) (by kernel_rfl) (fun _ _ _ h => h) (Or.inr ⟨by rfl, rfl⟩) (by assumption) ?_
                          (try simp only [Act.put, List.setIfInBounds_toArray, List.set_cons_zero, List.set_cons_succ])
                          refine wpAnyH_take (i := 48) (oi := { dst := some 151, op := Op.binOp BinOp.or 5 (Operand.tmp 150) (Operand.const (Value.int IntKind.u8 128)) 5, type := 5, pos := "law.go:108", after := #[{ on := 47, ground := Ground.data }, { on := 31, ground := Ground.guard }], guard := some (31, true) }) (v := undef) rfl (by kernel_rfl) (by kernel_rfl) (by kernel_rfl) (fun _ _ _ h => h) (Or.inr ⟨by rfl, rfl⟩) (by assumption) ?_
                          (try simp only [Act.put, List.setIfInBounds_toArray, List.set_cons_zero, List.set_cons_succ])
                          refine wpAnyH_take (i := 49) (oi := { dst := some 152, op := Op.buildSlice 41 1 #[(0, Operand.tmp 151)], type := 41, pos := "law.go:108", after := #[{ on := 48, ground := Ground.data }, { on := 31, ground := Ground.guard }], guard := some (31, true) }) (v := undef) rfl (by kernel_rfl) (by kernel_rfl) (by kernel_rfl) (fun _ _ _ h => h) (Or.inr ⟨by rfl, rfl⟩) (by assumption) ?_
                          (try simp only [Act.put, List.setIfInBounds_toArray, List.set_cons_zero, List.set_cons_succ])
                          refine wpAnyH_take (i := 50) (oi := { dst := some 153, op := Op.call { callee := Callee.builtin Builtin.append, args := #[Operand.tmp 144, Operand.tmp 152], argTypes := #[41, 41] }, type := 41, pos := "law.go:108", after := #[{ on := 41, ground := Ground.data }, { on := 49, ground := Ground.data }, { on := 31, ground := Ground.chain }, { on := 31, ground := Ground.guard }], guard := some (31, true) }) (v := undef) rfl (by kernel_rfl) (by kernel_rfl) (by kernel_rfl) (fun _ _ _ h => h) (Or.inr ⟨by rfl, rfl⟩) (by assumption) ?_
                          (try simp only [Act.put, List.setIfInBounds_toArray, List.set_cons_zero, List.set_cons_succ])
                          refine wpAnyH_take (i := 51) (oi := { dst := some 154, op := Op.move (Operand.tmp 6), type := 3, pos := "law.go:108", after := #[{ on := 31, ground := Ground.guard }], guard := some (31, true) }) (v := undef) rfl (by kernel_rfl) (by kernel_rfl) (by kernel_rfl) (fun _ _ _ h => h) (Or.inr ⟨by rfl, rfl⟩) (by assumption) ?_
                          (try simp only [Act.put, List.setIfInBounds_toArray, List.set_cons_zero, List.set_cons_succ])
                          refine wpAnyH_take (i := 52) (oi := { dst := some 155, op := Op.call { callee := Callee.value (Operand.func 4), args := #[Operand.tmp 135, Operand.tmp 136, Operand.tmp 153, Operand.tmp 154], argTypes := #[3, 3, 41, 3] }, type := 4, pos := "law.go:108", after := #[{ on := 32, ground := Ground.data }, { on := 33, ground := Ground.data }, { on := 50, ground := Ground.data }, { on := 51, ground := Ground.data }, { on := 50, ground := Ground.chain }, { on := 31, ground := Ground.guard }], guard := some (31, true) }) (v := undef) rfl (by kernel_rfl) (by kernel_rfl) (by kernel_rfl) (fun _ _ _ h => h) (Or.inr ⟨by rfl, rfl⟩) (by assumption) ?_
                          (try simp only [Act.put, List.setIfInBounds_toArray, List.set_cons_zero, List.set_cons_succ])
                          refine wpAnyH_take (i := 53) (oi := { dst := some 156, op := Op.unOp UnOp.not 4 (Operand.tmp 155), type := 4, pos := "law.go:108", after := #[{ on := 52, ground := Ground.data }, { on := 31, ground := Ground.guard }], guard := some (31, true) }) (v := undef) rfl (by kernel_rfl) (by kernel_rfl) (by kernel_rfl) (fun _ _ _ h => h) (Or.inr ⟨by rfl, rfl⟩) (by assumption) ?_
                          (try simp only [Act.put, List.setIfInBounds_toArray, List.set_cons_zero, List.set_cons_succ])
                          refine wpAnyH_take (i := 54) (oi := { dst := some 157, op := Op.pick (Operand.tmp 134) (Operand.tmp 156) (Operand.const (Value.bool false)), type := 4, pos := "law.go:108", after := #[{ on := 31, ground := Ground.data }, { on := 53, ground := Ground.data }, { on := 27, ground := Ground.guard }], guard := some (27, false) }) (v := ?v54) rfl (by kernel_rfl) (by kernel_rfl) (by kernel_rfl) (fun _ _ _ h => h) (Or.inl ⟨by rfl, ?h54⟩) (by assumption) ?r54
                          case h54 => (intro w' hSw; first | (go_simp; done) | (go_simp; with_reducible rfl))
                          (try simp only [Act.put, List.setIfInBounds_toArray, List.set_cons_zero, List.set_cons_succ])
                          refine wpAnyH_take (i := 55) (oi := { dst := some 158, op := Op.pick (Operand.tmp 130) (Operand.const (Value.bool true)) (Operand.tmp 157), type := 4, pos := "law.go:108", after := #[{ on := 27, ground := Ground.data }, { on := 54, ground := Ground.data }], guard := none }) (v := ?v55) rfl (by kernel_rfl) (by kernel_rfl) (by kernel_rfl) (fun _ _ _ h => h) (Or.inl ⟨by rfl, ?h55⟩) (by assumption) ?r55
                          case h55 => (intro w' hSw; first | (go_simp; done) | (go_simp; with_reducible rfl))
                          (try simp only [Act.put, List.setIfInBounds_toArray, List.set_cons_zero, List.set_cons_succ])
                          refine wpAnyH_done (by kernel_rfl) ?_ _
                          refine NoPanic.normal ?_
                          have HE9 := (show (_ ∧ Hid (EnB w wb g v1.heap.size gb bs)) from by assumption).2
                          go_wp2_with fail
                          go_meet
                          case rel => exact ⟨rfl, hid HE9.out.en⟩
                      · obtain ⟨j, rfl⟩ : ∃ j, mb = j + 1 := ⟨mb - 1, by omega⟩
                        have hj : j < bs.length := by have := HL.out; omega
                        obtain ⟨y, hy⟩ : ∃ y, y = bs.getD j 0 := ⟨_, rfl⟩
                        have dj : w4.cell? ⟨gb, j, none⟩ = some (.int .u8 (y : Int)) := by rw [hy]; exact HB0.out.cell hj
                        have Hy := hid hy
                        obtain ⟨p, hp256, hor⟩ := or128 y
                        have hw1 : IntKind.i64.wrap ((j : Int) + 1 - 1) = (j : Int) := by rw [IntKind.wrap_i64]; omega
                        have hw2 : wrap64 ((j : Int) + 1 - 1) = (j : Int) := by rw [show (j : Int) + 1 - 1 = (j : Int) by omega]; exact IntWalk.wrap64_in _ ⟨by omega, by omega⟩
                        have hw3 : IntKind.i64.wrap (j : Int) = (j : Int) := by rw [IntKind.wrap_i64]; omega
                        have hj0 : (0 : Int) ≤ (j : Int) := by omega
                        have hj1 : (j : Int) < (j : Int) + 1 := by omega
                        have hj2 : (j : Int) ≤ (j : Int) + 1 := by omega
                        have hj3 : (1 : Int) ≤ (j : Int) + 1 := by omega
                        have hj4 : 0 < (j : Int) + 1 := by omega
                        clear hy
                        by_cases hm1 : j = 0
                        · as_aux_lemma =>
                            subst hm1
                            have hw4 : IntKind.i64.wrap 0 = 0 := by rw [IntKind.wrap_i64]; omega
                            go_region_held3 (fun w' => w'.cell? ⟨gb, 0, none⟩ = some (.int .u8 (y : Int)) ∧ Hid (EnB w w' g v1.heap.size gb bs))
                              (first | assumption | exact enbOf hj Hy (by assumption) (Hid.out (by assumption)) | exact enbOf hj Hy (by assumption) ((Below.refl _ _).alloc (Nat.le_refl _) _) | exact enbOf hj Hy ⟨trivial, HB0⟩ (below_drews _ 1) | exact ⟨dj, HB0⟩)
                              (first
                                | (refine step_snoc_bytes (by rfl) (.tmp 111) (.tmp 112) rfl ⟨gb, 0, none⟩ 1 1 1 (by rfl) (hid (ybOf HL (by assumption))) ⟨wa.heap.size, 0, none⟩ 0 (by rfl) (hid (by simp)) (by omega) (by omega) (by omega) ?_; intro g9 cap9 w9 HY9 HB9)
                                | (refine step_snoc_bytes (by rfl) (.tmp 144) (.tmp 152) rfl ⟨gb, 0, none⟩ 0 0 1 (by rfl) (hid (YR.nil _ _)) ⟨wa.heap.size, 0, none⟩ p (by rfl) (hid (by simp)) hp256 (by omega) (by omega) ?_; intro g9 cap9 w9 HY9 HB9)
                                | (go_at_call 4; (refine (readsE ?_ (by omega) (by intro h; cases h)).mono ?_); (first | exact YR.nil _ _ | exact ybOf HL (by assumption) | exact HY9.out); rintro e wa ⟨rfl, HO⟩))
                            all_goals
                              have HE9 := (show (_ ∧ Hid (EnB w wa g v1.heap.size gb bs)) from by assumption).2
                              go_wp2_with fail
                              go_meet
                              case rel => exact ⟨rfl, hid HE9.out.en⟩
                        · as_aux_lemma =>
                            have hj5 : (1 : Int) ≤ (j : Int) := by omega
                            go_region_held3 (fun w' => w'.cell? ⟨gb, j, none⟩ = some (.int .u8 (y : Int)) ∧ Hid (EnB w w' g v1.heap.size gb bs))
                              (first | assumption | exact enbOf hj Hy (by assumption) (Hid.out (by assumption)) | exact enbOf hj Hy (by assumption) ((Below.refl _ _).alloc (Nat.le_refl _) _) | exact enbOf hj Hy ⟨trivial, HB0⟩ (below_drews _ 1) | exact ⟨dj, HB0⟩)
                              (first
                                | (refine step_snoc_bytes (by rfl) (.tmp 111) (.tmp 112) rfl ⟨gb, 0, none⟩ (j + 1) (j + 1) 1 (by rfl) (hid (ybOf HL (by assumption))) ⟨wa.heap.size, 0, none⟩ 0 (by rfl) (hid (by simp)) (by omega) (by omega) (by omega) ?_; intro g9 cap9 w9 HY9 HB9)
                                | (refine step_snoc_bytes (by rfl) (.tmp 144) (.tmp 152) rfl ⟨gb, 0, none⟩ j j 1 (by rfl) (hid (ybOfT HL (by assumption))) ⟨wa.heap.size, 0, none⟩ p (by rfl) (hid (by simp)) hp256 (by omega) (by omega) ?_; intro g9 cap9 w9 HY9 HB9)
                                | (go_at_call 4; (refine (readsE ?_ (by omega) (by intro h; cases h)).mono ?_); (first | exact ybOf HL (by assumption) | exact ybOf1 HL (by assumption) | exact HY9.out); rintro e wa ⟨rfl, HO⟩))
                            all_goals
                              have HE9 := (show (_ ∧ Hid (EnB w wa g v1.heap.size gb bs)) from by assumption).2
                              go_wp2_with fail
                              go_meet
                              case rel => exact ⟨rfl, hid HE9.out.en⟩
                  case rest =>
                    obtain ⟨rfl, HE4⟩ := hcut
                    clear HE3 HY
                    go_wp2_with fail
                    go_roundw
                    case rel => (repeat apply Exists.intro); exact ⟨⟨k + 1, by omega, by go_num, HE4⟩, rfl⟩
                    case measure => simp [intOf]; omega
            · obtain rfl : k = 6 := by omega
              have HB5 := hid HE.out.bel
              have hx3 : (-1 : Int) ≤ x + 1 := by omega
              clear HE
              go_wp2_with fail
              go_roundw
              case rel => exact ⟨x + 1, by omega, by omega, rfl, HB5⟩
              case measure => simp [intOf]; omega
    · obtain rfl : x = 63 := by omega
      go_wp2_with fail
      obtain ⟨v0, rfl⟩ : ∃ v0 : World, v0 = wr := ⟨_, rfl⟩
      obtain ⟨F, hF1, hF2⟩ := ends_made v0
      have HE0 : Hid (EdS w (v0.alloc (.cells #[.int .i64 (-9223372036854775808), .int .i64 (-1), .int .i64 0, .int .i64 1, .int .i64 16777217, .int .i64 9223372036854775807] 3)) v0.heap.size F) := hid ⟨HB.out.alloc HB.out.size _, hF1, hF2⟩
      clear hF1 hF2
      go_loopw [11] (fun s wr => ∃ k : Nat, k ≤ 6 ∧ s = .int .i64 k ∧ Hid (EdS w wr v0.heap.size F)) (fun s _ => 6 - (intOf s).toNat)
      case atStart => exact ⟨0, by omega, rfl, HE0⟩
      case round =>
        obtain ⟨k, hk, rfl, HE⟩ := hrel
        clear HE0 HB
        by_cases hp6 : k < 6
        · as_aux_lemma =>
            obtain ⟨q, hq⟩ : ∃ q, q = (k + 1) % 6 := ⟨_, rfl⟩
            have hq6 : q < 6 := by omega
            obtain ⟨z, hz⟩ : ∃ z, z = F k := ⟨_, rfl⟩
            obtain ⟨y, hy⟩ : ∃ y, y = F q := ⟨_, rfl⟩
            have Hz := hid hz
            have Hy := hid hy
            have hzb : -9223372036854775808 ≤ z ∧ z ≤ 9223372036854775807 := by rw [hz]; exact HE.out.bd k hp6
            have d1 : wr.cell? ⟨v0.heap.size, k, none⟩ = some (.int .i64 z) := by rw [hz]; exact HE.out.row.cell hp6
            have d2 : wr.cell? ⟨v0.heap.size, q, none⟩ = some (.int .i64 y) := by rw [hy]; exact HE.out.row.cell hq6
            have hk6 : (k : Int) < 6 := by omega
            have hk1 : IntKind.i64.wrap ((k : Int) + 1) = (k : Int) + 1 := by rw [IntKind.wrap_i64]; omega
            have hk2 : ((k : Int) + 1).tmod 6 = (q : Int) := by rw [Int.tmod_eq_emod_of_nonneg (by omega)]; omega
            have hk3 : IntKind.i64.wrap (q : Int) = (q : Int) := by rw [IntKind.wrap_i64]; omega
            have hq0 : (0 : Int) ≤ (q : Int) := by omega
            have hq1 : (q : Int) < 6 := by omega
            have hqn : ((q : Int)).toNat = q := by omega
            clear hq hz hy
            go_wp2
            go_region_held3 (fun w' => w'.cell? ⟨v0.heap.size, k, none⟩ = some (.int .i64 z) ∧ w'.cell? ⟨v0.heap.size, q, none⟩ = some (.int .i64 y) ∧ Hid (EdS w w' v0.heap.size F))
              (first | assumption | exact edOf hp6 hq6 Hz Hy (by assumption) (Hid.out (by assumption)) | exact edOf hp6 hq6 Hz Hy (by assumption) ((Below.refl _ _).alloc (Nat.le_refl _) _) | exact edOf hp6 hq6 Hz Hy ⟨d1, d2, HE⟩ (below_drews _ 1) | exact ⟨d1, d2, HE⟩)
              (first
                | (go_at_call 4; (refine (readsE ?_ (by omega) ?_).mono ?_); (first | exact YR.nil _ _ | exact yr1 (y := 1) (by simp) (by omega)); (first | exact (fun _ => ⟨rfl, rfl⟩) | (intro h; cases h)); rintro e wa ⟨rfl, HO⟩)
                | (go_at_call 3; (refine (putsE ?_ (by omega) ?_).mono ?_); exact ir1 hzb (by simp); (intro h; cases h); rintro e wa ⟨rfl, HO⟩)
                | (go_at_call 5; (refine (findsE ?_ (by omega) ?_).mono ?_); (first | exact ir5 hzb (by simp) (by simp) (by simp) (by simp) (by simp) | exact ir4 (by simp) (by simp) (by simp) (by simp)); (intro h; cases h); rintro e wa ⟨rfl, HO⟩))
            have HE9 := (show (_ ∧ _ ∧ Hid (EdS w wa v0.heap.size F)) from by assumption).2.2
            clear HE d1 d2
            go_wp2_with fail
            go_roundw
            case rel => exact ⟨k + 1, by omega, by go_num, HE9⟩
            case measure => simp [intOf]; omega
        · obtain rfl : k = 6 := by omega
          have HB := hid HE.out.bel
          clear HE
          go_wp2_with fail
          refine (read_long 60 279621 (.slice none 0 0) _ (by omega) (by omega) (by omega)).mono ?_
          rintro e w1 ⟨rfl, hb⟩
          have HB1 := hid (HB.out.trans (hb.mono HB.out.size))
          clear HB hb
          go_wp2_with fail
          refine (read_shape 60 279620 0 none [] _ (by omega) (by omega) (by omega) (RdV.nil _) (fun j => by simp) (by decide)).mono ?_
          rintro e w2 ⟨rfl, hb⟩
          have HB2 := hid (HB1.out.trans (hb.mono HB1.out.size))
          clear HB1 hb
          go_wp2_with fail
          refine (none_any _).mono ?_
          rintro e w3 ⟨rfl, hb⟩
          have HB3 := hid (HB2.out.trans (hb.out.mono HB2.out.size))
          clear HB2 hb
          go_wp2_with fail
          refine (awake_any _).mono ?_
          rintro e w4 ⟨rfl, hb⟩
          have HB4 := hid (HB3.out.trans (hb.out.mono HB3.out.size))
          clear HB3 hb
          go_wp2_with fail
          go_ret
          exact ⟨rfl, HB4⟩
end Go.Proofs.Ytimkclmaglofaaa
