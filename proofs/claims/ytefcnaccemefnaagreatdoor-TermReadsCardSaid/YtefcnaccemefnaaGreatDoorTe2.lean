/- A writer of texts, which has a Builder: copyCheck, WriteString, WriteRune, Grow, String. -/
import Derived.Test.YtefcnaccemefnaaGreatDoorTe1
import Derived.Test.YtefcnaccemefnaaGreatDoorOg
import Derived.Lib.Builder
import Derived.Lib.AppendStr
import Derived.Lib.UnsafeStr
import Derived.Lib.MakeNoZero
import Derived.Shelf.Utf8.AppendRunePlain
import Derived.RegionTactic
namespace Go.Proofs.YtefcnaccemefnaaGreatDoor
open Go.RowKit Go.Lib U G

/-- What a writer's calls may change. -/
abbrev Tw : TypeId → Prop := fun t => t = 59 ∨ t = 5
/-- A writer, in a block of the call's own, that holds these bytes. -/
structure WrS (w0 w : World) (b : Nat) (l : List Nat) : Prop where
  ge : w0.heap.size ≤ b
  at_ : ∃ p v, (p = none ∨ p = some ⟨b, 0, none⟩) ∧ w.heap[b]? = some (.cells #[.pointer p, v] 59 (0, 0)) ∧ w.ownsRow w0.heap.size 5 1 v (yvs l).length (yvs l)
  only : Only (fun _ => False) w0 w
/-- .. that was written. -/
structure WrU (w0 w : World) (b : Nat) (l : List Nat) (v : Value) : Prop where
  ge : w0.heap.size ≤ b
  at_ : w.heap[b]? = some (.cells #[.pointer (some ⟨b, 0, none⟩), v] 59 (0, 0))
  own : w.ownsRow w0.heap.size 5 1 v (yvs l).length (yvs l)
  only : Only (fun _ => False) w0 w
theorem WrU.is {w0 w : World} {b : Nat} {l : List Nat} {v : Value} (h : WrU w0 w b l v) : WrS w0 w b l := ⟨h.ge, ⟨_, v, .inr rfl, h.at_, h.own⟩, h.only⟩
theorem heap_lt {w : World} {b : Nat} {o : Obj} (h : w.heap[b]? = some o) : b < w.heap.size := by
  rcases Nat.lt_or_ge b w.heap.size with x | x
  · exact x
  · rw [Array.getElem?_eq_none x] at h; cases h
theorem own_ne {w : World} {B b : Nat} {e t : TypeId} {v : Value} {n : Nat} {xs : List Value} {cs : Array Value} {fz : Nat × Nat} (h : w.ownsRow B e 1 v n xs) (hb : w.heap[b]? = some (.cells cs t fz)) (hne : t ≠ e) : v.ownBlock ≠ some b := by
  intro hk
  obtain ⟨_, _, h3⟩ := own_block h hk
  obtain ⟨cs', t', fz', hb', ht'⟩ := h3 (fun t => t = e) rfl
  rw [hb] at hb'
  injection hb' with hb'
  injection hb' with _ e1
  exact hne (e1.trans ht')
/-- Other memory made or changed: the writer stays. -/
theorem WrS.only_of {w0 w w' : World} {b : Nat} {l : List Nat} (h : WrS w0 w b l) (o : Only (fun _ => False) w w') : WrS w0 w' b l := by
  obtain ⟨p, v, hp, hb, hown⟩ := h.at_
  exact ⟨h.ge, ⟨p, v, hp, (o.block b (heap_lt hb) no_).trans hb, own_keep hown o fun _ _ => no_⟩, h.only.trans o⟩
theorem fr_only {T : TypeId → Prop} {w0 w w' : World} (h : Only (fun _ => False) w0 w) (o : FrT T w0.heap.size w w') : Only (fun _ => False) w0 w' :=
  ⟨o.os.trans h.os, o.tape.trans h.tape, o.output.trans h.output, Nat.le_trans h.size o.size, fun i hi _ => (o.block i (Nat.lt_of_lt_of_le hi h.size) (fun hk => by have := hk.1; omega)).trans (h.block i hi no_)⟩
/-- A call's answer: the writer holds these bytes. -/
def WrE (w0 w : World) (b : Nat) (l : List Nat) (w' : World) : Prop := Hid (WrS w0 w' b l ∧ FrT Tw w0.heap.size w w')
theorem builderSize : (Tryz.prog.info? 57).map (·.size) = some 2 := by kernel_rfl
theorem builderLies : liesAt Tryz.prog Tryz.prog.depth 59 (2 / Tryz.prog.cellsOf 59) 0 57 1 = true := by kernel_rfl
set_option maxHeartbeats 1000000 in
set_option maxRecDepth 100000 in
theorem check_used (b : Nat) (w : World) (h0 : w.cell? ⟨b, 0, none⟩ = some (.pointer (some ⟨b, 0, none⟩))) :
    Calls Tryz.prog 77 #[.pointer (some ⟨b, 0, none⟩)] w fun e w' => e = .returned (.tuple #[]) ∧ w' = w := by
  obtain ⟨j, hj, _⟩ := Option.map_eq_some_iff.1 builderSize
  go_enter Tryz.func77, Tryz.ntmps77
  go_wp2
  rw [Lib.run_neq_ptr_same w _ Tryz.underlying55 hj]
  go_wp2
  go_end0
  exact ⟨rfl, rfl⟩
set_option maxHeartbeats 1000000 in
set_option maxRecDepth 100000 in
theorem check_fresh (b : Nat) (w : World) (h0 : w.cell? ⟨b, 0, none⟩ = some (.pointer none)) (hsh : w.shape? b = some (59, 2)) (hfz : w.frozen? ⟨b, 0, none⟩ = false) :
    Calls Tryz.prog 77 #[.pointer (some ⟨b, 0, none⟩)] w fun e w' => e = .returned (.tuple #[]) ∧ w' = w.setCell ⟨b, 0, none⟩ (.pointer (some ⟨b, 0, none⟩)) := by
  obtain ⟨j, hj, hjs⟩ := Option.map_eq_some_iff.1 builderSize
  go_enter Tryz.func77, Tryz.ntmps77
  go_wp2
  rw [Lib.run_to_unsafe w ⟨b, 0, none⟩ Tryz.underlying55 Tryz.underlying105 hj (by rw [hjs]; decide) hsh (Nat.zero_lt_succ 1)]
  simp only [Result.andThen]
  rw [Oper.upon_value]
  go_wp2
  rw [run_callFunc_extern Tryz.func97 (by kernel_rfl) (by kernel_rfl) (by kernel_rfl) (e := Extern.AbiNoEscape.same) (by kernel_rfl)]
  rw [Lib.run_noEscape]
  simp only [Result.andThen]
  rw [Oper.upon_value]
  go_wp2
  rw [Lib.run_from_unsafe w ⟨b, 0, none⟩ Tryz.underlying105 Tryz.underlying55 hj hsh builderLies]
  simp only [Result.andThen]
  rw [Oper.upon_value]
  go_wp2
  go_end0
  exact ⟨rfl, rfl⟩
theorem check_any {w0 w : World} {b : Nat} {l : List Nat} (h : WrS w0 w b l) :
    Calls Tryz.prog 77 #[.pointer (some ⟨b, 0, none⟩)] w fun e w' => e = .returned (.tuple #[]) ∧ ∃ v, WrU w0 w' b l v ∧ FrT Tw w0.heap.size w w' := by
  obtain ⟨p, v, hp, hb, hown⟩ := h.at_
  rcases hp with rfl | rfl
  · refine (check_fresh b w (by rw [Lib.cell_of_heap hb]; rfl) (by simp [World.shape?, hb]) (Lib.frozen_of_heap hb 0)).mono ?_
    rintro e w' ⟨rfl, rfl⟩
    have hfr : FrT Tw w0.heap.size w (w.setCell ⟨b, 0, none⟩ (.pointer (some ⟨b, 0, none⟩))) := (FrT.refl _ _ w).setCell h.ge ⟨_, _, _, hb, .inl rfl⟩ _
    refine ⟨rfl, v, ⟨h.ge, ?_, ?_, fr_only h.only hfr⟩, hfr⟩
    · simp [World.setCell, Array.getElem?_modify, hb]
    · refine hown.kept (row := some b) ⟨rfl, rfl, rfl, by simp [World.setCell], fun k _ hk => Below.heap_setCell _ _ _ _ (fun e => hk (by simp [e]))⟩ ?_
      exact .inr (own_ne hown hb (by decide))
  · refine (check_used b w (by rw [Lib.cell_of_heap hb]; rfl)).mono ?_
    rintro e w' ⟨rfl, rfl⟩
    exact ⟨rfl, v, ⟨h.ge, hb, hown, h.only⟩, FrT.refl _ _ _⟩
theorem WrU.grow {w0 w w2 : World} {b : Nat} {l l' : List Nat} {v v' : Value} (h : WrU w0 w b l v) (hg : w.grownBy w2 v.ownBlock) (hown : w2.ownsRow w0.heap.size 5 1 v' (yvs l').length (yvs l')) :
    w2.heap[b]? = some (.cells #[.pointer (some ⟨b, 0, none⟩), v] 59 (0, 0)) ∧ WrE w0 w b l' (w2.setCell ⟨b, 1, none⟩ v') := by
  have hb2 : w2.heap[b]? = some (.cells #[.pointer (some ⟨b, 0, none⟩), v] 59 (0, 0)) := by
    rw [hg.block b (heap_lt h.at_) (fun e => own_ne h.own h.at_ (by decide) e.symm)]
    exact h.at_
  have hfr : FrT Tw w0.heap.size w (w2.setCell ⟨b, 1, none⟩ v') := by
    refine ((FrT.refl _ _ w).grown hg fun k hk => ?_).setCell h.ge ⟨_, _, _, hb2, .inl rfl⟩ _
    obtain ⟨h1, _, h3⟩ := own_block h.own hk
    exact ⟨h1, h3 _ (.inr rfl)⟩
  refine ⟨hb2, hid ⟨⟨h.ge, ⟨_, v', .inr rfl, ?_, ?_⟩, fr_only h.only hfr⟩, hfr⟩⟩
  · simp [World.setCell, Array.getElem?_modify, hb2]
  · refine hown.kept (row := some b) ⟨rfl, rfl, rfl, by simp [World.setCell], fun k _ hk => Below.heap_setCell _ _ _ _ (fun e => hk (by simp [e]))⟩ ?_
    exact .inr (own_ne hown hb2 (by decide))
theorem yvs_str (s : ByteArray) : Lib.strCells s = yvs (bl s) := by
  unfold Lib.strCells yvs bl
  rw [List.map_map]
  rfl
theorem yvs_app (a b : List Nat) : yvs (a ++ b) = yvs a ++ yvs b := by simp [yvs]
theorem own_slice {w : World} {B : Nat} {e : TypeId} {v : Value} {n : Nat} {xs : List Value} (h : w.ownsRow B e 1 v n xs) : ∃ ao cap, v = .slice ao n cap := by
  rcases h.2 with ⟨hv, h0⟩ | ⟨g, cap, cur, hv, _⟩
  · exact ⟨none, 0, by rw [hv, h0]⟩
  · exact ⟨_, _, hv⟩
theorem byteInfoW : (Tryz.prog.info? 5).map (fun i => (i.zero, i.size, i.bytes)) = some (some (.int .u8 0), 1, 1) := by kernel_rfl
set_option maxHeartbeats 2000000 in
theorem writeString_any {w0 w : World} {b : Nat} {l : List Nat} {s : ByteArray} (h : WrS w0 w b l) (hlen : l.length + s.size ≤ 140737488355328) :
    Calls Tryz.prog 82 #[.pointer (some ⟨b, 0, none⟩), .string s] w fun e w' => e = .returned (.tuple #[.int .i64 s.size, .nilIface]) ∧ WrE w0 w b (l ++ bl s) w' := by
  obtain ⟨i0, hi, hz0, hz1, hz2⟩ := info_parts byteInfoW
  go_enter Tryz.func82, Tryz.ntmps82
  go_wp2_with (go_at_call 77; refine (check_any h).mono ?_)
  rintro e w1 ⟨rfl, v, hU, hF1⟩
  have HU := hid hU
  have HF := hid hF1
  have c1 : w1.cell? ⟨b, 1, none⟩ = some v := by rw [Lib.cell_of_heap hU.at_]; rfl
  have hown := hU.own
  have hle : w0.heap.size ≤ w1.heap.size := hU.only.size
  clear hU hF1 h
  go_wp2_with (at_builtin; refine Lib.wpList_append_own_string _ rfl _ _ 24 9 rfl w0.heap.size 5 i0 Tryz.underlying24 Tryz.underlying9 hi hz0 hz1 hz2 _ _ _ rfl hown s rfl ?c3 ?c4 hle ?_)
  case c3 => rw [yvs_len]; unfold maxLen; omega
  case c4 => rw [yvs_len]; omega
  intro v' w2 hown' hgrow _
  rw [yvs_str, ← yvs_app] at hown'
  obtain ⟨hb2, HE⟩ := HU.out.grow (l' := l ++ bl s) hgrow (by
    have e1 : (yvs (l ++ bl s)).length = (yvs l).length + s.size := by rw [yvs_len, yvs_len, List.length_append, bl_len]
    rw [e1]
    exact hown')
  have d0 : w2.cell? ⟨b, 0, none⟩ = some (.pointer (some ⟨b, 0, none⟩)) := by rw [Lib.cell_of_heap hb2]; rfl
  have d1 : w2.cell? ⟨b, 1, none⟩ = some v := by rw [Lib.cell_of_heap hb2]; rfl
  have f1 : w2.frozen? ⟨b, 1, none⟩ = false := Lib.frozen_of_heap hb2 1
  obtain ⟨ao, cap, hv⟩ := own_slice hown'
  generalize (yvs l).length + s.size = n' at *
  subst hv
  go_wp2
  go_ret2
  exact ⟨rfl, hid ⟨HE.out.1, HF.out.trans HE.out.2⟩⟩
/-- A rune's bytes, whatever it is. -/
def encR (z : Int) : List Nat := (Lib.encodeRune z).map UInt8.toNat
theorem encR_cells (z : Int) : Lib.runeCells z = yvs (encR z) := by
  rw [← Lib.byteCells_encodeRune]
  unfold Lib.byteCells yvs encR
  rw [List.map_map]
  rfl
theorem encR_len (z : Int) : (encR z).length ≤ 4 := by
  have := Lib.runeCells_le z
  rw [encR_cells, yvs_len] at this
  omega
theorem encR_bys (z : Int) : Bys (encR z) := fun x hx => by
  obtain ⟨y, _, rfl⟩ := List.mem_map.1 hx
  exact y.toNat_lt
theorem yvs_inj {a b : List Nat} (h : yvs a = yvs b) : a = b := by
  unfold yvs at h
  exact (List.map_inj_right (fun x y e => by injection e with _ e; omega)).1 h
theorem encR_sign {n : Nat} (h : sgn n) : encR (n : Int) = encN n := yvs_inj (by rw [← encR_cells, rune_cells h])
set_option maxHeartbeats 2000000 in
theorem writeRune_any {w0 w : World} {b : Nat} {l : List Nat} {z : Int} (h : WrS w0 w b l) (h0 : -2147483648 ≤ z) (h1 : z ≤ 2147483647) (hlen : l.length ≤ 140737488355000) :
    Calls Tryz.prog 80 #[.pointer (some ⟨b, 0, none⟩), .int .i32 z] w fun e w' => (∃ v1, e = .returned v1) ∧ WrE w0 w b (l ++ encR z) w' := by
  go_enter Tryz.func80, Tryz.ntmps80
  go_wp2_with (go_at_call 77; refine (check_any h).mono ?_)
  rintro e w1 ⟨rfl, v, hU, hF1⟩
  have HU := hid hU
  have HF := hid hF1
  have c1 : w1.cell? ⟨b, 1, none⟩ = some v := by rw [Lib.cell_of_heap hU.at_]; rfl
  have hown := hU.own
  obtain ⟨ao, cap, hv⟩ := own_slice hU.own
  have hle : w0.heap.size ≤ w1.heap.size := hU.only.size
  have HAp : Hid (Calls Tryz.prog 101 #[v, .int .i32 z] w1 fun e w' => ∃ v' n' ao' cap', e = .returned v' ∧ v' = .slice ao' n' cap' ∧ n' = (yvs (l ++ encR z)).length ∧ Hid (w'.ownsRow w0.heap.size 5 1 v' (yvs (l ++ encR z)).length (yvs (l ++ encR z)) ∧ w'.heap[b]? = some (.cells #[.pointer (some ⟨b, 0, none⟩), v] 59 (0, 0)) ∧ WrE w0 w1 b (l ++ encR z) (w'.setCell ⟨b, 1, none⟩ v'))) := hid (by
    refine (Tryz.utf8_AppendRune_plain w0.heap.size v (yvs l).length (yvs l) z h0 h1 w1 hown (by rw [yvs_len]; omega) hle).mono ?_
    rintro e w' ⟨v', rfl, h2, o, h3⟩
    have e1 : yvs (l ++ encR z) = yvs l ++ Lib.runeCells z := by rw [encR_cells, yvs_app]
    have h4 : w'.ownsRow w0.heap.size 5 1 v' (yvs (l ++ encR z)).length (yvs (l ++ encR z)) := by rw [e1, List.length_append]; exact h2
    obtain ⟨ao', cap', hv'⟩ := own_slice h4
    have hU2 : WrU w0 (w1.alloc o) b l v := ⟨HU.out.ge, (Lib.alloc_old w1 o b (heap_lt HU.out.at_)).trans HU.out.at_, hown.alloc _, HU.out.only.alloc _⟩
    obtain ⟨g1, g2⟩ := hU2.grow h3 h4
    exact ⟨v', _, ao', cap', rfl, hv', rfl, hid ⟨h4, g1, hid ⟨g2.out.1, ((FrT.refl _ _ w1).alloc o).trans g2.out.2⟩⟩⟩)
  generalize (yvs l).length = n at *
  clear hU hF1 h hown
  subst hv
  go_wp2_with (go_at_call 101; refine HAp.out.mono ?_; rintro e w2 ⟨v', n', ao', cap', rfl, rfl, hn', HB⟩; have Hn := hid hn'; clear hn'; have d1 : w2.cell? ⟨b, 1, none⟩ = some (.slice ao n cap) := (by rw [Lib.cell_of_heap HB.out.2.1]; rfl); have f1 : w2.frozen? ⟨b, 1, none⟩ = false := Lib.frozen_of_heap HB.out.2.1 1)
  go_ret2
  exact ⟨⟨_, rfl⟩, hid ⟨HB.out.2.2.out.1, HF.out.trans HB.out.2.2.out.2⟩⟩
theorem heap_new (w : World) (o : Obj) : (w.alloc o).heap[w.heap.size]? = some o := by
  show (w.heap.push o)[w.heap.size]? = some o
  simp
/-- A writer that is made. -/
theorem wr_new (w : World) : WrS w (w.alloc (.cells #[.pointer none, .slice none 0 0] 59)) w.heap.size [] :=
  ⟨Nat.le_refl _, ⟨none, .slice none 0 0, .inl rfl, heap_new _ _, ⟨rfl, .inl ⟨rfl, rfl⟩⟩⟩, (Only.refl _ w).alloc _⟩
end Go.Proofs.YtefcnaccemefnaaGreatDoor
