/- The document's token. -/
import Derived.Test.YtbbclcllkpabkaaDoorLxH
namespace Go.Proofs.YtbbclcllkpabkaaDoor.X
open Go.RowKit U G

theorem unt_pos {lit : Bool} {l ns : List Nat} {m : Nat} (hb : Bys l) (h : unt lit l = some (ns, m)) : 1 ≤ m := (unt_cut _ l ns m (Nat.le_refl _) hb h).1
theorem inn_D {lit : Bool} {kd : Nat} {r : List Nat} (hb : Bys r) : inn lit kd r = if (innD lit r).2 = 0 then none else some (kd, (innD lit r).1, 1 + (innD lit r).2) := by
  unfold inn innD
  cases hu : unt lit r with
  | none => rfl
  | some q =>
    obtain ⟨ns, m⟩ := q
    have := unt_pos hb hu
    show (if allG ns = true then _ else _) = _
    cases hg : allG ns with
    | false => simp [hg]
    | true =>
      simp only [hg, if_true]
      rw [if_neg (by omega)]
theorem innD_le {lit : Bool} {l : List Nat} (hb : Bys l) (h : l.length ≤ 200000) : (innD lit l).2 ≤ 200000 := by
  unfold innD
  cases hu : unt lit l with
  | none => simp
  | some q =>
    obtain ⟨ns, m⟩ := q
    have := (unt_cut _ l ns m (Nat.le_refl _) hb hu).2.1
    show (if allG ns = true then (encL ns, m) else ([], 0)).2 ≤ 200000
    split
    · simp only; omega
    · simp
/-- The result's variable and the token's own, in blocks of the call's. -/
structure RdT (w W : World) (g h : Nat) (k : Int) (x : ByteArray) (a : Int) : Prop where
  r : W.rowIs g 43 3 (tkF 0 { data := #[] } 0)
  t : W.rowIs h 43 3 (tkF k x a)
  gr : w.heap.size ≤ g
  gt : w.heap.size ≤ h
  ne : ¬ g = h
  only : Only (fun _ => False) w W
abbrev rkO (k : Int) (x : ByteArray) (a : Int) : Obj := .cells #[.int .i64 k, .string x, .int .i64 a] 43
theorem rk_new (w : World) (k : Int) (x : ByteArray) (a : Int) : (w.alloc (rkO k x a)).rowIs w.heap.size 43 3 (tkF k x a) :=
  World.rowIs_alloc w #[.int .i64 k, .string x, .int .i64 a] 43 (tkF k x a) (fun i hi => by
    match i, hi with
    | 0, _ => rfl
    | 1, _ => rfl
    | 2, _ => rfl
    | i + 3, hi => exact absurd (show i + 3 < 3 from hi) (by omega))
theorem rdt_start (w : World) (a : Int) : ∃ w1 g w2 h, w1 = w.alloc (rkO 0 { data := #[] } 0) ∧ g = w.heap.size ∧ w2 = w1.alloc (rkO 0 { data := #[] } a) ∧ h = w1.heap.size ∧ Hid (RdT w w2 g h 0 { data := #[] } a) := by
  refine ⟨_, _, _, _, rfl, rfl, rfl, rfl, hid ⟨?_, rk_new _ _ _ _, Nat.le_refl _, by simp, by simp, ((Only.refl _ w).alloc _).alloc _⟩⟩
  exact (Only.alloc (Only.refl (fun _ => False) _) _).row (rk_new w 0 { data := #[] } 0) no_
theorem RdT.same {w W W' : World} {g h : Nat} {k a : Int} {x : ByteArray} (H : RdT w W g h k x a) (o : StU W W') : RdT w W' g h k x a :=
  ⟨o.out.row H.r no_, o.out.row H.t no_, H.gr, H.gt, H.ne, H.only.trans o.out⟩
theorem RdT.other {w W : World} {g h : Nat} {k a : Int} {x : ByteArray} (H : RdT w W g h k x a) (j : Nat) (v : Value) : (W.setCell ⟨h, j, none⟩ v).rowIs g 43 3 (tkF 0 { data := #[] } 0) ∧ Only (fun _ => False) w (W.setCell ⟨h, j, none⟩ v) :=
  ⟨(Only.setCell (S := fun i => i = h) (p := ⟨h, j, none⟩) (Only.refl _ W) (.inl rfl) v).row H.r H.ne, H.only.setCell (p := ⟨h, j, none⟩) (.inr H.gt) v⟩
theorem RdT.kind {w W : World} {g h : Nat} {k a : Int} {x : ByteArray} (H : RdT w W g h k x a) (k' : Int) : RdT w (W.setCell ⟨h, 0, none⟩ (.int .i64 k')) g h k' x a := by
  obtain ⟨h1, h2⟩ := H.other 0 (.int .i64 k')
  refine ⟨h1, (H.t.set 0 _).congr fun j hj => ?_, H.gr, H.gt, H.ne, h2⟩
  by_cases e : j = 0
  · subst e; rfl
  · simp [tkF, e]
theorem RdT.text {w W : World} {g h : Nat} {k a : Int} {x : ByteArray} (H : RdT w W g h k x a) (y : ByteArray) : RdT w (W.setCell ⟨h, 1, none⟩ (.string y)) g h k y a := by
  obtain ⟨h1, h2⟩ := H.other 1 (.string y)
  refine ⟨h1, (H.t.set 1 _).congr fun j hj => ?_, H.gr, H.gt, H.ne, h2⟩
  by_cases e : j = 1
  · subst e; simp [tkF]
  · simp [tkF, e]
theorem RdT.cells {w W : World} {g h : Nat} {k a : Int} {x : ByteArray} (H : RdT w W g h k x a) : W.cell? ⟨h, 0, none⟩ = some (.int .i64 k) ∧ W.cell? ⟨h, 1, none⟩ = some (.string x) ∧ W.cell? ⟨h, 2, none⟩ = some (.int .i64 a) ∧ W.frozen? ⟨h, 0, none⟩ = false ∧ W.frozen? ⟨h, 1, none⟩ = false ∧ h < W.heap.size :=
  ⟨H.t.cell (i := 0) (by omega), H.t.cell (i := 1) (by omega), H.t.cell (i := 2) (by omega), H.t.frozen 0, H.t.frozen 1, H.t.lt⟩
theorem RdT.res {w W : World} {g h : Nat} {k a : Int} {x : ByteArray} (H : RdT w W g h k x a) : W.cell? ⟨g, 0, none⟩ = some (.int .i64 0) ∧ W.cell? ⟨g, 1, none⟩ = some (.string { data := #[] }) ∧ W.cell? ⟨g, 2, none⟩ = some (.int .i64 0) ∧ W.frozen? ⟨g, 0, none⟩ = false ∧ W.frozen? ⟨g, 1, none⟩ = false ∧ W.frozen? ⟨g, 2, none⟩ = false ∧ g < W.heap.size :=
  ⟨H.r.cell (i := 0) (by omega), H.r.cell (i := 1) (by omega), H.r.cell (i := 2) (by omega), H.r.frozen 0, H.r.frozen 1, H.r.frozen 2, H.r.lt⟩
/-- The token told. -/
theorem RdT.fin {w W : World} {g h : Nat} {k a : Int} {x : ByteArray} (H : RdT w W g h k x a) (u0 u1 u2 : Value) :
    (((W.setCell ⟨g, 0, none⟩ u0).setCell ⟨g, 1, none⟩ u1).setCell ⟨g, 2, none⟩ u2).cell? ⟨g, 0, none⟩ = some u0 ∧
    (((W.setCell ⟨g, 0, none⟩ u0).setCell ⟨g, 1, none⟩ u1).setCell ⟨g, 2, none⟩ u2).cell? ⟨g, 1, none⟩ = some u1 ∧
    (((W.setCell ⟨g, 0, none⟩ u0).setCell ⟨g, 1, none⟩ u1).setCell ⟨g, 2, none⟩ u2).cell? ⟨g, 2, none⟩ = some u2 ∧
    StU w (((W.setCell ⟨g, 0, none⟩ u0).setCell ⟨g, 1, none⟩ u1).setCell ⟨g, 2, none⟩ u2) := by
  have h2 := ((H.r.set 0 u0).set 1 u1).set 2 u2
  exact ⟨by rw [h2.cell (by omega)]; rfl, by rw [h2.cell (by omega)]; rfl, by rw [h2.cell (by omega)]; rfl, hid (((H.only.setCell (p := ⟨g, 0, none⟩) (.inr H.gr) u0).setCell (p := ⟨g, 1, none⟩) (.inr H.gr) u1).setCell (p := ⟨g, 2, none⟩) (.inr H.gr) u2)⟩
/-- What token answers. -/
def RtE (w : World) (a : Nat) (q : Option Tk) (e : Ending) (w' : World) : Prop := (match q with
  | some q => e = .returned (.tuple #[.agg #[.int .i64 (q.1 : Int), .string (strB q.2.1), .int .i64 (a : Int)], .int .i64 (q.2.2 : Int)])
  | none => ∃ k x, e = .returned (.tuple #[.agg #[.int .i64 k, .string x, .int .i64 (a : Int)], .int .i64 0])) ∧ StU w w'
set_option maxHeartbeats 8000000 in
set_option maxRecDepth 100000 in
theorem refTok_iri {s : ByteArray} {a : Nat} {w : World} (ha : a < s.size) (hs : s.size ≤ 100000) (hv : Val ((bl s).drop a)) (hc : (bl s).getD a 0 = 60) :
    Calls Tryd.prog 21 #[.string s, .int .i64 (a : Int)] w (RtE w a (tok ((bl s).drop a))) := by
  obtain ⟨w1, g, w2, h, hw1, hg, hw2, hh, HR⟩ := rdt_start w (a : Int)
  have ha0 : (0 : Int) ≤ (a : Int) := by omega
  have hal : (a : Int) < (s.size : Int) := by omega
  obtain ⟨x, hx⟩ : ∃ x, s[a]'ha = x := ⟨_, rfl⟩
  have hxl := x.toNat_lt
  have hgd : ((bl s).drop a).getD 0 0 = x.toNat := by rw [drop_getD, Nat.add_zero, bl_at ha, hx]
  have hw : IntKind.i64.wrap ((a : Int) + 1) = ((a + 1 : Nat) : Int) := by rw [IntKind.wrap_i64]; omega
  have hxc : x.toNat = 60 := by rw [← hx, ← bl_at ha]; exact hc
  have hne : (bl s).drop a ≠ [] := fun e => by have := congrArg List.length e; rw [List.length_drop, bl_len] at this; simp at this; omega
  have hv1 : Val ((bl s).drop (a + 1)) := by
    have h1 := hv.nxt hne
    have h2 := (head_nxt hv hne).2 (by rw [hgd]; omega)
    have h3 := hv.drop h1
    rwa [h2, List.drop_drop] at h3
  have ht : tok ((bl s).drop a) = if (innD false ((bl s).drop (a + 1))).2 = 0 then none else some (1, (innD false ((bl s).drop (a + 1))).1, 1 + (innD false ((bl s).drop (a + 1))).2) := by
    rw [← inn_D hv1.bys]
    unfold tok
    rw [hgd, hxc]
    simp only [List.drop_drop]
    rfl
  rw [ht]
  have HIn : Hid (∀ W, Calls Tryd.prog 31 #[.string s, .int .i64 ((a + 1 : Nat) : Int), .int .u8 62] W (InE false W s (a + 1))) := hid fun W => refInner_any false (by omega) hs hv1
  unfold InE at HIn
  have k60 : ((x.toNat : Int) == 60) = true := by rw [beq_iff_eq]; omega
  have HK := hid (HR.out.kind 1)
  obtain ⟨d0, d1, d2, df0, df1, dl⟩ := HR.out.cells
  have HMb : (innD false ((bl s).drop (a + 1))).2 ≤ 200000 := innD_le hv1.bys (by rw [List.length_drop, bl_len]; omega)
  generalize innD false ((bl s).drop (a + 1)) = P at *
  obtain ⟨xl, m⟩ := P
  simp only at HIn HMb ⊢
  obtain ⟨xs, hxs⟩ : ∃ xs, strB xl = xs := ⟨_, rfl⟩
  rw [hxs] at HIn
  have Hxs := hid hxs
  by_cases hm : m = 0
  · rw [if_pos hm]
    subst hm
    clear ht hne hv hv1 hgd hc hxc hxs
    go_enter Tryd.func21, Tryd.ntmps21
    go_upto_region 1 with fail
    rw [← hw1, ← hg]
    clear hw1 hg
    go_upto_region 2 with fail
    rw [← hw2, ← hh]
    clear hw2 hh
    go_upto_region 26 with (go_at_call 31; refine (HIn.out _).mono ?_; rintro e w5 ⟨rfl, HO5⟩; have HK5 := hid (HK.out.same HO5); obtain ⟨e0, e1, e2, ef0, ef1, el⟩ := HK5.out.cells)
    have HT6 := hid (HK5.out.text xs)
    clear HK HIn d0 d1 d2 df0 df1 dl
    obtain ⟨c0, c1, c2, _, _, hl⟩ := HT6.out.cells
    obtain ⟨r0, r1, r2, f0, f1, f2, rl⟩ := HT6.out.res
    have HQ := hid fun a b c => HT6.out.fin a b c
    go_wp2_with fail
    obtain ⟨q0, q1, q2, HO⟩ := HQ.out (.int .i64 1) (.string xs) (.int .i64 (a : Int))
    exact bodyPost_ret (v := .tuple #[.agg #[.int .i64 1, .string xs, .int .i64 (a : Int)], .int .i64 0]) (by simp [results, Tryd.results21, go_sem, q0, q1, q2]) rfl ⟨⟨_, _, rfl⟩, HO⟩
  · rw [if_neg hm]
    have hm0 : ((m : Int) == 0) = false := by rw [beq_eq_false_iff_ne]; omega
    have hmb : IntKind.i64.wrap (1 + (m : Int)) = ((1 + m : Nat) : Int) := by
      have : m ≤ 200000 := HMb
      rw [IntKind.wrap_i64]; omega
    clear ht hne hv hv1 hgd hc hxc hxs HMb
    go_enter Tryd.func21, Tryd.ntmps21
    go_upto_region 1 with fail
    rw [← hw1, ← hg]
    clear hw1 hg
    go_upto_region 2 with fail
    rw [← hw2, ← hh]
    clear hw2 hh
    go_upto_region 26 with (go_at_call 31; refine (HIn.out _).mono ?_; rintro e w5 ⟨rfl, HO5⟩; have HK5 := hid (HK.out.same HO5); obtain ⟨e0, e1, e2, ef0, ef1, el⟩ := HK5.out.cells)
    have HT6 := hid (HK5.out.text xs)
    clear HK HIn d0 d1 d2 df0 df1 dl
    obtain ⟨c0, c1, c2, _, _, hl⟩ := HT6.out.cells
    obtain ⟨r0, r1, r2, f0, f1, f2, rl⟩ := HT6.out.res
    have HQ := hid fun a b c => HT6.out.fin a b c
    go_wp2_with fail
    obtain ⟨q0, q1, q2, HO⟩ := HQ.out (.int .i64 1) (.string xs) (.int .i64 (a : Int))
    exact bodyPost_ret (v := .tuple #[.agg #[.int .i64 1, .string xs, .int .i64 (a : Int)], .int .i64 ((1 + m : Nat) : Int)]) (by simp [results, Tryd.results21, go_sem, q0, q1, q2]) rfl ⟨by rw [← Hxs.out]; rfl, HO⟩
set_option maxHeartbeats 8000000 in
set_option maxRecDepth 100000 in
theorem refTok_text {s : ByteArray} {a : Nat} {w : World} (ha : a < s.size) (hs : s.size ≤ 100000) (hv : Val ((bl s).drop a)) (hc : (bl s).getD a 0 = 34) :
    Calls Tryd.prog 21 #[.string s, .int .i64 (a : Int)] w (RtE w a (tok ((bl s).drop a))) := by
  obtain ⟨w1, g, w2, h, hw1, hg, hw2, hh, HR⟩ := rdt_start w (a : Int)
  have ha0 : (0 : Int) ≤ (a : Int) := by omega
  have hal : (a : Int) < (s.size : Int) := by omega
  obtain ⟨x, hx⟩ : ∃ x, s[a]'ha = x := ⟨_, rfl⟩
  have hxl := x.toNat_lt
  have hgd : ((bl s).drop a).getD 0 0 = x.toNat := by rw [drop_getD, Nat.add_zero, bl_at ha, hx]
  have hw : IntKind.i64.wrap ((a : Int) + 1) = ((a + 1 : Nat) : Int) := by rw [IntKind.wrap_i64]; omega
  have hxc : x.toNat = 34 := by rw [← hx, ← bl_at ha]; exact hc
  have hne : (bl s).drop a ≠ [] := fun e => by have := congrArg List.length e; rw [List.length_drop, bl_len] at this; simp at this; omega
  have hv1 : Val ((bl s).drop (a + 1)) := by
    have h1 := hv.nxt hne
    have h2 := (head_nxt hv hne).2 (by rw [hgd]; omega)
    have h3 := hv.drop h1
    rwa [h2, List.drop_drop] at h3
  have ht : tok ((bl s).drop a) = if (innD true ((bl s).drop (a + 1))).2 = 0 then none else some (3, (innD true ((bl s).drop (a + 1))).1, 1 + (innD true ((bl s).drop (a + 1))).2) := by
    rw [← inn_D hv1.bys]
    unfold tok
    rw [hgd, hxc]
    simp only [List.drop_drop]
    rfl
  rw [ht]
  have HIn : Hid (∀ W, Calls Tryd.prog 31 #[.string s, .int .i64 ((a + 1 : Nat) : Int), .int .u8 34] W (InE true W s (a + 1))) := hid fun W => refInner_any true (by omega) hs hv1
  unfold InE at HIn
  have k60 : ((x.toNat : Int) == 60) = false := by rw [beq_eq_false_iff_ne]; omega
  have k34 : ((x.toNat : Int) == 34) = true := by rw [beq_iff_eq]; omega
  have HK := hid (HR.out.kind 3)
  obtain ⟨d0, d1, d2, df0, df1, dl⟩ := HR.out.cells
  have HMb : (innD true ((bl s).drop (a + 1))).2 ≤ 200000 := innD_le hv1.bys (by rw [List.length_drop, bl_len]; omega)
  generalize innD true ((bl s).drop (a + 1)) = P at *
  obtain ⟨xl, m⟩ := P
  simp only at HIn HMb ⊢
  obtain ⟨xs, hxs⟩ : ∃ xs, strB xl = xs := ⟨_, rfl⟩
  rw [hxs] at HIn
  have Hxs := hid hxs
  by_cases hm : m = 0
  · rw [if_pos hm]
    subst hm
    clear ht hne hv hv1 hgd hc hxc hxs
    go_enter Tryd.func21, Tryd.ntmps21
    go_upto_region 1 with fail
    rw [← hw1, ← hg]
    clear hw1 hg
    go_upto_region 2 with fail
    rw [← hw2, ← hh]
    clear hw2 hh
    go_upto_region 26 with (go_at_call 31; refine (HIn.out _).mono ?_; rintro e w5 ⟨rfl, HO5⟩; have HK5 := hid (HK.out.same HO5); obtain ⟨e0, e1, e2, ef0, ef1, el⟩ := HK5.out.cells)
    have HT6 := hid (HK5.out.text xs)
    clear HK HIn d0 d1 d2 df0 df1 dl
    obtain ⟨c0, c1, c2, _, _, hl⟩ := HT6.out.cells
    obtain ⟨r0, r1, r2, f0, f1, f2, rl⟩ := HT6.out.res
    have HQ := hid fun a b c => HT6.out.fin a b c
    go_wp2_with fail
    obtain ⟨q0, q1, q2, HO⟩ := HQ.out (.int .i64 3) (.string xs) (.int .i64 (a : Int))
    exact bodyPost_ret (v := .tuple #[.agg #[.int .i64 3, .string xs, .int .i64 (a : Int)], .int .i64 0]) (by simp [results, Tryd.results21, go_sem, q0, q1, q2]) rfl ⟨⟨_, _, rfl⟩, HO⟩
  · rw [if_neg hm]
    have hm0 : ((m : Int) == 0) = false := by rw [beq_eq_false_iff_ne]; omega
    have hmb : IntKind.i64.wrap (1 + (m : Int)) = ((1 + m : Nat) : Int) := by
      have : m ≤ 200000 := HMb
      rw [IntKind.wrap_i64]; omega
    clear ht hne hv hv1 hgd hc hxc hxs HMb
    go_enter Tryd.func21, Tryd.ntmps21
    go_upto_region 1 with fail
    rw [← hw1, ← hg]
    clear hw1 hg
    go_upto_region 2 with fail
    rw [← hw2, ← hh]
    clear hw2 hh
    go_upto_region 26 with (go_at_call 31; refine (HIn.out _).mono ?_; rintro e w5 ⟨rfl, HO5⟩; have HK5 := hid (HK.out.same HO5); obtain ⟨e0, e1, e2, ef0, ef1, el⟩ := HK5.out.cells)
    have HT6 := hid (HK5.out.text xs)
    clear HK HIn d0 d1 d2 df0 df1 dl
    obtain ⟨c0, c1, c2, _, _, hl⟩ := HT6.out.cells
    obtain ⟨r0, r1, r2, f0, f1, f2, rl⟩ := HT6.out.res
    have HQ := hid fun a b c => HT6.out.fin a b c
    go_wp2_with fail
    obtain ⟨q0, q1, q2, HO⟩ := HQ.out (.int .i64 3) (.string xs) (.int .i64 (a : Int))
    exact bodyPost_ret (v := .tuple #[.agg #[.int .i64 3, .string xs, .int .i64 (a : Int)], .int .i64 ((1 + m : Nat) : Int)]) (by simp [results, Tryd.results21, go_sem, q0, q1, q2]) rfl ⟨by rw [← Hxs.out]; rfl, HO⟩
end Go.Proofs.YtbbclcllkpabkaaDoor.X
