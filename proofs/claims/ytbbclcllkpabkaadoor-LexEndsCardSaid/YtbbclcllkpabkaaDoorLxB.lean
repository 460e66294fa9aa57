/- A reader of a line: a token. -/
import Derived.Test.YtbbclcllkpabkaaDoorLxA
namespace Go.Proofs.YtbbclcllkpabkaaDoor.X
open Go.RowKit U G

abbrev tkO (k : Int) (x : ByteArray) (a : Int) : Obj := .cells #[.int .i64 k, .string x, .int .i64 a] 35
def tkF (k : Int) (x : ByteArray) (a : Int) (i : Nat) : Value := if i = 0 then .int .i64 k else if i = 1 then .string x else .int .i64 a
theorem tk_new (w : World) (k : Int) (x : ByteArray) (a : Int) : (w.alloc (tkO k x a)).rowIs w.heap.size 35 3 (tkF k x a) :=
  World.rowIs_alloc w #[.int .i64 k, .string x, .int .i64 a] 35 (tkF k x a) (fun i hi => by
    match i, hi with
    | 0, _ => rfl
    | 1, _ => rfl
    | 2, _ => rfl
    | i + 3, hi => exact absurd (show i + 3 < 3 from hi) (by omega))
theorem tk_set {w : World} {g : Nat} {f : Nat → Value} (h : w.rowIs g 35 3 f) (a b c : Value) :
    (((w.setCell ⟨g, 0, none⟩ a).setCell ⟨g, 1, none⟩ b).setCell ⟨g, 2, none⟩ c).cell? ⟨g, 0, none⟩ = some a ∧
    (((w.setCell ⟨g, 0, none⟩ a).setCell ⟨g, 1, none⟩ b).setCell ⟨g, 2, none⟩ c).cell? ⟨g, 1, none⟩ = some b ∧
    (((w.setCell ⟨g, 0, none⟩ a).setCell ⟨g, 1, none⟩ b).setCell ⟨g, 2, none⟩ c).cell? ⟨g, 2, none⟩ = some c := by
  have h2 := ((h.set 0 a).set 1 b).set 2 c
  exact ⟨by rw [h2.cell (by omega)]; rfl, by rw [h2.cell (by omega)]; rfl, by rw [h2.cell (by omega)]; rfl⟩
/-- A result's variable, in a block of its own. -/
structure RsT (w0 w : World) (g : Nat) : Prop where
  row : w.rowIs g 35 3 (tkF 0 { data := #[] } 0)
  ge : w0.heap.size ≤ g
theorem rst_start (w : World) : ∃ w1 g, w1 = w.alloc (tkO 0 { data := #[] } 0) ∧ g = w.heap.size ∧ Hid (RsT w w1 g) ∧ StU w w1 := ⟨_, _, rfl, rfl, hid ⟨tk_new w 0 { data := #[] } 0, Nat.le_refl _⟩, hid ((Only.refl _ w).alloc _)⟩
theorem RsT.fr {w0 w wr w' : World} {g : Nat} (h : RsT w wr g) (o : FrT Tr w0.heap.size wr w') : RsT w w' g := ⟨o.row h.row (by decide), h.ge⟩
/-- .. that is set at the end. -/
theorem RsT.end_ {w0 w wr : World} {g c : Nat} {s : ByteArray} {a : Nat} {ns : List Nat} (h : RsT w wr g) (hw : Only (fun _ => False) w0 w) (hf : FrT Tr w0.heap.size w wr) (x y z : Value) :
    (Only (fun _ => False) w0 wr → FrT Tr w0.heap.size w (((wr.setCell ⟨g, 0, none⟩ x).setCell ⟨g, 1, none⟩ y).setCell ⟨g, 2, none⟩ z) ∧ Only (fun _ => False) w0 (((wr.setCell ⟨g, 0, none⟩ x).setCell ⟨g, 1, none⟩ y).setCell ⟨g, 2, none⟩ z)) ∧
    (RdS w0 wr c s a ns → PutE w0 w c s a ns (((wr.setCell ⟨g, 0, none⟩ x).setCell ⟨g, 1, none⟩ y).setCell ⟨g, 2, none⟩ z)) := by
  have h1 : FrT Tr w0.heap.size w (((wr.setCell ⟨g, 0, none⟩ x).setCell ⟨g, 1, none⟩ y).setCell ⟨g, 2, none⟩ z) :=
    ((Only.setCell (p := ⟨g, 0, none⟩) hf (.inr h.ge) x).setCell (p := ⟨g, 1, none⟩) (.inr h.ge) y).setCell (p := ⟨g, 2, none⟩) (.inr h.ge) z
  refine ⟨fun _ => ⟨h1, frx_only hw h1⟩, fun hr => hid ⟨?_, h1⟩⟩
  obtain ⟨u, k1, k2⟩ := hr.at_
  have hne : c ≠ g := rowIs_ne k1 h.row (by decide)
  have o : Only (fun j => j = g) wr (((wr.setCell ⟨g, 0, none⟩ x).setCell ⟨g, 1, none⟩ y).setCell ⟨g, 2, none⟩ z) :=
    (((Only.refl (fun j => j = g) wr).setCell (p := ⟨g, 0, none⟩) (.inl rfl) x).setCell (p := ⟨g, 1, none⟩) (.inl rfl) y).setCell (p := ⟨g, 2, none⟩) (.inl rfl) z
  exact ⟨hr.ge, ⟨u, o.row k1 hne, k2.fr o fun j hj _ => ty_ne h.row (by decide) j hj⟩, frx_only hw h1⟩
/-- The signs taken away. -/
theorem own_none {e : TypeId} {w0 w : World} {A : Option Addr} {n cap : Nat} {xs : List Value} (h : OwG e w0 w (.slice A n cap) xs) : OwG e w0 w (.slice A 0 cap) [] := by
  refine ⟨?_, h.ge⟩
  rcases h.own.2 with ⟨e1, _⟩ | ⟨g, cp, cur, e1, hge, hh, hle, hcm, hsz, ht⟩
  · injection e1 with e1 e2 e3
    subst e1; subst e3
    exact ⟨rfl, .inl ⟨rfl, rfl⟩⟩
  · injection e1 with e1 e2 e3
    subst e1; subst e3
    exact ⟨rfl, .inr ⟨g, cap, cur, rfl, hge, hh, by simp, hcm, hsz, by simp⟩⟩
theorem RdS.clear {w0 w : World} {c : Nat} {s : ByteArray} {a : Nat} {ns : List Nat} (h : RdS w0 w c s a ns) : ∃ A n cap, w.cell? ⟨c, 2, none⟩ = some (.slice A n cap) ∧ n ≤ cap ∧ (∀ ad, A = some ad → ad.spot = none ∧ ad.off = 0) ∧ c < w.heap.size ∧ w.frozen? ⟨c, 2, none⟩ = false ∧ PutE w0 w c s a [] (w.setCell ⟨c, 2, none⟩ (.slice A 0 cap)) := by
  obtain ⟨v, hr, hown⟩ := h.at_
  obtain ⟨A, cap, hv, _, _, hle, _⟩ := hown.rd
  subst hv
  have hA : ∀ ad, A = some ad → ad.spot = none ∧ ad.off = 0 := fun ad e => by
    rcases hown.own.2 with ⟨e1, _⟩ | ⟨g, cp, cur, e1, _⟩
    · injection e1 with e1; rw [e1] at e; cases e
    · injection e1 with e1; rw [e1] at e; injection e with e; subst e; exact ⟨rfl, rfl⟩
  have hn := own_none hown
  have h2 : FrT Tr w0.heap.size w (w.setCell ⟨c, 2, none⟩ (.slice A 0 cap)) := FrT.setCell (T := Tr) (p := ⟨c, 2, none⟩) (FrT.refl _ _ _) h.ge (TyAt.of_row (T := Tr) hr (Or.inl rfl)) _
  exact ⟨A, _, cap, hr.cells.2.2, hle, hA, hr.lt, hr.frozen 2, hid ⟨⟨h.ge, ⟨_, hr.put _, hn.fr (S := fun j => j = c) (Only.setCell (S := fun j => j = c) (p := ⟨c, 2, none⟩) (Only.refl _ w) (Or.inl rfl) _) fun j hj _ => ty_ne hr (by decide) j hj⟩, frx_only h.only h2⟩, h2⟩⟩
theorem RdS.rd {w0 w : World} {c : Nat} {s : ByteArray} {a : Nat} {ns : List Nat} (h : RdS w0 w c s a ns) : ∃ A cap, w.cell? ⟨c, 2, none⟩ = some (.slice A ns.length cap) ∧ RdI w A (iNs ns) := by
  obtain ⟨v, hr, hown⟩ := h.at_
  obtain ⟨A, cap, h1, h2, _⟩ := hown.rd
  rw [ivs_len] at h1 h2
  subst h1
  refine ⟨A, cap, hr.cells.2.2, ?_⟩
  show RdV w A (iNs ns).length (vI (iNs ns))
  rw [iNs_len]
  refine h2.congr fun j hj => ?_
  simp [ivs, iNs, vI, List.getD, hj]
theorem natZ_iNs (ns : List Nat) : natZ (iNs ns) = ns := by
  unfold natZ iNs
  rw [List.map_map]
  refine (List.map_congr_left fun x _ => ?_).trans (List.map_id ns)
  simp
theorem allSg_iNs (ns : List Nat) : allSg (iNs ns) = allG ns := by
  unfold allSg iNs allG
  rw [List.all_map]
  congr 1
  funext x
  show isZ (x : Int) = decide (sgn x)
  rw [Bool.eq_iff_iff, isZ_iff, decide_eq_true_iff]
  constructor
  · intro h; simpa using h.2
  · intro h; exact ⟨by omega, by simpa using h⟩
theorem signsOf_unt {w0 w : World} {c : Nat} {s : ByteArray} {a k : Nat} {ns : List Nat} (hT : Tb w0) (hE : XerrAt w0) (h : RdS w0 w c s a ns) (ha : a ≤ s.size) (hs : s.size ≤ 100000) (hv : Val ((bl s).drop a)) (hl : ns.length ≤ 100000) (hk : k ≤ 6) :
    Calls Tryd.prog 26 #[.pointer (some ⟨c, 0, none⟩), .int .i64 (k : Int)] w (UntE w0 w c s a ns (sgo k ((bl s).drop a))) :=
  (signsOf_any hT hE h ha hs hv hl hk).mono fun e w' ⟨b, he, hh⟩ => by rw [he]; exact hh.out
theorem kdN_in (l : List Nat) : (kdN l).1 ≤ 6 ∧ (kdN l).2 ≤ l.length ∧ ∀ x ∈ l.take (kdN l).2, x < 128 := by
  have one : ∀ c, l.getD 0 0 = c → c ≠ 0 → c < 128 → 1 ≤ l.length ∧ ∀ x ∈ l.take 1, x < 128 := fun c h h0 hc => by
    obtain ⟨r, rfl⟩ := cons_of h h0
    exact ⟨by simp, by simpa using hc⟩
  have two : ∀ c d, l.getD 0 0 = c ∧ l.getD 1 0 = d → c ≠ 0 → d ≠ 0 → c < 128 → d < 128 → 2 ≤ l.length ∧ ∀ x ∈ l.take 2, x < 128 := fun c d h h0 h1 hc hd => by
    obtain ⟨r, rfl⟩ := cons_of h.1 h0
    obtain ⟨r2, rfl⟩ := cons_of (l := r) (c := d) (by simpa using h.2) h1
    exact ⟨by simp, by simpa using ⟨hc, hd⟩⟩
  unfold kdN
  split
  · obtain ⟨a, b⟩ := one 60 ‹_› (by decide) (by decide); exact ⟨by simp, a, b⟩
  · split
    · obtain ⟨a, b⟩ := two 95 58 ‹_› (by decide) (by decide) (by decide) (by decide); exact ⟨by simp, a, b⟩
    · split
      · obtain ⟨a, b⟩ := one 34 ‹_› (by decide) (by decide); exact ⟨by simp, a, b⟩
      · split
        · obtain ⟨a, b⟩ := one 64 ‹_› (by decide) (by decide); exact ⟨by simp, a, b⟩
        · split
          · obtain ⟨a, b⟩ := two 94 94 ‹_› (by decide) (by decide) (by decide) (by decide); exact ⟨by simp, a, b⟩
          · split
            · obtain ⟨a, b⟩ := one 46 ‹_› (by decide) (by decide); exact ⟨by simp, a, b⟩
            · exact ⟨by simp, by simp, by simp⟩
def TokE (w0 w : World) (c : Nat) (s : ByteArray) (a : Nat) (o : Option Tk) (e : Ending) (w' : World) : Prop := match o with
  | some q => e = .returned (.tuple #[.agg #[.int .i64 (q.1 : Int), .string (strB q.2.1), .int .i64 (a : Int)], .bool true]) ∧ ∃ ns, PutE w0 w c s (a + q.2.2) ns w'
  | none => e = .returned (.tuple #[.agg #[.int .i64 0, .string ByteArray.empty, .int .i64 0], .bool false]) ∧ Hid (FrT Tr w0.heap.size w w' ∧ Only (fun _ => False) w0 w')
set_option maxHeartbeats 4000000 in
theorem token_any {w0 w : World} {c : Nat} {s : ByteArray} {a : Nat} {ns : List Nat} (hT : Tb w0) (hE : XerrAt w0) (h : RdS w0 w c s a ns) (ha : a ≤ s.size) (hs : s.size ≤ 100000) (hv : Val ((bl s).drop a)) :
    Calls Tryd.prog 16 #[.pointer (some ⟨c, 0, none⟩)] w (TokE w0 w c s a (tok ((bl s).drop a))) := by
  obtain ⟨w1, g, hw1, hg, HR0, HO0⟩ := rst_start w
  have hb := hv.bys
  have ht := tok_sgo hb
  obtain ⟨k1, k2, k3⟩ := kdN_in ((bl s).drop a)
  have hvd : Val ((bl s).drop (a + (kdN ((bl s).drop a)).2)) := by
    have := (Val.asc k3).right (b := ((bl s).drop a).drop (kdN ((bl s).drop a)).2) (by rw [List.take_append_drop]; exact hv)
    rwa [List.drop_drop] at this
  have hsz := fun ns m => sgo_size (k := (kdN ((bl s).drop a)).1) (l := (bl s).drop (a + (kdN ((bl s).drop a)).2)) hvd.bys (ns := ns) (m := m)
  rw [List.drop_drop] at ht
  rw [List.length_drop, bl_len] at k2
  have h1 : RdS w0 w1 c s a ns := h.same HO0
  have HK : Hid (∀ W, RdS w0 W c s a [] → Calls Tryd.prog 25 #[.pointer (some ⟨c, 0, none⟩)] W fun e w' => e = .returned (.int .i64 ((kdN ((bl s).drop a)).1 : Int)) ∧ PutE w0 W c s (a + (kdN ((bl s).drop a)).2) [] w') := hid fun W hW => kind_any hW ha (by omega)
  have HSo : Hid (∀ W, RdS w0 W c s (a + (kdN ((bl s).drop a)).2) [] → Calls Tryd.prog 26 #[.pointer (some ⟨c, 0, none⟩), .int .i64 ((kdN ((bl s).drop a)).1 : Int)] W (UntE w0 W c s (a + (kdN ((bl s).drop a)).2) [] (sgo (kdN ((bl s).drop a)).1 ((bl s).drop (a + (kdN ((bl s).drop a)).2))))) := hid fun W hW => signsOf_unt hT hE hW (by omega) hs hvd (by simp) k1
  obtain ⟨A, n, cap, d2, hnc, hA, hcl, hcf, HC⟩ := h1.clear
  obtain ⟨v, hrw, hown1⟩ := h1.at_
  have d1 := hrw.cells.2.1
  have HCr : Hid ((w1.setCell ⟨c, 2, none⟩ (.slice A 0 cap)).cell? ⟨c, 1, none⟩ = some (.int .i64 (a : Int))) := hid (by obtain ⟨v2, hr2, _⟩ := HC.out.1.at_; exact hr2.cells.2.1)
  have HW0 := hid h.only
  have HF0 : Hid (FrT Tr w0.heap.size w w1) := hid (FrT.of_only HO0.out)
  generalize kdN ((bl s).drop a) = kj at *
  obtain ⟨k, j⟩ := kj
  simp only at *
  clear h h1 hT hE hv hb k1 k3 hvd hrw hown1 v
  have hcap0 : (0 : Int) ≤ (cap : Int) := by omega
  have hA0 : A = none ∨ ∃ b, A = some ⟨b, 0, none⟩ := by
    cases A with
    | none => exact .inl rfl
    | some ad =>
      obtain ⟨b, o, su⟩ := ad
      obtain ⟨e1, e2⟩ := hA _ rfl
      simp only at e1 e2
      subst e1; subst e2
      exact .inr ⟨b, rfl⟩
  clear hA
  rw [ht]
  cases hsg : sgo k ((bl s).drop (a + j)) with
  | none =>
    rw [hsg] at HSo
    clear ht hsz hsg
    go_enter Tryd.func16, Tryd.ntmps16
    go_upto_region 1 with fail
    rw [← hw1, ← hg]
    clear hw1 hg
    go_upto_region 5 with (first
      | (go_at_call 25; refine (HK.out _ HC.out.1).mono ?_; rintro e w2 ⟨rfl, HO⟩)
      | (go_at_call 26; refine (HSo.out _ HO.out.1).mono ?_; rintro e w3 ⟨rfl, HO3⟩))
    have HF : Hid (FrT Tr w0.heap.size w w3 ∧ Only (fun _ => False) w0 w3) := hid ⟨HF0.out.trans (HC.out.2.trans (HO.out.2.trans HO3.out.1)), HO3.out.2⟩
    have HR : Hid (RsT w w3 g) := hid (HR0.out.fr (HC.out.2.trans (HO.out.2.trans HO3.out.1)))
    clear d1 d2 hcf hcl HK HSo HO HO3 HC HCr
    have cx0 := HR.out.row.cell (i := 0) (by omega)
    have cx1 := HR.out.row.cell (i := 1) (by omega)
    have cx2 := HR.out.row.cell (i := 2) (by omega)
    have fx0 := HR.out.row.frozen 0
    have fx1 := HR.out.row.frozen 1
    have fx2 := HR.out.row.frozen 2
    have hlt2 := HR.out.row.lt
    have HQ := hid fun a b c => tk_set HR.out.row a b c
    simp only [tkF] at cx0 cx1 cx2
    go_wp2_with fail
    obtain ⟨q0, q1, q2⟩ := HQ.out (.int .i64 0) (.string { data := #[] }) (.int .i64 0)
    exact bodyPost_ret (v := .tuple #[.agg #[.int .i64 0, .string { data := #[] }, .int .i64 0], .bool false]) (by simp [results, Tryd.results16, go_sem, q0, q1, q2]) rfl ⟨rfl, hid ((HR.out.end_ HW0.out HF.out.1 (c := c) (s := s) (a := a) (ns := []) _ _ _).1 HF.out.2)⟩
  | some q =>
    obtain ⟨ms, m⟩ := q
    rw [hsg] at HSo
    obtain ⟨z1, z2⟩ := hsz _ _ hsg
    rw [List.length_drop, bl_len] at z1 z2
    obtain ⟨R, hR⟩ : ∃ R, (if allG ms = true then Ending.returned (.tuple #[.string (strB (encL ms)), .int .i64 0]) else .returned (.tuple #[.string ByteArray.empty, .int .i64 11])) = R := ⟨_, rfl⟩
    have HTx : Hid (∀ W, RdS w0 W c s (a + j + m) ms → ∃ A2 c2, W.cell? ⟨c, 2, none⟩ = some (.slice A2 ms.length c2) ∧ Hid (Calls Tryd.prog 27 #[.slice A2 ms.length c2] W fun e w' => StU W w' ∧ e = R)) := hid fun W hW => by
      obtain ⟨A2, c2, h2, h3⟩ := hW.rd
      refine ⟨A2, c2, h2, hid ?_⟩
      have := text_any (w := W) (c := c2) h3 (n := ms.length) (iNs_len ms).symm (by omega)
      unfold TextE at this
      rw [natZ_iNs, allSg_iNs, hR] at this
      exact this
    have HSo2 : Hid (∀ W, RdS w0 W c s (a + j) [] → Calls Tryd.prog 26 #[.pointer (some ⟨c, 0, none⟩), .int .i64 (k : Int)] W (YesR w0 W c s (a + j + m) ms)) := hid fun W hW => HSo.out W hW
    have Ham : Hid (a + j + m = a + (j + m)) := hid (Nat.add_assoc ..)
    clear hsz HSo hsg z1 z2 ht
    cases hg2 : allG ms with
    | false =>
      rw [hg2, if_neg (by simp)] at hR
      show Calls _ _ _ _ (TokE w0 w c s a (if allG ms = true then some (k, encL ms, j + m) else none))
      rw [hg2, if_neg (by simp)]
      subst hR
      go_enter Tryd.func16, Tryd.ntmps16
      go_upto_region 1 with fail
      rw [← hw1, ← hg]
      clear hw1 hg
      go_upto_region 6 with (first
        | (go_at_call 25; refine (HK.out _ HC.out.1).mono ?_; rintro e w2 ⟨rfl, HO⟩)
        | (go_at_call 26; refine (HSo2.out _ HO.out.1).mono ?_; rintro e w3 ⟨rfl, HO3⟩))
      obtain ⟨A2, c2, d3, HTe⟩ := HTx.out _ HO3.out.1
      have HF3 : Hid (FrT Tr w0.heap.size w1 w3 ∧ RdS w0 w3 c s (a + j + m) ms) := hid ⟨HC.out.2.trans (HO.out.2.trans HO3.out.2), HO3.out.1⟩
      clear d1 d2 hcf hcl HK HSo2 HO HO3 HC HCr HTx hcap0
      go_upto_region 7 with (go_at_call 27; refine HTe.out.mono ?_; rintro e w4 ⟨HO4, rfl⟩)
      have HF : Hid (FrT Tr w0.heap.size w w4 ∧ Only (fun _ => False) w0 w4) := hid ⟨HF0.out.trans (HF3.out.1.trans (FrT.of_only HO4.out)), HF3.out.2.only.trans HO4.out⟩
      have HR : Hid (RsT w w4 g) := hid (HR0.out.fr (HF3.out.1.trans (FrT.of_only HO4.out)))
      clear HTe HO4 HF3 d3
      have cx0 := HR.out.row.cell (i := 0) (by omega)
      have cx1 := HR.out.row.cell (i := 1) (by omega)
      have cx2 := HR.out.row.cell (i := 2) (by omega)
      have fx0 := HR.out.row.frozen 0
      have fx1 := HR.out.row.frozen 1
      have fx2 := HR.out.row.frozen 2
      have hlt2 := HR.out.row.lt
      have HQ := hid fun a b c => tk_set HR.out.row a b c
      simp only [tkF] at cx0 cx1 cx2
      go_wp2_with fail
      obtain ⟨q0, q1, q2⟩ := HQ.out (.int .i64 0) (.string { data := #[] }) (.int .i64 0)
      exact bodyPost_ret (v := .tuple #[.agg #[.int .i64 0, .string { data := #[] }, .int .i64 0], .bool false]) (by simp [results, Tryd.results16, go_sem, q0, q1, q2]) rfl ⟨rfl, hid ((HR.out.end_ HW0.out HF.out.1 (c := c) (s := s) (a := a) (ns := []) _ _ _).1 HF.out.2)⟩
    | true =>
      rw [hg2, if_pos rfl] at hR
      show Calls _ _ _ _ (TokE w0 w c s a (if allG ms = true then some (k, encL ms, j + m) else none))
      rw [hg2, if_pos rfl]
      subst hR
      go_enter Tryd.func16, Tryd.ntmps16
      go_upto_region 1 with fail
      rw [← hw1, ← hg]
      clear hw1 hg
      go_upto_region 6 with (first
        | (go_at_call 25; refine (HK.out _ HC.out.1).mono ?_; rintro e w2 ⟨rfl, HO⟩)
        | (go_at_call 26; refine (HSo2.out _ HO.out.1).mono ?_; rintro e w3 ⟨rfl, HO3⟩))
      obtain ⟨A2, c2, d3, HTe⟩ := HTx.out _ HO3.out.1
      have HF3 : Hid (FrT Tr w0.heap.size w1 w3 ∧ RdS w0 w3 c s (a + j + m) ms) := hid ⟨HC.out.2.trans (HO.out.2.trans HO3.out.2), HO3.out.1⟩
      clear d1 d2 hcf hcl HK HSo2 HO HO3 HC HCr HTx hcap0
      go_upto_region 7 with (go_at_call 27; refine HTe.out.mono ?_; rintro e w4 ⟨HO4, rfl⟩)
      have HF : Hid (FrT Tr w0.heap.size w w4 ∧ RdS w0 w4 c s (a + j + m) ms) := hid ⟨HF0.out.trans (HF3.out.1.trans (FrT.of_only HO4.out)), HF3.out.2.same HO4⟩
      have HR : Hid (RsT w w4 g) := hid (HR0.out.fr (HF3.out.1.trans (FrT.of_only HO4.out)))
      clear HTe HO4 HF3 d3
      generalize hxe : strB (encL ms) = x at *
      have Hx := hid hxe
      clear hxe
      have cx0 := HR.out.row.cell (i := 0) (by omega)
      have cx1 := HR.out.row.cell (i := 1) (by omega)
      have cx2 := HR.out.row.cell (i := 2) (by omega)
      have fx0 := HR.out.row.frozen 0
      have fx1 := HR.out.row.frozen 1
      have fx2 := HR.out.row.frozen 2
      have hlt2 := HR.out.row.lt
      have HQ := hid fun a b c => tk_set HR.out.row a b c
      simp only [tkF] at cx0 cx1 cx2
      go_wp2_with fail
      obtain ⟨q0, q1, q2⟩ := HQ.out (.int .i64 (k : Int)) (.string x) (.int .i64 (a : Int))
      exact bodyPost_ret (v := .tuple #[.agg #[.int .i64 (k : Int), .string x, .int .i64 (a : Int)], .bool true]) (by simp [results, Tryd.results16, go_sem, q0, q1, q2]) rfl ⟨(by show _ = Ending.returned (.tuple #[.agg #[.int .i64 (k : Int), .string (strB (encL ms)), .int .i64 (a : Int)], .bool true]); rw [Hx.out]), ms, by rw [← Ham.out]; exact (HR.out.end_ HW0.out HF.out.1 _ _ _).2 HF.out.2⟩
end Go.Proofs.YtbbclcllkpabkaaDoor.X
