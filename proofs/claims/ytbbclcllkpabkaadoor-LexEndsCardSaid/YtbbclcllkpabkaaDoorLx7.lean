/- A reader of a line: an escape, and signs up to the one that ends them. -/
import Derived.Test.YtbbclcllkpabkaaDoorLx6
namespace Go.Proofs.YtbbclcllkpabkaaDoor.X
open Go.RowKit U G

theorem esc_nxt (lit : Bool) {l : List Nat} (hv : Val l) (h0 : l ≠ []) :
    ((nxt l).1 = 117 → (nxt l).2 = 1 ∧ esc lit l = (hxN 4 (l.drop 1)).map fun n => (n, 5)) ∧ ((nxt l).1 = 85 → (nxt l).2 = 1 ∧ esc lit l = (hxN 8 (l.drop 1)).map fun n => (n, 9)) ∧
    ((nxt l).1 ≠ 117 → (nxt l).1 ≠ 85 → esc lit l = (oth lit (nxt l).1).map fun n => (n, 1)) ∧ (oth lit (nxt l).1 ≠ none → (nxt l).2 = 1) := by
  cases l with
  | nil => exact absurd rfl h0
  | cons b t =>
    have hn := hv.nxt h0
    by_cases hb : b < 128
    · rw [nxt_asc hb]
      refine ⟨fun h => ⟨rfl, ?_⟩, fun h => ⟨rfl, ?_⟩, fun h1 h2 => ?_, fun _ => rfl⟩
      · simp only at h; rw [esc_cons, if_pos h]; rfl
      · simp only at h; rw [esc_cons, if_neg (by omega), if_pos h]; rfl
      · rw [esc_cons, if_neg h1, if_neg h2]
    · have hh := nxt_high hv.bys (by omega) hn
      have no : ∀ x, 128 ≤ x → oth lit x = none := fun x hx => by
        cases ho : oth lit x with
        | none => rfl
        | some v => have := oth_lt ho; omega
      refine ⟨fun h => by omega, fun h => by omega, fun _ _ => ?_, fun h => absurd (no _ hh) h⟩
      rw [no _ hh, esc_cons, if_neg (by omega), if_neg (by omega), no b (by omega)]
theorem next_rd {w0 w : World} {c : Nat} {s : ByteArray} {a : Nat} {ns : List Nat} (hT : Tb w0) (h : RdS w0 w c s a ns) (ha : a ≤ s.size) (hs : s.size ≤ 900000) (hk : (nxt ((bl s).drop a)).2 ≠ 0) :
    Calls Tryd.prog 57 #[.pointer (some ⟨c, 0, none⟩)] w fun e w' => e = .returned (.tuple #[.int .i64 ((nxt ((bl s).drop a)).1 : Int), .bool true]) ∧ PutE w0 w c s (a + (nxt ((bl s).drop a)).2) ns w' := by
  obtain ⟨v, hr, _⟩ := h.at_
  exact (next_more (h.tb hT) hr ha (by omega) hk).mono fun e w' hh => ⟨hh.1, hid (h.mv hr hh.2.out.1 hh.2.out.2)⟩
theorem next_rd0 {w0 w : World} {c : Nat} {s : ByteArray} {a : Nat} {ns : List Nat} (hT : Tb w0) (h : RdS w0 w c s a ns) (ha : a = s.size) (hs : s.size ≤ 900000) :
    Calls Tryd.prog 57 #[.pointer (some ⟨c, 0, none⟩)] w fun e w' => e = .returned (.tuple #[.int .i64 65533, .bool false]) ∧ PutE w0 w c s a ns w' := by
  subst ha
  obtain ⟨v, hr, _⟩ := h.at_
  exact (next_end (h.tb hT) hr (by omega)).mono fun e w' hh => ⟨hh.1, hid (h.mv hr hh.2.out.1 hh.2.out.2)⟩
theorem PutE.no {w0 w w' : World} {c : Nat} {s : ByteArray} {a : Nat} {ns : List Nat} (h : PutE w0 w c s a ns w') : Hid (FrT Tr w0.heap.size w w' ∧ Only (fun _ => False) w0 w') := hid ⟨h.out.2, h.out.1.only⟩
theorem drop_size {s : ByteArray} {a : Nat} (h : ¬ (bl s).drop a = []) : a < s.size := by
  rcases Nat.lt_or_ge a s.size with x | x
  · exact x
  · exact absurd (List.drop_eq_nil_of_le (by rw [bl_len]; exact x)) h
theorem drop_nil_size {s : ByteArray} {a : Nat} (ha : a ≤ s.size) (h : (bl s).drop a = []) : a = s.size := by
  have := congrArg List.length h
  rw [List.length_drop, bl_len] at this
  simp at this
  omega
/-- What the library's words tell of the letter. -/
theorem int_ne {n k : Nat} (h : n ≠ k) : ((n : Int) == (k : Int)) = false := beq_eq_false_iff_ne.2 (by omega)
/-- The end of an escape: yes or no. -/
def EscE (w0 w : World) (c : Nat) (s : ByteArray) (a : Nat) (ns : List Nat) (o : Option (Nat × Nat)) (e : Ending) (w' : World) : Prop := match o with
  | some q => YesR w0 w c s (a + q.2) (ns ++ [q.1]) e w'
  | none => NoR w0 w e w'
set_option maxHeartbeats 1000000 in
theorem escaped_any {g : FuncId} {lit : Bool} (hg : XEsc g lit) {w0 w : World} {c : Nat} {s : ByteArray} {a : Nat} {ns : List Nat} (hT : Tb w0) (hE : XerrAt w0) (h : RdS w0 w c s a ns) (ha : a ≤ s.size) (hs : s.size ≤ 900000) (hv : Val ((bl s).drop a)) (hl : ns.length ≤ 400000) :
    Calls Tryd.prog 58 #[.pointer (some ⟨c, 0, none⟩), .func (.func g) #[] #[]] w (EscE w0 w c s a ns (esc lit ((bl s).drop a))) := by
  by_cases h0 : (bl s).drop a = []
  · have HN := hid (next_rd0 hT h (drop_nil_size ha h0) hs)
    rw [h0]
    clear h hg hT hE ha hs hv hl h0
    go_enter Tryd.func58, Tryd.ntmps58
    go_wp2_with (go_at_call 57; refine HN.out.mono ?_; rintro e w1 ⟨rfl, HO⟩)
    go_ret
    exact ⟨rfl, HO.no⟩
  · have hk := hv.nxt h0
    have HN := hid (next_rd hT h ha hs hk)
    obtain ⟨x1, x2, x3, x4⟩ := esc_nxt lit hv h0
    have hle := nxt_le hv.bys
    have hd1 : ((bl s).drop a).drop 1 = (bl s).drop (a + 1) := List.drop_drop ..
    rw [List.length_drop, bl_len] at hle
    by_cases c1 : (nxt ((bl s).drop a)).1 = 117
    · obtain ⟨y1, y2⟩ := x1 c1
      rw [c1, y1] at HN
      rw [y2, hd1]
      have HY : Hid (∀ W, RdS w0 W c s (a + 1) ns → Calls Tryd.prog 73 #[.pointer (some ⟨c, 0, none⟩), .int .i64 4] W fun e w' => ∃ b, e = .returned (.bool b) ∧ Hid (∀ w1, FrT Tr w0.heap.size w1 W → EscE w0 w1 c s a ns ((hxN 4 ((bl s).drop (a + 1))).map fun n => (n, 5)) (.returned (.bool b)) w')) := hid fun W hW => by
        cases hx : hxN 4 ((bl s).drop (a + 1)) with
        | some m => exact (numbered_yes (n := 4) hW (by omega) hs (by omega) (by omega) hl hx).mono fun e w' hh => ⟨true, hh.1, hid fun w1 hf => ⟨rfl, hid ⟨by have := hh.2.out.1; rwa [Nat.add_assoc] at this, hf.trans hh.2.out.2⟩⟩⟩
        | none => exact (numbered_no (n := 4) hE hW (by omega) hs (by omega) hx).mono fun e w' hh => ⟨false, hh.1, hid fun w1 hf => ⟨rfl, hid ⟨hf.trans hh.2.out.1, hh.2.out.2⟩⟩⟩
      clear h hg hT hE ha hs hv hl h0 x1 x2 x3 x4 y2 y1 hd1 hle hk c1
      go_enter Tryd.func58, Tryd.ntmps58
      go_wp2_with (first
        | (go_at_call 57; refine HN.out.mono ?_; rintro e w1 ⟨rfl, HO⟩)
        | (go_at_call 73; refine (HY.out _ HO.out.1).mono ?_; rintro e w2 ⟨b, rfl, HF⟩))
      go_ret
      exact HF.out _ HO.out.2
    · by_cases c2 : (nxt ((bl s).drop a)).1 = 85
      · obtain ⟨y1, y2⟩ := x2 c2
        rw [c2, y1] at HN
        rw [y2, hd1]
        have HY : Hid (∀ W, RdS w0 W c s (a + 1) ns → Calls Tryd.prog 73 #[.pointer (some ⟨c, 0, none⟩), .int .i64 8] W fun e w' => ∃ b, e = .returned (.bool b) ∧ Hid (∀ w1, FrT Tr w0.heap.size w1 W → EscE w0 w1 c s a ns ((hxN 8 ((bl s).drop (a + 1))).map fun n => (n, 9)) (.returned (.bool b)) w')) := hid fun W hW => by
          cases hx : hxN 8 ((bl s).drop (a + 1)) with
          | some m => exact (numbered_yes (n := 8) hW (by omega) hs (by omega) (by omega) hl hx).mono fun e w' hh => ⟨true, hh.1, hid fun w1 hf => ⟨rfl, hid ⟨by have := hh.2.out.1; rwa [Nat.add_assoc] at this, hf.trans hh.2.out.2⟩⟩⟩
          | none => exact (numbered_no (n := 8) hE hW (by omega) hs (by omega) hx).mono fun e w' hh => ⟨false, hh.1, hid fun w1 hf => ⟨rfl, hid ⟨hf.trans hh.2.out.1, hh.2.out.2⟩⟩⟩
        clear h hg hT hE ha hs hv hl h0 x1 x2 x3 x4 y2 y1 hd1 hle hk c1 c2
        go_enter Tryd.func58, Tryd.ntmps58
        go_wp2_with (first
          | (go_at_call 57; refine HN.out.mono ?_; rintro e w1 ⟨rfl, HO⟩)
          | (go_at_call 73; refine (HY.out _ HO.out.1).mono ?_; rintro e w2 ⟨b, rfl, HF⟩))
        go_ret
        exact HF.out _ HO.out.2
      · rw [x3 c1 c2]
        have eg := hg.enters
        have HG := hid (hg.says (nxt ((bl s).drop a)).1)
        unfold othV at HG
        have k1 := int_ne c1
        have k2 := int_ne c2
        cases ho : oth lit (nxt ((bl s).drop a)).1 with
        | none =>
          rw [ho] at HG
          generalize (nxt ((bl s).drop a)).1 = z at *
          clear h hg hT hE ha hs hv hl h0 x1 x2 x3 x4 hd1 hle hk c1 c2 ho
          go_enter Tryd.func58, Tryd.ntmps58
          go_wp2_with (first
            | (go_at_call 57; refine HN.out.mono ?_; rintro e w1 ⟨rfl, HO⟩)
            | (go_at_fn g; refine (HG.out _).mono ?_; rintro e w2 ⟨rfl, rfl⟩))
          go_ret
          exact ⟨rfl, HO.no⟩
        | some m =>
          rw [ho] at HG
          rw [x4 (by rw [ho]; simp)] at HN
          have HP : Hid (∀ W, RdS w0 W c s (a + 1) ns → ∀ k, k = W.heap.size → Calls Tryd.prog 59 #[.pointer (some ⟨c, 0, none⟩), .slice (some ⟨k, 0, none⟩) 1 1] (W.alloc (.cells #[.int .i64 (m : Int)] 3)) fun e w' => e = .returned (.tuple #[]) ∧ PutE w0 W c s (a + 1) (ns ++ [m]) w') := hid fun W hW k hk => put_one hW (by omega) k hk
          generalize (nxt ((bl s).drop a)).1 = z at *
          clear h hg hT hE ha hs hv hl h0 x1 x2 x3 x4 hd1 hle hk c1 c2 ho
          go_enter Tryd.func58, Tryd.ntmps58
          go_wp2_with (first
            | (go_at_call 57; refine HN.out.mono ?_; rintro e w1 ⟨rfl, HO⟩)
            | (go_at_fn g; refine (HG.out _).mono ?_; rintro e w2 ⟨rfl, rfl⟩)
            | (go_at_call 59; refine (HP.out _ HO.out.1 _ rfl).mono ?_; rintro e w3 ⟨rfl, HF⟩))
          go_ret
          exact ⟨rfl, hid ⟨HF.out.1, HO.out.2.trans HF.out.2⟩⟩
end Go.Proofs.YtbbclcllkpabkaaDoor.X
