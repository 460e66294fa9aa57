/- A reader of a line: escapes. -/
import Derived.Test.YtbbclcllkpabkaaDoorLx5
namespace Go.Proofs.YtbbclcllkpabkaaDoor.X
open Go.RowKit U G

def othV (lit : Bool) (n : Nat) : Value := match oth lit n with
  | some v => .tuple #[.int .i64 (v : Int), .bool true]
  | none => .tuple #[.int .i64 0, .bool false]
/-- A function value that tells the other escapes. -/
structure XEsc (g : FuncId) (lit : Bool) : Prop where
  enters : ∀ args w, (callFunc g args).run Tryd.prog w = .ok (.enter g args) w
  says : ∀ (n : Nat) W, Calls Tryd.prog g #[.int .i64 (n : Int)] W fun e w' => e = .returned (othV lit n) ∧ W = w'
theorem iriEsc_any (n : Nat) (W : World) : Calls Tryd.prog 37 #[.int .i64 (n : Int)] W fun e w' => e = .returned (othV false n) ∧ W = w' := by
  go_enter Tryd.func37, Tryd.ntmps37
  go_wp2
  go_ret2
  exact ⟨rfl, rfl⟩
set_option maxHeartbeats 1000000 in
theorem litEsc_any (n : Nat) (W : World) : Calls Tryd.prog 41 #[.int .i64 (n : Int)] W fun e w' => e = .returned (othV true n) ∧ W = w' := by
  have HV := hid (show othV true n = match lzC n with | some v => .tuple #[.int .i64 (v : Int), .bool true] | none => .tuple #[.int .i64 0, .bool false] from rfl)
  have key : ∀ (k : Nat) (b : Bool), decide (n = k) = b → ((n : Int) == (k : Int)) = b := fun k b h => by
    rw [← h, Bool.eq_iff_iff, beq_iff_eq, decide_eq_true_iff]; omega
  by_cases h1 : n = 116
  · subst h1
    go_enter Tryd.func41, Tryd.ntmps41
    go_wp2
    go_ret2
    exact ⟨rfl, rfl⟩
  by_cases h2 : n = 98
  · subst h2
    go_enter Tryd.func41, Tryd.ntmps41
    go_wp2
    go_ret2
    exact ⟨rfl, rfl⟩
  by_cases h3 : n = 110
  · subst h3
    go_enter Tryd.func41, Tryd.ntmps41
    go_wp2
    go_ret2
    exact ⟨rfl, rfl⟩
  by_cases h4 : n = 114
  · subst h4
    go_enter Tryd.func41, Tryd.ntmps41
    go_wp2
    go_ret2
    exact ⟨rfl, rfl⟩
  by_cases h5 : n = 102
  · subst h5
    go_enter Tryd.func41, Tryd.ntmps41
    go_wp2
    go_ret2
    exact ⟨rfl, rfl⟩
  by_cases h6 : n = 34
  · subst h6
    go_enter Tryd.func41, Tryd.ntmps41
    go_wp2
    go_ret2
    exact ⟨rfl, rfl⟩
  by_cases h7 : n = 39
  · subst h7
    go_enter Tryd.func41, Tryd.ntmps41
    go_wp2
    go_ret2
    exact ⟨rfl, rfl⟩
  by_cases h8 : n = 92
  · subst h8
    go_enter Tryd.func41, Tryd.ntmps41
    go_wp2
    go_ret2
    exact ⟨rfl, rfl⟩
  have e : lzC n = none := by unfold lzC; rw [if_neg h1, if_neg h2, if_neg h3, if_neg h4, if_neg h5, if_neg (by omega)]
  rw [e] at HV
  have k1 := key 116 _ (decide_eq_false h1)
  have k2 := key 98 _ (decide_eq_false h2)
  have k3 := key 110 _ (decide_eq_false h3)
  have k4 := key 114 _ (decide_eq_false h4)
  have k5 := key 102 _ (decide_eq_false h5)
  have k6 := key 34 _ (decide_eq_false h6)
  have k7 := key 39 _ (decide_eq_false h7)
  have k8 := key 92 _ (decide_eq_false h8)
  clear key e h1 h2 h3 h4 h5 h6 h7 h8
  go_enter Tryd.func41, Tryd.ntmps41
  go_wp2
  go_ret2
  exact ⟨by rw [HV.out]; rfl, rfl⟩
theorem xesc_iri : XEsc 37 false := ⟨enters_of Tryd.func37 (by kernel_rfl) rfl, iriEsc_any⟩
theorem xesc_lit : XEsc 41 true := ⟨enters_of Tryd.func41 (by kernel_rfl) rfl, litEsc_any⟩
def lineZ (z : Int) : Bool := !decide (z = 10) && !decide (z = 13)
theorem endsNoLine_any (z : Int) (W : World) : Calls Tryd.prog 40 #[.int .i64 z] W fun e w' => e = .returned (.bool (lineZ z)) ∧ StU W w' := by
  by_cases h1 : z = 10
  · subst h1
    go_enter Tryd.func40, Tryd.ntmps40
    go_wp2
    go_ret
    exact ⟨rfl, hid (Only.refl _ _)⟩
  · by_cases h2 : z = 13
    · subst h2
      go_enter Tryd.func40, Tryd.ntmps40
      go_wp2
      go_ret
      exact ⟨rfl, hid (Only.refl _ _)⟩
    · have HE : Hid (lineZ z = true) := hid (by unfold lineZ; rw [decide_eq_false h1, decide_eq_false h2]; rfl)
      have k1 : (z != 10) = true := bne_iff_ne.2 h1
      have k2 : (z != 13) = true := bne_iff_ne.2 h2
      go_enter Tryd.func40, Tryd.ntmps40
      go_wp2
      go_ret
      exact ⟨by rw [HE.out]; rfl, hid (Only.refl _ _)⟩
def rawW (lit : Bool) : Int → Bool := if lit then lineZ else rawZ
theorem rawW_B (lit : Bool) (n : Nat) : rawW lit (n : Int) = rawB lit n := by
  cases lit with
  | false => rfl
  | true =>
    show lineZ n = _
    unfold lineZ rawB
    have e1 : decide ((n : Int) = 10) = decide (n = 10) := by rw [decide_eq_decide]; omega
    have e2 : decide ((n : Int) = 13) = decide (n = 13) := by rw [decide_eq_decide]; omega
    rw [e1, e2]
    simp
theorem such_raw : Such 36 (rawW false) := ⟨enters_of Tryd.func36 (by kernel_rfl) rfl, raw_any⟩
theorem such_line : Such 40 (rawW true) := ⟨enters_of Tryd.func40 (by kernel_rfl) rfl, endsNoLine_any⟩
def YesR (w0 w : World) (c : Nat) (s : ByteArray) (a : Nat) (ns : List Nat) (e : Ending) (w' : World) : Prop := e = .returned (.bool true) ∧ PutE w0 w c s a ns w'
def NoR (w0 w : World) (e : Ending) (w' : World) : Prop := e = .returned (.bool false) ∧ Hid (FrT Tr w0.heap.size w w' ∧ Only (fun _ => False) w0 w')
theorem RdS.tb {w0 w : World} {c : Nat} {s : ByteArray} {a : Nat} {ns : List Nat} (h : RdS w0 w c s a ns) (hT : Tb w0) : Tb w := hT.stu (hid h.only)
theorem RdS.er {w0 w : World} {c : Nat} {s : ByteArray} {a : Nat} {ns : List Nat} (h : RdS w0 w c s a ns) (hE : XerrAt w0) : XerrAt w := hE.stu (hid h.only)
/-- What is read of so many digits. -/
theorem take_rd {w0 w : World} {c : Nat} {s : ByteArray} {a n : Nat} {ns : List Nat} (h : RdS w0 w c s a ns) (ha : a ≤ s.size) (hs : s.size ≤ 900000) :
    Calls Tryd.prog 61 #[.pointer (some ⟨c, 0, none⟩), .int .i64 (n : Int)] w fun e w' => ∃ x : ByteArray, e = .returned (.string x) ∧ Hid (bl x = ((bl s).drop a).take n ∧ RdS w0 w' c s (a + x.size) ns ∧ FrT Tr w0.heap.size w w') := by
  obtain ⟨v, hr, _⟩ := h.at_
  refine (take_any hr ha (by omega)).mono ?_
  rintro e w' ⟨x, rfl, hx⟩
  exact ⟨x, rfl, hid ⟨hx.out.1, h.mv hr hx.out.2.1 hx.out.2.2⟩⟩
set_option maxHeartbeats 1000000 in
theorem numbered_yes {w0 w : World} {c : Nat} {s : ByteArray} {a n m : Nat} {ns : List Nat} (h : RdS w0 w c s a ns) (ha : a ≤ s.size) (hs : s.size ≤ 900000) (h0 : 0 < n) (h8 : n ≤ 8) (hl : ns.length ≤ 400000) (hx : hxN n ((bl s).drop a) = some m) :
    Calls Tryd.prog 73 #[.pointer (some ⟨c, 0, none⟩), .int .i64 (n : Int)] w (YesR w0 w c s (a + n) (ns ++ [m])) := by
  have HT := hid (take_rd (n := n) h ha hs)
  obtain ⟨c1, _, _, c4⟩ := hxN_cut hx
  have hm : m < 4294967296 := Nat.lt_of_lt_of_le c4 (Nat.le_trans (Nat.pow_le_pow_right (by omega) h8) (by decide))
  have hw : IntKind.i64.wrap (m : Int) = (m : Int) := by rw [IntKind.wrap_i64]; omega
  have HX : Hid (∀ x : ByteArray, bl x = ((bl s).drop a).take n → x.size = n ∧ ∀ W, Calls Tryd.prog 75 #[.string x, .int .i64 16, .int .i64 32] W fun e w' => e = .returned (.tuple #[.int .u64 (m : Int), .nilIface]) ∧ StU W w') := hid fun x e => by
    have hz : x.size = n := by rw [← bl_len, e, List.length_take]; omega
    refine ⟨hz, fun W => xu_ok (fun e0 => by rw [e0] at hz; change 0 = n at hz; omega) (by omega) ?_⟩
    rw [e]
    unfold hxN at hx
    rwa [if_neg (by omega)] at hx
  have hnn : ¬ (n : Int) < (n : Int) := by omega
  have HP : Hid (∀ W, RdS w0 W c s (a + n) ns → ∀ k, k = W.heap.size → Calls Tryd.prog 59 #[.pointer (some ⟨c, 0, none⟩), .slice (some ⟨k, 0, none⟩) 1 1] (W.alloc (.cells #[.int .i64 (m : Int)] 3)) fun e w' => e = .returned (.tuple #[]) ∧ PutE w0 W c s (a + n) (ns ++ [m]) w') := hid fun W hW k hk => put_one hW (by omega) k hk
  clear h ha hs h0 h8 hl hx c1 c4 hm
  go_enter Tryd.func73, Tryd.ntmps73
  go_wp2_with (first
    | (go_at_call 61; refine HT.out.mono ?_; rintro e w1 ⟨x, rfl, hx⟩; obtain ⟨Hb, h2, h3⟩ := hx.out; obtain ⟨hz, hp⟩ := HX.out x Hb; rw [hz] at h2; have H2 := hid h2; have H3 := hid h3; have HPU := hid hp; have hzi : ((x.size : Nat) : Int) = (n : Int) := (by omega); clear hx Hb h2 h3 hp hz HT HX)
    | (go_at_call 75; refine (HPU.out _).mono ?_; rintro e w2 ⟨rfl, HO⟩; have H4 := hid (H2.out.same HO); have H5 : Hid (FrT Tr w0.heap.size w w2) := hid (H3.out.trans (FrT.of_only HO.out)))
    | (go_at_call 59; refine (HP.out _ H4.out _ rfl).mono ?_; rintro e w3 ⟨rfl, HE⟩))
  go_ret
  exact ⟨rfl, hid ⟨HE.out.1, H5.out.trans HE.out.2⟩⟩
set_option maxHeartbeats 1000000 in
theorem numbered_no {w0 w : World} {c : Nat} {s : ByteArray} {a n : Nat} {ns : List Nat} (hE : XerrAt w0) (h : RdS w0 w c s a ns) (ha : a ≤ s.size) (hs : s.size ≤ 900000) (h8 : n ≤ 8) (hx : hxN n ((bl s).drop a) = none) :
    Calls Tryd.prog 73 #[.pointer (some ⟨c, 0, none⟩), .int .i64 (n : Int)] w (NoR w0 w) := by
  have HT := hid (take_rd (n := n) h ha hs)
  have hsz : ∀ x : ByteArray, bl x = ((bl s).drop a).take n → x.size = min n ((bl s).drop a).length := fun x e => by rw [← bl_len, e, List.length_take]
  by_cases hlt : ((bl s).drop a).length < n
  · have HX : Hid (∀ x : ByteArray, bl x = ((bl s).drop a).take n → (x.size : Int) < (n : Int) ∧ ∀ W, XerrAt W → Calls Tryd.prog 75 #[.string x, .int .i64 16, .int .i64 32] W fun e w' => (∃ v1 v2, e = .returned (.tuple #[v1, v2])) ∧ StU W w') := hid fun x e => by
      have hz := hsz x e
      refine ⟨by omega, fun W hW => ?_⟩
      by_cases h0 : x = ByteArray.empty
      · exact (xu_bad (by omega) (.inl h0) hW).mono fun e w' ⟨⟨v, t, p, h⟩, h2⟩ => ⟨⟨_, _, h⟩, h2⟩
      · cases hp : hxP (bl x) 0 with
        | none => exact (xu_bad (by omega) (.inr hp) hW).mono fun e w' ⟨⟨v, t, p, h⟩, h2⟩ => ⟨⟨_, _, h⟩, h2⟩
        | some m => exact (xu_ok h0 (by omega) hp).mono fun e w' h => ⟨⟨_, _, h.1⟩, h.2⟩
    have HEr := hid hE
    clear h ha hs h8 hx hsz hlt hE
    go_enter Tryd.func73, Tryd.ntmps73
    go_wp2_with (first
      | (go_at_call 61; refine HT.out.mono ?_; rintro e w1 ⟨x, rfl, hx⟩; obtain ⟨Hb, h2, h3⟩ := hx.out; obtain ⟨hz, hp⟩ := HX.out x Hb; have H2 := hid h2; have H3 := hid h3; have HPU := hid hp; clear hx Hb h2 h3 hp HT HX)
      | (go_at_call 75; refine (HPU.out _ (H2.out.er HEr.out)).mono ?_; rintro e w2 ⟨⟨v1, v2, rfl⟩, HO⟩; have H5 : Hid (FrT Tr w0.heap.size w w2 ∧ Only (fun _ => False) w0 w2) := hid ⟨H3.out.trans (FrT.of_only HO.out), H2.out.only.trans HO.out⟩))
    go_ret
    exact ⟨rfl, H5⟩
  · have HX : Hid (∀ x : ByteArray, bl x = ((bl s).drop a).take n → (x.size : Int) = (n : Int) ∧ ∀ W, XerrAt W → Calls Tryd.prog 75 #[.string x, .int .i64 16, .int .i64 32] W fun e w' => (∃ v t p, e = .returned (.tuple #[v, .iface t p])) ∧ StU W w') := hid fun x e => by
      have hz := hsz x e
      refine ⟨by omega, fun W hW => xu_bad (by omega) (.inr ?_) hW⟩
      rw [e]
      unfold hxN at hx
      rwa [if_neg hlt] at hx
    have HEr := hid hE
    have hnn : ¬ (n : Int) < (n : Int) := by omega
    clear h ha hs h8 hx hsz hlt hE
    go_enter Tryd.func73, Tryd.ntmps73
    go_wp2_with (first
      | (go_at_call 61; refine HT.out.mono ?_; rintro e w1 ⟨x, rfl, hx⟩; obtain ⟨Hb, h2, h3⟩ := hx.out; obtain ⟨hz, hp⟩ := HX.out x Hb; have H2 := hid h2; have H3 := hid h3; have HPU := hid hp; clear hx Hb h2 h3 hp HT HX)
      | (go_at_call 75; refine (HPU.out _ (H2.out.er HEr.out)).mono ?_; rintro e w2 ⟨⟨v, t, p, rfl⟩, HO⟩; have H5 : Hid (FrT Tr w0.heap.size w w2 ∧ Only (fun _ => False) w0 w2) := hid ⟨H3.out.trans (FrT.of_only HO.out), H2.out.only.trans HO.out⟩))
    go_ret
    exact ⟨rfl, H5⟩
end Go.Proofs.YtbbclcllkpabkaaDoor.X
