/- A reader of a line: blanks. -/
import Derived.Test.YtbbclcllkpabkaaDoorLx9
namespace Go.Proofs.YtbbclcllkpabkaaDoor.X
open Go.RowKit U G

/-- How many blanks a text begins with. -/
def nb : List Nat → Nat
  | [] => 0
  | c :: t => if c = 32 ∨ c = 9 then 1 + nb t else 0
/-- Whether a token has to stand there. -/
def mor (l : List Nat) : Bool := match l with
  | [] => false
  | c :: _ => !decide (c = 35)
theorem nb_le : ∀ l : List Nat, nb l ≤ l.length
  | [] => by simp [nb]
  | c :: t => by
    have := nb_le t
    unfold nb
    split
    · simp; omega
    · omega
theorem lin_nb : ∀ (l : List Nat) (a : Nat), lin l a = lin (l.drop (nb l)) (a + nb l)
  | [], a => rfl
  | c :: t, a => by
    unfold nb
    by_cases h : c = 32 ∨ c = 9
    · rw [if_pos h, lin_blank h, lin_nb t, drop_cons, show a + 1 + nb t = a + (1 + nb t) by omega]
    · rw [if_neg h]; rfl
theorem nb_head : ∀ l : List Nat, (l.drop (nb l)).getD 0 0 ≠ 32 ∧ (l.drop (nb l)).getD 0 0 ≠ 9
  | [] => by simp [nb]
  | c :: t => by
    unfold nb
    by_cases h : c = 32 ∨ c = 9
    · rw [if_pos h, drop_cons]; exact nb_head t
    · rw [if_neg h]; simp; omega
theorem nb_val : ∀ {l : List Nat}, Val l → Val (l.drop (nb l))
  | [], h => h
  | c :: t, h => by
    unfold nb
    by_cases hc : c = 32 ∨ c = 9
    · rw [if_pos hc, drop_cons]; exact nb_val (asc_left (blank_lt hc) h)
    · rw [if_neg hc]; exact h
def MorE (w0 w : World) (c : Nat) (s : ByteArray) (a : Nat) (ns : List Nat) (e : Ending) (w' : World) : Prop :=
  e = .returned (.bool (mor ((bl s).drop (a + nb ((bl s).drop a))))) ∧ PutE w0 w c s (a + nb ((bl s).drop a)) ns w'
structure BkS (w0 w wr : World) (c : Nat) (s : ByteArray) (a b : Nat) (ns : List Nat) : Prop where
  rd : RdS w0 wr c s b ns
  fr : FrT Tr w0.heap.size w wr
  eq : a + nb ((bl s).drop a) = b + nb ((bl s).drop b)
theorem BkS.on {w0 w wr w' : World} {c : Nat} {s : ByteArray} {a b : Nat} {ns : List Nat} (h : BkS w0 w wr c s a b ns) (hc : ((bl s).drop b).getD 0 0 = 32 ∨ ((bl s).drop b).getD 0 0 = 9) (o : PutE w0 wr c s (b + 1) ns w') : BkS w0 w w' c s a (b + 1) ns := by
  refine ⟨o.out.1, h.fr.trans o.out.2, ?_⟩
  rw [h.eq]
  have e : (bl s).drop (b + 1) = ((bl s).drop b).drop 1 := by rw [List.drop_drop]
  rw [e]
  cases hl : (bl s).drop b with
  | nil => rw [hl] at hc; simp at hc
  | cons x t =>
    rw [hl] at hc
    conv => lhs; unfold nb
    rw [if_pos (by simpa using hc)]
    show b + (1 + nb t) = b + 1 + nb t
    omega
set_option maxHeartbeats 4000000 in
theorem more_any {w0 w : World} {c : Nat} {s : ByteArray} {a : Nat} {ns : List Nat} (h : RdS w0 w c s a ns) (ha : a ≤ s.size) (hs : s.size ≤ 100000) :
    Calls Tryd.prog 15 #[.pointer (some ⟨c, 0, none⟩)] w (MorE w0 w c s a ns) := by
  have HI : Hid (BkS w0 w w c s a a ns) := hid ⟨h, FrT.refl _ _ _, rfl⟩
  have hsz : s.size ≤ 900000 := by omega
  clear h
  go_enter Tryd.func15, Tryd.ntmps15
  go_wp2_with fail
  go_loopw [12] (fun _ wr => ∃ b : Nat, a ≤ b ∧ b ≤ s.size ∧ Hid (BkS w0 w wr c s a b ns)) (fun _ wr => s.size - cellA wr c)
  case atStart => exact ⟨a, by omega, ha, HI⟩
  case round =>
    obtain ⟨b, hab, hb, HS⟩ := hrel
    clear HI
    have Hca : Hid (cellA wr c = b) := hid HS.out.rd.cellA
    have e1 := beg_one (s := s) (a := b) (p := { data := #[32] }) (x := 32) (by decide) (by decide)
    have e2 := beg_one (s := s) (a := b) (p := { data := #[9] }) (x := 9) (by decide) (by decide)
    have hlt : ∀ x, x ≠ 0 → ((bl s).drop b).getD 0 0 = x → b < s.size := fun x hx hg => by
      apply drop_size
      intro hn
      rw [hn] at hg
      exact hx hg.symm
    by_cases c1 : ((bl s).drop b).getD 0 0 = 32
    · rw [decide_eq_true c1] at e1
      have hbl := hlt _ (by decide) c1
      have HY := hid (over_yes (p := { data := #[32] }) HS.out.rd hb hsz e1 (n := 1) rfl)
      have Hc := hid c1
      clear e1 e2 hlt c1
      go_wp2_with (go_at_call 22; refine HY.out.mono ?_; rintro e w1 ⟨rfl, HO⟩; have HS2 := hid (HS.out.on (.inl Hc.out) HO); have Hca2 : Hid (cellA w1 c = b + 1) := hid HS2.out.rd.cellA)
      go_roundw
      case rel => exact ⟨b + 1, by omega, by omega, HS2⟩
      case measure => rw [Hca.out, Hca2.out]; omega
    · rw [decide_eq_false c1] at e1
      have HN := hid (over_no (p := { data := #[32] }) HS.out.rd hb hsz e1)
      by_cases c2 : ((bl s).drop b).getD 0 0 = 9
      · rw [decide_eq_true c2] at e2
        have hbl := hlt _ (by decide) c2
        have HY := hid (fun W (hW : RdS w0 W c s b ns) => over_yes (p := { data := #[9] }) hW hb hsz e2 (n := 1) rfl)
        have Hc := hid c2
        clear e1 e2 hlt c1 c2
        go_wp2_with (first
          | (go_at_call 22; refine HN.out.mono ?_; rintro e w1 ⟨rfl, HO⟩; clear HN)
          | (go_at_call 22; refine (HY.out _ HO.out.1).mono ?_; rintro e w2 ⟨rfl, HO2⟩; have HS2 := hid (HS.out.on (.inr Hc.out) (hid ⟨HO2.out.1, HO.out.2.trans HO2.out.2⟩)); have Hca2 : Hid (cellA w2 c = b + 1) := hid HS2.out.rd.cellA))
        go_roundw
        case rel => exact ⟨b + 1, by omega, by omega, HS2⟩
        case measure => rw [Hca.out, Hca2.out]; omega
      · rw [decide_eq_false c2] at e2
        have HN2 := hid (fun W (hW : RdS w0 W c s b ns) => over_no (p := { data := #[9] }) hW hb hsz e2)
        have hnb : nb ((bl s).drop b) = 0 := by
          cases hl : (bl s).drop b with
          | nil => rfl
          | cons x t =>
            rw [hl] at c1 c2
            unfold nb
            rw [if_neg (by simp at c1 c2; omega)]
        have HEq : Hid (a + nb ((bl s).drop a) = b) := hid (by rw [HS.out.eq, hnb]; rfl)
        have HR := hid (fun W (hW : RdS w0 W c s b ns) => (by obtain ⟨v, hr, _⟩ := hW.at_; exact rest_any hr hb : Calls Tryd.prog 23 #[.pointer (some ⟨c, 0, none⟩)] W fun e w' => e = .returned (.string (s.extract b s.size)) ∧ StU W w'))
        have HBe := hid (fun W (hW : RdS w0 W c s b ns) => (by obtain ⟨v, hr, _⟩ := hW.at_; exact begins_any (p := { data := #[35] }) hr hb : Calls Tryd.prog 24 #[.pointer (some ⟨c, 0, none⟩), .string { data := #[35] }] W fun e w' => e = .returned (.bool (begB s b { data := #[35] })) ∧ StU W w'))
        have e3 := beg_one (s := s) (a := b) (p := { data := #[35] }) (x := 35) (by decide) (by decide)
        have hq := xemp_beq (s.extract b s.size)
        have hxe : s.extract b s.size = ByteArray.empty ↔ (bl s).drop b = [] := by
          rw [← bl_tail]
          constructor
          · intro h; rw [h]; rfl
          · intro h; exact bl_inj h
        by_cases h0 : (bl s).drop b = []
        · rw [hxe.2 h0] at HR
          have HF : Hid (mor ((bl s).drop b) = false) := hid (by rw [h0]; rfl)
          have hq0 := xemp_beq ByteArray.empty
          rw [decide_eq_true rfl] at hq0
          clear e1 e2 e3 hlt c1 c2 hnb hq hxe h0 HBe
          go_wp2_with (first
            | (go_at_call 22; refine HN.out.mono ?_; rintro e w1 ⟨rfl, HO⟩; clear HN)
            | (go_at_call 22; refine (HN2.out _ HO.out.1).mono ?_; rintro e w2 ⟨rfl, HO2⟩; clear HN2)
            | (go_at_call 23; refine (HR.out _ HO2.out.1).mono ?_; rintro e w3 ⟨rfl, HO3⟩))
          go_ret
          refine ⟨?_, hid ?_⟩
          · rw [HEq.out, HF.out]; rfl
          · rw [HEq.out]; exact ⟨HO2.out.1.same HO3, HS.out.fr.trans (HO.out.2.trans (HO2.out.2.trans (FrT.of_only HO3.out)))⟩
        · have hx0 : decide (s.extract b s.size = ByteArray.empty) = false := decide_eq_false fun h => h0 (hxe.1 h)
          rw [hx0] at hq
          have HF : Hid (mor ((bl s).drop b) = !(begB s b { data := #[35] })) := hid (by
            rw [e3]
            cases hl : (bl s).drop b with
            | nil => exact absurd hl h0
            | cons x t => simp [mor])
          generalize begB s b { data := #[35] } = bb at *
          have hne : s.extract b s.size ≠ ByteArray.empty := fun h => h0 (hxe.1 h)
          generalize s.extract b s.size = x at *
          clear e1 e2 e3 hlt c1 c2 hnb hxe h0 hx0
          go_wp2_with (first
            | (go_at_call 22; refine HN.out.mono ?_; rintro e w1 ⟨rfl, HO⟩; clear HN)
            | (go_at_call 22; refine (HN2.out _ HO.out.1).mono ?_; rintro e w2 ⟨rfl, HO2⟩; clear HN2)
            | (go_at_call 23; refine (HR.out _ HO2.out.1).mono ?_; rintro e w3 ⟨rfl, HO3⟩; have H3 := hid (HO2.out.1.same HO3))
            | (go_at_call 24; refine (HBe.out _ H3.out).mono ?_; rintro e w4 ⟨rfl, HO4⟩))
          go_ret
          refine ⟨?_, hid ?_⟩
          · rw [HEq.out, HF.out]; rfl
          · rw [HEq.out]; exact ⟨H3.out.same HO4, HS.out.fr.trans (HO.out.2.trans (HO2.out.2.trans ((FrT.of_only HO3.out).trans (FrT.of_only HO4.out))))⟩
end Go.Proofs.YtbbclcllkpabkaaDoor.X
