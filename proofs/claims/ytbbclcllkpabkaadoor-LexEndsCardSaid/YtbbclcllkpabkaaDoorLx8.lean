/- A reader of a line: signs up to the one that ends them; the longest label, or tag. -/
import Derived.Test.YtbbclcllkpabkaaDoorLx7
namespace Go.Proofs.YtbbclcllkpabkaaDoor.X
open Go.RowKit U G

def UntE (w0 w : World) (c : Nat) (s : ByteArray) (a : Nat) (ns : List Nat) (o : Option (List Nat × Nat)) (e : Ending) (w' : World) : Prop := match o with
  | some q => YesR w0 w c s (a + q.2) (ns ++ q.1) e w'
  | none => NoR w0 w e w'
theorem RdS.cellA {w0 w : World} {c : Nat} {s : ByteArray} {a : Nat} {ns : List Nat} (h : RdS w0 w c s a ns) : cellA w c = a := by
  obtain ⟨v, hr, _⟩ := h.at_
  unfold YtbbclcllkpabkaaDoor.cellA
  rw [hr.cells.2.1]
  simp
/-- Signs so far, of those up to the end. -/
structure UnS (lit : Bool) (w0 w wr : World) (c : Nat) (s : ByteArray) (a b : Nat) (ns acc : List Nat) : Prop where
  rd : RdS w0 wr c s b (ns ++ acc)
  fr : FrT Tr w0.heap.size w wr
  val : Val ((bl s).drop b)
  eq : unt lit ((bl s).drop a) = (unt lit ((bl s).drop b)).map fun r => (acc ++ r.1, (b - a) + r.2)
theorem UnS.no {lit : Bool} {w0 w wr : World} {c : Nat} {s : ByteArray} {a b : Nat} {ns acc : List Nat} (h : UnS lit w0 w wr c s a b ns acc) (hu : unt lit ((bl s).drop b) = none) {w' : World} (o : FrT Tr w0.heap.size wr w' ∧ Only (fun _ => False) w0 w') : UntE w0 w c s a ns (unt lit ((bl s).drop a)) (.returned (.bool false)) w' := by
  rw [h.eq, hu]
  exact ⟨rfl, hid ⟨h.fr.trans o.1, o.2⟩⟩
/-- One sign on. -/
theorem UnS.on {lit : Bool} {w0 w wr w' : World} {c : Nat} {s : ByteArray} {a b k x : Nat} {ns acc : List Nat} (h : UnS lit w0 w wr c s a b ns acc) (hab : a ≤ b) (hv : Val ((bl s).drop (b + k))) (hu : unt lit ((bl s).drop b) = (unt lit ((bl s).drop (b + k))).map fun r => (x :: r.1, k + r.2))
    (hr : RdS w0 w' c s (b + k) ((ns ++ acc) ++ [x])) (o : FrT Tr w0.heap.size wr w') : UnS lit w0 w w' c s a (b + k) ns (acc ++ [x]) := by
  refine ⟨by rw [← List.append_assoc]; exact hr, h.fr.trans o, hv, ?_⟩
  rw [h.eq, hu, Option.map_map]
  congr 1
  funext r
  show (acc ++ (x :: r.1), b - a + (k + r.2)) = (acc ++ [x] ++ r.1, b + k - a + r.2)
  rw [List.append_assoc, show b - a + (k + r.2) = b + k - a + r.2 by omega]
  rfl
set_option maxHeartbeats 4000000 in
theorem until_any {gr ge : FuncId} {lit : Bool} (hgr : Such gr (rawW lit)) (hge : XEsc ge lit) {w0 w : World} {c : Nat} {s : ByteArray} {a : Nat} {ns : List Nat} (hT : Tb w0) (hE : XerrAt w0) (h : RdS w0 w c s a ns) (ha : a ≤ s.size) (hs : s.size ≤ 100000) (hv : Val ((bl s).drop a)) (hl : ns.length ≤ 100000) :
    Calls Tryd.prog 35 #[.pointer (some ⟨c, 0, none⟩), .int .i64 (endC lit : Int), .func (.func gr) #[] #[], .func (.func ge) #[] #[]] w (UntE w0 w c s a ns (unt lit ((bl s).drop a))) := by
  have HI : Hid (UnS lit w0 w w c s a a ns []) := hid ⟨by rw [List.append_nil]; exact h, FrT.refl _ _ _, hv, by simp⟩
  have HT := hid hT
  have HE := hid hE
  have HGR := hid hgr
  have HGE := hid hge
  have egr := hgr.enters
  have ege := hge.enters
  have hsz : s.size ≤ 900000 := by omega
  clear h hT hE hgr hge hv
  go_enter Tryd.func35, Tryd.ntmps35
  go_wp2_with fail
  go_loopw [39] (fun _ wr => ∃ (b : Nat) (acc : List Nat), a ≤ b ∧ b ≤ s.size ∧ acc.length ≤ b - a ∧ Hid (UnS lit w0 w wr c s a b ns acc)) (fun _ wr => s.size - cellA wr c)
  case atStart => exact ⟨a, [], by omega, ha, by simp, HI⟩
  case round =>
    obtain ⟨b, acc, hab, hb, hacc, HS⟩ := hrel
    clear HI
    have Hca : Hid (cellA wr c = b) := hid HS.out.rd.cellA
    by_cases h0 : (bl s).drop b = []
    · have HN := hid (next_rd0 HT.out HS.out.rd (drop_nil_size hb h0) hsz)
      have HF : Hid (unt lit ((bl s).drop b) = none) := hid (by rw [h0]; exact unt_nil (by rw [nxt_nil]))
      clear h0
      go_wp2_with (go_at_call 57; refine HN.out.mono ?_; rintro e w1 ⟨rfl, HO⟩)
      go_ret
      exact HS.out.no HF.out HO.no.out
    · have hk := HS.out.val.nxt h0
      have HN := hid (next_rd HT.out HS.out.rd hb hsz hk)
      have hst := unt_step lit hk
      have hle := nxt_le HS.out.val.bys
      have hpos : 0 < (nxt ((bl s).drop b)).2 := by omega
      rw [List.length_drop, bl_len] at hle
      have hdd : ∀ k, ((bl s).drop b).drop k = (bl s).drop (b + k) := fun k => List.drop_drop ..
      rw [hdd, hdd] at hst
      have hone : (nxt ((bl s).drop b)).1 < 128 → (nxt ((bl s).drop b)).2 = 1 := fun hlt => (nxt_one HS.out.val.bys hk hlt).1
      have hvd : Val ((bl s).drop (b + (nxt ((bl s).drop b)).2)) := by rw [← hdd]; exact HS.out.val.drop hk
      have hraw : Hid (∀ W, Calls Tryd.prog gr #[.int .i64 ((nxt ((bl s).drop b)).1 : Int)] W fun e w' => e = .returned (.bool (rawB lit (nxt ((bl s).drop b)).1)) ∧ StU W w') := hid fun W => by
        have := HGR.out.says ((nxt ((bl s).drop b)).1 : Int) W
        rwa [rawW_B] at this
      generalize nxt ((bl s).drop b) = q at *
      obtain ⟨n, k⟩ := q
      simp only at *
      by_cases he : n = endC lit
      · rw [if_pos he] at hst
        have hk1 : k = 1 := hone (by rw [he]; exact endC_lt lit)
        subst hk1
        have HF : Hid (unt lit ((bl s).drop a) = some (acc, b - a + 1)) := hid (by rw [HS.out.eq, hst]; simp)
        have heq : ((n : Int) == (endC lit : Int)) = true := by rw [he]; simp
        rw [he] at HN
        clear hst hone hvd hraw he hk hdd h0 heq
        generalize hen : (endC lit : Int) = en at *
        clear hen
        go_wp2_with (go_at_call 57; refine HN.out.mono ?_; rintro e w1 ⟨rfl, HO⟩)
        go_ret
        rw [HF.out]
        exact ⟨rfl, hid ⟨by have := HO.out.1; rwa [show b + 1 = a + (b - a + 1) by omega] at this, HS.out.fr.trans HO.out.2⟩⟩
      · rw [if_neg he] at hst
        have hne : ((n : Int) == (endC lit : Int)) = false := int_ne he
        clear he
        generalize hen : (endC lit : Int) = en at *
        clear hen
        by_cases h92 : n = 92
        · rw [if_pos h92] at hst
          have hk1 : k = 1 := hone (by omega)
          subst hk1
          subst h92
          have HX := hid (fun W (hW : RdS w0 W c s (b + 1) (ns ++ acc)) => escaped_any HGE.out HT.out HE.out hW (by omega) hsz hvd (by rw [List.length_append]; omega))
          cases hes : esc lit ((bl s).drop (b + 1)) with
          | none =>
            rw [hes] at hst HX
            have HF : Hid (unt lit ((bl s).drop b) = none) := hid hst
            clear hst hone hvd hraw hk hdd h0 hes
            go_wp2_with (first
              | (go_at_call 57; refine HN.out.mono ?_; rintro e w1 ⟨rfl, HO⟩)
              | (go_at_call 58; refine (HX.out _ HO.out.1).mono ?_; rintro e w2 ⟨rfl, HO2⟩))
            go_ret
            exact HS.out.no HF.out ⟨HO.out.2.trans HO2.out.1, HO2.out.2⟩
          | some q =>
            obtain ⟨m, j⟩ := q
            rw [hes] at hst HX
            simp only at hst
            obtain ⟨c1, c2, c3, _, _⟩ := esc_cut hes
            rw [List.length_drop, bl_len] at c2
            rw [hdd, show b + (1 + j) = b + 1 + j by omega] at hst
            have hv2 : Val ((bl s).drop (b + 1 + j)) := by
              have := (Val.asc c3).right (b := ((bl s).drop (b + 1)).drop j) (by rw [List.take_append_drop]; exact hvd)
              rwa [List.drop_drop] at this
            have HO3 : Hid (∀ W1 W2, FrT Tr w0.heap.size wr W1 → PutE w0 W1 c s (b + 1 + j) (ns ++ acc ++ [m]) W2 → UnS lit w0 w W2 c s a (b + 1 + j) ns (acc ++ [m])) := hid fun W1 W2 h1 h2 => by
              have ea : b + (1 + j) = b + 1 + j := by omega
              have := UnS.on (k := 1 + j) (x := m) HS.out hab (by rw [ea]; exact hv2) (by rw [ea]; exact hst) (by rw [ea]; exact h2.out.1) (h1.trans h2.out.2)
              rwa [ea] at this
            clear hst hone hvd hraw hk hdd h0 hes c3 hv2
            go_wp2_with (first
              | (go_at_call 57; refine HN.out.mono ?_; rintro e w1 ⟨rfl, HO⟩)
              | (go_at_call 58; refine (HX.out _ HO.out.1).mono ?_; rintro e w2 ⟨rfl, HO2⟩; have HS2 := hid (HO3.out _ _ HO.out.2 HO2); have Hca2 : Hid (cellA w2 c = b + 1 + j) := hid HS2.out.rd.cellA))
            go_roundw
            case rel => exact ⟨b + 1 + j, acc ++ [m], by omega, by omega, by rw [List.length_append, List.length_singleton]; omega, HS2⟩
            case measure => rw [Hca.out, Hca2.out]; omega
        · rw [if_neg h92] at hst
          have hn92 : ((n : Int) == 92) = false := int_ne (k := 92) h92
          cases hrw : rawB lit n with
          | false =>
            rw [hrw] at hst hraw
            have HF : Hid (unt lit ((bl s).drop b) = none) := hid (by rw [hst, if_neg (by simp)])
            clear hst hone hvd hk hdd h0 hrw h92
            go_wp2_with (first
              | (go_at_call 57; refine HN.out.mono ?_; rintro e w1 ⟨rfl, HO⟩)
              | (go_at_fn gr; refine (hraw.out _).mono ?_; rintro e w2 ⟨rfl, HO2⟩))
            go_ret
            exact HS.out.no HF.out ⟨HO.out.2.trans (FrT.of_only HO2.out), HO.out.1.only.trans HO2.out⟩
          | true =>
            rw [hrw] at hst hraw
            rw [if_pos rfl] at hst
            have HP : Hid (∀ W, RdS w0 W c s (b + k) (ns ++ acc) → ∀ j, j = W.heap.size → Calls Tryd.prog 59 #[.pointer (some ⟨c, 0, none⟩), .slice (some ⟨j, 0, none⟩) 1 1] (W.alloc (.cells #[.int .i64 (n : Int)] 3)) fun e w' => e = .returned (.tuple #[]) ∧ PutE w0 W c s (b + k) (ns ++ acc ++ [n]) w') := hid fun W hW j hj => put_one hW (by rw [List.length_append]; omega) j hj
            have HO3 : Hid (∀ W1 W2, FrT Tr w0.heap.size wr W1 → PutE w0 W1 c s (b + k) (ns ++ acc ++ [n]) W2 → UnS lit w0 w W2 c s a (b + k) ns (acc ++ [n])) := hid fun W1 W2 h1 h2 =>
              UnS.on HS.out hab hvd hst h2.out.1 (h1.trans h2.out.2)
            clear hst hone hvd hk hdd h0 hrw h92
            go_wp2_with (first
              | (go_at_call 57; refine HN.out.mono ?_; rintro e w1 ⟨rfl, HO⟩)
              | (go_at_fn gr; refine (hraw.out _).mono ?_; rintro e w2 ⟨rfl, HO2⟩; have H2 := hid (HO.out.1.same HO2); have HF2 : Hid (FrT Tr w0.heap.size wr w2) := hid (HO.out.2.trans (FrT.of_only HO2.out)))
              | (go_at_call 59; refine (HP.out _ H2.out _ rfl).mono ?_; rintro e w3 ⟨rfl, HF⟩; have HS2 := hid (HO3.out _ _ HF2.out HF); have Hca2 : Hid (cellA w3 c = b + k) := hid HS2.out.rd.cellA))
            go_roundw
            case rel => exact ⟨b + k, acc ++ [n], by omega, by omega, by rw [List.length_append, List.length_singleton]; omega, HS2⟩
            case measure => rw [Hca.out, Hca2.out]; omega
/-- A function value that tells how long the longest label, or tag, is. -/
structure Lng (g : FuncId) (f : List Nat → Nat) : Prop where
  enters : ∀ args w, (callFunc g args).run Tryd.prog w = .ok (.enter g args) w
  says : ∀ (s : ByteArray) W, Tb W → s.size ≤ 900000 → Calls Tryd.prog g #[.string s] W fun e w' => e = .returned (.int .i64 (f (bl s) : Int)) ∧ StU W w'
  val : ∀ l, Bys l → f l ≤ l.length ∧ Val (l.take (f l))
theorem lng_lab : Lng 39 lab := ⟨enters_of Tryd.func39 (by kernel_rfl) rfl, fun s W hT hs => label_any hT (by omega), fun l hb => ⟨lab_le hb, lab_val hb⟩⟩
theorem lng_tag : Lng 42 tag := ⟨enters_of Tryd.func42 (by kernel_rfl) rfl, fun s W hT hs => tag_any hT (by omega), fun l _ => ⟨tag_le l, Val.asc (tag_asc l)⟩⟩
def LngE (w0 w : World) (c : Nat) (s : ByteArray) (a n : Nat) (ns : List Nat) (e : Ending) (w' : World) : Prop := e = .returned (.bool (decide (0 < n))) ∧ PutE w0 w c s (a + n) (ns ++ (sgsL (((bl s).drop a).take n)).1) w'
set_option maxHeartbeats 1000000 in
theorem longest_any {g : FuncId} {f : List Nat → Nat} (hg : Lng g f) {w0 w : World} {c : Nat} {s : ByteArray} {a : Nat} {ns : List Nat} (hT : Tb w0) (h : RdS w0 w c s a ns) (ha : a ≤ s.size) (hs : s.size ≤ 100000) (hl : ns.length ≤ 100000) :
    Calls Tryd.prog 38 #[.pointer (some ⟨c, 0, none⟩), .func (.func g) #[] #[]] w (LngE w0 w c s a (f ((bl s).drop a)) ns) := by
  obtain ⟨v, hr, _⟩ := h.at_
  have HR := hid (rest_any hr ha)
  have eg := hg.enters
  have hxs : (s.extract a s.size).size = s.size - a := by rw [← bl_len, bl_tail, List.length_drop, bl_len]
  have HL : Hid (∀ W, StU w W → Calls Tryd.prog g #[.string (s.extract a s.size)] W fun e w' => e = .returned (.int .i64 (f ((bl s).drop a) : Int)) ∧ StU w w') := hid fun W hW => (hg.says (s.extract a s.size) W ((h.tb hT).stu hW) (by omega)).mono fun e w' hh => ⟨by rw [hh.1, bl_tail], hid (hW.out.trans hh.2.out)⟩
  obtain ⟨v1, v2⟩ := hg.val _ (bys_drop (bl_bys s) a)
  have hfl : f ((bl s).drop a) ≤ s.size - a := by rw [List.length_drop, bl_len] at v1; exact v1
  generalize f ((bl s).drop a) = n at *
  have HS : Hid (∀ W, StU w W → RdS w0 W c s a ns) := hid fun W hW => h.same hW
  have HX : Hid (∀ W, RdS w0 W c s a ns → Calls Tryd.prog 61 #[.pointer (some ⟨c, 0, none⟩), .int .i64 (n : Int)] W fun e w' => ∃ x : ByteArray, e = .returned (.string x) ∧ Hid (bl x = ((bl s).drop a).take n ∧ RdS w0 w' c s (a + n) ns ∧ FrT Tr w0.heap.size W w')) := hid fun W hW => (take_rd (n := n) hW ha (by omega)).mono fun e w' hh => by
    obtain ⟨x, rfl, hx⟩ := hh
    have hz : x.size = n := by rw [← bl_len, hx.out.1, List.length_take]; omega
    exact ⟨x, rfl, hid ⟨hx.out.1, by rw [← hz]; exact hx.out.2.1, hx.out.2.2⟩⟩
  have HG : Hid (∀ (x : ByteArray) W, bl x = ((bl s).drop a).take n → Tb W → Calls Tryd.prog 10 #[.string x] W fun e w' => ∃ A m cap, e = .returned (.tuple #[.slice A m cap, .int .i64 0, .int .i64 0]) ∧ Hid (StU W w' ∧ RdI w' A (iNs (sgsL (((bl s).drop a).take n)).1) ∧ (A = none → m = 0 ∧ cap = 0) ∧ (sgsL (((bl s).drop a).take n)).1.length = m ∧ m ≤ n)) := hid fun x W hx hTW => by
    have hz : x.size = n := by rw [← bl_len, hx, List.length_take]; omega
    refine (signs_any hTW (by omega)).mono fun e w' hh => ?_
    have hall : (sgsL (bl x)).2 = x.size := by rw [hx, v2.sgs, ← hx, bl_len]
    have hlen := signs_len (s := x)
    rw [hx] at hlen
    rcases hh.2 with ⟨_, A, cap, rfl, hR⟩ | ⟨hlt, _⟩
    · rw [hx] at hR
      exact ⟨A, _, cap, by rw [hx], hid ⟨hh.1, hR.out.1, hR.out.2.1, rfl, by omega⟩⟩
    · omega
  have hl2 : ns.length + n ≤ 500000 := by omega
  have HTb := hid hT
  clear h hr hg hT ha hs hl hxs v1 v2 hfl
  have HP : Hid (∀ W A m cap, RdS w0 W c s (a + n) ns → RdI W A (iNs (sgsL (((bl s).drop a).take n)).1) → (A = none → m = 0 ∧ cap = 0) → (sgsL (((bl s).drop a).take n)).1.length = m → m ≤ n → Calls Tryd.prog 59 #[.pointer (some ⟨c, 0, none⟩), .slice A m cap] W fun e w' => e = .returned (.tuple #[]) ∧ PutE w0 W c s (a + n) (ns ++ (sgsL (((bl s).drop a).take n)).1) w') := hid fun W A m cap h1 h2 h3 h4 h5 => put_any h1 h2 h3 h4 (by omega)
  clear hl2
  have HF : Hid (∀ W1 W2 W3 W4, StU w W1 → FrT Tr w0.heap.size W1 W2 → StU W2 W3 → PutE w0 W3 c s (a + n) (ns ++ (sgsL (((bl s).drop a).take n)).1) W4 → PutE w0 w c s (a + n) (ns ++ (sgsL (((bl s).drop a).take n)).1) W4) := hid fun W1 W2 W3 W4 h1 h2 h3 h4 => hid ⟨h4.out.1, ((FrT.of_only h1.out).trans (h2.trans (FrT.of_only h3.out))).trans h4.out.2⟩
  unfold LngE
  generalize sgsL (((bl s).drop a).take n) = q at *
  go_enter Tryd.func38, Tryd.ntmps38
  go_wp2_with (first
    | (go_at_call 23; refine HR.out.mono ?_; rintro e w1 ⟨rfl, HO⟩)
    | (go_at_fn g; refine (HL.out _ HO).mono ?_; rintro e w2 ⟨rfl, HO2⟩)
    | (go_at_call 61; refine (HX.out _ (HS.out _ HO2)).mono ?_; rintro e w3 ⟨x, rfl, hx⟩; obtain ⟨hb, h1, h2⟩ := hx.out; have Hb := hid hb; have H1 := hid h1; have H2 := hid h2; clear hx hb h1 h2)
    | (go_at_call 10; refine (HG.out _ _ Hb.out (H1.out.tb HTb.out)).mono ?_; rintro e w4 ⟨A, m, cap, rfl, hx⟩; have H3 := hid hx.out.1; have H4 := hid (H1.out.same H3.out); have H5 := hid hx.out.2; clear hx)
    | (go_at_call 59; refine (HP.out _ _ _ _ H4.out H5.out.1 H5.out.2.1 H5.out.2.2.1 H5.out.2.2.2).mono ?_; rintro e w5 ⟨rfl, HE⟩))
  go_ret
  exact ⟨rfl, HF.out _ _ _ _ HO2 H2.out H3.out HE⟩
end Go.Proofs.YtbbclcllkpabkaaDoor.X
