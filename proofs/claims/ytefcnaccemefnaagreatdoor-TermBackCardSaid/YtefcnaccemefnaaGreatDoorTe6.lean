/- A writer: an IRI, a literal. -/
import Derived.Test.YtefcnaccemefnaaGreatDoorTe5
import Derived.Lib.OthersKept
namespace Go.Proofs.YtefcnaccemefnaaGreatDoor
open Go.RowKit U G

theorem drop_getD {l : List Nat} (p i : Nat) : (l.drop p).getD i 0 = l.getD (p + i) 0 := by
  simp [List.getD, List.getElem?_drop]
theorem decode_sign {s : ByteArray} {pos n : Nat} {r : List Nat} (h : (bl s).drop pos = encN n ++ r) (hs : sgn n) : Utf8.decode s pos = (n, (encN n).length) ∧ pos < s.size := by
  have h1 := nxt_enc hs r
  have h2 := encN_len n
  have h3 := congrArg List.length h
  rw [List.length_drop, List.length_append, bl_len] at h3
  rw [← h] at h1
  unfold nxt at h1
  rw [List.length_drop, bl_len, drop_getD, drop_getD, drop_getD, drop_getD, bl_get, bl_get, bl_get, bl_get, Nat.add_zero] at h1
  refine ⟨?_, by omega⟩
  rw [Lib.decode_at, decN_nxt _ _ _ _ _ (by omega), h1, if_neg (by show ¬ (encN n).length = 0; omega)]
theorem Only.iterAt {S : Nat → Prop} {a w : World} (h : Only S a w) {k : Nat} (hk : a.heap.size ≤ k) (s : ByteArray) (p : Nat) : Only S a (w.iterAt k s p) :=
  ⟨h.os, h.tape, h.output, by rw [Lib.iterAt_size]; exact h.size, fun i hi hs => (Lib.iterAt_other w k i s p (by omega)).trans (h.block i hi hs)⟩
theorem FrT.iter {T : TypeId → Prop} {B : Nat} {W W' : World} {k : Nat} {s : ByteArray} {pos : Nat} (o : FrT T B W W') (hit : W.heap[k]? = some (.stringIter s pos)) : W'.heap[k]? = some (.stringIter s pos) :=
  (o.block k (heap_lt hit) (fun hk => by obtain ⟨_, cs, t, fz, hb, _⟩ := hk; rw [hit] at hb; cases hb)).trans hit
theorem Only.iter {W W' : World} {k : Nat} {s : ByteArray} {pos : Nat} (o : Only (fun _ => False) W W') (hit : W.heap[k]? = some (.stringIter s pos)) : W'.heap[k]? = some (.stringIter s pos) := (o.block k (heap_lt hit) no_).trans hit
theorem WrS.iterAt {w0 w : World} {b k : Nat} {l : List Nat} {s : ByteArray} {pos : Nat} (h : WrS w0 w b l) (hit : w.heap[k]? = some (.stringIter s pos)) (hk : w0.heap.size ≤ k) (pos' : Nat) : WrS w0 (w.iterAt k s pos') b l := by
  obtain ⟨p, v, hp, hb, hown⟩ := h.at_
  have hne : b ≠ k := by rintro rfl; rw [hb] at hit; cases hit
  refine ⟨h.ge, ⟨p, v, hp, (Lib.iterAt_other w k b s pos' hne).trans hb, ⟨hown.1, ?_⟩⟩, h.only.iterAt hk s pos'⟩
  rcases hown.2 with h2 | ⟨g, cap, cur, hv, hge, hh, hr⟩
  · exact .inl h2
  · exact .inr ⟨g, cap, cur, hv, hge, (Lib.iterAt_other w k g s pos' (by rintro rfl; rw [hh] at hit; cases hit)).trans hh, hr⟩
theorem pieces_new {w0 W : World} {b n : Nat} {l : List Nat} {cs : Array Value} {ss : List ByteArray} (h : WrS w0 W b l) (hc : cs.toList = ss.map Value.string) (hn : n = ss.length) (hn2 : n ≤ 1000) (hlen : l.length + (ss.flatMap bl).length ≤ 140737488355328) :
    Calls Tryz.prog 50 #[.pointer (some ⟨b, 0, none⟩), .slice (some ⟨W.heap.size, 0, none⟩) n n] (W.alloc (.cells cs 9)) fun e w' => e = .returned (.tuple #[]) ∧ WrE w0 W b (l ++ ss.flatMap bl) w' := by
  have hr : (W.alloc (.cells cs 9)).rowIs W.heap.size 9 n (vS ss) := by
    have hsz : cs.size = n := by rw [← Array.length_toList, hc, List.length_map, hn]
    rw [← hsz]
    refine World.rowIs_alloc W cs 9 (vS ss) fun i hi => ?_
    have : cs.toList[i]? = (ss.map Value.string)[i]? := by rw [hc]
    rw [Array.getElem?_toList, List.getElem?_map] at this
    rw [this, List.getElem?_eq_getElem (by omega : i < ss.length)]
    simp [vS, List.getD, show i < ss.length by omega]
  have ho : Only (fun _ => False) W (W.alloc (.cells cs 9)) := (Only.refl _ W).alloc _
  exact (pieces_any (h.only_of ho) hr hn hn2 hlen).mono fun e w' h2 => ⟨h2.1, hid ⟨h2.2.out.1, (FrT.of_only ho).trans h2.2.out.2⟩⟩
theorem bl_lit1 (x : UInt8) : bl { data := #[x] } = [x.toNat] := rfl
theorem bl_hex (n : Nat) (h : n < 16) : bl (strB [hexD n]) = [hexD n] := bl_strB fun x hx => by
  have := hexD_lt h
  simp at hx
  omega
theorem raw_low {n : Nat} (hs : sgn n) (hr : rawZ (n : Int) = false) : n < 128 := by
  rcases Nat.lt_or_ge n 128 with h | h
  · exact h
  · rw [raw_high h hs] at hr; cases hr
theorem iriS_len (n : Nat) : (iriS n).length ≤ 6 * (encN n).length := by
  have := encN_len n
  unfold iriS
  split
  · omega
  · simp only [List.length_cons, List.length_nil]; omega
theorem litS_len (n : Nat) : (litS n).length ≤ 6 * (encN n).length := by
  have := encN_len n
  unfold litS
  repeat' split
  all_goals first
    | omega
    | (simp only [List.length_cons, List.length_nil]; omega)
theorem flatS_len {f : Nat → List Nat} (hf : ∀ n, (f n).length ≤ 6 * (encN n).length) : ∀ ns : List Nat, (ns.flatMap f).length ≤ 6 * (encL ns).length
  | [] => by simp
  | n :: ns => by
    have h1 := flatS_len hf ns
    have h2 := hf n
    have e : encL (n :: ns) = encN n ++ encL ns := by simp [encL]
    rw [e, List.flatMap_cons, List.length_append, List.length_append]
    omega
theorem encL_snoc (a : List Nat) (n : Nat) : encL (a ++ [n]) = encL a ++ encN n := by simp [encL]
theorem and15 : ∀ n : Fin 128, bits BinOp.and IntKind.i32 (n.val : Int) 15 = (n.val : Int) % 16 := by decide +kernel
set_option maxHeartbeats 2000000 in
theorem iri_any {w0 w : World} {b : Nat} {l : List Nat} {s : ByteArray} (h : WrS w0 w b l) (hv : vld (bl s) = true) (hlen : l.length + 6 * s.size ≤ 140737488350000) :
    Calls Tryz.prog 49 #[.pointer (some ⟨b, 0, none⟩), .string s] w fun e w' => e = .returned (.tuple #[]) ∧ WrE w0 w b (l ++ 60 :: (iriB (bl s) ++ [62])) w' := by
  obtain ⟨hen, hsg⟩ := vld_enc (bl_bys s) hv
  obtain ⟨ns, hns⟩ : ∃ ns, (sgsL (bl s)).1 = ns := ⟨_, rfl⟩
  rw [hns] at hen hsg
  have hsz : s.size = (encL ns).length := by rw [← bl_len, hen]
  have HE : Hid (iriB (bl s) = ns.flatMap iriS) := hid (by rw [hen, iriB_enc hsg])
  have HP1 : Hid (Calls Tryz.prog 50 #[.pointer (some ⟨b, 0, none⟩), .slice (some ⟨w.heap.size, 0, none⟩) 1 1] (w.alloc (.cells #[.string { data := #[60] }] 9)) fun e w' => e = .returned (.tuple #[]) ∧ WrE w0 w b (l ++ [60]) w') := hid (pieces_new (ss := [{ data := #[60] }]) h rfl rfl (by decide) (by rw [List.flatMap_cons, bl_lit1]; simp; omega))
  have HS : Hid (∀ dn n rs, ns = dn ++ n :: rs → Utf8.decode s (encL dn).length = (n, (encN n).length) ∧ (encL dn).length < s.size ∧ (encL (dn ++ [n])).length = (encL dn).length + (encN n).length ∧ sgn n ∧ n ≤ 1114111) := hid fun dn n rs e => by
    have h1 : sgn n := hsg n (by rw [e]; simp)
    have h2 : (bl s).drop (encL dn).length = encN n ++ encL rs := by
      rw [hen, e, encL_app, List.drop_left]
      simp [encL]
    obtain ⟨h3, h4⟩ := decode_sign h2 h1
    refine ⟨h3, h4, by rw [encL_snoc, List.length_append], h1, ?_⟩
    unfold sgn at h1
    omega
  have HL : Hid (∀ dn rs, ns = dn ++ rs → (dn.flatMap iriS).length ≤ 6 * s.size ∧ (rs = [] → (encL dn).length = s.size)) := hid fun dn rs e => by
    have h1 := flatS_len iriS_len dn
    have h2 : (encL dn).length ≤ s.size := by rw [hsz, e, encL_app, List.length_append]; omega
    refine ⟨by omega, fun h => ?_⟩
    rw [hsz, e, h, List.append_nil]
  have HR := hid raw_any
  have hlen' := hid hlen
  have hge := h.only.size
  clear hen hsg hns hsz h hv
  go_enter Tryz.func49, Tryz.ntmps49
  go_wp2_with (go_at_call 50; refine HP1.out.mono ?_; rintro e w2 ⟨rfl, HX⟩)
  have hle2 : w.heap.size ≤ w2.heap.size := HX.out.2.size
  go_loopg [] ns.length (fun gf wx => ∃ dn rs : List Nat, Hid (ns = dn ++ rs) ∧ wx.heap[w2.heap.size]? = some (.stringIter s (encL dn).length) ∧ WrE w0 w b (l ++ 60 :: dn.flatMap iriS) wx ∧ rs.length ≤ gf)
  case atStart =>
    refine ⟨[], ns, hid rfl, World.iter_heap w2 s 0, hid ⟨HX.out.1.only_of ((Only.refl _ w2).alloc _), HX.out.2.alloc _⟩, Nat.le_refl _⟩
  case round =>
    obtain ⟨dn, rs, hd, hit, HY, hfu⟩ := hrel
    clear HX
    cases rs with
    | nil =>
      have hend := (HL.out dn [] hd.out).2 rfl
      have hnx : ∀ ty, (Instr.next (.pointer (some ⟨w2.heap.size, 0, none⟩)) true ty).run Tryz.prog wr = _ := fun ty => Lib.run_next_end_at wr w2.heap.size s _ ty hit (by omega)
      have HP3 : Hid (Calls Tryz.prog 50 #[.pointer (some ⟨b, 0, none⟩), .slice (some ⟨wr.heap.size, 0, none⟩) 1 1] (wr.alloc (.cells #[.string { data := #[62] }] 9)) fun e w' => e = .returned (.tuple #[]) ∧ WrE w0 wr b ((l ++ 60 :: dn.flatMap iriS) ++ [62]) w') := hid (pieces_new (ss := [{ data := #[62] }]) HY.out.1 rfl rfl (by decide) (by
        have := (HL.out dn [] hd.out).1
        have := hlen'.out
        rw [List.flatMap_cons, bl_lit1]
        simp only [List.length_append, List.length_cons, List.length_nil, List.flatMap_nil]
        omega))
      have hdn : dn = ns := by have := hd.out; rw [List.append_nil] at this; exact this.symm
      have HF : Hid ((l ++ 60 :: dn.flatMap iriS) ++ [62] = l ++ 60 :: (iriB (bl s) ++ [62])) := hid (by rw [HE.out, hdn]; simp)
      rw [HF.out] at HP3
      clear hdn hend hit hd hfu HE HF HL HS HR
      go_wp2_with (go_at_call 50; refine HP3.out.mono ?_; rintro e w3 ⟨rfl, HZ⟩)
      go_end0
      exact ⟨rfl, hid ⟨HZ.out.1, HY.out.2.trans HZ.out.2⟩⟩
    | cons n rs =>
      obtain ⟨hdec, hlt, hnl, hs, hmx⟩ := HS.out dn n rs hd.out
      have hnx : ∀ ty, (Instr.next (.pointer (some ⟨w2.heap.size, 0, none⟩)) true ty).run Tryz.prog wr = _ := fun ty => Lib.run_next_any_at wr w2.heap.size s _ ty hit hlt
      rw [hdec] at hnx
      simp only at hnx
      have hit2 := Lib.iterAt_heap wr w2.heap.size s _ ((encL dn).length + (encN n).length) hit
      rw [← hnl] at hit2 hnx
      have HY2 : WrE w0 w b (l ++ 60 :: dn.flatMap iriS) (wr.iterAt w2.heap.size s (encL (dn ++ [n])).length) := hid ⟨HY.out.1.iterAt hit (by omega) _, Only.iterAt HY.out.2 (by omega) s _⟩
      generalize wr.iterAt w2.heap.size s (encL (dn ++ [n])).length = W at *
      have hlen2 : (l ++ 60 :: dn.flatMap iriS).length ≤ 140737488350001 := by
        have := (HL.out dn _ hd.out).1
        have := hlen'.out
        simp only [List.length_append, List.length_cons]
        omega
      have hd2 : Hid (ns = (dn ++ [n]) ++ rs) := hid (by rw [hd.out]; simp)
      have hflat : l ++ 60 :: (dn ++ [n]).flatMap iriS = (l ++ 60 :: dn.flatMap iriS) ++ iriS n := by simp
      obtain ⟨g', rfl⟩ : ∃ g', gk = g' + 1 := ⟨gk - 1, by simp at hfu; omega⟩
      have hfu2 : rs.length ≤ g' := by simp at hfu; omega
      have HRn := hid (HR.out (n : Int))
      obtain ⟨P, hP⟩ : ∃ P, (encL (dn ++ [n])).length = P := ⟨_, rfl⟩
      rw [hP] at hit2
      have HP := hid hP
      generalize (encL dn).length = p0 at *
      have hw64 : IntKind.i64.wrap (n : Int) = (n : Int) := by rw [IntKind.wrap_i64]; omega
      clear hdec hlt hnl hit HY hd hfu HE HL HS hP
      cases hr : rawZ (n : Int) with
      | true =>
        have hiS : iriS n = encN n := by unfold iriS; rw [if_pos hr]
        rw [hr] at HRn
        have HWr : Hid (∀ W3, WrE w0 w b (l ++ 60 :: dn.flatMap iriS) W3 → Calls Tryz.prog 80 #[.pointer (some ⟨b, 0, none⟩), .int .i32 (n : Int)] W3 fun e w' => (∃ v1, e = .returned v1) ∧ WrE w0 w b (l ++ 60 :: (dn ++ [n]).flatMap iriS) w' ∧ FrT Tw w0.heap.size W3 w') := hid fun W3 h3 => (writeRune_any h3.out.1 (by omega) (by omega) (by omega)).mono fun e w' h4 => by
          refine ⟨h4.1, hid ⟨?_, h3.out.2.trans h4.2.out.2⟩, h4.2.out.2⟩
          rw [hflat, hiS, ← encR_sign hs]
          exact h4.2.out.1
        clear hflat hiS hr hs hmx
        go_wp2_with (first
          | (go_at_call 79; refine (HRn.out _).mono ?_; rintro e w3 ⟨rfl, HO⟩; have HY3 : WrE w0 w b (l ++ 60 :: dn.flatMap iriS) w3 := hid ⟨HY2.out.1.only_of HO.out, HY2.out.2.trans (FrT.of_only HO.out)⟩; have hit3 := Only.iter HO.out hit2; clear HO hit2 HY2)
          | (go_at_call 80; refine (HWr.out _ HY3).mono ?_; rintro e w4 ⟨⟨v1, rfl⟩, HY4, hF⟩; have hit4 := FrT.iter hF hit3; clear HY3 hit3 hF))
        go_roundg g'
        case measure => omega
        case rel => exact ⟨dn ++ [n], rs, hd2, by rw [HP.out]; exact hit4, HY4, hfu2⟩
      | false =>
        have hlow := raw_low hs hr
        have hiS : iriS n = [92, 117, 48, 48, hexD (n / 16), hexD (n % 16)] := by unfold iriS; rw [if_neg (by rw [hr]; simp)]
        rw [hr] at HRn
        have HH1 : Hid (∀ W3, Calls Tryz.prog 81 #[.int .i32 ((n : Int) / 16)] W3 fun e w' => e = .returned (.string (strB [hexD (n / 16)])) ∧ W3 = w') := hid fun W3 => by
          have := hexa_any (n := n / 16) (by omega) W3
          rwa [show ((n / 16 : Nat) : Int) = (n : Int) / 16 by omega] at this
        have HH2 : Hid (∀ W3, Calls Tryz.prog 81 #[.int .i32 ((n : Int) % 16)] W3 fun e w' => e = .returned (.string (strB [hexD (n % 16)])) ∧ W3 = w') := hid fun W3 => by
          have := hexa_any (n := n % 16) (by omega) W3
          rwa [show ((n % 16 : Nat) : Int) = (n : Int) % 16 by omega] at this
        have HWr : Hid (∀ W3, WrE w0 w b (l ++ 60 :: dn.flatMap iriS) W3 → Calls Tryz.prog 50 #[.pointer (some ⟨b, 0, none⟩), .slice (some ⟨W3.heap.size, 0, none⟩) 3 3] (W3.alloc (.cells #[.string { data := #[92, 117, 48, 48] }, .string (strB [hexD (n / 16)]), .string (strB [hexD (n % 16)])] 9)) fun e w' => e = .returned (.tuple #[]) ∧ WrE w0 w b (l ++ 60 :: (dn ++ [n]).flatMap iriS) w' ∧ FrT Tw w0.heap.size W3 w') := hid fun W3 h3 => by
          have hfl : ([{ data := #[92, 117, 48, 48] }, strB [hexD (n / 16)], strB [hexD (n % 16)]] : List ByteArray).flatMap bl = iriS n := by
            rw [hiS]
            simp only [List.flatMap_cons, List.flatMap_nil, List.append_nil]
            rw [bl_hex _ (by omega), bl_hex _ (by omega)]
            rfl
          refine (pieces_new (n := 3) (ss := [{ data := #[92, 117, 48, 48] }, strB [hexD (n / 16)], strB [hexD (n % 16)]]) h3.out.1 rfl rfl (by omega) (by rw [hfl, hiS]; simp only [List.length_cons, List.length_nil] at hlen2 ⊢; omega)).mono fun e w' h4 => ?_
          rw [hfl] at h4
          refine ⟨h4.1, hid ⟨?_, h3.out.2.trans h4.2.out.2⟩, h4.2.out.2⟩
          rw [hflat]
          exact h4.2.out.1
        have hand : bits BinOp.and IntKind.i32 (n : Int) 15 = (n : Int) % 16 := and15 ⟨n, hlow⟩
        clear hflat hiS hr hs hmx
        go_wp2_with (first
          | (go_at_call 79; refine (HRn.out _).mono ?_; rintro e w3 ⟨rfl, HO⟩; have HY3 : WrE w0 w b (l ++ 60 :: dn.flatMap iriS) w3 := hid ⟨HY2.out.1.only_of HO.out, HY2.out.2.trans (FrT.of_only HO.out)⟩; have hit3 := Only.iter HO.out hit2; clear HO hit2 HY2)
          | (go_at_call 81; first
              | (with_reducible refine (HH1.out _).mono ?_; rintro e w5 ⟨rfl, rfl⟩)
              | (with_reducible refine (HH2.out _).mono ?_; rintro e w5 ⟨rfl, rfl⟩))
          | (go_at_call 50; refine (HWr.out _ HY3).mono ?_; rintro e w4 ⟨rfl, HY4, hF⟩; have hit4 := FrT.iter hF hit3; clear HY3 hit3 hF))
        go_roundg g'
        case measure => omega
        case rel => exact ⟨dn ++ [n], rs, hd2, by rw [HP.out]; exact hit4, HY4, hfu2⟩
set_option maxHeartbeats 2000000 in
theorem literal_any {w0 w : World} {b : Nat} {l : List Nat} {s : ByteArray} (h : WrS w0 w b l) (hv : vld (bl s) = true) (hlen : l.length + 6 * s.size ≤ 140737488350000) :
    Calls Tryz.prog 51 #[.pointer (some ⟨b, 0, none⟩), .string s] w fun e w' => e = .returned (.tuple #[]) ∧ WrE w0 w b (l ++ 34 :: (litB (bl s) ++ [34])) w' := by
  obtain ⟨hen, hsg⟩ := vld_enc (bl_bys s) hv
  obtain ⟨ns, hns⟩ : ∃ ns, (sgsL (bl s)).1 = ns := ⟨_, rfl⟩
  rw [hns] at hen hsg
  have hsz : s.size = (encL ns).length := by rw [← bl_len, hen]
  have HE : Hid (litB (bl s) = ns.flatMap litS) := hid (by rw [hen, litB_enc])
  have HP1 : Hid (Calls Tryz.prog 50 #[.pointer (some ⟨b, 0, none⟩), .slice (some ⟨w.heap.size, 0, none⟩) 1 1] (w.alloc (.cells #[.string { data := #[34] }] 9)) fun e w' => e = .returned (.tuple #[]) ∧ WrE w0 w b (l ++ [34]) w') := hid (pieces_new (ss := [{ data := #[34] }]) h rfl rfl (by decide) (by rw [List.flatMap_cons, bl_lit1]; simp; omega))
  have HS : Hid (∀ dn n rs, ns = dn ++ n :: rs → Utf8.decode s (encL dn).length = (n, (encN n).length) ∧ (encL dn).length < s.size ∧ (encL (dn ++ [n])).length = (encL dn).length + (encN n).length ∧ sgn n ∧ n ≤ 1114111) := hid fun dn n rs e => by
    have h1 : sgn n := hsg n (by rw [e]; simp)
    have h2 : (bl s).drop (encL dn).length = encN n ++ encL rs := by
      rw [hen, e, encL_app, List.drop_left]
      simp [encL]
    obtain ⟨h3, h4⟩ := decode_sign h2 h1
    refine ⟨h3, h4, by rw [encL_snoc, List.length_append], h1, ?_⟩
    unfold sgn at h1
    omega
  have HL : Hid (∀ dn rs, ns = dn ++ rs → (dn.flatMap litS).length ≤ 6 * s.size ∧ (rs = [] → (encL dn).length = s.size)) := hid fun dn rs e => by
    have h1 := flatS_len litS_len dn
    have h2 : (encL dn).length ≤ s.size := by rw [hsz, e, encL_app, List.length_append]; omega
    refine ⟨by omega, fun h => ?_⟩
    rw [hsz, e, h, List.append_nil]
  have hlen' := hid hlen
  have hge := h.only.size
  clear hen hsg hns hsz h hv
  go_enter Tryz.func51, Tryz.ntmps51
  go_wp2_with (go_at_call 50; refine HP1.out.mono ?_; rintro e w2 ⟨rfl, HX⟩)
  have hle2 : w.heap.size ≤ w2.heap.size := HX.out.2.size
  go_loopg [] ns.length (fun gf wx => ∃ dn rs : List Nat, Hid (ns = dn ++ rs) ∧ wx.heap[w2.heap.size]? = some (.stringIter s (encL dn).length) ∧ WrE w0 w b (l ++ 34 :: dn.flatMap litS) wx ∧ rs.length ≤ gf)
  case atStart =>
    refine ⟨[], ns, hid rfl, World.iter_heap w2 s 0, hid ⟨HX.out.1.only_of ((Only.refl _ w2).alloc _), HX.out.2.alloc _⟩, Nat.le_refl _⟩
  case round =>
    obtain ⟨dn, rs, hd, hit, HY, hfu⟩ := hrel
    clear HX
    cases rs with
    | nil =>
      have hend := (HL.out dn [] hd.out).2 rfl
      have hnx : ∀ ty, (Instr.next (.pointer (some ⟨w2.heap.size, 0, none⟩)) true ty).run Tryz.prog wr = _ := fun ty => Lib.run_next_end_at wr w2.heap.size s _ ty hit (by omega)
      have HP3 : Hid (Calls Tryz.prog 50 #[.pointer (some ⟨b, 0, none⟩), .slice (some ⟨wr.heap.size, 0, none⟩) 1 1] (wr.alloc (.cells #[.string { data := #[34] }] 9)) fun e w' => e = .returned (.tuple #[]) ∧ WrE w0 wr b ((l ++ 34 :: dn.flatMap litS) ++ [34]) w') := hid (pieces_new (ss := [{ data := #[34] }]) HY.out.1 rfl rfl (by decide) (by
        have := (HL.out dn [] hd.out).1
        have := hlen'.out
        rw [List.flatMap_cons, bl_lit1]
        simp only [List.length_append, List.length_cons, List.length_nil, List.flatMap_nil]
        omega))
      have hdn : dn = ns := by have := hd.out; rw [List.append_nil] at this; exact this.symm
      have HF : Hid ((l ++ 34 :: dn.flatMap litS) ++ [34] = l ++ 34 :: (litB (bl s) ++ [34])) := hid (by rw [HE.out, hdn]; simp)
      rw [HF.out] at HP3
      clear hdn hend hit hd hfu HE HF HL HS
      go_wp2_with (go_at_call 50; refine HP3.out.mono ?_; rintro e w3 ⟨rfl, HZ⟩)
      go_end0
      exact ⟨rfl, hid ⟨HZ.out.1, HY.out.2.trans HZ.out.2⟩⟩
    | cons n rs =>
      obtain ⟨hdec, hlt, hnl, hs, hmx⟩ := HS.out dn n rs hd.out
      have hnx : ∀ ty, (Instr.next (.pointer (some ⟨w2.heap.size, 0, none⟩)) true ty).run Tryz.prog wr = _ := fun ty => Lib.run_next_any_at wr w2.heap.size s _ ty hit hlt
      rw [hdec] at hnx
      simp only at hnx
      have hit2 := Lib.iterAt_heap wr w2.heap.size s _ ((encL dn).length + (encN n).length) hit
      rw [← hnl] at hit2 hnx
      have HY2 : WrE w0 w b (l ++ 34 :: dn.flatMap litS) (wr.iterAt w2.heap.size s (encL (dn ++ [n])).length) := hid ⟨HY.out.1.iterAt hit (by omega) _, Only.iterAt HY.out.2 (by omega) s _⟩
      generalize wr.iterAt w2.heap.size s (encL (dn ++ [n])).length = W at *
      have hlen2 : (l ++ 34 :: dn.flatMap litS).length ≤ 140737488350001 := by
        have := (HL.out dn _ hd.out).1
        have := hlen'.out
        simp only [List.length_append, List.length_cons]
        omega
      have hd2 : Hid (ns = (dn ++ [n]) ++ rs) := hid (by rw [hd.out]; simp)
      have hflat : l ++ 34 :: (dn ++ [n]).flatMap litS = (l ++ 34 :: dn.flatMap litS) ++ litS n := by simp
      obtain ⟨g', rfl⟩ : ∃ g', gk = g' + 1 := ⟨gk - 1, by simp at hfu; omega⟩
      have hfu2 : rs.length ≤ g' := by simp at hfu; omega
      obtain ⟨P, hP⟩ : ∃ P, (encL (dn ++ [n])).length = P := ⟨_, rfl⟩
      rw [hP] at hit2
      have HP := hid hP
      generalize (encL dn).length = p0 at *
      clear hdec hlt hnl hit HY hd hfu HE HL HS hP
      by_cases h34 : n = 34
      · subst h34
        have HWr : Hid (∀ W3, WrE w0 w b (l ++ 34 :: dn.flatMap litS) W3 → Calls Tryz.prog 50 #[.pointer (some ⟨b, 0, none⟩), .slice (some ⟨W3.heap.size, 0, none⟩) 1 1] (W3.alloc (.cells #[.string { data := #[92, 34] }] 9)) fun e w' => e = .returned (.tuple #[]) ∧ WrE w0 w b (l ++ 34 :: (dn ++ [34]).flatMap litS) w' ∧ FrT Tw w0.heap.size W3 w') := hid fun W3 h3 => by
          have hfl : ([{ data := #[92, 34] }] : List ByteArray).flatMap bl = litS 34 := by decide
          refine (pieces_new (n := 1) (ss := [{ data := #[92, 34] }]) h3.out.1 rfl rfl (by omega) (by rw [hfl, show (litS 34).length = 2 from rfl]; omega)).mono fun e w' h4 => ?_
          rw [hfl] at h4
          refine ⟨h4.1, hid ⟨?_, h3.out.2.trans h4.2.out.2⟩, h4.2.out.2⟩
          rw [hflat]
          exact h4.2.out.1
        clear hflat hs hmx
        go_wp2_with (go_at_call 50; refine (HWr.out _ HY2).mono ?_; rintro e w4 ⟨rfl, HY4, hF⟩; have hit4 := FrT.iter hF hit2; clear HY2 hit2 hF)
        go_roundg g'
        case measure => omega
        case rel => exact ⟨dn ++ [34], rs, hd2, by rw [HP.out]; exact hit4, HY4, hfu2⟩
      by_cases h92 : n = 92
      · subst h92
        have HWr : Hid (∀ W3, WrE w0 w b (l ++ 34 :: dn.flatMap litS) W3 → Calls Tryz.prog 50 #[.pointer (some ⟨b, 0, none⟩), .slice (some ⟨W3.heap.size, 0, none⟩) 1 1] (W3.alloc (.cells #[.string { data := #[92, 92] }] 9)) fun e w' => e = .returned (.tuple #[]) ∧ WrE w0 w b (l ++ 34 :: (dn ++ [92]).flatMap litS) w' ∧ FrT Tw w0.heap.size W3 w') := hid fun W3 h3 => by
          have hfl : ([{ data := #[92, 92] }] : List ByteArray).flatMap bl = litS 92 := by decide
          refine (pieces_new (n := 1) (ss := [{ data := #[92, 92] }]) h3.out.1 rfl rfl (by omega) (by rw [hfl, show (litS 92).length = 2 from rfl]; omega)).mono fun e w' h4 => ?_
          rw [hfl] at h4
          refine ⟨h4.1, hid ⟨?_, h3.out.2.trans h4.2.out.2⟩, h4.2.out.2⟩
          rw [hflat]
          exact h4.2.out.1
        clear hflat hs hmx
        go_wp2_with (go_at_call 50; refine (HWr.out _ HY2).mono ?_; rintro e w4 ⟨rfl, HY4, hF⟩; have hit4 := FrT.iter hF hit2; clear HY2 hit2 hF)
        go_roundg g'
        case measure => omega
        case rel => exact ⟨dn ++ [92], rs, hd2, by rw [HP.out]; exact hit4, HY4, hfu2⟩
      by_cases h10 : n = 10
      · subst h10
        have HWr : Hid (∀ W3, WrE w0 w b (l ++ 34 :: dn.flatMap litS) W3 → Calls Tryz.prog 50 #[.pointer (some ⟨b, 0, none⟩), .slice (some ⟨W3.heap.size, 0, none⟩) 1 1] (W3.alloc (.cells #[.string { data := #[92, 110] }] 9)) fun e w' => e = .returned (.tuple #[]) ∧ WrE w0 w b (l ++ 34 :: (dn ++ [10]).flatMap litS) w' ∧ FrT Tw w0.heap.size W3 w') := hid fun W3 h3 => by
          have hfl : ([{ data := #[92, 110] }] : List ByteArray).flatMap bl = litS 10 := by decide
          refine (pieces_new (n := 1) (ss := [{ data := #[92, 110] }]) h3.out.1 rfl rfl (by omega) (by rw [hfl, show (litS 10).length = 2 from rfl]; omega)).mono fun e w' h4 => ?_
          rw [hfl] at h4
          refine ⟨h4.1, hid ⟨?_, h3.out.2.trans h4.2.out.2⟩, h4.2.out.2⟩
          rw [hflat]
          exact h4.2.out.1
        clear hflat hs hmx
        go_wp2_with (go_at_call 50; refine (HWr.out _ HY2).mono ?_; rintro e w4 ⟨rfl, HY4, hF⟩; have hit4 := FrT.iter hF hit2; clear HY2 hit2 hF)
        go_roundg g'
        case measure => omega
        case rel => exact ⟨dn ++ [10], rs, hd2, by rw [HP.out]; exact hit4, HY4, hfu2⟩
      by_cases h13 : n = 13
      · subst h13
        have HWr : Hid (∀ W3, WrE w0 w b (l ++ 34 :: dn.flatMap litS) W3 → Calls Tryz.prog 50 #[.pointer (some ⟨b, 0, none⟩), .slice (some ⟨W3.heap.size, 0, none⟩) 1 1] (W3.alloc (.cells #[.string { data := #[92, 114] }] 9)) fun e w' => e = .returned (.tuple #[]) ∧ WrE w0 w b (l ++ 34 :: (dn ++ [13]).flatMap litS) w' ∧ FrT Tw w0.heap.size W3 w') := hid fun W3 h3 => by
          have hfl : ([{ data := #[92, 114] }] : List ByteArray).flatMap bl = litS 13 := by decide
          refine (pieces_new (n := 1) (ss := [{ data := #[92, 114] }]) h3.out.1 rfl rfl (by omega) (by rw [hfl, show (litS 13).length = 2 from rfl]; omega)).mono fun e w' h4 => ?_
          rw [hfl] at h4
          refine ⟨h4.1, hid ⟨?_, h3.out.2.trans h4.2.out.2⟩, h4.2.out.2⟩
          rw [hflat]
          exact h4.2.out.1
        clear hflat hs hmx
        go_wp2_with (go_at_call 50; refine (HWr.out _ HY2).mono ?_; rintro e w4 ⟨rfl, HY4, hF⟩; have hit4 := FrT.iter hF hit2; clear HY2 hit2 hF)
        go_roundg g'
        case measure => omega
        case rel => exact ⟨dn ++ [13], rs, hd2, by rw [HP.out]; exact hit4, HY4, hfu2⟩
      have hiS : litS n = encN n := by unfold litS; rw [if_neg h34, if_neg h92, if_neg h10, if_neg h13]
      have g34 : ((n : Int) == 34) = false := by rw [beq_eq_false_iff_ne]; omega
      have g92 : ((n : Int) == 92) = false := by rw [beq_eq_false_iff_ne]; omega
      have g10 : ((n : Int) == 10) = false := by rw [beq_eq_false_iff_ne]; omega
      have g13 : ((n : Int) == 13) = false := by rw [beq_eq_false_iff_ne]; omega
      have HWr : Hid (∀ W3, WrE w0 w b (l ++ 34 :: dn.flatMap litS) W3 → Calls Tryz.prog 80 #[.pointer (some ⟨b, 0, none⟩), .int .i32 (n : Int)] W3 fun e w' => (∃ v1, e = .returned v1) ∧ WrE w0 w b (l ++ 34 :: (dn ++ [n]).flatMap litS) w' ∧ FrT Tw w0.heap.size W3 w') := hid fun W3 h3 => (writeRune_any h3.out.1 (by omega) (by omega) (by omega)).mono fun e w' h4 => by
        refine ⟨h4.1, hid ⟨?_, h3.out.2.trans h4.2.out.2⟩, h4.2.out.2⟩
        rw [hflat, hiS, ← encR_sign hs]
        exact h4.2.out.1
      clear hflat hiS hs hmx h34 h92 h10 h13
      go_wp2_with (go_at_call 80; refine (HWr.out _ HY2).mono ?_; rintro e w4 ⟨⟨v1, rfl⟩, HY4, hF⟩; have hit4 := FrT.iter hF hit2; clear HY2 hit2 hF)
      go_roundg g'
      case measure => omega
      case rel => exact ⟨dn ++ [n], rs, hd2, by rw [HP.out]; exact hit4, HY4, hfu2⟩
end Go.Proofs.YtefcnaccemefnaaGreatDoor
