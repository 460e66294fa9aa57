/- grown: lengths of a tree, as numbers choose. -/
import Derived.Test.YtfongdnehfphmaaTkB
namespace Go.Proofs.Ytfongdnehfphmaa
open Go.RowKit

theorem OwI.of_row {w0 w : World} {g cap n : Nat} {zs : List Int} {F : Nat → Value} (hr : w.rowIs g 3 cap F) (hF : ∀ j, j < n → F j = vI zs j) (hn : zs.length = n) (hle : n ≤ cap) (hc : cap ≤ maxLen) (hg : w0.heap.size ≤ g) (ho : Only (fun _ => False) w0 w) : OwI w0 w (.slice (some ⟨g, 0, none⟩) n cap) zs := by
  subst hn
  refine ⟨?_, ho⟩
  rw [← vals_mapI]
  exact own_mk hg hr hF hle hc
theorem wpList_addP {ops : Array Oper} {rest : List Oper} {o : Oper} {a : Act} {Q : Exit → Act → World → Prop} (w0 w : World) (hgd : o.guard = none) (s x : Operand)
    (hop : o.op = Op.call { callee := Callee.builtin Builtin.append, args := #[s, x], argTypes := #[48, 48] })
    (v : Value) (xs : List (Int × Int)) (hs : a.eval s = v) (h : Hid (OwP w0 w v xs)) (ad : Addr) (m c : Nat) (ys : List (Int × Int)) (hx : a.eval x = .slice (some ad) m c) (hm : m = ys.length) (hr : Hid (∀ j u, (pv ys)[j]? = some u → w.cell? (ad.add j) = some u)) (hb : xs.length + ys.length ≤ 1000000)
    (K : ∀ v' w', Hid (OwP w0 w' v' (xs ++ ys)) → Hid (∀ g n f, w.rowIs g 3 n f → w'.rowIs g 3 n f) → wpList Try.prog ops Q rest (a.put o.dst v') w') :
    wpList Try.prog ops Q (o :: rest) a w := by
  subst hm
  obtain ⟨i0, hi0, hz0, hz1, hz2⟩ := info_parts pairInfoK
  refine wpList_append_own_at w hgd s x 48 hop w0.heap.size 47 i0 _ 2 16 Try.underlying48 hi0 hz0 hz1 hz2 rfl (by omega) v xs.length _ hs h.out.own ad ys.length c (pv ys) hx (pv_len ys) hr.out (pv_one ys) (by unfold maxLen; omega) (by omega) h.out.only.size ?_
  intro v' w' hown hg _ _
  refine K v' w' (hid ⟨by rw [List.length_append, pv_app]; exact hown, h.out.only.grown hg fun k e => .inr ?_⟩) (hid fun g n f hrow => hrow.of_block (hg.block g hrow.lt fun e => ?_))
  · rcases h.out.own.2 with ⟨rfl, _⟩ | ⟨g, cap, cur, rfl, hge, _⟩
    · cases e
    · simp [Value.ownBlock] at e; omega
  · rcases h.out.own.2 with ⟨rfl, _⟩ | ⟨b, cap, cur, rfl, hge, hh, _⟩
    · cases e
    · simp [Value.ownBlock] at e
      subst e
      obtain ⟨c2, hb2, _, _⟩ := hrow
      rw [hh] at hb2
      injection hb2 with hb2
      injection hb2 with _ ht
      exact absurd ht (by decide)
theorem pairs4 (w : World) (a b c d : Int) (t : TypeId) : ∀ j u, (pv [(a, b), (c, d)])[j]? = some u → (w.alloc (.cells #[.int .i64 a, .int .i64 b, .int .i64 c, .int .i64 d] t)).cell? ((⟨w.heap.size, 0, none⟩ : Addr).add j) = some u := by
  intro j u hu
  match j, hu with
  | 0, hu => simp [pv, iv] at hu; subst hu; simp [Addr.add]
  | 1, hu => simp [pv, iv] at hu; subst hu; simp [Addr.add]
  | 2, hu => simp [pv, iv] at hu; subst hu; simp [Addr.add]
  | 3, hu => simp [pv, iv] at hu; subst hu; simp [Addr.add]
  | j + 4, hu => simp [pv] at hu
theorem GR.cut {w wr w' : World} {gO n : Nat} {A : Option Addr} {q c : Nat} {m : Nat} {d : Int} {r : List (Nat × Int)} {t : List Int} {k a b cu : Nat} {v' : Value} (h : GR w wr gO n A (q + 1) c ((m, d) :: r) t k) (ha : a = tot r) (hb : b = a + m) (h1 : a < cu) (h2 : cu < b)
    (hr : OwP w w' v' (pos r ++ [((a : Int), (cu : Int)), ((cu : Int), (b : Int))])) (ho : w'.rowIs gO 3 n (fun j => .int .i64 (upF (fun j => (outL ((m, d) :: r) t).getD j 0) a b j))) : ∃ A' c' L, v' = .slice A' (q + 2) c' ∧ GR w w' gO n A' (q + 2) c' L t (k + 1) := by
  obtain ⟨m1, rfl⟩ : ∃ m1, cu = a + m1 := ⟨cu - a, by omega⟩
  obtain ⟨m2, rfl⟩ : ∃ m2, m = m1 + m2 := ⟨b - (a + m1), by omega⟩
  subst ha
  subst hb
  obtain ⟨A', c', rfl⟩ := hr.shape
  have hq : (pos r ++ [(((tot r : Nat) : Int), ((tot r + m1 : Nat) : Int)), (((tot r + m1 : Nat) : Int), ((tot r + (m1 + m2) : Nat) : Int))]).length = q + 2 := by
    have := h.many
    simp at this
    simp [pos_len, this]
  rw [hq] at hr ⊢
  refine ⟨A', c', _, rfl, h.parts (by omega) (by omega) ?_ ho⟩
  have e : pos ((m2, d + 1) :: (m1, d + 1) :: r) = pos r ++ [(((tot r : Nat) : Int), ((tot r + m1 : Nat) : Int)), (((tot r + m1 : Nat) : Int), ((tot r + (m1 + m2) : Nat) : Int))] := by
    simp only [pos, tot, List.append_assoc, List.cons_append, List.nil_append]
    have e1 : m1 + tot r = tot r + m1 := Nat.add_comm _ _
    have e2 : m1 + tot r + m2 = tot r + (m1 + m2) := by omega
    rw [e2, e1]
  rw [e]
  exact hr
theorem wrap_cut (a k : Nat) (h1 : a ≤ 1000) (h2 : k ≤ 1000) : IntKind.i64.wrap (IntKind.i64.wrap ((a : Int) + 1) + (k : Int)) = ((a + 1 + k : Nat) : Int) := by rw [IntKind.wrap_i64, IntKind.wrap_i64]; omega
/-- What grown answers. -/
def GrownE (n : Nat) (w : World) (e : Ending) (w' : World) : Prop :=
  ∃ l B c, e = .returned (.slice B n c) ∧ Hid (l.length = n) ∧ Hid (if n = 1 then l = [1] else Tr 0 l) ∧ Hid (OwI w w' (.slice B n c) l)

set_option maxRecDepth 100000 in
set_option maxHeartbeats 8000000 in
theorem grown_any (n : Nat) {A : Option Addr} {cap : Nat} {cs : List Int} {w : World} (hz : RdI w A cs) (hi : InI cs) (hl : cs.length ≤ 1000000) (h1 : 1 ≤ n) (hn : n ≤ 300) :
    Calls Try.prog 19 #[.int .i64 (n : Int), .slice A cs.length cap] w (GrownE n w) := by
  by_cases hone : n = 1
  · subst hone
    have HE : Hid (GrownE 1 w (.returned (.slice (some ⟨w.heap.size, 0, none⟩) 1 1)) (w.alloc (.cells #[.int .i64 1] 3))) := hid (by
      have hr := rd_oneI w 1
      have hrow := World.rowIs_alloc w #[.int .i64 1] 3 (vI [1]) (fun i hi => by
        match i, hi with
        | 0, _ => rfl
        | i + 1, hi => exact absurd (show i + 1 < 1 from hi) (by omega))
      exact ⟨[1], _, _, rfl, hid rfl, hid rfl, hid (OwI.of_row hrow (fun j _ => rfl) rfl (Nat.le_refl _) (by unfold maxLen; decide) (Nat.le_refl _) ((Only.refl _ w).alloc _))⟩)
    go_enter Try.func19, Try.ntmps19
    go_wp2_with fail
    go_ret
    exact HE.out
  · have hone' : ¬ (n : Int) ≤ 1 := by omega
    have hmk := fun W => run_make_row' (P := Try.prog) 22 3 (.int .i64 0) 8 Try.underlying22 intInfoK rfl .i64 .i64 n (by omega) (by omega) W
    have HZ : Hid (RdV w A cs.length (vI cs)) := hid hz
    have HI := hid hi
    clear hz hi
    obtain ⟨N, hN⟩ : ∃ N, N = cs.length := ⟨_, rfl⟩
    have HN := hid hN
    rw [← hN] at hl HZ ⊢
    clear hN
    go_enter Try.func19, Try.ntmps19
    go_wp2_with fail
    have HS : Hid (GR w ((w.alloc (.cells (madeCells #[.int .i64 0] n) 3)).alloc (.cells #[.int .i64 0, .int .i64 (n : Int)] 47)) w.heap.size n (some ⟨w.heap.size + 1, 0, none⟩) 1 1 [(n, 0)] [] 0) := hid (by
      refine GR.start (by omega) (((Only.refl (fun _ => False) _).alloc _).row (World.rowIs_made w _ _ _) no_) (Nat.le_refl _) ⟨⟨rfl, .inr ⟨w.heap.size + 1, 1, #[.int .i64 0, .int .i64 (n : Int)], rfl, Nat.le_succ _, ?_, Nat.le_refl _, by unfold maxLen; decide, rfl, rfl⟩⟩, ((Only.refl _ w).alloc _).alloc _⟩
      have := heap_alloc_new (w.alloc (.cells (madeCells #[.int .i64 0] n) 3)) (.cells #[.int .i64 0, .int .i64 (n : Int)] 47)
      simpa using this)
    clear hmk
    go_loopw [6, 7] (fun v s wr => ∃ (k q c : Nat) (B : Option Addr) (L : List (Nat × Int)) (t : List Int), v = .slice B q c ∧ s = .int .i64 k ∧ Hid (GR w wr w.heap.size n B q c L t k)) (fun _ s _ => 2 * n - (intOf s).toNat)
    case atStart => exact ⟨0, 1, 1, _, _, _, rfl, rfl, HS⟩
    case round =>
      obtain ⟨k, q, c, B, L, t, rfl, rfl, HG⟩ := hrel
      clear HS
      cases L with
      | nil =>
        obtain rfl : q = 0 := HG.out.many.symm
        have HE : Hid (GrownE n w (.returned (.slice (some ⟨w.heap.size, 0, none⟩) n n)) wr) := hid (by
          have h := HG.out
          have ht : t.length = n := by have := h.len; simp [tot] at this; exact this
          exact ⟨t, _, _, rfl, hid ht, hid (by rw [if_neg hone]; exact h.jj), hid (OwI.of_row h.out (fun j _ => rfl) ht (Nat.le_refl _) (by unfold maxLen; omega) h.ge h.rows.only)⟩)
        clear HG
        go_wp2_with fail
        go_ret
        exact HE.out
      | cons p r =>
        obtain ⟨m, d⟩ := p
        obtain ⟨q2, rfl⟩ : ∃ q2, q = q2 + 1 := ⟨r.length, by have := HG.out.many; simp at this; omega⟩
        have hb := HG.out.bound
        have hfew := HG.out.few
        have hrl : (pos r).length = q2 := by rw [pos_len]; have := HG.out.many; simp at this; omega
        obtain ⟨g, rfl, cx, cy, hqc, hcm⟩ := OwP.top (ps := pos r) HG.out.rows hrl
        have hlt := cell_lt cx
        have hkb := hb.1
        have htb := hb.2.1
        have hm1 := hb.2.2
        clear hb
        unfold maxLen at hcm
        obtain ⟨a, ha⟩ : ∃ a, a = tot r := ⟨_, rfl⟩
        rw [← ha] at cx cy htb
        have Ha := hid ha
        clear ha
        by_cases hm : m = 1
        · subst hm
          have hlong : (a : Int) + 1 - (a : Int) < 2 := by omega
          have HN2 : Hid (∀ o, GR w (wr.alloc o) w.heap.size n (some ⟨g, 0, none⟩) q2 c r (d :: t) (k + 1)) := hid fun o => HG.out.single ((Only.refl _ wr).alloc o)
          clear HG hrl
          go_wp2_with fail
          go_roundw
          case rel => exact ⟨k + 1, q2, c, _, r, d :: t, rfl, by go_num, HN2.out _⟩
          case measure => simp [intOf]; omega
        · have hlong : ¬ (a : Int) + (m : Int) - (a : Int) < 2 := by omega
          obtain ⟨b, hb⟩ : ∃ b, b = a + m := ⟨_, rfl⟩
          have hbn : b ≤ n := by omega
          have hab : a + 2 ≤ b := by omega
          have Hb := hid hb
          rw [← hb] at cy
          have hlong' : ¬ (b : Int) - (a : Int) < 2 := by omega
          clear hlong hb
          go_upto_region 12 with fail
          have HT1 : Hid (Two (wr.alloc (.cells #[.int .i64 (a : Int), .int .i64 (b : Int)] 47)) wr.heap.size 47 (.int .i64 (a : Int)) (.int .i64 (b : Int))) := hid (row_two _ _ _ _)
          have HO1 : StO wr (wr.alloc (.cells #[.int .i64 (a : Int), .int .i64 (b : Int)] 47)) := hid ((Only.refl _ wr).alloc _)
          have HOut : Hid ((wr.alloc (.cells #[.int .i64 (a : Int), .int .i64 (b : Int)] 47)).rowIs w.heap.size 3 n (fun j => .int .i64 (upF (fun j => (outL ((m, d) :: r) t).getD j 0) a a j))) := hid (by rw [upF_start]; exact HO1.out.row HG.out.out no_)
          have HRw : Hid (OwP w (wr.alloc (.cells #[.int .i64 (a : Int), .int .i64 (b : Int)] 47)) (.slice (some ⟨g, 0, none⟩) q2 c) (pos r)) := hid ((HG.out.rows.pop hrl).same HO1.out)
          have Hb8 : Hid (wr.heap.size ≠ w.heap.size) := hid (fun e => by have := HG.out.out.lt; omega)
          obtain ⟨w1, hw1⟩ : ∃ w1, w1 = wr.alloc (.cells #[.int .i64 (a : Int), .int .i64 (b : Int)] 47) := ⟨_, rfl⟩
          rw [← hw1] at HT1 HO1 HOut HRw ⊢
          clear hw1
          have HBd : Hid (∀ j, 0 ≤ (outL ((m, d) :: r) t).getD j 0 ∧ (outL ((m, d) :: r) t).getD j 0 ≤ (k : Int)) := hid HG.out.bd
          obtain ⟨F, hF⟩ : ∃ F : Nat → Int, F = fun j => (outL ((m, d) :: r) t).getD j 0 := ⟨_, rfl⟩
          have HF := hid hF
          rw [← hF] at HOut
          have HBd2 : Hid (∀ j, 0 ≤ F j ∧ F j ≤ (k : Int)) := hid (by rw [hF]; exact HBd.out)
          clear hF HBd
          generalize wr.heap.size = b8 at *
          clear cx cy hlt
          have d0 := HT1.out.c0
          go_wp2_with fail
          clear d0
          obtain ⟨wo, rfl⟩ : ∃ wo : World, wo = wr := ⟨_, rfl⟩
          go_loopw [10] (fun s w2 => ∃ i : Nat, a ≤ i ∧ i ≤ b ∧ s = .int .i64 i ∧ Hid (w2.rowIs w.heap.size 3 n (fun j => .int .i64 (upF F a i j))) ∧ Hid (Only (fun c => c = w.heap.size) w1 w2)) (fun s _ => b - (intOf s).toNat)
          case atStart => exact ⟨a, by omega, by omega, rfl, HOut, hid (Only.refl _ _)⟩
          case round =>
            obtain ⟨i, hai, hib, rfl, HU, HO2⟩ := hrel
            have d1 := (HT1.out.only HO2.out Hb8.out).c1
            by_cases hp : i < b
            · have cc : wr.cell? ⟨w.heap.size, i, none⟩ = some (.int .i64 (F i)) := by
                rw [HU.out.cell (by omega)]
                unfold upF
                rw [if_neg (by omega)]
              have fc := HU.out.frozen i
              have lt := HU.out.lt
              have hFi := HBd2.out i
              have HN2 : Hid (∀ x, x = F i + 1 → (wr.setCell ⟨w.heap.size, i, none⟩ (.int .i64 x)).rowIs w.heap.size 3 n (fun k => .int .i64 (upF F a (i + 1) k))) := hid fun x hx => upF_step hai HU.out hx
              have HN3 : Hid (∀ x : Value, Only (fun c => c = w.heap.size) w1 (wr.setCell ⟨w.heap.size, i, none⟩ x)) := hid fun x => HO2.out.setCell (p := ⟨w.heap.size, i, none⟩) (.inl rfl) x
              clear HU HO2 HOut
              generalize F i = z at *
              go_wp2_with fail
              go_roundw
              case rel => exact ⟨i + 1, by omega, by omega, by go_num, hid (HN2.out _ (by omega)), hid (HN3.out _)⟩
              case measure => simp [intOf]; omega
            · obtain rfl : i = b := by omega
              have d0 := (HT1.out.only HO2.out Hb8.out).c0
              have HP2 : Hid (OwP w wr (.slice (some ⟨g, 0, none⟩) q2 c) (pos r)) := hid (HRw.out.carry HOut.out HO2.out (Nat.le_refl _))
              clear HRw HOut
              go_upto_if 62 with fail
              obtain ⟨wi, rfl⟩ : ∃ wi : World, wi = wr := ⟨_, rfl⟩
              go_cut [11] from 62 to 76 (fun s11 wx => ∃ cu : Nat, s11 = .int .i64 cu ∧ a < cu ∧ cu < i ∧ StO wi wx)
              case first =>
                have HOw := hid HP2.out.only
                clear HP2 HU HO2 HG
                by_cases hN0 : N = 0
                · have hN0' : ¬ (0 : Int) < (N : Int) := by omega
                  clear hN0
                  go_wp2_with fail
                  go_meet
                  case rel => exact ⟨a + 1, by go_num, by omega, by omega, hid (Only.refl _ _)⟩
                · have hN0' : (0 : Int) < (N : Int) := by omega
                  obtain ⟨z, hz⟩ : ∃ z, z = k % N := ⟨_, rfl⟩
                  have hzN : z < N := by rw [hz]; exact Nat.mod_lt _ (by omega)
                  have hz1 : (k : Int).tmod (N : Int) = (z : Int) := by rw [Int.tmod_eq_emod_of_nonneg (by omega), hz]; omega
                  have hz2 : (k : Int) % (N : Int) = (z : Int) := by rw [hz]; omega
                  obtain ⟨bz, off, hA, hc, _⟩ := (HZ.out.only HOw.out fun _ _ _ => no_).at hzN
                  unfold vI at hc
                  subst hA
                  have hxb := HI.out (cs.getD z 0) (getD_mem (by rw [← HN.out]; exact hzN))
                  generalize cs.getD z 0 = x at hc hxb
                  have hbz1 : (0 : Int) ≤ (z : Int) := by omega
                  have hbz2 : (z : Int) < (N : Int) := by omega
                  have hwi : IntKind.i64.wrap ((i : Int) - (a : Int) - 1) = (i : Int) - (a : Int) - 1 := by rw [IntKind.wrap_i64]; omega
                  have hwz : IntKind.i64.wrap (z : Int) = (z : Int) := by rw [IntKind.wrap_i64]; omega
                  have HPk : Hid (∀ u, Calls Try.prog 20 #[.int .i64 x, .int .i64 ((i : Int) - (a : Int) - 1)] u (PickI u ((i : Int) - (a : Int) - 1))) := hid fun u => pick_any x _ u (by omega) (by omega) hxb.1 hxb.2
                  clear hz HZ
                  go_wp2_with fail
                  go_region_held3 (fun w' => w'.cell? ⟨b8, 0, none⟩ = some (.int .i64 (a : Int)) ∧ w'.cell? ⟨bz, off + z, none⟩ = some (.int .i64 x) ∧ StO wi w')
                    (first | assumption | exact ⟨d0, hc, hid (Only.refl _ _)⟩ | exact ⟨d0, hc, hid (Only.refl _ _).drew⟩ | exact ⟨by assumption, by assumption, by assumption⟩)
                    (first | (go_at_call 20; refine (HPk.out _).mono ?_; rintro e w' ⟨kk, rfl, hkk, rfl⟩))
                  have hcw := wrap_cut a kk (by omega) (by omega)
                  rw [hcw]
                  clear hcw
                  go_wp2_with fail
                  go_meet
                  case rel => exact ⟨a + 1 + kk, rfl, by omega, by omega, hid (Only.refl _ _).drew⟩
              case rest =>
                obtain ⟨cu, rfl, hc1, hc2, HOx⟩ := hcut
                have HT3 := hid ((HT1.out.only HO2.out Hb8.out).only HOx.out no_)
                have HP3 := hid (HP2.out.same HOx.out)
                have HU3 := hid (HOx.out.row HU.out no_)
                have HGc : Hid (∀ v' w', OwP w w' v' (pos r ++ [((a : Int), (cu : Int)), ((cu : Int), (i : Int))]) → w'.rowIs w.heap.size 3 n (fun j => .int .i64 (upF F a i j)) → ∃ A' c' L, v' = .slice A' (q2 + 2) c' ∧ GR w w' w.heap.size n A' (q2 + 2) c' L t (k + 1)) := hid fun v' w' h1 h2 => HG.out.cut Ha.out Hb.out hc1 hc2 h1 (by rw [HF.out] at h2; exact h2)
                clear HP2 HU HO2 HG HT1 HO1 HOx HBd2 HZ HI d0 d1
                have d0 := HT3.out.c0
                have d1 := HT3.out.c1
                go_wp2_with (at_builtin; (refine wpList_addP w _ rfl (.tmp 77) (.tmp 86) rfl _ (pos r) rfl (hid (HP3.out.same ((Only.refl _ _).alloc _))) _ 2 2 [((a : Int), (cu : Int)), ((cu : Int), (i : Int))] rfl rfl (hid (pairs4 _ _ _ _ _ _)) (by rw [hrl]; simp; omega) ?_); intro v' w' HPn HKn)
                obtain ⟨A', c', L', rfl, hgn⟩ := HGc.out _ _ HPn.out (HKn.out _ _ _ (((Only.refl (fun _ => False) _).alloc _).row HU3.out no_))
                have HGn := hid hgn
                clear hgn HPn HKn HGc HP3 HU3 HT3
                go_roundw
                case rel => exact ⟨k + 1, q2 + 2, c', A', L', t, rfl, by go_num, HGn⟩
                case measure => simp [intOf]; omega
end Go.Proofs.Ytfongdnehfphmaa
