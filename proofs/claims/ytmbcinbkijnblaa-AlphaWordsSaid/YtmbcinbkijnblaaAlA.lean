/- Make; the calls that only look. -/
import Derived.Test.YtmbcinbkijnblaaAl9
import Derived.Test.YtmbcinbkijnblaaTkE
namespace Go.Proofs.Ytmbcinbkijnblaa
open Go.RowKit

/-- The number at a place may stand there. -/
def sgAt (zs : List Int) (k : Nat) : Bool := isSg (zs.getD k 0) && (decide (k = 0) || decide (zs.getD (k - 1) 0 < zs.getD k 0))
def areSg (zs : List Int) : Bool := (List.range zs.length).all (sgAt zs)
theorem areSg_false {zs : List Int} {k : Nat} (hk : k < zs.length) (h : sgAt zs k = false) : areSg zs = false := by
  unfold areSg
  rw [List.all_eq_false]
  exact ⟨k, by simpa using hk, by simp [h]⟩
theorem areSg_true {zs : List Int} (h : ∀ k, k < zs.length → sgAt zs k = true) : areSg zs = true := by
  unfold areSg
  rw [List.all_eq_true]
  intro k hk
  exact h k (by simpa using hk)
theorem areSg_at {zs : List Int} (h : areSg zs = true) {k : Nat} (hk : k < zs.length) : sgAt zs k = true := by
  unfold areSg at h
  rw [List.all_eq_true] at h
  exact h k (by simpa using hk)
def natS (zs : List Int) : List Nat := zs.map Int.toNat
theorem areSg_get {zs : List Int} (h : areSg zs = true) {k : Nat} (hk : k < zs.length) : 0 ≤ zs.getD k 0 ∧ zs.getD k 0 < 257 := by
  have := areSg_at h hk
  unfold sgAt isSg at this
  simp at this
  simp [List.getD]
  omega
theorem natS_get {zs : List Int} {k : Nat} (hk : k < zs.length) : (natS zs).getD k 0 = (zs.getD k 0).toNat := by simp [natS, List.getD, hk]
theorem natS_back {zs : List Int} (h : areSg zs = true) : (natS zs).map (fun s => ((s : Nat) : Int)) = zs := by
  apply List.ext_getElem?
  intro k
  by_cases hk : k < zs.length
  · have := (areSg_get h hk).1
    simp only [List.getD, List.getElem?_eq_getElem hk, Option.getD_some] at this
    simp [natS, hk]
    omega
  · rw [List.getElem?_eq_none (by simp [natS]; omega), List.getElem?_eq_none (by omega)]
theorem rise_lt {f : Nat → Nat} {n : Nat} (h : ∀ k, 0 < k → k < n → f (k - 1) < f k) : ∀ j i, i < j → j < n → f i < f j
  | 0, i, hi, _ => by omega
  | j + 1, i, hi, hj => by
    have h1 := h (j + 1) (by omega) hj
    rw [Nat.add_sub_cancel] at h1
    by_cases e : i = j
    · subst e; exact h1
    · exact Nat.lt_trans (rise_lt h j i (by omega) (by omega)) h1
theorem natS_ok {zs : List Int} (h : areSg zs = true) : SgOk (natS zs) := by
  have hl : (natS zs).length = zs.length := by simp [natS]
  refine ⟨fun i j hij hj => ?_, fun i hi => ?_⟩
  · rw [hl] at hj
    refine rise_lt (f := fun k => (natS zs).getD k 0) (n := zs.length) (fun k hk0 hk => ?_) j i hij hj
    show (natS zs).getD (k - 1) 0 < (natS zs).getD k 0
    rw [natS_get hk, natS_get (by omega)]
    have h1 := areSg_get h hk
    have h2 := areSg_get h (k := k - 1) (by omega)
    have h3 := areSg_at h hk
    unfold sgAt at h3
    rw [Bool.and_eq_true, Bool.or_eq_true] at h3
    have h4 := h3.2
    simp only [decide_eq_true_eq] at h4
    omega
  · rw [hl] at hi
    rw [natS_get hi]
    have := areSg_get h hi
    omega
set_option maxHeartbeats 1000000 in
theorem areSigns_any {A : Option Addr} {c : Nat} {zs : List Int} {w : World} (hz : RdI w A zs) (hl : zs.length ≤ 9223372036854775807) :
    Calls Try.prog 50 #[.slice A zs.length c] w fun e w' => e = .returned (.bool (areSg zs)) ∧ w = w' := by
  have HZ : Hid (∀ k, k < zs.length → ∃ b off, A = some ⟨b, off, none⟩ ∧ w.cell? ⟨b, off + k, none⟩ = some (.int .i64 (zs.getD k 0))) := hid fun k hk => by
    obtain ⟨b, off, e, h, _⟩ := hz.at hk
    exact ⟨b, off, e, h⟩
  have HF := hid fun k hk h => areSg_false (zs := zs) (k := k) hk h
  have HT := hid fun h => areSg_true (zs := zs) h
  have HI := hid fun z => isSign_any z w
  clear hz
  generalize zs.length = n at *
  go_enter Try.func50, Try.ntmps50
  go_wp2_with fail
  go_loopw [7] (fun s wr => ∃ k : Nat, k ≤ n ∧ s = .int .i64 (k : Int) ∧ wr = w ∧ Hid (∀ i, i < k → sgAt zs i = true)) (fun s _ => n - (intOf s).toNat)
  case atStart => exact ⟨0, by omega, rfl, rfl, hid fun i hi => absurd hi (Nat.not_lt_zero i)⟩
  case round =>
    obtain ⟨k, hk, rfl, rfl, HP⟩ := hrel
    by_cases hp : k < n
    · have hp' : (k : Int) < (n : Int) := by omega
      obtain ⟨b, off, rfl, hc⟩ := HZ.out k hp
      have HIk := hid (HI.out (zs.getD k 0))
      have hat : sgAt zs k = (isSg (zs.getD k 0) && (decide (k = 0) || decide (zs.getD (k - 1) 0 < zs.getD k 0))) := rfl
      cases hsg : isSg (zs.getD k 0) with
      | false =>
        have HR := hid (HF.out k hp (by rw [hat, hsg]; rfl))
        rw [hsg] at HIk
        generalize zs.getD k 0 = z at *
        clear hat hsg
        go_wp2_with (go_at_call 74; refine HIk.out.mono ?_; rintro e w' ⟨rfl, rfl⟩)
        go_ret
        exact ⟨by rw [HR.out]; rfl, rfl⟩
      | true =>
        rw [hsg] at HIk hat
        by_cases hk0 : k = 0
        · subst hk0
          rw [Nat.add_zero] at hc
          have HP1 : Hid (∀ i, i < 0 + 1 → sgAt zs i = true) := hid fun i hi => by
            obtain rfl : i = 0 := by omega
            rw [hat]; rfl
          generalize zs.getD 0 0 = z at *
          clear hat hsg
          go_wp2_with (go_at_call 74; refine HIk.out.mono ?_; rintro e w' ⟨rfl, rfl⟩)
          go_roundw
          case rel => exact ⟨0 + 1, by omega, by go_num, (by first | rfl | trivial), HP1⟩
          case measure => simp [intOf]; omega
        · obtain ⟨b', off', e', hc2⟩ := HZ.out (k - 1) (by omega)
          injection e' with e'
          injection e' with e1 e2 _
          subst e1
          subst e2
          have hkw1 : IntKind.i64.wrap ((k : Int) - 1) = ((k - 1 : Nat) : Int) := by rw [IntKind.wrap_i64]; omega
          have hkw2 : (k : Int) - 1 = ((k - 1 : Nat) : Int) := by omega
          have hkp : (0 : Int) < (k : Int) := by omega
          have hj : k - 1 < n := by omega
          have hjn : ((k - 1 : Nat) : Int) < (n : Int) := by omega
          by_cases hlt : zs.getD (k - 1) 0 < zs.getD k 0
          · have HP1 : Hid (∀ i, i < k + 1 → sgAt zs i = true) := hid fun i hi => by
              by_cases e : i < k
              · exact HP.out i e
              · obtain rfl : i = k := by omega
                rw [hat]; simp only [Bool.true_and, Bool.or_eq_true, decide_eq_true_eq]; exact .inr hlt
            generalize zs.getD k 0 = z at *
            generalize zs.getD (k - 1) 0 = y at *
            generalize k - 1 = j at *
            have hle : ¬ z ≤ y := by omega
            clear hat hsg
            go_wp2_with (go_at_call 74; refine HIk.out.mono ?_; rintro e w' ⟨rfl, rfl⟩)
            go_roundw
            case rel => exact ⟨k + 1, by omega, by go_num, (by first | rfl | trivial), HP1⟩
            case measure => simp [intOf]; omega
          · have HR := hid (HF.out k hp (by rw [hat]; simp [hk0]; simpa [List.getD] using hlt))
            generalize zs.getD k 0 = z at *
            generalize zs.getD (k - 1) 0 = y at *
            generalize k - 1 = j at *
            have hle : z ≤ y := by omega
            clear hat hsg
            go_wp2_with (go_at_call 74; refine HIk.out.mono ?_; rintro e w' ⟨rfl, rfl⟩)
            go_ret
            exact ⟨by rw [HR.out]; rfl, rfl⟩
    · obtain rfl : k = n := by omega
      have HR := hid (HT.out HP.out)
      go_wp2_with fail
      go_ret
      exact ⟨by rw [HR.out]; rfl, rfl⟩
theorem WordsOf.short {ls : List Int} {ws : List (List Bool)} (h : WordsOf ls ws) (hf : Fit ls) {k : Nat} (hk : k < ws.length) : (wAt ws k).length ≤ 256 := by
  have h1 := h.length hk
  have h2 := h.len
  have h3 := hf.small (ls.getD k 0) (getD_mem (by omega))
  show (ws.getD k []).length ≤ 256
  omega
theorem fitB_no {ls : List Int} (h : ¬ Fit ls) : fitB ls = false := by
  cases e : fitB ls with
  | false => rfl
  | true => exact absurd (fitB_true.1 e) h
theorem own_base {w : World} {B B' n s : Nat} {e : TypeId} {v : Value} {xs : List Value} (h : w.ownsRow B e s v n xs) (hB : B' ≤ B) : w.ownsRow B' e s v n xs := by
  refine ⟨h.1, ?_⟩
  rcases h.2 with h | ⟨g, cap, cur, h1, h2, h3⟩
  · exact .inl h
  · exact .inr ⟨g, cap, cur, h1, Nat.le_trans hB h2, h3⟩
/-- What Make answers of signs and lengths that may be. -/
def CodeE (w : World) (sg : List Nat) (ls : List Int) (e : Ending) (w' : World) : Prop :=
  ∃ (g : Nat) (ws : List (List Bool)), e = .returned (.tuple #[.pointer (some ⟨g, 0, none⟩), .int .i64 0]) ∧ Hid (WordsOf ls ws ∧ w.heap.size ≤ g ∧ IsCode w.heap.size w' g sg ws) ∧ StO w w'
def NoCodeE (w : World) (c : Int) (e : Ending) (w' : World) : Prop := e = .returned (.tuple #[.pointer none, .int .i64 c]) ∧ StO w w'
set_option maxHeartbeats 1000000 in
theorem make_ok {A C : Option Addr} {n c1 c2 : Nat} {zs ls : List Int} {w : World} (hz : RdI w A zs) (hl : RdI w C ls) (hli : InI ls) (hn : n = zs.length) (hlen : zs.length = ls.length) (hc2 : ls.length ≤ c2) (h1 : areSg zs = true) (h2 : Fit ls) :
    Calls Try.prog 14 #[.slice A n c1, .slice C n c2] w (CodeE w (natS zs) ls) := by
  have hfew := h2.few
  obtain ⟨ws, hw⟩ := h2.words
  subst hn
  have HA : Hid (Calls Try.prog 50 #[.slice A zs.length c1] w fun e w' => e = .returned (.bool true) ∧ w = w') := hid (by
    have := areSigns_any (c := c1) hz (by omega)
    rwa [h1] at this)
  have HF : Hid (Calls Try.prog 43 #[.slice C zs.length c2] w fun e w' => e = .returned (.bool true) ∧ StO w w') := hid (by
    have := fits_of (c := c2) (n := zs.length) hl hli hlen (by omega)
    rwa [fitB_true.2 h2] at this)
  have HC : Hid (∀ W, StO w W → Calls Try.prog 51 #[.slice A zs.length c1, .slice C zs.length c2] W fun e w' => ∃ g : Nat, e = .returned (.pointer (some ⟨g, 0, none⟩)) ∧ Hid (w.heap.size ≤ g ∧ IsCode w.heap.size w' g (natS zs) ws ∧ Only (fun _ => False) W w')) := hid fun W hW => by
    have hz2 : RdI W A ((natS zs).map fun s => ((s : Nat) : Int)) := by rw [natS_back h1]; exact hz.only hW.out fun _ _ _ => no_
    have := codeOf_any (c1 := c1) hw (natS_ok h1) (by rw [← hlen]; simp [natS]) (by omega) (fun i hi => hw.short h2 hi) hz2 (hl.only hW.out fun _ _ _ => no_) hc2
    rw [← hlen] at this
    refine this.mono ?_
    rintro e w' ⟨g, he, hH⟩
    obtain ⟨q1, ⟨F, P, q2⟩, q3⟩ := hH.out
    refine ⟨g, he, hid ⟨Nat.le_trans hW.out.size q1, ⟨F, P, ⟨q2.row, Nat.le_trans hW.out.size q2.ge, q2.nil0, fun hk => ?_, q2.self, q2.wd, q2.out⟩⟩, q3⟩⟩
    obtain ⟨r1, r2, r3⟩ := q2.code hk
    exact ⟨⟨r1.self, own_base r1.own hW.out.size, Nat.le_trans hW.out.size r1.ge, Nat.le_trans hW.out.size r1.le⟩, r2, r3⟩
  have Hw := hid hw
  generalize zs.length = n at *
  clear hz hl hli hlen hc2 h1 h2 hfew hw
  go_enter Try.func14, Try.ntmps14
  go_wp2_with (first
    | (go_at_call 50; refine HA.out.mono ?_; rintro e w1 ⟨rfl, rfl⟩)
    | (go_at_call 43; refine HF.out.mono ?_; rintro e w2 ⟨rfl, HO2⟩)
    | (go_at_call 51; refine (HC.out _ HO2).mono ?_; rintro e w3 ⟨g, rfl, HCo⟩))
  go_ret2
  exact ⟨g, ws, rfl, hid ⟨Hw.out, HCo.out.1, HCo.out.2.1⟩, hid (HO2.out.trans HCo.out.2.2)⟩
set_option maxHeartbeats 1000000 in
theorem make_bad {A C : Option Addr} {n m c1 c2 : Nat} {zs ls : List Int} {w : World} (hz : RdI w A zs) (hl : RdI w C ls) (hli : InI ls) (hn : n = zs.length) (hm : m = ls.length) (hn9 : n ≤ 1000000) (hm9 : m ≤ 1000000) (h : ¬ (n = m ∧ areSg zs = true ∧ Fit ls)) :
    Calls Try.prog 14 #[.slice A n c1, .slice C m c2] w (NoCodeE w 2) := by
  have HA : Hid (Calls Try.prog 50 #[.slice A n c1] w fun e w' => e = .returned (.bool (areSg zs)) ∧ w = w') := hid (by
    rw [hn]; exact areSigns_any (c := c1) hz (by omega))
  have HF : Hid (Calls Try.prog 43 #[.slice C m c2] w fun e w' => e = .returned (.bool (fitB ls)) ∧ StO w w') := hid (fits_of (c := c2) (n := m) hl hli hm hm9)
  by_cases hnm : n = m
  · cases ha : areSg zs with
    | false =>
      rw [ha] at HA
      subst hnm
      clear hz hl hli hn hm h ha
      go_enter Try.func14, Try.ntmps14
      go_wp2_with (go_at_call 50; refine HA.out.mono ?_; rintro e w1 ⟨rfl, rfl⟩)
      go_ret2
      exact ⟨rfl, hid (Only.refl _ _)⟩
    | true =>
      have hf : fitB ls = false := fitB_no fun hf => h ⟨hnm, ha, hf⟩
      rw [ha] at HA
      rw [hf] at HF
      subst hnm
      clear hz hl hli hn hm h ha hf
      go_enter Try.func14, Try.ntmps14
      go_wp2_with (first
        | (go_at_call 50; refine HA.out.mono ?_; rintro e w1 ⟨rfl, rfl⟩)
        | (go_at_call 43; refine HF.out.mono ?_; rintro e w2 ⟨rfl, HO2⟩))
      go_ret2
      exact ⟨rfl, HO2⟩
  · have hne : ((n : Int) != (m : Int)) = true := by rw [bne_iff_ne]; omega
    clear hz hl hli hn hm h hnm
    go_enter Try.func14, Try.ntmps14
    go_wp2_with fail
    go_ret2
    exact ⟨rfl, hid (Only.refl _ _)⟩
end Go.Proofs.Ytmbcinbkijnblaa
