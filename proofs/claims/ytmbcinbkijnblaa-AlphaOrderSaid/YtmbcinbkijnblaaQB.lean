/- Signs, Lengths, Word. -/
import Derived.Test.YtmbcinbkijnblaaQA
import Derived.Test.YtmbcinbkijnblaaQT
import Derived.Lib.SliceRun
namespace Go.Proofs.Ytmbcinbkijnblaa
open Go.RowKit

/-- The number at a place may stand there. -/
def sgAt (zs : List Int) (k : Nat) : Bool := isSg (zs.getD k 0) && (decide (k = 0) || decide (zs.getD (k - 1) 0 < zs.getD k 0))
def areSg (zs : List Int) : Bool := (List.range zs.length).all (sgAt zs)
theorem areSg_false {zs : List Int} {k : Nat} (hk : k < zs.length) (h : sgAt zs k = false) : areSg zs = false := by
  unfold areSg
  rw [List.all_eq_false]
  exact ⟨k, by simpa using hk, by simp [h]⟩
theorem areSg_true {zs : List Int} (h : ∀ k, k < zs.length → sgAt zs k = true) : areSg zs = true := by
  unfold areSg
  rw [List.all_eq_true]
  intro k hk
  exact h k (by simpa using hk)
theorem areSg_at {zs : List Int} (h : areSg zs = true) {k : Nat} (hk : k < zs.length) : sgAt zs k = true := by
  unfold areSg at h
  rw [List.all_eq_true] at h
  exact h k (by simpa using hk)
def natS (zs : List Int) : List Nat := zs.map Int.toNat
theorem areSg_get {zs : List Int} (h : areSg zs = true) {k : Nat} (hk : k < zs.length) : 0 ≤ zs.getD k 0 ∧ zs.getD k 0 < 257 := by
  have := areSg_at h hk
  unfold sgAt isSg at this
  simp at this
  simp [List.getD]
  omega
theorem natS_get {zs : List Int} {k : Nat} (hk : k < zs.length) : (natS zs).getD k 0 = (zs.getD k 0).toNat := by simp [natS, List.getD, hk]
theorem natS_back {zs : List Int} (h : areSg zs = true) : (natS zs).map (fun s => ((s : Nat) : Int)) = zs := by
  apply List.ext_getElem?
  intro k
  by_cases hk : k < zs.length
  · have := (areSg_get h hk).1
    simp only [List.getD, List.getElem?_eq_getElem hk, Option.getD_some] at this
    simp [natS, hk]
    omega
  · rw [List.getElem?_eq_none (by simp [natS]; omega), List.getElem?_eq_none (by omega)]
theorem rise_lt {f : Nat → Nat} {n : Nat} (h : ∀ k, 0 < k → k < n → f (k - 1) < f k) : ∀ j i, i < j → j < n → f i < f j
  | 0, i, hi, _ => by omega
  | j + 1, i, hi, hj => by
    have h1 := h (j + 1) (by omega) hj
    rw [Nat.add_sub_cancel] at h1
    by_cases e : i = j
    · subst e; exact h1
    · exact Nat.lt_trans (rise_lt h j i (by omega) (by omega)) h1
theorem natS_ok {zs : List Int} (h : areSg zs = true) : SgOk (natS zs) := by
  have hl : (natS zs).length = zs.length := by simp [natS]
  refine ⟨fun i j hij hj => ?_, fun i hi => ?_⟩
  · rw [hl] at hj
    refine rise_lt (f := fun k => (natS zs).getD k 0) (n := zs.length) (fun k hk0 hk => ?_) j i hij hj
    show (natS zs).getD (k - 1) 0 < (natS zs).getD k 0
    rw [natS_get hk, natS_get (by omega)]
    have h1 := areSg_get h hk
    have h2 := areSg_get h (k := k - 1) (by omega)
    have h3 := areSg_at h hk
    unfold sgAt at h3
    rw [Bool.and_eq_true, Bool.or_eq_true] at h3
    have h4 := h3.2
    simp only [decide_eq_true_eq] at h4
    omega
  · rw [hl] at hi
    rw [natS_get hi]
    have := areSg_get h hi
    omega
set_option maxHeartbeats 1000000 in
theorem areSigns_any {A : Option Addr} {c : Nat} {zs : List Int} {w : World} (hz : RdI w A zs) (hl : zs.length ≤ 9223372036854775807) :
    Calls Try.prog 50 #[.slice A zs.length c] w fun e w' => e = .returned (.bool (areSg zs)) ∧ w = w' := by
  have HZ : Hid (∀ k, k < zs.length → ∃ b off, A = some ⟨b, off, none⟩ ∧ w.cell? ⟨b, off + k, none⟩ = some (.int .i64 (zs.getD k 0))) := hid fun k hk => by
    obtain ⟨b, off, e, h, _⟩ := hz.at hk
    exact ⟨b, off, e, h⟩
  have HF := hid fun k hk h => areSg_false (zs := zs) (k := k) hk h
  have HT := hid fun h => areSg_true (zs := zs) h
  have HI := hid fun z => isSign_any z w
  clear hz
  generalize zs.length = n at *
  go_enter Try.func50, Try.ntmps50
  go_wp2_with fail
  go_loopw [7] (fun s wr => ∃ k : Nat, k ≤ n ∧ s = .int .i64 (k : Int) ∧ wr = w ∧ Hid (∀ i, i < k → sgAt zs i = true)) (fun s _ => n - (intOf s).toNat)
  case atStart => exact ⟨0, by omega, rfl, rfl, hid fun i hi => absurd hi (Nat.not_lt_zero i)⟩
  case round =>
    obtain ⟨k, hk, rfl, rfl, HP⟩ := hrel
    by_cases hp : k < n
    · have hp' : (k : Int) < (n : Int) := by omega
      obtain ⟨b, off, rfl, hc⟩ := HZ.out k hp
      have HIk := hid (HI.out (zs.getD k 0))
      have hat : sgAt zs k = (isSg (zs.getD k 0) && (decide (k = 0) || decide (zs.getD (k - 1) 0 < zs.getD k 0))) := rfl
      cases hsg : isSg (zs.getD k 0) with
      | false =>
        have HR := hid (HF.out k hp (by rw [hat, hsg]; rfl))
        rw [hsg] at HIk
        generalize zs.getD k 0 = z at *
        clear hat hsg
        go_wp2_with (go_at_call 74; refine HIk.out.mono ?_; rintro e w' ⟨rfl, rfl⟩)
        go_ret
        exact ⟨by rw [HR.out]; rfl, rfl⟩
      | true =>
        rw [hsg] at HIk hat
        by_cases hk0 : k = 0
        · subst hk0
          rw [Nat.add_zero] at hc
          have HP1 : Hid (∀ i, i < 0 + 1 → sgAt zs i = true) := hid fun i hi => by
            obtain rfl : i = 0 := by omega
            rw [hat]; rfl
          generalize zs.getD 0 0 = z at *
          clear hat hsg
          go_wp2_with (go_at_call 74; refine HIk.out.mono ?_; rintro e w' ⟨rfl, rfl⟩)
          go_roundw
          case rel => exact ⟨0 + 1, by omega, by go_num, (by first | rfl | trivial), HP1⟩
          case measure => simp [intOf]; omega
        · obtain ⟨b', off', e', hc2⟩ := HZ.out (k - 1) (by omega)
          injection e' with e'
          injection e' with e1 e2 _
          subst e1
          subst e2
          have hkw1 : IntKind.i64.wrap ((k : Int) - 1) = ((k - 1 : Nat) : Int) := by rw [IntKind.wrap_i64]; omega
          have hkw2 : (k : Int) - 1 = ((k - 1 : Nat) : Int) := by omega
          have hkp : (0 : Int) < (k : Int) := by omega
          have hj : k - 1 < n := by omega
          have hjn : ((k - 1 : Nat) : Int) < (n : Int) := by omega
          by_cases hlt : zs.getD (k - 1) 0 < zs.getD k 0
          · have HP1 : Hid (∀ i, i < k + 1 → sgAt zs i = true) := hid fun i hi => by
              by_cases e : i < k
              · exact HP.out i e
              · obtain rfl : i = k := by omega
                rw [hat]; simp only [Bool.true_and, Bool.or_eq_true, decide_eq_true_eq]; exact .inr hlt
            generalize zs.getD k 0 = z at *
            generalize zs.getD (k - 1) 0 = y at *
            generalize k - 1 = j at *
            have hle : ¬ z ≤ y := by omega
            clear hat hsg
            go_wp2_with (go_at_call 74; refine HIk.out.mono ?_; rintro e w' ⟨rfl, rfl⟩)
            go_roundw
            case rel => exact ⟨k + 1, by omega, by go_num, (by first | rfl | trivial), HP1⟩
            case measure => simp [intOf]; omega
          · have HR := hid (HF.out k hp (by rw [hat]; simp [hk0]; simpa [List.getD] using hlt))
            generalize zs.getD k 0 = z at *
            generalize zs.getD (k - 1) 0 = y at *
            generalize k - 1 = j at *
            have hle : z ≤ y := by omega
            clear hat hsg
            go_wp2_with (go_at_call 74; refine HIk.out.mono ?_; rintro e w' ⟨rfl, rfl⟩)
            go_ret
            exact ⟨by rw [HR.out]; rfl, rfl⟩
    · obtain rfl : k = n := by omega
      have HR := hid (HT.out HP.out)
      go_wp2_with fail
      go_ret
      exact ⟨by rw [HR.out]; rfl, rfl⟩
theorem WordsOf.short {ls : List Int} {ws : List (List Bool)} (h : WordsOf ls ws) (hf : Fit ls) {k : Nat} (hk : k < ws.length) : (wAt ws k).length ≤ 256 := by
  have h1 := h.length hk
  have h2 := h.len
  have h3 := hf.small (ls.getD k 0) (getD_mem (by omega))
  show (ws.getD k []).length ≤ 256
  omega
theorem fitB_no {ls : List Int} (h : ¬ Fit ls) : fitB ls = false := by
  cases e : fitB ls with
  | false => rfl
  | true => exact absurd (fitB_true.1 e) h
theorem own_base {w : World} {B B' n s : Nat} {e : TypeId} {v : Value} {xs : List Value} (h : w.ownsRow B e s v n xs) (hB : B' ≤ B) : w.ownsRow B' e s v n xs := by
  refine ⟨h.1, ?_⟩
  rcases h.2 with h | ⟨g, cap, cur, h1, h2, h3⟩
  · exact .inl h
  · exact .inr ⟨g, cap, cur, h1, Nat.le_trans hB h2, h3⟩
/-- What Make answers of signs and lengths that may be. -/
def CodeE (w : World) (sg : List Nat) (ls : List Int) (e : Ending) (w' : World) : Prop :=
  ∃ (g : Nat) (ws : List (List Bool)), e = .returned (.tuple #[.pointer (some ⟨g, 0, none⟩), .int .i64 0]) ∧ Hid (WordsOf ls ws ∧ w.heap.size ≤ g ∧ IsCode w.heap.size w' g sg ws) ∧ StO w w'
def NoCodeE (w : World) (c : Int) (e : Ending) (w' : World) : Prop := e = .returned (.tuple #[.pointer none, .int .i64 c]) ∧ StO w w'
set_option maxHeartbeats 1000000 in
theorem make_ok {A C : Option Addr} {n c1 c2 : Nat} {zs ls : List Int} {w : World} (hz : RdI w A zs) (hl : RdI w C ls) (hli : InI ls) (hn : n = zs.length) (hlen : zs.length = ls.length) (hc2 : ls.length ≤ c2) (h1 : areSg zs = true) (h2 : Fit ls) :
    Calls Try.prog 14 #[.slice A n c1, .slice C n c2] w (CodeE w (natS zs) ls) := by
  have hfew := h2.few
  obtain ⟨ws, hw⟩ := h2.words
  subst hn
  have HA : Hid (Calls Try.prog 50 #[.slice A zs.length c1] w fun e w' => e = .returned (.bool true) ∧ w = w') := hid (by
    have := areSigns_any (c := c1) hz (by omega)
    rwa [h1] at this)
  have HF : Hid (Calls Try.prog 43 #[.slice C zs.length c2] w fun e w' => e = .returned (.bool true) ∧ StO w w') := hid (by
    have := fits_of (c := c2) (n := zs.length) hl hli hlen (by omega)
    rwa [fitB_true.2 h2] at this)
  have HC : Hid (∀ W, StO w W → Calls Try.prog 51 #[.slice A zs.length c1, .slice C zs.length c2] W fun e w' => ∃ g : Nat, e = .returned (.pointer (some ⟨g, 0, none⟩)) ∧ Hid (w.heap.size ≤ g ∧ IsCode w.heap.size w' g (natS zs) ws ∧ Only (fun _ => False) W w')) := hid fun W hW => by
    have hz2 : RdI W A ((natS zs).map fun s => ((s : Nat) : Int)) := by rw [natS_back h1]; exact hz.only hW.out fun _ _ _ => no_
    have := codeOf_any (c1 := c1) hw (natS_ok h1) (by rw [← hlen]; simp [natS]) (by omega) (fun i hi => hw.short h2 hi) hz2 (hl.only hW.out fun _ _ _ => no_) hc2
    rw [← hlen] at this
    refine this.mono ?_
    rintro e w' ⟨g, he, hH⟩
    obtain ⟨q1, ⟨F, P, q2⟩, q3⟩ := hH.out
    refine ⟨g, he, hid ⟨Nat.le_trans hW.out.size q1, ⟨F, P, ⟨q2.row, Nat.le_trans hW.out.size q2.ge, q2.nil0, fun hk => ?_, q2.self, q2.wd, q2.out⟩⟩, q3⟩⟩
    obtain ⟨r1, r2, r3⟩ := q2.code hk
    exact ⟨⟨r1.self, own_base r1.own hW.out.size, Nat.le_trans hW.out.size r1.ge, Nat.le_trans hW.out.size r1.le⟩, r2, r3⟩
  have Hw := hid hw
  generalize zs.length = n at *
  clear hz hl hli hlen hc2 h1 h2 hfew hw
  go_enter Try.func14, Try.ntmps14
  go_wp2_with (first
    | (go_at_call 50; refine HA.out.mono ?_; rintro e w1 ⟨rfl, rfl⟩)
    | (go_at_call 43; refine HF.out.mono ?_; rintro e w2 ⟨rfl, HO2⟩)
    | (go_at_call 51; refine (HC.out _ HO2).mono ?_; rintro e w3 ⟨g, rfl, HCo⟩))
  go_ret2
  exact ⟨g, ws, rfl, hid ⟨Hw.out, HCo.out.1, HCo.out.2.1⟩, hid (HO2.out.trans HCo.out.2.2)⟩
set_option maxHeartbeats 1000000 in
theorem make_bad {A C : Option Addr} {n m c1 c2 : Nat} {zs ls : List Int} {w : World} (hz : RdI w A zs) (hl : RdI w C ls) (hli : InI ls) (hn : n = zs.length) (hm : m = ls.length) (hn9 : n ≤ 1000000) (hm9 : m ≤ 1000000) (h : ¬ (n = m ∧ areSg zs = true ∧ Fit ls)) :
    Calls Try.prog 14 #[.slice A n c1, .slice C m c2] w (NoCodeE w 2) := by
  have HA : Hid (Calls Try.prog 50 #[.slice A n c1] w fun e w' => e = .returned (.bool (areSg zs)) ∧ w = w') := hid (by
    rw [hn]; exact areSigns_any (c := c1) hz (by omega))
  have HF : Hid (Calls Try.prog 43 #[.slice C m c2] w fun e w' => e = .returned (.bool (fitB ls)) ∧ StO w w') := hid (fits_of (c := c2) (n := m) hl hli hm hm9)
  by_cases hnm : n = m
  · cases ha : areSg zs with
    | false =>
      rw [ha] at HA
      subst hnm
      clear hz hl hli hn hm h ha
      go_enter Try.func14, Try.ntmps14
      go_wp2_with (go_at_call 50; refine HA.out.mono ?_; rintro e w1 ⟨rfl, rfl⟩)
      go_ret2
      exact ⟨rfl, hid (Only.refl _ _)⟩
    | true =>
      have hf : fitB ls = false := fitB_no fun hf => h ⟨hnm, ha, hf⟩
      rw [ha] at HA
      rw [hf] at HF
      subst hnm
      clear hz hl hli hn hm h ha hf
      go_enter Try.func14, Try.ntmps14
      go_wp2_with (first
        | (go_at_call 50; refine HA.out.mono ?_; rintro e w1 ⟨rfl, rfl⟩)
        | (go_at_call 43; refine HF.out.mono ?_; rintro e w2 ⟨rfl, HO2⟩))
      go_ret2
      exact ⟨rfl, HO2⟩
  · have hne : ((n : Int) != (m : Int)) = true := by rw [bne_iff_ne]; omega
    clear hz hl hli hn hm h hnm
    go_enter Try.func14, Try.ntmps14
    go_wp2_with fail
    go_ret2
    exact ⟨rfl, hid (Only.refl _ _)⟩
end Go.Proofs.Ytmbcinbkijnblaa

namespace Go.Proofs.Ytmbcinbkijnblaa
open Go.RowKit

/-- A code of signs and words that fit. -/
structure CodeS (B : Nat) (w : World) (g : Nat) (sg : List Nat) (ws : List (List Bool)) : Prop where
  is : IsCode B w g sg ws
  ok : SgOk sg
  len : sg.length = ws.length
  long : ∀ i, i < ws.length → 1 ≤ (wAt ws i).length ∧ (wAt ws i).length ≤ 256
  few : ws.length ≤ 257
theorem CodeS.same {B : Nat} {w w' : World} {g : Nat} {sg : List Nat} {ws : List (List Bool)} (h : CodeS B w g sg ws) (o : Only (fun _ => False) w w') : CodeS B w' g sg ws := by
  obtain ⟨F, P, hc⟩ := h.is
  exact ⟨⟨F, P, hc.fr (T := fun _ => False) (B' := 0) (FrT.of_only o) (fun h => h) (fun h => h) (fun h => h)⟩, h.ok, h.len, h.long, h.few⟩
/-- The word of a sign, if it has one. -/
def wordZ (sg : List Nat) (ws : List (List Bool)) (s : Nat) : List Bool := if s ∈ sg then wAt ws (sg.idxOf s) else []
theorem SgOk.nodup {sg : List Nat} (h : SgOk sg) : sg.Nodup := by
  rw [List.nodup_iff_pairwise_ne, List.pairwise_iff_getElem]
  intro i j hi hj hij e
  have := h.1 i j hij hj
  simp [List.getD, hi, hj] at this
  omega
theorem SgOk.idx {sg : List Nat} (h : SgOk sg) {i : Nat} (hi : i < sg.length) : sg.getD i 0 ∈ sg ∧ sg.idxOf (sg.getD i 0) = i := by
  have e : sg.getD i 0 = sg[i] := by simp [List.getD, hi]
  rw [e]
  exact ⟨List.getElem_mem hi, h.nodup.idxOf_getElem i hi⟩
theorem wordZ_at {sg : List Nat} {ws : List (List Bool)} (h : SgOk sg) {i : Nat} (hi : i < sg.length) : wordZ sg ws (sg.getD i 0) = wAt ws i := by
  obtain ⟨h1, h2⟩ := h.idx hi
  unfold wordZ
  rw [if_pos h1, h2]
/-- A sign's cell. -/
theorem CodeS.cell {B : Nat} {w : World} {g : Nat} {sg : List Nat} {ws : List (List Bool)} (h : CodeS B w g sg ws) {s : Nat} (hs : s < 257) : ∃ A, w.cell? ⟨g, 2 + s, none⟩ = some (.slice A (wordZ sg ws s).length (wordZ sg ws s).length) ∧ RdB w A (wordZ sg ws s) ∧ (A = none → (wordZ sg ws s).length = 0) ∧ ((0 < (wordZ sg ws s).length) ↔ s ∈ sg) ∧ (wordZ sg ws s).length ≤ 256 ∧ (s ∉ sg → A = none) := by
  obtain ⟨F, P, hc⟩ := h.is
  have hcell := hc.row.cell (i := 2 + s) (by omega)
  by_cases hm : s ∈ sg
  · obtain ⟨i, hi, e⟩ := List.mem_iff_getElem.1 hm
    have e2 : sg.getD i 0 = s := by simp [List.getD, hi, e]
    have hz : wordZ sg ws s = wAt ws i := by rw [← e2]; exact wordZ_at h.ok hi
    have hiw : i < ws.length := by have := h.len; omega
    obtain ⟨gu, h1, h2⟩ := (hc.wd i hiw).rd
    rw [e2] at h1
    have hl := h.long i hiw
    rw [hz, hcell, h1]
    exact ⟨_, rfl, h2, (fun h => by cases h), ⟨fun _ => hm, fun _ => by omega⟩, hl.2, fun h => absurd hm h⟩
  · have hz : wordZ sg ws s = [] := by unfold wordZ; rw [if_neg hm]
    rw [hz, hcell, hc.out s hs fun i hi e => hm (by rw [← e]; exact (h.ok.idx (by have := h.len; omega)).1)]
    exact ⟨none, rfl, RdV.nil _, fun _ => rfl, ⟨fun h => by simp at h, fun h => absurd h hm⟩, by simp, fun _ => rfl⟩
theorem CodeS.answered {B : Nat} {w : World} {g : Nat} {sg : List Nat} {ws : List (List Bool)} (h : CodeS B w g sg ws) : Calls Try.prog 68 #[.pointer (some ⟨g, 0, none⟩)] w fun e' w' => e' = .returned (.bool true) ∧ w = w' := by
  obtain ⟨F, P, hc⟩ := h.is
  have := hc.row.cell (i := 1) (by omega)
  rw [hc.self] at this
  exact answered_yes this
theorem CodeS.has {B : Nat} {w : World} {g : Nat} {sg : List Nat} {ws : List (List Bool)} (h : CodeS B w g sg ws) {s : Nat} (hs : s < 257) : Calls Try.prog 73 #[.pointer (some ⟨g, 0, none⟩), .int .i64 (s : Int)] w fun e' w' => e' = .returned (.bool (decide (s ∈ sg))) ∧ w = w' := by
  obtain ⟨A, h1, _, _, h4, _⟩ := h.cell hs
  have := has_any hs h1
  rwa [show decide (0 < (wordZ sg ws s).length) = decide (s ∈ sg) from decide_eq_decide.2 h4] at this
def below (sg : List Nat) (s : Nat) : List Nat := sg.filter (· < s)
theorem below_step : ∀ {sg : List Nat}, sg.Pairwise (· < ·) → ∀ s, below sg (s + 1) = below sg s ++ (if s ∈ sg then [s] else [])
  | [], _, s => by simp [below]
  | a :: sg, h, s => by
    have ⟨h1, h2⟩ := List.pairwise_cons.1 h
    have ih := below_step h2 s
    unfold below at ih ⊢
    rw [List.filter_cons, List.filter_cons]
    by_cases e1 : a < s
    · simp only [show a < s + 1 by omega, e1, decide_true, if_true]
      rw [ih, List.cons_append]
      have : (s ∈ a :: sg) ↔ s ∈ sg := by simp; omega
      simp [this]
    · by_cases e2 : a = s
      · subst e2
        have hn : ∀ x ∈ sg, ¬ x < a + 1 := fun x hx => by have := h1 x hx; omega
        have hn2 : ∀ x ∈ sg, ¬ x < a := fun x hx => by have := h1 x hx; omega
        simp only [Nat.lt_succ_self, Nat.lt_irrefl, decide_true, decide_false, if_true]
        rw [List.filter_eq_nil_iff.2 (fun x hx => by simpa using hn x hx), List.filter_eq_nil_iff.2 (fun x hx => by simpa using hn2 x hx)]
        simp
      · have hn : ∀ x ∈ sg, ¬ x < s + 1 := fun x hx => by have := h1 x hx; omega
        have hn2 : ∀ x ∈ sg, ¬ x < s := fun x hx => by have := h1 x hx; omega
        have hm : s ∉ a :: sg := by
          intro hm
          rcases List.mem_cons.1 hm with e | e
          · exact e2 e.symm
          · have := h1 s e; omega
        simp only [show ¬ a < s + 1 by omega, e1, decide_false]
        rw [List.filter_eq_nil_iff.2 (fun x hx => by simpa using hn x hx), List.filter_eq_nil_iff.2 (fun x hx => by simpa using hn2 x hx), if_neg hm]
        simp
theorem SgOk.rise {sg : List Nat} (h : SgOk sg) : sg.Pairwise (· < ·) := by
  rw [List.pairwise_iff_getElem]
  intro i j hi hj hij
  have := h.1 i j hij hj
  simpa [List.getD, hi, hj] using this
theorem SgOk.all {sg : List Nat} (h : SgOk sg) : below sg 257 = sg := by
  unfold below
  rw [List.filter_eq_self]
  intro s hs
  obtain ⟨i, hi, e⟩ := List.mem_iff_getElem.1 hs
  have := h.2 i hi
  simp [List.getD, hi, e] at this
  simpa using this
def sgI (sg : List Nat) : List Int := sg.map fun s => ((s : Nat) : Int)
theorem below_len (sg : List Nat) (s : Nat) : (below sg s).length ≤ sg.length := List.length_filter_le _ _
set_option maxHeartbeats 1000000 in
theorem signs_any {B : Nat} {w : World} {g : Nat} {sg : List Nat} {ws : List (List Bool)} (h : CodeS B w g sg ws) :
    Calls Try.prog 35 #[.pointer (some ⟨g, 0, none⟩)] w fun e w' => ∃ v, e = .returned v ∧ Hid (OwI w w' v (sgI sg)) := by
  have HA := hid h.answered
  have HH : Hid (∀ W, StO w W → ∀ s : Nat, s < 257 → Calls Try.prog 73 #[.pointer (some ⟨g, 0, none⟩), .int .i64 (s : Int)] W fun e' w' => e' = .returned (.bool (decide (s ∈ sg))) ∧ W = w') := hid fun W hW s hs => (h.same hW.out).has hs
  have HS := hid fun s => below_step h.ok.rise s
  have HE := hid h.ok.all
  have hfew := h.few
  have hlen := h.len
  have HB := hid fun s => below_len sg s
  clear h
  go_enter Try.func35, Try.ntmps35
  go_wp2_with (go_at_call 68; refine HA.out.mono ?_; rintro e w1 ⟨rfl, rfl⟩)
  go_loopw [3, 8] (fun v s wr => ∃ k : Nat, k ≤ 257 ∧ s = .int .i64 (k : Int) ∧ Hid (OwI w wr v (sgI (below sg k)))) (fun _ s _ => 257 - (intOf s).toNat)
  case atStart => exact ⟨0, by omega, rfl, hid (by
    have : below sg 0 = [] := by unfold below; rw [List.filter_eq_nil_iff]; intro x _; simp
    rw [this]
    exact OwI.nil (Only.refl _ w))⟩
  case round =>
    obtain ⟨k, hk, rfl, HK⟩ := hrel
    by_cases hp : k < 257
    · have hp' : (k : Int) < 257 := by omega
      have HHk := hid (HH.out wr (hid HK.out.only) k hp)
      have HSk := hid (HS.out k)
      have hlb := HB.out k
      by_cases hm : k ∈ sg
      · have HSk2 : Hid (sgI (below sg (k + 1)) = sgI (below sg k) ++ [(k : Int)]) := hid (by rw [HSk.out, if_pos hm]; simp [sgI])
        rw [decide_eq_true hm] at HHk
        clear hm HSk
        have hll : (sgI (below sg k)).length ≤ 257 := by rw [sgI, List.length_map]; omega
        generalize sgI (below sg k) = xs at *
        go_wp2_with (first
          | (go_at_call 73; refine HHk.out.mono ?_; rintro e w1 ⟨rfl, rfl⟩)
          | (at_builtin; refine wpList_addI w _ rfl (.tmp 14) (.tmp 16) rfl _ xs rfl (hid (HK.out.carry ((Only.refl _ _).alloc _))) (some ⟨wr.heap.size, 0, none⟩) 1 _ [(k : Int)] rfl rfl (hid fun h => by cases h) (hid (rd_oneI wr k)) (by simp; omega) ?_; intro v' w' HK'))
        rw [← HSk2.out] at HK'
        clear HK HSk2
        go_roundw
        case rel => exact ⟨k + 1, by omega, by go_num, HK'⟩
        case measure => simp [intOf]; omega
      · have HK' : Hid (OwI w wr u3 (sgI (below sg (k + 1)))) := hid (by rw [HSk.out, if_neg hm, List.append_nil]; exact HK.out)
        rw [decide_eq_false hm] at HHk
        clear hm HSk HK
        go_wp2_with (go_at_call 73; refine HHk.out.mono ?_; rintro e w1 ⟨rfl, rfl⟩)
        go_roundw
        case rel => exact ⟨k + 1, by omega, by go_num, HK'⟩
        case measure => simp [intOf]; omega
    · obtain rfl : k = 257 := by omega
      rw [HE.out] at HK
      go_wp2_with fail
      go_ret
      exact ⟨_, rfl, HK⟩
theorem lens_len (ws : List (List Bool)) : (lens ws).length = ws.length := by simp [lens]
theorem mix_len {ws : List (List Bool)} {sg : List Nat} (h : sg.length = ws.length) {i : Nat} (hi : i ≤ ws.length) : ((lens ws).take i ++ (sgI sg).drop i).length = ws.length := by
  rw [List.length_append, List.length_take, List.length_drop, lens_len, sgI, List.length_map]
  omega
theorem mix_get {ws : List (List Bool)} {sg : List Nat} (h : sg.length = ws.length) {i : Nat} (hi : i < ws.length) : ((lens ws).take i ++ (sgI sg).drop i).getD i 0 = ((sg.getD i 0 : Nat) : Int) := by
  have hl : ((lens ws).take i).length = i := by rw [List.length_take, lens_len]; omega
  simp only [List.getD]
  rw [List.getElem?_append_right (by omega), hl, Nat.sub_self, List.getElem?_drop, Nat.add_zero]
  simp [sgI, show i < sg.length by omega]
theorem mix_set {ws : List (List Bool)} {sg : List Nat} (h : sg.length = ws.length) {i : Nat} (hi : i < ws.length) : ((lens ws).take i ++ (sgI sg).drop i).set i (((wAt ws i).length : Nat) : Int) = (lens ws).take (i + 1) ++ (sgI sg).drop (i + 1) := by
  have hl : ((lens ws).take i).length = i := by rw [List.length_take, lens_len]; omega
  rw [List.set_append_right _ _ (by omega), hl, Nat.sub_self, List.take_add_one]
  have h1 : (lens ws)[i]? = some (((wAt ws i).length : Nat) : Int) := by simp [lens, hi]
  have h2 : (sgI sg).drop i = (((sg.getD i 0 : Nat) : Int)) :: (sgI sg).drop (i + 1) := by
    rw [List.drop_eq_getElem_cons (by simp [sgI]; omega)]
    simp [sgI, List.getD, show i < sg.length by omega]
  rw [h1, h2, List.set_cons_zero]
  simp
set_option maxHeartbeats 1000000 in
theorem lengthsC_any {B : Nat} {w : World} {g : Nat} {sg : List Nat} {ws : List (List Bool)} (h : CodeS B w g sg ws) :
    Calls Try.prog 37 #[.pointer (some ⟨g, 0, none⟩)] w fun e w' => ∃ v, e = .returned v ∧ Hid (OwI w w' v (lens ws)) := by
  have HS := hid (signs_any h)
  have HC : Hid (∀ W, StO w W → ∀ s : Nat, s < 257 → ∃ A, W.cell? ⟨g, 2 + s, none⟩ = some (.slice A (wordZ sg ws s).length (wordZ sg ws s).length)) := hid fun W hW s hs => by
    obtain ⟨A, h1, _⟩ := (h.same hW.out).cell hs
    exact ⟨A, h1⟩
  have HSg : Hid (∀ i, i < ws.length → sg.getD i 0 < 257 ∧ wordZ sg ws (sg.getD i 0) = wAt ws i) := hid fun i hi => ⟨h.ok.2 i (by have := h.len; omega), wordZ_at h.ok (by have := h.len; omega)⟩
  have hlen := hid h.len
  have hfew := h.few
  clear h
  go_enter Try.func37, Try.ntmps37
  go_wp2_with fail
  refine HS.out.mono ?_
  rintro e w1 ⟨v, rfl, HO⟩
  have hls : (sgI sg).length = ws.length := by rw [sgI, List.length_map, hlen.out]
  obtain ⟨A, c, rfl, HO1⟩ := HO.out.made hls
  have HK0 : Hid (OwI w w1 (.slice A ws.length c) ((lens ws).take 0 ++ (sgI sg).drop 0)) := hid (by simpa using HO1.out)
  clear HS HO HO1 hls
  obtain ⟨n, hn⟩ : ∃ n, n = ws.length := ⟨_, rfl⟩
  rw [← hn] at HSg HK0 hfew ⊢
  have Hn := hid hn
  clear hn
  go_wp2_with fail
  go_loopw [10] (fun s wr => ∃ k : Nat, k ≤ n ∧ s = .int .i64 (k : Int) ∧ Hid (OwI w wr (.slice A n c) ((lens ws).take k ++ (sgI sg).drop k))) (fun s _ => n - (intOf s).toNat)
  case atStart => exact ⟨0, by omega, rfl, HK0⟩
  case round =>
    obtain ⟨k, hk, rfl, HK⟩ := hrel
    clear HK0
    by_cases hp : k < n
    · have hp' : (k : Int) < (n : Int) := by omega
      obtain ⟨gA, rfl, ck, fk, lk, hset⟩ := HK.out.put hp
      rw [mix_get hlen.out (by rw [← Hn.out]; exact hp)] at ck
      obtain ⟨hs257, hwz⟩ := HSg.out k hp
      obtain ⟨A2, c2⟩ := HC.out wr (hid HK.out.only) _ hs257
      rw [hwz] at c2
      have HK' : Hid (OwI w (wr.setCell ⟨gA, k, none⟩ (.int .i64 (((wAt ws k).length : Nat) : Int))) (.slice (some ⟨gA, 0, none⟩) n c) ((lens ws).take (k + 1) ++ (sgI sg).drop (k + 1))) := hid (by
        have := hset (((wAt ws k).length : Nat) : Int)
        rwa [mix_set hlen.out (by rw [← Hn.out]; exact hp)] at this)
      have hs' : ((sg.getD k 0 : Nat) : Int) < 257 := by omega
      generalize (wAt ws k).length = q at *
      generalize sg.getD k 0 = s at *
      clear hset HK
      go_wp2_with fail
      go_roundw
      case rel => exact ⟨k + 1, by omega, by go_num, HK'⟩
      case measure => simp [intOf]; omega
    · obtain rfl : k = n := by omega
      have HR : Hid (OwI w wr (.slice A k c) (lens ws)) := hid (by
        have := HK.out
        rw [Hn.out, List.take_of_length_le (by rw [lens_len]; exact Nat.le_refl _), List.drop_eq_nil_of_le (by rw [sgI, List.length_map, hlen.out]; exact Nat.le_refl _), List.append_nil, ← Hn.out] at this
        exact this)
      go_wp2_with fail
      go_ret
      exact ⟨_, rfl, HR⟩
/-- A slice that reads some bits, and stays. -/
def BitsE (w : World) (u : List Bool) (e : Ending) (w' : World) : Prop := ∃ (A : Option Addr) (c : Nat), e = .returned (.slice A u.length c) ∧ Hid (RdB w' A u) ∧ Hid (A = none → u.length = 0 ∧ c = 0) ∧ StO w w'
theorem clone_any {A : Option Addr} {u : List Bool} {w : World} (hr : RdB w A u) (hA : A = none → u.length = 0) (hl : u.length ≤ 1000) :
    Calls Try.prog 75 #[.slice A u.length u.length] w (BitsE w u) := by
  cases A with
  | none =>
    have h0 := hA rfl
    obtain rfl : u = [] := List.eq_nil_of_length_eq_zero h0
    clear hr hA h0
    have heq := Lib.run_eql_slice_nil (P := Try.prog) w 101 4 none 0 0 0 0 Try.underlying101
    go_enter Try.func75, Try.ntmps75
    go_wp2_with fail
    go_ret
    exact ⟨none, 0, rfl, hid (RdV.nil _), hid fun _ => ⟨rfl, rfl⟩, hid (Only.refl _ _)⟩
  | some ad =>
    have HR := hid hr
    obtain ⟨n, hn⟩ : ∃ n, n = u.length := ⟨_, rfl⟩
    rw [← hn] at hl ⊢
    have Hn := hid hn
    have HRd : Hid (RdV w (some ad) n (vB u)) := hid (by rw [hn]; exact hr)
    clear hr hA hn
    have heq := Lib.run_eql_slice_nil (P := Try.prog) w 101 4 (some ad) n n 0 0 Try.underlying101
    go_enter Try.func75, Try.ntmps75
    go_wp2_with (at_builtin; refine wpList_copy_new _ 4 101 (.bool false) 1 Try.underlying101 boolInfoK rfl (by omega) rfl (.tmp 5) (.tmp 6) rfl rfl (some ad) n n (vB u) rfl (fun _ => rfl) (hid fun h => by cases h) HRd (by omega) ?_; intro g cap' w2 HO)
    go_ret
    refine ⟨some ⟨g, 0, none⟩, cap', by rw [← Hn.out]; rfl, hid ?_, hid (fun h => by cases h), hid HO.out.only⟩
    obtain ⟨F, h1, h2⟩ := HO.out.row
    intro _
    refine ⟨g, 0, rfl, fun j hj => ?_⟩
    rw [← Hn.out] at hj
    have := HO.out.le
    rw [Nat.zero_add, h1.cell (by omega), h2 j hj]
/-- The word of any number. -/
def wordI (sg : List Nat) (ws : List (List Bool)) (z : Int) : List Bool := if isSg z = true then wordZ sg ws z.toNat else []
theorem word_any {B : Nat} {w : World} {g : Nat} {sg : List Nat} {ws : List (List Bool)} (h : CodeS B w g sg ws) (z : Int) :
    Calls Try.prog 36 #[.pointer (some ⟨g, 0, none⟩), .int .i64 z] w (BitsE w (wordI sg ws z)) := by
  have HA := hid h.answered
  have HI := hid (isSign_any z w)
  cases hz : isSg z with
  | false =>
    have e : wordI sg ws z = [] := by unfold wordI; rw [hz]; rfl
    rw [hz] at HI
    rw [e]
    clear h hz e
    go_enter Try.func36, Try.ntmps36
    go_wp2_with (first
      | (go_at_call 68; refine HA.out.mono ?_; rintro e w1 ⟨rfl, rfl⟩)
      | (go_at_call 74; refine HI.out.mono ?_; rintro e w1 ⟨rfl, rfl⟩))
    go_ret
    exact ⟨none, 0, rfl, hid (RdV.nil _), hid fun _ => ⟨rfl, rfl⟩, hid (Only.refl _ _)⟩
  | true =>
    have hz2 : 0 ≤ z ∧ z < 257 := by unfold isSg at hz; simpa using hz
    obtain ⟨s, rfl⟩ : ∃ s : Nat, z = (s : Int) := ⟨z.toNat, by omega⟩
    have e : wordI sg ws (s : Int) = wordZ sg ws s := by unfold wordI; rw [hz]; simp
    have hs : s < 257 := by omega
    obtain ⟨A, h1, h2, h3, _, h5, _⟩ := h.cell hs
    rw [hz] at HI
    rw [e]
    have HCl := hid (clone_any h2 h3 (by omega))
    have hs' : (s : Int) < 257 := by omega
    generalize wordZ sg ws s = u at *
    obtain ⟨n, hn⟩ : ∃ n, n = u.length := ⟨_, rfl⟩
    rw [← hn] at h1 HCl
    clear h hz e hz2 h2 h3 h5 hn
    go_enter Try.func36, Try.ntmps36
    go_wp2_with (first
      | (go_at_call 68; refine HA.out.mono ?_; rintro e w1 ⟨rfl, rfl⟩)
      | (go_at_call 74; refine HI.out.mono ?_; rintro e w1 ⟨rfl, rfl⟩))
    refine HCl.out.mono ?_
    rintro e w2 ⟨A2, c2, rfl, q1, q2, q3⟩
    go_wp2_with fail
    go_ret
    exact ⟨A2, c2, rfl, q1, q2, q3⟩
end Go.Proofs.Ytmbcinbkijnblaa
