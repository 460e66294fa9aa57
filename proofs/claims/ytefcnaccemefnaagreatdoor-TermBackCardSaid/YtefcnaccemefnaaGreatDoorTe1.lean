/- Terms and their texts: plain mathematics. -/
import Derived.Test.YtefcnaccemefnaaGreatDoorUtA
import Derived.Lib.ValidLaws
import Derived.Lib.Bytealg
namespace Go.Proofs.YtefcnaccemefnaaGreatDoor
open Go.RowKit Go.Lib U G

/-! Valid texts. -/
def vld (l : List Nat) : Bool := decide ((sgsL l).2 = l.length)
theorem validD_vld : ∀ (k : Nat) (l : List UInt8), l.length ≤ k → Lib.validD l = vld (l.map UInt8.toNat)
  | k, [], _ => by simp [Lib.validD_nil, vld, sgsL_end (l := []) (by rw [nxt_nil])]
  | 0, b :: l, h => absurd h (by simp)
  | k + 1, b :: l, h => by
    have hb : Bys ((b :: l).map UInt8.toNat) := fun x hx => by
      obtain ⟨y, _, rfl⟩ := List.mem_map.1 hx
      exact y.toNat_lt
    have hget : ∀ i, ((b :: l).getD i 0).toNat = ((b :: l).map UInt8.toNat).getD i 0 := fun i => by
      rw [List.getD_eq_getElem?_getD, List.getD_eq_getElem?_getD, List.getElem?_map]
      cases (b :: l)[i]? <;> rfl
    rw [Lib.validD_step _ (by simp), Lib.decodeL_N, decN_nxt _ _ _ _ _ (by simp), hget, hget, hget, hget]
    have e : nxtB (b :: l).length (((b :: l).map UInt8.toNat).getD 0 0) (((b :: l).map UInt8.toNat).getD 1 0) (((b :: l).map UInt8.toNat).getD 2 0) (((b :: l).map UInt8.toNat).getD 3 0) = nxt ((b :: l).map UInt8.toNat) := by
      unfold nxt; rw [List.length_map]
    rw [e]
    by_cases h0 : (nxt ((b :: l).map UInt8.toNat)).2 = 0
    · rw [if_pos h0, if_pos ⟨rfl, rfl⟩]
      unfold vld
      rw [sgsL_end h0, List.length_map]
      rfl
    · rw [if_neg h0]
      obtain ⟨_, _, h3⟩ := nxt_num hb h0
      have hle := nxt_le hb
      have hst := sgsL_step h0
      have ih := validD_vld k ((b :: l).drop (nxt ((b :: l).map UInt8.toNat)).2) (by rw [List.length_drop]; rw [List.length_cons] at h ⊢; omega)
      rw [if_neg (by rintro ⟨e1, e2⟩; have := h3 e1; omega), ih, List.map_drop]
      unfold vld
      rw [hst, decide_eq_decide, List.length_drop]
      generalize nxt ((b :: l).map UInt8.toNat) = p at *
      show (sgsL _).2 = _ ↔ p.2 + (sgsL _).2 = _
      omega
theorem valid_any (s : ByteArray) : Lib.validD s.data.toList = vld (bl s) := validD_vld _ _ (Nat.le_refl _)
theorem vld_enc {l : List Nat} (hb : Bys l) (h : vld l = true) : l = encL (sgsL l).1 ∧ ∀ n ∈ (sgsL l).1, sgn n := by
  have h2 : (sgsL l).2 = l.length := of_decide_eq_true h
  have h3 := sgsL_take hb
  rw [h2, List.take_length] at h3
  exact ⟨h3, (sgsL_of l.length l (Nat.le_refl _) hb).1⟩
theorem vld_of {ns : List Nat} (h : ∀ n ∈ ns, sgn n) : vld (encL ns) = true := by
  have := sgsL_enc ns [] h
  rw [List.append_nil, sgsL_end (l := []) (by rw [nxt_nil])] at this
  unfold vld
  rw [this]
  simp

/-! How texts are written. -/
def hexD (n : Nat) : Nat := if n < 10 then 48 + n else 55 + n
def iriC (c : Nat) : List Nat := if c < 128 ∧ rawZ (c : Int) = false then [92, 117, 48, 48, hexD (c / 16), hexD (c % 16)] else [c]
def iriB (l : List Nat) : List Nat := l.flatMap iriC
def litC (c : Nat) : List Nat := if c = 34 then [92, 34] else if c = 92 then [92, 92] else if c = 10 then [92, 110] else if c = 13 then [92, 114] else [c]
def litB (l : List Nat) : List Nat := l.flatMap litC
/-- A sign of an IRI; of a literal. -/
def iriS (n : Nat) : List Nat := if rawZ (n : Int) = true then encN n else [92, 117, 48, 48, hexD (n / 16), hexD (n % 16)]
def litS (n : Nat) : List Nat := if n = 34 then [92, 34] else if n = 92 then [92, 92] else if n = 10 then [92, 110] else if n = 13 then [92, 114] else encN n
theorem encN_high {n : Nat} (h : 128 ≤ n) : ∀ x ∈ encN n, 128 ≤ x := by
  intro x hx
  unfold encN at hx
  repeat' split at hx
  all_goals simp at hx; omega
theorem raw_high {n : Nat} (h : 128 ≤ n) (hs : sgn n) : rawZ (n : Int) = true := by
  unfold rawZ
  rw [bad_high (by omega), (isZ_iff (n : Int)).2 ⟨Int.natCast_nonneg n, by rw [Int.toNat_natCast]; exact hs⟩, decide_eq_true (by omega)]
  rfl
theorem flat_one {f : Nat → List Nat} : ∀ {l : List Nat}, (∀ x ∈ l, f x = [x]) → l.flatMap f = l
  | [], _ => rfl
  | a :: l, h => by
    rw [List.flatMap_cons, h a (by simp), flat_one fun x hx => h x (by simp [hx])]
    rfl
theorem encN_low {n : Nat} (h : n < 128) : encN n = [n] := by unfold encN; rw [if_pos (by omega)]
theorem iriB_sign {n : Nat} (hs : sgn n) : iriB (encN n) = iriS n := by
  by_cases h : n < 128
  · rw [encN_low h]
    unfold iriB iriS
    rw [List.flatMap_cons, List.flatMap_nil, List.append_nil]
    unfold iriC
    cases hr : rawZ (n : Int) with
    | true => rw [if_neg (by simp), if_pos rfl, encN_low h]
    | false => rw [if_pos ⟨h, rfl⟩, if_neg (by simp)]
  · have h1 := encN_high (n := n) (by omega)
    unfold iriS
    rw [if_pos (raw_high (by omega) hs)]
    exact flat_one fun x hx => by unfold iriC; rw [if_neg (by have := h1 x hx; omega)]
theorem litB_sign (n : Nat) : litB (encN n) = litS n := by
  by_cases h : n < 128
  · rw [encN_low h]
    unfold litB litS
    rw [List.flatMap_cons, List.flatMap_nil, List.append_nil]
    unfold litC
    rw [encN_low h]
  · have h1 := encN_high (n := n) (by omega)
    unfold litS
    rw [if_neg (by omega), if_neg (by omega), if_neg (by omega), if_neg (by omega)]
    exact flat_one fun x hx => by have := h1 x hx; unfold litC; rw [if_neg (by omega), if_neg (by omega), if_neg (by omega), if_neg (by omega)]
theorem iriB_app (a b : List Nat) : iriB (a ++ b) = iriB a ++ iriB b := by simp [iriB]
theorem litB_app (a b : List Nat) : litB (a ++ b) = litB a ++ litB b := by simp [litB]
theorem iriB_enc : ∀ {ns : List Nat}, (∀ n ∈ ns, sgn n) → iriB (encL ns) = ns.flatMap iriS
  | [], _ => rfl
  | n :: ns, h => by
    have e : encL (n :: ns) = encN n ++ encL ns := by simp [encL]
    rw [e, iriB_app, iriB_sign (h n (by simp)), iriB_enc fun m hm => h m (by simp [hm]), List.flatMap_cons]
theorem litB_enc : ∀ ns : List Nat, litB (encL ns) = ns.flatMap litS
  | [] => rfl
  | n :: ns => by
    have e : encL (n :: ns) = encN n ++ encL ns := by simp [encL]
    rw [e, litB_app, litB_sign, litB_enc ns, List.flatMap_cons]
theorem hexD_lt {n : Nat} (h : n < 16) : hexD n < 128 := by unfold hexD; split <;> omega
theorem iriC_bys {c : Nat} (h : c < 256) : Bys (iriC c) := by
  intro x hx
  unfold iriC at hx
  split at hx
  · rename_i hc
    have h1 := hexD_lt (n := c / 16) (by omega)
    have h2 := hexD_lt (n := c % 16) (by omega)
    simp at hx
    omega
  · simp at hx; omega
theorem litC_bys {c : Nat} (h : c < 256) : Bys (litC c) := by
  intro x hx
  unfold litC at hx
  repeat' split at hx
  all_goals simp at hx; omega
theorem iriB_bys {l : List Nat} (h : Bys l) : Bys (iriB l) := fun x hx => by
  obtain ⟨c, hc, hx⟩ := List.mem_flatMap.1 hx
  exact iriC_bys (h c hc) x hx
theorem litB_bys {l : List Nat} (h : Bys l) : Bys (litB l) := fun x hx => by
  obtain ⟨c, hc, hx⟩ := List.mem_flatMap.1 hx
  exact litC_bys (h c hc) x hx
theorem iriC_len (c : Nat) : 1 ≤ (iriC c).length ∧ (iriC c).length ≤ 6 := by unfold iriC; split <;> simp
theorem litC_len (c : Nat) : 1 ≤ (litC c).length ∧ (litC c).length ≤ 2 := by unfold litC; (repeat' split) <;> simp
theorem iriB_len : ∀ l : List Nat, l.length ≤ (iriB l).length ∧ (iriB l).length ≤ 6 * l.length
  | [] => by simp [iriB]
  | c :: l => by
    have h1 := iriC_len c
    have h2 := iriB_len l
    have e : iriB (c :: l) = iriC c ++ iriB l := by simp [iriB]
    rw [e, List.length_append, List.length_cons]
    omega
theorem litB_len : ∀ l : List Nat, l.length ≤ (litB l).length ∧ (litB l).length ≤ 2 * l.length
  | [] => by simp [litB]
  | c :: l => by
    have h1 := litC_len c
    have h2 := litB_len l
    have e : litB (c :: l) = litC c ++ litB l := by simp [litB]
    rw [e, List.length_append, List.length_cons]
    omega

/-! Terms. -/
structure Tm where
  k : Int
  x : ByteArray
  g : ByteArray
  y : ByteArray
theorem Tm.eq_iff {a b : Tm} : a = b ↔ a.k = b.k ∧ a.x = b.x ∧ a.g = b.g ∧ a.y = b.y := by
  cases a; cases b; simp
instance : DecidableEq Tm := fun _ _ => decidable_of_iff _ Tm.eq_iff.symm
def tmV (t : Tm) : Value := .agg #[.int .i64 t.k, .string t.x, .string t.g, .string t.y]
def xsd : ByteArray := { data := #[104, 116, 116, 112, 58, 47, 47, 119, 119, 119, 46, 119, 51, 46, 111, 114, 103, 47, 50, 48, 48, 49, 47, 88, 77, 76, 83, 99, 104, 101, 109, 97, 35, 115, 116, 114, 105, 110, 103] }
def lowN (b : Nat) : Nat := if 65 ≤ b ∧ b ≤ 90 then b + 32 else b
def low (s : ByteArray) : ByteArray := strB ((bl s).map lowN)
theorem low_bys (s : ByteArray) : Bys ((bl s).map lowN) := fun x hx => by
  obtain ⟨b, hb, rfl⟩ := List.mem_map.1 hx
  have := bl_bys s b hb
  unfold lowN
  split <;> omega
theorem bl_low (s : ByteArray) : bl (low s) = (bl s).map lowN := bl_strB (low_bys s)
theorem low_len (s : ByteArray) : (low s).size = s.size := by rw [← bl_len, bl_low, List.length_map, bl_len]
def smallN (l : List Nat) : Bool := l.all fun b => !(decide (65 ≤ b) && decide (b ≤ 90))
theorem lowN_iff (b : Nat) : lowN b = b ↔ (!(decide (65 ≤ b) && decide (b ≤ 90))) = true := by
  unfold lowN
  split
  · rename_i h
    simp [h.1, h.2]
  · rename_i h
    simp
    omega
theorem lowL_iff : ∀ l : List Nat, l.map lowN = l ↔ smallN l = true
  | [] => by simp [smallN]
  | b :: l => by
    have ih := lowL_iff l
    unfold smallN at ih ⊢
    rw [List.map_cons, List.all_cons, Bool.and_eq_true, List.cons.injEq, ih, lowN_iff]
theorem low_iff (s : ByteArray) : low s = s ↔ smallN (bl s) = true := by
  rw [← lowL_iff]
  constructor
  · intro h
    rw [← bl_low, h]
  · intro h
    exact bl_inj (by rw [bl_low, h])
def iriT (s : ByteArray) : Tm := ⟨1, s, ByteArray.empty, ByteArray.empty⟩
def blankT (s : ByteArray) : Tm := ⟨2, s, ByteArray.empty, ByteArray.empty⟩
def litT (s : ByteArray) : Tm := ⟨3, s, ByteArray.empty, ByteArray.empty⟩
def tagT (s g : ByteArray) : Tm := ⟨3, s, low g, ByteArray.empty⟩
def typT (s y : ByteArray) : Tm := if y = xsd then litT s else ⟨4, s, ByteArray.empty, y⟩
def rightT (t : Tm) : Bool :=
  if t.k = 1 then decide (t = iriT t.x) && vld (bl t.x)
  else if t.k = 2 then decide (t = blankT t.x) && (decide (0 < lab (bl t.x)) && decide (lab (bl t.x) = t.x.size))
  else if t.k = 3 then (decide (t = tagT t.x t.g) && vld (bl t.x)) && (decide (t.g = ByteArray.empty) || (decide (0 < tag (bl t.g)) && decide (tag (bl t.g) = t.g.size)))
  else if t.k = 4 then decide (t = typT t.x t.y) && (vld (bl t.x) && vld (bl t.y))
  else false
def textL (t : Tm) : List Nat :=
  if t.k = 1 then 60 :: (iriB (bl t.x) ++ [62])
  else if t.k = 2 then 95 :: 58 :: bl t.x
  else if t.k = 4 then 34 :: (litB (bl t.x) ++ 34 :: 94 :: 94 :: 60 :: (iriB (bl t.y) ++ [62]))
  else 34 :: (litB (bl t.x) ++ 34 :: (if t.g = ByteArray.empty then [] else 64 :: bl t.g))
def sizeT (t : Tm) : Nat := t.x.size + t.g.size + t.y.size
theorem textL_bys (t : Tm) : Bys (textL t) := by
  have b1 := iriB_bys (bl_bys t.x)
  have b2 := litB_bys (bl_bys t.x)
  have b3 := iriB_bys (bl_bys t.y)
  have b4 := bl_bys t.x
  have b5 := bl_bys t.g
  have cons : ∀ {c : Nat} {l : List Nat}, c < 256 → Bys l → Bys (c :: l) := fun hc hl x hx => by
    rcases List.mem_cons.1 hx with rfl | hx
    · exact hc
    · exact hl x hx
  have nil : Bys [] := fun x hx => by cases hx
  unfold textL
  split
  · exact cons (by omega) (bys_app b1 (cons (by omega) nil))
  · split
    · exact cons (by omega) (cons (by omega) b4)
    · split
      · exact cons (by omega) (bys_app b2 (cons (by omega) (cons (by omega) (cons (by omega) (cons (by omega) (bys_app b3 (cons (by omega) nil)))))))
      · refine cons (by omega) (bys_app b2 (cons (by omega) ?_))
        split
        · exact nil
        · exact cons (by omega) b5
theorem textL_len (t : Tm) : (textL t).length ≤ 6 * sizeT t + 6 := by
  have b1 := iriB_len (bl t.x)
  have b2 := litB_len (bl t.x)
  have b3 := iriB_len (bl t.y)
  rw [bl_len] at b1 b2 b3
  have b4 := bl_len t.x
  have b5 := bl_len t.g
  unfold textL sizeT
  repeat' split
  all_goals simp only [List.length_cons, List.length_append, List.length_nil]; omega
end Go.Proofs.YtefcnaccemefnaaGreatDoor
