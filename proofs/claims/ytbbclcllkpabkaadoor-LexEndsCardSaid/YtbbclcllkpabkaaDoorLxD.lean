/- The law's own words: awake, blank. -/
import Derived.Test.YtbbclcllkpabkaaDoorLxC
namespace Go.Proofs.YtbbclcllkpabkaaDoor.X
open Go.RowKit U G

/-- A line that has tokens. -/
theorem line_is {s : ByteArray} {w : World} {ts : List Tk} {f : Nat} (hT : Tb w) (hE : XerrAt w) (hs : s.size ≤ 100000) (hv : Val (bl s)) (hl : lin (bl s) 0 = (ts, f)) (hf : f < 2) :
    Calls Tryd.prog 9 #[.string s] w fun e w' => ∃ A cap, e = .returned (.tuple #[.slice A ts.length cap, .int .i64 0, .int .i64 0]) ∧ Hid (StU w w' ∧ RdK w' A ts ∧ ts.length ≤ cap ∧ (A = none → ts.length = 0 ∧ cap = 0)) := by
  refine (line_any hT hE hs).mono fun e w' hh => ?_
  have hall : (sgsL (bl s)).2 = s.size := by rw [hv.sgs, bl_len]
  rcases hh.2 with ⟨h1, _⟩ | ⟨_, p, h1, _⟩ | ⟨_, _, A, n, cap, h1, h2⟩
  · omega
  · rw [hl] at h1; simp only at h1; omega
  · rw [hl] at h2
    obtain ⟨rfl, h3, h4, h5⟩ := h2.out
    exact ⟨A, cap, h1, hid ⟨hh.1, h3, h4, h5⟩⟩
theorem line_not {s : ByteArray} {w : World} {ts : List Tk} {p : Nat} (hT : Tb w) (hE : XerrAt w) (hs : s.size ≤ 100000) (hv : Val (bl s)) (hl : lin (bl s) 0 = (ts, p + 2)) :
    Calls Tryd.prog 9 #[.string s] w fun e w' => e = .returned (.tuple #[.slice none 0 0, .int .i64 (p : Int), .int .i64 10]) ∧ StU w w' := by
  refine (line_any hT hE hs).mono fun e w' hh => ?_
  have hall : (sgsL (bl s)).2 = s.size := by rw [hv.sgs, bl_len]
  rcases hh.2 with ⟨h1, _⟩ | ⟨_, q, h1, h2⟩ | ⟨_, h1, _⟩
  · omega
  · rw [hl] at h1
    simp only at h1
    obtain rfl : p = q := by omega
    exact ⟨h2, hh.1⟩
  · rw [hl] at h1; simp only at h1; omega
theorem line_bad {s : ByteArray} {w : World} (hT : Tb w) (hE : XerrAt w) (hs : s.size ≤ 100000) (h : (sgsL (bl s)).2 < s.size) :
    Calls Tryd.prog 9 #[.string s] w fun e w' => e = .returned (.tuple #[.slice none 0 0, .int .i64 (((sgsL (bl s)).2 : Nat) : Int), .int .i64 11]) ∧ StU w w' := by
  refine (line_any hT hE hs).mono fun e w' hh => ?_
  rcases hh.2 with ⟨_, h1⟩ | ⟨h1, _⟩ | ⟨h1, _⟩
  · exact ⟨h1, hh.1⟩
  · omega
  · omega
abbrev exA : ByteArray := { data := #[60, 97, 62, 32, 34, 98, 34, 64, 101, 110, 32, 46, 32, 35, 32, 99] }
abbrev exB : ByteArray := { data := #[95, 58, 97, 46, 32] }
def tsA : List Tk := [(1, [97], 0), (3, [98], 4), (4, [101, 110], 7), (6, [], 11)]
def tsB : List Tk := [(2, [97], 0), (6, [], 3)]
theorem exA_lin : lin (bl exA) 0 = (tsA, 1) := by decide +kernel
theorem exB_lin : lin (bl exB) 0 = (tsB, 0) := by decide +kernel
theorem exA_val : Val (bl exA) := Val.asc (by decide)
theorem exB_val : Val (bl exB) := Val.asc (by decide)
theorem str98 : strB [98] = { data := #[98] } := by decide +kernel
theorem str97 : strB [97] = { data := #[97] } := by decide +kernel
theorem strEn : strB [101, 110] = { data := #[101, 110] } := by decide +kernel
set_option maxHeartbeats 2000000 in
set_option maxRecDepth 100000 in
theorem awake9_any {w : World} (hT : Tb w) (hE : XerrAt w) : Calls Tryd.prog 7 #[] w fun e w' => e = .returned (.bool true) ∧ StU w w' := by
  have HA : Hid (Calls Tryd.prog 9 #[.string exA] w fun e w' => ∃ A cap b off, e = .returned (.tuple #[.slice (some ⟨b, off, none⟩) 4 cap, .int .i64 0, .int .i64 0]) ∧ A = 0 ∧ Hid (StU w w' ∧ ∀ W, StU w' W → W.cell? ⟨b, off + 3, none⟩ = some (.int .i64 3) ∧ W.cell? ⟨b, off + 3 + 1, none⟩ = some (.string { data := #[98] }) ∧ W.cell? ⟨b, off + 6 + 1, none⟩ = some (.string { data := #[101, 110] }) ∧ W.cell? ⟨b, off + 9 + 2, none⟩ = some (.int .i64 11))) := hid ((line_is hT hE (by decide) exA_val exA_lin (by decide)).mono fun e w' ⟨A, cap, h1, h2⟩ => by
    obtain ⟨b, off, rfl, _⟩ := h2.out.2.1 0 (by decide)
    refine ⟨0, cap, b, off, h1, rfl, hid ⟨h2.out.1, fun W hW => ?_⟩⟩
    have hr := h2.out.2.1.only hW
    obtain ⟨b1, o1, e1, _, x1, x2, _⟩ := hr 1 (by decide)
    injection e1 with e1; injection e1 with e1 e2; subst e1; subst e2
    obtain ⟨b1, o1, e1, _, _, x3, _⟩ := hr 2 (by decide)
    injection e1 with e1; injection e1 with e1 e2; subst e1; subst e2
    obtain ⟨b1, o1, e1, _, _, _, x4⟩ := hr 3 (by decide)
    injection e1 with e1; injection e1 with e1 e2; subst e1; subst e2
    exact ⟨x1, by rw [← str98]; exact x2, by rw [← strEn]; exact x3, x4⟩)
  have HB : Hid (∀ W, StU w W → Calls Tryd.prog 9 #[.string exB] W fun e w' => ∃ cap b off, e = .returned (.tuple #[.slice (some ⟨b, off, none⟩) 2 cap, .int .i64 0, .int .i64 0]) ∧ Hid (StU W w' ∧ w'.cell? ⟨b, off + 1, none⟩ = some (.string { data := #[97] }) ∧ w'.cell? ⟨b, off + 3, none⟩ = some (.int .i64 6))) := hid fun W hW => (line_is (hT.stu hW) (hE.stu hW) (by decide) exB_val exB_lin (by decide)).mono fun e w' ⟨A, cap, h1, h2⟩ => by
    obtain ⟨b, off, rfl, _, _, x1, _⟩ := h2.out.2.1 0 (by decide)
    obtain ⟨b1, o1, e1, _, x2, _, _⟩ := h2.out.2.1 1 (by decide)
    injection e1 with e1; injection e1 with e1 e2; subst e1; subst e2
    exact ⟨cap, b, off, h1, hid ⟨h2.out.1, by rw [← str97]; exact x1, x2⟩⟩
  clear hT hE
  go_enter Tryd.func7, Tryd.ntmps7
  go_wp2_with (first
    | (go_at_call 9; refine HA.out.mono ?_; rintro e w1 ⟨A, cap, b, off, rfl, _, HX⟩; clear HA)
    | (go_at_call 9; refine (HB.out _ HX.out.1).mono ?_; rintro e w2 ⟨cap2, b2, off2, rfl, HY⟩; have HO : StU w w2 := hid (HX.out.1.out.trans HY.out.1.out); obtain ⟨x1, x2, x3, x4⟩ := HX.out.2 _ HY.out.1; obtain ⟨_, y1, y2⟩ := HY.out))
  go_ret
  exact ⟨rfl, HO⟩
end Go.Proofs.YtbbclcllkpabkaaDoor.X
