/- Bytes written over, by the laws' kit. -/
import Derived.Test.YtneipjocimcmnaaDoorKitLI
namespace Go.Proofs.YtneipjocimcmnaaDoor
open Go.RowKit
open Fen

/-- All cells of a block are bytes. -/
def ByteRow (w : World) (g c : Nat) : Prop := ∃ F, w.rowIs g 5 c F
def OverS (g c : Nat) (w w' : World) : Prop := ByteRow w' g c ∧ Only (fun k => k = g) w w'

set_option maxHeartbeats 1000000 in
theorem overBytes_any (g n cap : Nat) (w : World) (hr : ByteRow w g cap) (hn : n ≤ cap) (hcap : cap ≤ 4000000) :
    Calls Tryd.prog 20 #[.slice (some ⟨g, 0, none⟩) n cap] w fun e w' => e = .returned (.tuple #[]) ∧ Hid (OverS g cap w w') := by
  obtain ⟨M, hM⟩ : ∃ M, M = min cap (n + 12) := ⟨_, rfl⟩
  have hM1 : M ≤ cap := by omega
  have hM2 : min (cap : Int) ((n : Int) + 12) = (M : Int) := by omega
  have HS : Hid (OverS g cap w w) := hid ⟨hr, Only.refl _ w⟩
  clear hr hM
  go_enter Tryd.func20, Tryd.ntmps20
  go_wp2
  go_loopw [3] (fun s wr => ∃ k : Nat, k ≤ M ∧ s = .int .i64 k ∧ Hid (OverS g cap w wr)) (fun s _ => M - (intOf s).toNat)
  case atStart => exact ⟨0, by omega, rfl, HS⟩
  case round =>
    obtain ⟨k, hk, rfl, HR⟩ := hrel
    clear HS
    by_cases hp : k < M
    · obtain ⟨F, hF⟩ := HR.out.1
      have ck := hF.cell (i := k) (by omega)
      have fz := hF.frozen k
      have hlt := hF.lt
      have HN : Hid (∀ x : Int, OverS g cap w (wr.setCell ⟨g, k, none⟩ (.int .u8 x))) := hid fun x => ⟨⟨_, hF.set k _⟩, HR.out.2.setCell (.inl rfl) _⟩
      clear HR hF
      have hmb := mkb_lt 2 k
      go_wp2_with (go_at_call 46; refine (markByte_any 2 k _ (by omega) (by omega)).mono ?_; rintro e w2 ⟨rfl, rfl⟩)
      go_roundw
      case rel => exact ⟨k + 1, by omega, by go_num, HN.out _⟩
      case measure => simp [intOf]; omega
    · obtain rfl : k = M := by omega
      go_wp2_with fail
      go_end0
      exact ⟨rfl, HR⟩
end Go.Proofs.YtneipjocimcmnaaDoor
