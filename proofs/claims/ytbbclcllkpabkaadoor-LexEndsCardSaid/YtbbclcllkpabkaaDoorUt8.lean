/- The law's example: awake. -/
import Derived.Test.YtbbclcllkpabkaaDoorUt7
namespace Go.Proofs.YtbbclcllkpabkaaDoor
open Go.RowKit U G

abbrev exT : ByteArray := { data := #[195, 169, 226, 130, 172] }
abbrev exL : ByteArray := { data := #[97, 46, 98, 46, 32, 120] }
abbrev exG : ByteArray := { data := #[101, 110, 45, 49, 45, 32] }
theorem ex1 : strB (encL (natZ [233, 8364])) = exT := by decide +kernel
theorem ex2 : lab (bl exL) = 3 := by decide +kernel
theorem ex3 : tag (bl exG) = 4 := by decide +kernel
theorem ex4 : rawZ 60 = false := by decide +kernel
theorem ex5 : allSg [233, 8364] = true := by decide +kernel
theorem rd_two (w : World) (a b : Int) : RdI (w.alloc (.cells #[.int .i64 a, .int .i64 b] 3)) (some ⟨w.heap.size, 0, none⟩) [a, b] :=
  RdV.of_row (World.rowIs_alloc w #[.int .i64 a, .int .i64 b] 3 (vI [a, b]) (fun i hi => by
    match i, hi with
    | 0, _ => rfl
    | 1, _ => rfl
    | i + 2, hi => exact absurd (show i + 2 < 2 from hi) (by omega)))
end Go.Proofs.YtbbclcllkpabkaaDoor
