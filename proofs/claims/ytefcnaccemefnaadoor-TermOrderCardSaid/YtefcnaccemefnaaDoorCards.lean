/-
  DERIVED. GIVEN WITH THE SEED: THE CARDS: each row of YtefcnaccemefnaaDoorRows.lean that lists a variable, with what it lists TIED to the program's text (the seventh form; the later family's looks); each row that meets fmt, with fmt's text TOLD by the authors' own Lean function (tested against real Go, not proved from fmt's source: count such statements apart). THE CARD IS WHAT COUNTS. Prove the row's statement (the work); the ties are given (YtefcnaccemefnaaDoorTie.lean); close each card by the builder's one call (the guide's Derived/Test/ToyasCard.lean, 'card_holds'). Laid BY PROGRAM, IN A SANDBOX (cutbox-door.mjs). By AI agents, Wed Nov 11 2026. No macro, syntax, notation, axiom, sorry.
-/
import Derived.Test.YtefcnaccemefnaaDoorRows
import GoSem.ClaimSeven
namespace Go.Proofs.YtefcnaccemefnaaDoor
namespace Rows

/-- THE TIED CARD OF 'ossuarylaw08.TermTells'. -/
def termTellsCard : Claim7 := { stood := { row := termTellsRow, standIns := [], harness := (true, "e6e05800d18f3ef9a37e5077f62a7a2d0ca7608787a2ff2726938c7210582b90"), looks := false }, kinds := [], alts := [], laidByText := true, laidKinds := [.data, .pinned], laidTests := true, laidLooks := .later }
def TermTellsCardSaid : Prop := Claim7.holds Tryd.pinned (.plain (OpenSpec.ofChange termTellsSpec)) termTellsCard

/-- THE TIED CARD OF 'ossuarylaw08.TermTriples'. -/
def termTriplesCard : Claim7 := { stood := { row := termTriplesRow, standIns := [], harness := (true, "e6e05800d18f3ef9a37e5077f62a7a2d0ca7608787a2ff2726938c7210582b90"), looks := false }, kinds := [], alts := [], laidByText := true, laidKinds := [.data, .pinned], laidTests := true, laidLooks := .later }
def TermTriplesCardSaid : Prop := Claim7.holds Tryd.pinned (.plain (OpenSpec.ofChange termTriplesSpec)) termTriplesCard

/-- THE TIED CARD OF 'ossuarylaw08.TermOrder'. -/
def termOrderCard : Claim7 := { stood := { row := termOrderRow, standIns := [], harness := (true, "e6e05800d18f3ef9a37e5077f62a7a2d0ca7608787a2ff2726938c7210582b90"), looks := false }, kinds := [], alts := [], laidByText := true, laidKinds := [.data, .pinned], laidTests := true, laidLooks := .later }
def TermOrderCardSaid : Prop := Claim7.holds Tryd.pinned (.plain (OpenSpec.ofChange termOrderSpec)) termOrderCard

/-- THE SECOND FORM's CARD OF 'ossuarylaw08.TermTells'. -/
def termTellsUptoCard : Claim7 := { stood := { row := termTellsUptoRow, standIns := [], harness := (true, "e6e05800d18f3ef9a37e5077f62a7a2d0ca7608787a2ff2726938c7210582b90"), looks := false }, kinds := [], alts := [], laidByText := true, laidKinds := [.data, .pinned], laidTests := true, laidLooks := .later }
def TermTellsUptoCardSaid : Prop := Claim7.holds Tryd.pinned (.plain (OpenSpec.upto termTellsSpec)) termTellsUptoCard

/-- THE SECOND FORM's CARD OF 'ossuarylaw08.TermTriples'. -/
def termTriplesUptoCard : Claim7 := { stood := { row := termTriplesUptoRow, standIns := [], harness := (true, "e6e05800d18f3ef9a37e5077f62a7a2d0ca7608787a2ff2726938c7210582b90"), looks := false }, kinds := [], alts := [], laidByText := true, laidKinds := [.data, .pinned], laidTests := true, laidLooks := .later }
def TermTriplesUptoCardSaid : Prop := Claim7.holds Tryd.pinned (.plain (OpenSpec.upto termTriplesSpec)) termTriplesUptoCard

/-- THE SECOND FORM's CARD OF 'ossuarylaw08.TermOrder'. -/
def termOrderUptoCard : Claim7 := { stood := { row := termOrderUptoRow, standIns := [], harness := (true, "e6e05800d18f3ef9a37e5077f62a7a2d0ca7608787a2ff2726938c7210582b90"), looks := false }, kinds := [], alts := [], laidByText := true, laidKinds := [.data, .pinned], laidTests := true, laidLooks := .later }
def TermOrderUptoCardSaid : Prop := Claim7.holds Tryd.pinned (.plain (OpenSpec.upto termOrderSpec)) termOrderUptoCard
end Rows
end Go.Proofs.YtefcnaccemefnaaDoor
