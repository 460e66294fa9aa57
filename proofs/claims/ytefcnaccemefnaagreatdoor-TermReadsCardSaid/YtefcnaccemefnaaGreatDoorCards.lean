/-
  DERIVED. GIVEN WITH THE SEED: THE CARDS: each row of YtefcnaccemefnaaGreatDoorRows.lean that lists a variable, with what it lists TIED to the program's text (the seventh form; the later family's looks); each row that meets fmt, with fmt's text TOLD by the authors' own Lean function (tested against real Go, not proved from fmt's source: count such statements apart). THE CARD IS WHAT COUNTS. Prove the row's statement (the work); the ties are given (YtefcnaccemefnaaGreatDoorTie.lean); close each card by the builder's one call (the guide's Derived/Test/ToyasCard.lean, 'card_holds'). Laid BY PROGRAM, IN A SANDBOX (cutbox-door.mjs). By AI agents, Wed Nov 11 2026. No macro, syntax, notation, axiom, sorry.
-/
import Derived.Test.YtefcnaccemefnaaGreatDoorRows
import GoSem.ClaimSeven
namespace Go.Proofs.YtefcnaccemefnaaGreatDoor
namespace Rows

/-- THE TIED CARD OF 'ossuarylaw08.TermReads'. -/
def termReadsCard : Claim7 := { stood := { row := termReadsRow, standIns := [], harness := (true, "3282e5c92dc08bd1ecd644c5bd0c5051b1dd63b5413cdfc461f22d1b151ce3e1"), looks := true }, kinds := [], alts := [], laidByText := true, laidKinds := [.data, .data, .data, .data, .sentinel, .sentinel, .pinned], laidTests := true, laidLooks := .later }
def TermReadsCardSaid : Prop := Claim7.holds Tryz.pinned (.plain (OpenSpec.ofChange termReadsSpec)) termReadsCard

/-- THE TIED CARD OF 'ossuarylaw08.TermEnds'. -/
def termEndsCard : Claim7 := { stood := { row := termEndsRow, standIns := [], harness := (true, "3282e5c92dc08bd1ecd644c5bd0c5051b1dd63b5413cdfc461f22d1b151ce3e1"), looks := true }, kinds := [], alts := [], laidByText := true, laidKinds := [.data, .data, .data, .data, .sentinel, .sentinel, .pinned], laidTests := true, laidLooks := .later }
def TermEndsCardSaid : Prop := Claim7.holds Tryz.pinned (.plain (OpenSpec.ofChange termEndsSpec)) termEndsCard

/-- THE TIED CARD OF 'ossuarylaw08.TermBack'. -/
def termBackCard : Claim7 := { stood := { row := termBackRow, standIns := [], harness := (true, "3282e5c92dc08bd1ecd644c5bd0c5051b1dd63b5413cdfc461f22d1b151ce3e1"), looks := true }, kinds := [], alts := [], laidByText := true, laidKinds := [.data, .data, .data, .data, .sentinel, .sentinel, .pinned], laidTests := true, laidLooks := .later }
def TermBackCardSaid : Prop := Claim7.holds Tryz.pinned (.plain (OpenSpec.ofChange termBackSpec)) termBackCard

/-- THE SECOND FORM's CARD OF 'ossuarylaw08.TermReads'. -/
def termReadsUptoCard : Claim7 := { stood := { row := termReadsUptoRow, standIns := [], harness := (true, "3282e5c92dc08bd1ecd644c5bd0c5051b1dd63b5413cdfc461f22d1b151ce3e1"), looks := true }, kinds := [], alts := [], laidByText := true, laidKinds := [.data, .data, .data, .data, .sentinel, .sentinel, .pinned], laidTests := true, laidLooks := .later }
def TermReadsUptoCardSaid : Prop := Claim7.holds Tryz.pinned (.plain (OpenSpec.upto termReadsSpec)) termReadsUptoCard

/-- THE SECOND FORM's CARD OF 'ossuarylaw08.TermEnds'. -/
def termEndsUptoCard : Claim7 := { stood := { row := termEndsUptoRow, standIns := [], harness := (true, "3282e5c92dc08bd1ecd644c5bd0c5051b1dd63b5413cdfc461f22d1b151ce3e1"), looks := true }, kinds := [], alts := [], laidByText := true, laidKinds := [.data, .data, .data, .data, .sentinel, .sentinel, .pinned], laidTests := true, laidLooks := .later }
def TermEndsUptoCardSaid : Prop := Claim7.holds Tryz.pinned (.plain (OpenSpec.upto termEndsSpec)) termEndsUptoCard

/-- THE SECOND FORM's CARD OF 'ossuarylaw08.TermBack'. -/
def termBackUptoCard : Claim7 := { stood := { row := termBackUptoRow, standIns := [], harness := (true, "3282e5c92dc08bd1ecd644c5bd0c5051b1dd63b5413cdfc461f22d1b151ce3e1"), looks := true }, kinds := [], alts := [], laidByText := true, laidKinds := [.data, .data, .data, .data, .sentinel, .sentinel, .pinned], laidTests := true, laidLooks := .later }
def TermBackUptoCardSaid : Prop := Claim7.holds Tryz.pinned (.plain (OpenSpec.upto termBackSpec)) termBackUptoCard
end Rows
end Go.Proofs.YtefcnaccemefnaaGreatDoor
