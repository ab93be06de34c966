/-
  DERIVED. GIVEN WITH THE SEED: THE CARDS: each row of YtjnfhebbphdchaaGreatDoorRows.lean that lists a variable, with what it lists TIED to the program's text (the seventh form; the later family's looks); each row that meets fmt, with fmt's text TOLD by the authors' own Lean function (tested against real Go, not proved from fmt's source: count such statements apart). THE CARD IS WHAT COUNTS. Prove the row's statement (the work); the ties are given (YtjnfhebbphdchaaGreatDoorTie.lean); close each card by the builder's one call (the guide's Derived/Test/ToyasCard.lean, 'card_holds'). Laid BY PROGRAM, IN A SANDBOX (cutbox-door.mjs). By AI agents, Wed Nov 11 2026. No macro, syntax, notation, axiom, sorry.
-/
import Derived.Test.YtjnfhebbphdchaaGreatDoorRows
import GoSem.ClaimSeven
namespace Go.Proofs.YtjnfhebbphdchaaGreatDoor
namespace Rows

/-- THE TIED CARD OF 'chancellaw06.ProgTells'. -/
def progTellsCard : Claim7 := { stood := { row := progTellsRow, standIns := [], harness := (true, "7d4b59fd432cf2200ad9c552eb2d3362bf176cd22af4144da6b55ede43c0250b"), looks := true }, kinds := [], alts := [], laidByText := true, laidKinds := [.data, .data, .data, .handle, .sentinel, .sentinel, .data, .data], laidTests := true, laidLooks := .later }
def ProgTellsCardSaid : Prop := Claim7.holds Tryz.pinned (.plain (OpenSpec.ofChange progTellsSpec)) progTellsCard

/-- THE TIED CARD OF 'chancellaw06.ProgBack'. -/
def progBackCard : Claim7 := { stood := { row := progBackRow, standIns := [], harness := (true, "7d4b59fd432cf2200ad9c552eb2d3362bf176cd22af4144da6b55ede43c0250b"), looks := true }, kinds := [], alts := [], laidByText := true, laidKinds := [.data, .data, .data, .handle, .sentinel, .sentinel, .data, .data], laidTests := true, laidLooks := .later }
def ProgBackCardSaid : Prop := Claim7.holds Tryz.pinned (.plain (OpenSpec.ofChange progBackSpec)) progBackCard

/-- THE TIED CARD OF 'chancellaw06.ProgRight'. -/
def progRightCard : Claim7 := { stood := { row := progRightRow, standIns := [], harness := (true, "7d4b59fd432cf2200ad9c552eb2d3362bf176cd22af4144da6b55ede43c0250b"), looks := true }, kinds := [], alts := [], laidByText := true, laidKinds := [.data, .data, .data, .handle, .sentinel, .sentinel, .data, .data], laidTests := true, laidLooks := .later }
def ProgRightCardSaid : Prop := Claim7.holds Tryz.pinned (.plain (OpenSpec.ofChange progRightSpec)) progRightCard

/-- THE TIED CARD OF 'chancellaw06.ProgSame'. -/
def progSameCard : Claim7 := { stood := { row := progSameRow, standIns := [], harness := (true, "7d4b59fd432cf2200ad9c552eb2d3362bf176cd22af4144da6b55ede43c0250b"), looks := true }, kinds := [], alts := [], laidByText := true, laidKinds := [.data, .data, .data, .handle, .sentinel, .sentinel, .data, .data], laidTests := true, laidLooks := .later }
def ProgSameCardSaid : Prop := Claim7.holds Tryz.pinned (.plain (OpenSpec.ofChange progSameSpec)) progSameCard

/-- THE TIED CARD OF 'chancellaw06.ProgBody'. -/
def progBodyCard : Claim7 := { stood := { row := progBodyRow, standIns := [], harness := (true, "7d4b59fd432cf2200ad9c552eb2d3362bf176cd22af4144da6b55ede43c0250b"), looks := true }, kinds := [], alts := [], laidByText := true, laidKinds := [.data, .data, .data, .handle, .sentinel, .sentinel, .data, .data], laidTests := true, laidLooks := .later }
def ProgBodyCardSaid : Prop := Claim7.holds Tryz.pinned (.plain (OpenSpec.ofChange progBodySpec)) progBodyCard

/-- THE TIED CARD OF 'chancellaw06.ProgMany'. -/
def progManyCard : Claim7 := { stood := { row := progManyRow, standIns := [], harness := (true, "7d4b59fd432cf2200ad9c552eb2d3362bf176cd22af4144da6b55ede43c0250b"), looks := true }, kinds := [], alts := [], laidByText := true, laidKinds := [.data, .data, .data, .handle, .sentinel, .sentinel, .data, .data], laidTests := true, laidLooks := .later }
def ProgManyCardSaid : Prop := Claim7.holds Tryz.pinned (.plain (OpenSpec.ofChange progManySpec)) progManyCard

/-- THE TIED CARD OF 'chancellaw06.ProgDecls'. -/
def progDeclsCard : Claim7 := { stood := { row := progDeclsRow, standIns := [], harness := (true, "7d4b59fd432cf2200ad9c552eb2d3362bf176cd22af4144da6b55ede43c0250b"), looks := true }, kinds := [], alts := [], laidByText := true, laidKinds := [.data, .data, .data, .handle, .sentinel, .sentinel, .data, .data], laidTests := true, laidLooks := .later }
def ProgDeclsCardSaid : Prop := Claim7.holds Tryz.pinned (.plain (OpenSpec.ofChange progDeclsSpec)) progDeclsCard

/-- THE SECOND FORM's CARD OF 'chancellaw06.ProgTells'. -/
def progTellsUptoCard : Claim7 := { stood := { row := progTellsUptoRow, standIns := [], harness := (true, "7d4b59fd432cf2200ad9c552eb2d3362bf176cd22af4144da6b55ede43c0250b"), looks := true }, kinds := [], alts := [], laidByText := true, laidKinds := [.data, .data, .data, .handle, .sentinel, .sentinel, .data, .data], laidTests := true, laidLooks := .later }
def ProgTellsUptoCardSaid : Prop := Claim7.holds Tryz.pinned (.plain (OpenSpec.upto progTellsSpec)) progTellsUptoCard

/-- THE SECOND FORM's CARD OF 'chancellaw06.ProgBack'. -/
def progBackUptoCard : Claim7 := { stood := { row := progBackUptoRow, standIns := [], harness := (true, "7d4b59fd432cf2200ad9c552eb2d3362bf176cd22af4144da6b55ede43c0250b"), looks := true }, kinds := [], alts := [], laidByText := true, laidKinds := [.data, .data, .data, .handle, .sentinel, .sentinel, .data, .data], laidTests := true, laidLooks := .later }
def ProgBackUptoCardSaid : Prop := Claim7.holds Tryz.pinned (.plain (OpenSpec.upto progBackSpec)) progBackUptoCard

/-- THE SECOND FORM's CARD OF 'chancellaw06.ProgRight'. -/
def progRightUptoCard : Claim7 := { stood := { row := progRightUptoRow, standIns := [], harness := (true, "7d4b59fd432cf2200ad9c552eb2d3362bf176cd22af4144da6b55ede43c0250b"), looks := true }, kinds := [], alts := [], laidByText := true, laidKinds := [.data, .data, .data, .handle, .sentinel, .sentinel, .data, .data], laidTests := true, laidLooks := .later }
def ProgRightUptoCardSaid : Prop := Claim7.holds Tryz.pinned (.plain (OpenSpec.upto progRightSpec)) progRightUptoCard

/-- THE SECOND FORM's CARD OF 'chancellaw06.ProgSame'. -/
def progSameUptoCard : Claim7 := { stood := { row := progSameUptoRow, standIns := [], harness := (true, "7d4b59fd432cf2200ad9c552eb2d3362bf176cd22af4144da6b55ede43c0250b"), looks := true }, kinds := [], alts := [], laidByText := true, laidKinds := [.data, .data, .data, .handle, .sentinel, .sentinel, .data, .data], laidTests := true, laidLooks := .later }
def ProgSameUptoCardSaid : Prop := Claim7.holds Tryz.pinned (.plain (OpenSpec.upto progSameSpec)) progSameUptoCard

/-- THE SECOND FORM's CARD OF 'chancellaw06.ProgBody'. -/
def progBodyUptoCard : Claim7 := { stood := { row := progBodyUptoRow, standIns := [], harness := (true, "7d4b59fd432cf2200ad9c552eb2d3362bf176cd22af4144da6b55ede43c0250b"), looks := true }, kinds := [], alts := [], laidByText := true, laidKinds := [.data, .data, .data, .handle, .sentinel, .sentinel, .data, .data], laidTests := true, laidLooks := .later }
def ProgBodyUptoCardSaid : Prop := Claim7.holds Tryz.pinned (.plain (OpenSpec.upto progBodySpec)) progBodyUptoCard

/-- THE SECOND FORM's CARD OF 'chancellaw06.ProgMany'. -/
def progManyUptoCard : Claim7 := { stood := { row := progManyUptoRow, standIns := [], harness := (true, "7d4b59fd432cf2200ad9c552eb2d3362bf176cd22af4144da6b55ede43c0250b"), looks := true }, kinds := [], alts := [], laidByText := true, laidKinds := [.data, .data, .data, .handle, .sentinel, .sentinel, .data, .data], laidTests := true, laidLooks := .later }
def ProgManyUptoCardSaid : Prop := Claim7.holds Tryz.pinned (.plain (OpenSpec.upto progManySpec)) progManyUptoCard

/-- THE SECOND FORM's CARD OF 'chancellaw06.ProgDecls'. -/
def progDeclsUptoCard : Claim7 := { stood := { row := progDeclsUptoRow, standIns := [], harness := (true, "7d4b59fd432cf2200ad9c552eb2d3362bf176cd22af4144da6b55ede43c0250b"), looks := true }, kinds := [], alts := [], laidByText := true, laidKinds := [.data, .data, .data, .handle, .sentinel, .sentinel, .data, .data], laidTests := true, laidLooks := .later }
def ProgDeclsUptoCardSaid : Prop := Claim7.holds Tryz.pinned (.plain (OpenSpec.upto progDeclsSpec)) progDeclsUptoCard
end Rows
end Go.Proofs.YtjnfhebbphdchaaGreatDoor
