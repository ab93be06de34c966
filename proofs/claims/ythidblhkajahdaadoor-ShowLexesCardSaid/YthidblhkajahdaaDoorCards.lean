/-
  DERIVED. GIVEN WITH THE SEED: THE CARDS: each row of YthidblhkajahdaaDoorRows.lean that lists a variable, with what it lists TIED to the program's text (the seventh form; the later family's looks); each row that meets fmt, with fmt's text TOLD by the authors' own Lean function (tested against real Go, not proved from fmt's source: count such statements apart). THE CARD IS WHAT COUNTS. Prove the row's statement (the work); the ties are given (YthidblhkajahdaaDoorTie.lean); close each card by the builder's one call (the guide's Derived/Test/ToyasCard.lean, 'card_holds'). Laid BY PROGRAM, IN A SANDBOX (cutbox-door.mjs). By AI agents, Wed Nov 11 2026. No macro, syntax, notation, axiom, sorry.
-/
import Derived.Test.YthidblhkajahdaaDoorRows
import GoSem.ClaimSeven
namespace Go.Proofs.YthidblhkajahdaaDoor
namespace Rows

/-- THE TIED CARD OF 'chancellaw03.TermTells'. -/
def termTellsCard : Claim7 := { stood := { row := termTellsRow, standIns := [], harness := (true, "6e94bc2bedc0f87254e2b19f3794cea0e1a66f4119f98abb0b30371d499ff537"), looks := true }, kinds := [], alts := [], laidByText := true, laidKinds := [.data, .data], laidTests := true, laidLooks := .later }
def TermTellsCardSaid : Prop := Claim7.holds Tryd.pinned (.plain (OpenSpec.ofChange termTellsSpec)) termTellsCard

/-- THE TIED CARD OF 'chancellaw04.ShowLexes'. -/
def showLexesCard : Claim7 := { stood := { row := showLexesRow, standIns := [], harness := (true, "6e94bc2bedc0f87254e2b19f3794cea0e1a66f4119f98abb0b30371d499ff537"), looks := true }, kinds := [], alts := [], laidByText := true, laidKinds := [.data, .data, .data, .sentinel, .sentinel, .data, .data], laidTests := true, laidLooks := .later }
def ShowLexesCardSaid : Prop := Claim7.holds Tryd.pinned (.plain (OpenSpec.ofChange showLexesSpec)) showLexesCard

/-- THE TIED CARD OF 'chancellaw04.ShowApart'. -/
def showApartCard : Claim7 := { stood := { row := showApartRow, standIns := [], harness := (true, "6e94bc2bedc0f87254e2b19f3794cea0e1a66f4119f98abb0b30371d499ff537"), looks := true }, kinds := [], alts := [], laidByText := true, laidKinds := [.data, .data, .data, .sentinel, .sentinel, .data, .data], laidTests := true, laidLooks := .later }
def ShowApartCardSaid : Prop := Claim7.holds Tryd.pinned (.plain (OpenSpec.ofChange showApartSpec)) showApartCard

/-- THE TIED CARD OF 'chancellaw04.ShowWithin'. -/
def showWithinCard : Claim7 := { stood := { row := showWithinRow, standIns := [], harness := (true, "6e94bc2bedc0f87254e2b19f3794cea0e1a66f4119f98abb0b30371d499ff537"), looks := true }, kinds := [], alts := [], laidByText := true, laidKinds := [.data, .data, .data, .sentinel, .sentinel, .data, .data], laidTests := true, laidLooks := .later }
def ShowWithinCardSaid : Prop := Claim7.holds Tryd.pinned (.plain (OpenSpec.ofChange showWithinSpec)) showWithinCard

/-- THE TIED CARD OF 'chancellaw04.ShowCounts'. -/
def showCountsCard : Claim7 := { stood := { row := showCountsRow, standIns := [], harness := (true, "6e94bc2bedc0f87254e2b19f3794cea0e1a66f4119f98abb0b30371d499ff537"), looks := true }, kinds := [], alts := [], laidByText := true, laidKinds := [.data, .data, .data, .sentinel, .sentinel, .data, .data], laidTests := true, laidLooks := .later }
def ShowCountsCardSaid : Prop := Claim7.holds Tryd.pinned (.plain (OpenSpec.ofChange showCountsSpec)) showCountsCard

/-- THE SECOND FORM's CARD OF 'chancellaw03.TermTells'. -/
def termTellsUptoCard : Claim7 := { stood := { row := termTellsUptoRow, standIns := [], harness := (true, "6e94bc2bedc0f87254e2b19f3794cea0e1a66f4119f98abb0b30371d499ff537"), looks := true }, kinds := [], alts := [], laidByText := true, laidKinds := [.data, .data], laidTests := true, laidLooks := .later }
def TermTellsUptoCardSaid : Prop := Claim7.holds Tryd.pinned (.plain (OpenSpec.upto termTellsSpec)) termTellsUptoCard

/-- THE SECOND FORM's CARD OF 'chancellaw04.ShowLexes'. -/
def showLexesUptoCard : Claim7 := { stood := { row := showLexesUptoRow, standIns := [], harness := (true, "6e94bc2bedc0f87254e2b19f3794cea0e1a66f4119f98abb0b30371d499ff537"), looks := true }, kinds := [], alts := [], laidByText := true, laidKinds := [.data, .data, .data, .sentinel, .sentinel, .data, .data], laidTests := true, laidLooks := .later }
def ShowLexesUptoCardSaid : Prop := Claim7.holds Tryd.pinned (.plain (OpenSpec.upto showLexesSpec)) showLexesUptoCard

/-- THE SECOND FORM's CARD OF 'chancellaw04.ShowApart'. -/
def showApartUptoCard : Claim7 := { stood := { row := showApartUptoRow, standIns := [], harness := (true, "6e94bc2bedc0f87254e2b19f3794cea0e1a66f4119f98abb0b30371d499ff537"), looks := true }, kinds := [], alts := [], laidByText := true, laidKinds := [.data, .data, .data, .sentinel, .sentinel, .data, .data], laidTests := true, laidLooks := .later }
def ShowApartUptoCardSaid : Prop := Claim7.holds Tryd.pinned (.plain (OpenSpec.upto showApartSpec)) showApartUptoCard

/-- THE SECOND FORM's CARD OF 'chancellaw04.ShowWithin'. -/
def showWithinUptoCard : Claim7 := { stood := { row := showWithinUptoRow, standIns := [], harness := (true, "6e94bc2bedc0f87254e2b19f3794cea0e1a66f4119f98abb0b30371d499ff537"), looks := true }, kinds := [], alts := [], laidByText := true, laidKinds := [.data, .data, .data, .sentinel, .sentinel, .data, .data], laidTests := true, laidLooks := .later }
def ShowWithinUptoCardSaid : Prop := Claim7.holds Tryd.pinned (.plain (OpenSpec.upto showWithinSpec)) showWithinUptoCard

/-- THE SECOND FORM's CARD OF 'chancellaw04.ShowCounts'. -/
def showCountsUptoCard : Claim7 := { stood := { row := showCountsUptoRow, standIns := [], harness := (true, "6e94bc2bedc0f87254e2b19f3794cea0e1a66f4119f98abb0b30371d499ff537"), looks := true }, kinds := [], alts := [], laidByText := true, laidKinds := [.data, .data, .data, .sentinel, .sentinel, .data, .data], laidTests := true, laidLooks := .later }
def ShowCountsUptoCardSaid : Prop := Claim7.holds Tryd.pinned (.plain (OpenSpec.upto showCountsSpec)) showCountsUptoCard
end Rows
end Go.Proofs.YthidblhkajahdaaDoor
