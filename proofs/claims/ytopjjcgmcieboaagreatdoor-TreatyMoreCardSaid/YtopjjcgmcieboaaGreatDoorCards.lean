/-
  DERIVED. GIVEN WITH THE SEED: THE CARDS: each row of YtopjjcgmcieboaaGreatDoorRows.lean that lists a variable, with what it lists TIED to the program's text (the seventh form; the later family's looks); each row that meets fmt, with fmt's text TOLD by the authors' own Lean function (tested against real Go, not proved from fmt's source: count such statements apart). THE CARD IS WHAT COUNTS. Prove the row's statement (the work); the ties are given (YtopjjcgmcieboaaGreatDoorTie.lean); close each card by the builder's one call (the guide's Derived/Test/ToyasCard.lean, 'card_holds'). Laid BY PROGRAM, IN A SANDBOX (cutbox-door.mjs). By AI agents, Wed Nov 11 2026. No macro, syntax, notation, axiom, sorry.
-/
import Derived.Test.YtopjjcgmcieboaaGreatDoorRows
import GoSem.ClaimSeven
namespace Go.Proofs.YtopjjcgmcieboaaGreatDoor
namespace Rows

/-- THE TIED CARD OF 'limitrophelaw01.TreatyAgreed'. -/
def treatyAgreedCard : Claim7 := { stood := { row := treatyAgreedRow, standIns := [], harness := (true, "675616953653c96e79d33d017fbd5d78d0e19dbd499f3e1abc353706bf1d378f"), looks := false }, kinds := [], alts := [], laidByText := true, laidKinds := [.data, .data, .data], laidTests := true, laidLooks := .later }
def TreatyAgreedCardSaid : Prop := Claim7.holds Tryz.pinned (.plain (OpenSpec.ofChange treatyAgreedSpec)) treatyAgreedCard

/-- THE TIED CARD OF 'limitrophelaw01.TreatyListed'. -/
def treatyListedCard : Claim7 := { stood := { row := treatyListedRow, standIns := [], harness := (true, "675616953653c96e79d33d017fbd5d78d0e19dbd499f3e1abc353706bf1d378f"), looks := false }, kinds := [], alts := [], laidByText := true, laidKinds := [.data, .data, .data], laidTests := true, laidLooks := .later }
def TreatyListedCardSaid : Prop := Claim7.holds Tryz.pinned (.plain (OpenSpec.ofChange treatyListedSpec)) treatyListedCard

/-- THE TIED CARD OF 'limitrophelaw01.TreatyMore'. -/
def treatyMoreCard : Claim7 := { stood := { row := treatyMoreRow, standIns := [], harness := (true, "675616953653c96e79d33d017fbd5d78d0e19dbd499f3e1abc353706bf1d378f"), looks := false }, kinds := [], alts := [], laidByText := true, laidKinds := [.data, .data, .data], laidTests := true, laidLooks := .later }
def TreatyMoreCardSaid : Prop := Claim7.holds Tryz.pinned (.plain (OpenSpec.ofChange treatyMoreSpec)) treatyMoreCard

/-- THE SECOND FORM's CARD OF 'limitrophelaw01.TreatyAgreed'. -/
def treatyAgreedUptoCard : Claim7 := { stood := { row := treatyAgreedUptoRow, standIns := [], harness := (true, "675616953653c96e79d33d017fbd5d78d0e19dbd499f3e1abc353706bf1d378f"), looks := false }, kinds := [], alts := [], laidByText := true, laidKinds := [.data, .data, .data], laidTests := true, laidLooks := .later }
def TreatyAgreedUptoCardSaid : Prop := Claim7.holds Tryz.pinned (.plain (OpenSpec.upto treatyAgreedSpec)) treatyAgreedUptoCard

/-- THE SECOND FORM's CARD OF 'limitrophelaw01.TreatyListed'. -/
def treatyListedUptoCard : Claim7 := { stood := { row := treatyListedUptoRow, standIns := [], harness := (true, "675616953653c96e79d33d017fbd5d78d0e19dbd499f3e1abc353706bf1d378f"), looks := false }, kinds := [], alts := [], laidByText := true, laidKinds := [.data, .data, .data], laidTests := true, laidLooks := .later }
def TreatyListedUptoCardSaid : Prop := Claim7.holds Tryz.pinned (.plain (OpenSpec.upto treatyListedSpec)) treatyListedUptoCard

/-- THE SECOND FORM's CARD OF 'limitrophelaw01.TreatyMore'. -/
def treatyMoreUptoCard : Claim7 := { stood := { row := treatyMoreUptoRow, standIns := [], harness := (true, "675616953653c96e79d33d017fbd5d78d0e19dbd499f3e1abc353706bf1d378f"), looks := false }, kinds := [], alts := [], laidByText := true, laidKinds := [.data, .data, .data], laidTests := true, laidLooks := .later }
def TreatyMoreUptoCardSaid : Prop := Claim7.holds Tryz.pinned (.plain (OpenSpec.upto treatyMoreSpec)) treatyMoreUptoCard
end Rows
end Go.Proofs.YtopjjcgmcieboaaGreatDoor
