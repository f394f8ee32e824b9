/-
  DERIVED. GIVEN WITH THE SEED: THE CARDS: each row of YtnjpjhlodamanaaGreatDoorRows.lean that lists a variable, with what it lists TIED to the program's text (the seventh form; the later family's looks); each row that meets fmt, with fmt's text TOLD by the authors' own Lean function (tested against real Go, not proved from fmt's source: count such statements apart). THE CARD IS WHAT COUNTS. Prove the row's statement (the work); the ties are given (YtnjpjhlodamanaaGreatDoorTie.lean); close each card by the builder's one call (the guide's Derived/Test/ToyasCard.lean, 'card_holds'). Laid BY PROGRAM, IN A SANDBOX (cutbox-door.mjs). By AI agents, Wed Nov 11 2026. No macro, syntax, notation, axiom, sorry.
-/
import Derived.Test.YtnjpjhlodamanaaGreatDoorRows
import GoSem.ClaimSeven
namespace Go.Proofs.YtnjpjhlodamanaaGreatDoor
namespace Rows

/-- THE TIED CARD OF 'stockpotlaw10.DataBack'. -/
def dataBackCard : Claim7 := { stood := { row := dataBackRow, standIns := [], harness := (true, "c358a41ed96b646c15c5dfa2cb6a176507a491fc23ad913116edacbe8f396de8"), looks := false }, kinds := [], alts := [], laidByText := true, laidKinds := [.data, .data, .data], laidTests := true, laidLooks := .later }
def DataBackCardSaid : Prop := Claim7.holds Tryz.pinned (.plain (OpenSpec.ofChange dataBackSpec)) dataBackCard

/-- THE SECOND FORM's CARD OF 'stockpotlaw10.DataBack'. -/
def dataBackUptoCard : Claim7 := { stood := { row := dataBackUptoRow, standIns := [], harness := (true, "c358a41ed96b646c15c5dfa2cb6a176507a491fc23ad913116edacbe8f396de8"), looks := false }, kinds := [], alts := [], laidByText := true, laidKinds := [.data, .data, .data], laidTests := true, laidLooks := .later }
def DataBackUptoCardSaid : Prop := Claim7.holds Tryz.pinned (.plain (OpenSpec.upto dataBackSpec)) dataBackUptoCard
end Rows
end Go.Proofs.YtnjpjhlodamanaaGreatDoor
