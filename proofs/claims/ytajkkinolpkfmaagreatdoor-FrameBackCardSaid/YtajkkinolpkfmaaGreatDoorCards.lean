/-
  DERIVED. GIVEN WITH THE SEED: THE CARDS: each row of YtajkkinolpkfmaaGreatDoorRows.lean that lists a variable, with what it lists TIED to the program's text (the seventh form; the later family's looks); each row that meets fmt, with fmt's text TOLD by the authors' own Lean function (tested against real Go, not proved from fmt's source: count such statements apart). THE CARD IS WHAT COUNTS. Prove the row's statement (the work); the ties are given (YtajkkinolpkfmaaGreatDoorTie.lean); close each card by the builder's one call (the guide's Derived/Test/ToyasCard.lean, 'card_holds'). Laid BY PROGRAM, IN A SANDBOX (cutbox-door.mjs). By AI agents, Wed Nov 11 2026. No macro, syntax, notation, axiom, sorry.
-/
import Derived.Test.YtajkkinolpkfmaaGreatDoorRows
import GoSem.ClaimSeven
namespace Go.Proofs.YtajkkinolpkfmaaGreatDoor
namespace Rows

/-- THE TIED CARD OF 'stockpotlaw10.DataFits'. -/
def dataFitsCard : Claim7 := { stood := { row := dataFitsRow, standIns := [], harness := (true, "b4c52456f1ee36b53ec6fa2ab6027d06fbcdf9ef9d1801506749c388196471ff"), looks := false }, kinds := [], alts := [], laidByText := true, laidKinds := [.data, .data, .data], laidTests := true, laidLooks := .later }
def DataFitsCardSaid : Prop := Claim7.holds Tryz.pinned (.plain (OpenSpec.ofChange dataFitsSpec)) dataFitsCard

/-- THE TIED CARD OF 'stockpotlaw11.FrameBack'. -/
def frameBackCard : Claim7 := { stood := { row := frameBackRow, standIns := [], harness := (true, "b4c52456f1ee36b53ec6fa2ab6027d06fbcdf9ef9d1801506749c388196471ff"), looks := false }, kinds := [], alts := [], laidByText := true, laidKinds := [.data, .data, .data], laidTests := true, laidLooks := .later }
def FrameBackCardSaid : Prop := Claim7.holds Tryz.pinned (.plain (OpenSpec.ofChange frameBackSpec)) frameBackCard

/-- THE SECOND FORM's CARD OF 'stockpotlaw10.DataFits'. -/
def dataFitsUptoCard : Claim7 := { stood := { row := dataFitsUptoRow, standIns := [], harness := (true, "b4c52456f1ee36b53ec6fa2ab6027d06fbcdf9ef9d1801506749c388196471ff"), looks := false }, kinds := [], alts := [], laidByText := true, laidKinds := [.data, .data, .data], laidTests := true, laidLooks := .later }
def DataFitsUptoCardSaid : Prop := Claim7.holds Tryz.pinned (.plain (OpenSpec.upto dataFitsSpec)) dataFitsUptoCard

/-- THE SECOND FORM's CARD OF 'stockpotlaw11.FrameBack'. -/
def frameBackUptoCard : Claim7 := { stood := { row := frameBackUptoRow, standIns := [], harness := (true, "b4c52456f1ee36b53ec6fa2ab6027d06fbcdf9ef9d1801506749c388196471ff"), looks := false }, kinds := [], alts := [], laidByText := true, laidKinds := [.data, .data, .data], laidTests := true, laidLooks := .later }
def FrameBackUptoCardSaid : Prop := Claim7.holds Tryz.pinned (.plain (OpenSpec.upto frameBackSpec)) frameBackUptoCard
end Rows
end Go.Proofs.YtajkkinolpkfmaaGreatDoor
