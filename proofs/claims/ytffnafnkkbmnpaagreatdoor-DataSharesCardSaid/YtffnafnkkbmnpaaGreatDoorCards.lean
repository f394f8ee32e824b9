/-
  DERIVED. GIVEN WITH THE SEED: THE CARDS: each row of YtffnafnkkbmnpaaGreatDoorRows.lean that lists a variable, with what it lists TIED to the program's text (the seventh form; the later family's looks); each row that meets fmt, with fmt's text TOLD by the authors' own Lean function (tested against real Go, not proved from fmt's source: count such statements apart). THE CARD IS WHAT COUNTS. Prove the row's statement (the work); the ties are given (YtffnafnkkbmnpaaGreatDoorTie.lean); close each card by the builder's one call (the guide's Derived/Test/ToyasCard.lean, 'card_holds'). Laid BY PROGRAM, IN A SANDBOX (cutbox-door.mjs). By AI agents, Wed Nov 11 2026. No macro, syntax, notation, axiom, sorry.
-/
import Derived.Test.YtffnafnkkbmnpaaGreatDoorRows
import GoSem.ClaimSeven
namespace Go.Proofs.YtffnafnkkbmnpaaGreatDoor
namespace Rows

/-- THE TIED CARD OF 'stockpotlaw10.DataBack'. -/
def dataBackCard : Claim7 := { stood := { row := dataBackRow, standIns := [], harness := (true, "5fb08e3bfaffd48e79cd141abe95bc957afb131cfd99f169aa61cad4c4aa984e"), looks := false }, kinds := [], alts := [], laidByText := true, laidKinds := [.data, .data, .data], laidTests := true, laidLooks := .later }
def DataBackCardSaid : Prop := Claim7.holds Tryz.pinned (.plain (OpenSpec.ofChange dataBackSpec)) dataBackCard

/-- THE TIED CARD OF 'stockpotlaw10.DataFits'. -/
def dataFitsCard : Claim7 := { stood := { row := dataFitsRow, standIns := [], harness := (true, "5fb08e3bfaffd48e79cd141abe95bc957afb131cfd99f169aa61cad4c4aa984e"), looks := false }, kinds := [], alts := [], laidByText := true, laidKinds := [.data, .data, .data], laidTests := true, laidLooks := .later }
def DataFitsCardSaid : Prop := Claim7.holds Tryz.pinned (.plain (OpenSpec.ofChange dataFitsSpec)) dataFitsCard

/-- THE TIED CARD OF 'stockpotlaw10.DataShares'. -/
def dataSharesCard : Claim7 := { stood := { row := dataSharesRow, standIns := [], harness := (true, "5fb08e3bfaffd48e79cd141abe95bc957afb131cfd99f169aa61cad4c4aa984e"), looks := false }, kinds := [], alts := [], laidByText := true, laidKinds := [.data, .data, .data], laidTests := true, laidLooks := .later }
def DataSharesCardSaid : Prop := Claim7.holds Tryz.pinned (.plain (OpenSpec.ofChange dataSharesSpec)) dataSharesCard

/-- THE TIED CARD OF 'stockpotlaw10.DataPairs'. -/
def dataPairsCard : Claim7 := { stood := { row := dataPairsRow, standIns := [], harness := (true, "5fb08e3bfaffd48e79cd141abe95bc957afb131cfd99f169aa61cad4c4aa984e"), looks := false }, kinds := [], alts := [], laidByText := true, laidKinds := [.data, .data, .data], laidTests := true, laidLooks := .later }
def DataPairsCardSaid : Prop := Claim7.holds Tryz.pinned (.plain (OpenSpec.ofChange dataPairsSpec)) dataPairsCard

/-- THE SECOND FORM's CARD OF 'stockpotlaw10.DataBack'. -/
def dataBackUptoCard : Claim7 := { stood := { row := dataBackUptoRow, standIns := [], harness := (true, "5fb08e3bfaffd48e79cd141abe95bc957afb131cfd99f169aa61cad4c4aa984e"), looks := false }, kinds := [], alts := [], laidByText := true, laidKinds := [.data, .data, .data], laidTests := true, laidLooks := .later }
def DataBackUptoCardSaid : Prop := Claim7.holds Tryz.pinned (.plain (OpenSpec.upto dataBackSpec)) dataBackUptoCard

/-- THE SECOND FORM's CARD OF 'stockpotlaw10.DataFits'. -/
def dataFitsUptoCard : Claim7 := { stood := { row := dataFitsUptoRow, standIns := [], harness := (true, "5fb08e3bfaffd48e79cd141abe95bc957afb131cfd99f169aa61cad4c4aa984e"), looks := false }, kinds := [], alts := [], laidByText := true, laidKinds := [.data, .data, .data], laidTests := true, laidLooks := .later }
def DataFitsUptoCardSaid : Prop := Claim7.holds Tryz.pinned (.plain (OpenSpec.upto dataFitsSpec)) dataFitsUptoCard

/-- THE SECOND FORM's CARD OF 'stockpotlaw10.DataShares'. -/
def dataSharesUptoCard : Claim7 := { stood := { row := dataSharesUptoRow, standIns := [], harness := (true, "5fb08e3bfaffd48e79cd141abe95bc957afb131cfd99f169aa61cad4c4aa984e"), looks := false }, kinds := [], alts := [], laidByText := true, laidKinds := [.data, .data, .data], laidTests := true, laidLooks := .later }
def DataSharesUptoCardSaid : Prop := Claim7.holds Tryz.pinned (.plain (OpenSpec.upto dataSharesSpec)) dataSharesUptoCard

/-- THE SECOND FORM's CARD OF 'stockpotlaw10.DataPairs'. -/
def dataPairsUptoCard : Claim7 := { stood := { row := dataPairsUptoRow, standIns := [], harness := (true, "5fb08e3bfaffd48e79cd141abe95bc957afb131cfd99f169aa61cad4c4aa984e"), looks := false }, kinds := [], alts := [], laidByText := true, laidKinds := [.data, .data, .data], laidTests := true, laidLooks := .later }
def DataPairsUptoCardSaid : Prop := Claim7.holds Tryz.pinned (.plain (OpenSpec.upto dataPairsSpec)) dataPairsUptoCard
end Rows
end Go.Proofs.YtffnafnkkbmnpaaGreatDoor
