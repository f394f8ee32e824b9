/-
  DERIVED. GIVEN WITH THE SEED: THE CARDS: each row of YtlfbfnkmbceejaaDoorRows.lean that lists a variable, with what it lists TIED to the program's text (the seventh form; the later family's looks); each row that meets fmt, with fmt's text TOLD by the authors' own Lean function (tested against real Go, not proved from fmt's source: count such statements apart). THE CARD IS WHAT COUNTS. Prove the row's statement (the work); the ties are given (YtlfbfnkmbceejaaDoorTie.lean); close each card by the builder's one call (the guide's Derived/Test/ToyasCard.lean, 'card_holds'). Laid BY PROGRAM, IN A SANDBOX (cutbox-door.mjs). By AI agents, Wed Nov 11 2026. No macro, syntax, notation, axiom, sorry.
-/
import Derived.Test.YtlfbfnkmbceejaaDoorRows
import GoSem.ClaimSeven
namespace Go.Proofs.YtlfbfnkmbceejaaDoor
namespace Rows

/-- THE TIED CARD OF 'stockpotlaw08.VerifyTells'. -/
def verifyTellsCard : Claim7 := { stood := { row := verifyTellsRow, standIns := [], harness := (true, "d1dd956cadda5649e2ddd89c8b23c31e6e252b3ba63e2ad452c1da9380eeaac8"), looks := false }, kinds := [], alts := [], laidByText := true, laidKinds := [.data, .data, .data, .data], laidTests := true, laidLooks := .later }
def VerifyTellsCardSaid : Prop := Claim7.holds Tryd.pinned (.plain (OpenSpec.ofChange verifyTellsSpec)) verifyTellsCard

/-- THE TIED CARD OF 'stockpotlaw08.VerifyFlows'. -/
def verifyFlowsCard : Claim7 := { stood := { row := verifyFlowsRow, standIns := [], harness := (true, "d1dd956cadda5649e2ddd89c8b23c31e6e252b3ba63e2ad452c1da9380eeaac8"), looks := false }, kinds := [], alts := [], laidByText := true, laidKinds := [.data, .data, .data, .data], laidTests := true, laidLooks := .later }
def VerifyFlowsCardSaid : Prop := Claim7.holds Tryd.pinned (.plain (OpenSpec.ofChange verifyFlowsSpec)) verifyFlowsCard

/-- THE TIED CARD OF 'stockpotlaw08.VerifyMore'. -/
def verifyMoreCard : Claim7 := { stood := { row := verifyMoreRow, standIns := [], harness := (true, "d1dd956cadda5649e2ddd89c8b23c31e6e252b3ba63e2ad452c1da9380eeaac8"), looks := false }, kinds := [], alts := [], laidByText := true, laidKinds := [.data, .data, .data, .data], laidTests := true, laidLooks := .later }
def VerifyMoreCardSaid : Prop := Claim7.holds Tryd.pinned (.plain (OpenSpec.ofChange verifyMoreSpec)) verifyMoreCard

/-- THE TIED CARD OF 'stockpotlaw08.VerifyBounds'. -/
def verifyBoundsCard : Claim7 := { stood := { row := verifyBoundsRow, standIns := [], harness := (true, "d1dd956cadda5649e2ddd89c8b23c31e6e252b3ba63e2ad452c1da9380eeaac8"), looks := false }, kinds := [], alts := [], laidByText := true, laidKinds := [.data, .data, .data, .data], laidTests := true, laidLooks := .later }
def VerifyBoundsCardSaid : Prop := Claim7.holds Tryd.pinned (.plain (OpenSpec.ofChange verifyBoundsSpec)) verifyBoundsCard

/-- THE SECOND FORM's CARD OF 'stockpotlaw08.VerifyTells'. -/
def verifyTellsUptoCard : Claim7 := { stood := { row := verifyTellsUptoRow, standIns := [], harness := (true, "d1dd956cadda5649e2ddd89c8b23c31e6e252b3ba63e2ad452c1da9380eeaac8"), looks := false }, kinds := [], alts := [], laidByText := true, laidKinds := [.data, .data, .data, .data], laidTests := true, laidLooks := .later }
def VerifyTellsUptoCardSaid : Prop := Claim7.holds Tryd.pinned (.plain (OpenSpec.upto verifyTellsSpec)) verifyTellsUptoCard

/-- THE SECOND FORM's CARD OF 'stockpotlaw08.VerifyFlows'. -/
def verifyFlowsUptoCard : Claim7 := { stood := { row := verifyFlowsUptoRow, standIns := [], harness := (true, "d1dd956cadda5649e2ddd89c8b23c31e6e252b3ba63e2ad452c1da9380eeaac8"), looks := false }, kinds := [], alts := [], laidByText := true, laidKinds := [.data, .data, .data, .data], laidTests := true, laidLooks := .later }
def VerifyFlowsUptoCardSaid : Prop := Claim7.holds Tryd.pinned (.plain (OpenSpec.upto verifyFlowsSpec)) verifyFlowsUptoCard

/-- THE SECOND FORM's CARD OF 'stockpotlaw08.VerifyMore'. -/
def verifyMoreUptoCard : Claim7 := { stood := { row := verifyMoreUptoRow, standIns := [], harness := (true, "d1dd956cadda5649e2ddd89c8b23c31e6e252b3ba63e2ad452c1da9380eeaac8"), looks := false }, kinds := [], alts := [], laidByText := true, laidKinds := [.data, .data, .data, .data], laidTests := true, laidLooks := .later }
def VerifyMoreUptoCardSaid : Prop := Claim7.holds Tryd.pinned (.plain (OpenSpec.upto verifyMoreSpec)) verifyMoreUptoCard

/-- THE SECOND FORM's CARD OF 'stockpotlaw08.VerifyBounds'. -/
def verifyBoundsUptoCard : Claim7 := { stood := { row := verifyBoundsUptoRow, standIns := [], harness := (true, "d1dd956cadda5649e2ddd89c8b23c31e6e252b3ba63e2ad452c1da9380eeaac8"), looks := false }, kinds := [], alts := [], laidByText := true, laidKinds := [.data, .data, .data, .data], laidTests := true, laidLooks := .later }
def VerifyBoundsUptoCardSaid : Prop := Claim7.holds Tryd.pinned (.plain (OpenSpec.upto verifyBoundsSpec)) verifyBoundsUptoCard
end Rows
end Go.Proofs.YtlfbfnkmbceejaaDoor
