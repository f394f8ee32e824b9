/-
  DERIVED. GIVEN WITH THE SEED: THE CARDS: each row of YtkolfalfpfnakaaDoorRows.lean that lists a variable, with what it lists TIED to the program's text (the seventh form; the later family's looks); each row that meets fmt, with fmt's text TOLD by the authors' own Lean function (tested against real Go, not proved from fmt's source: count such statements apart). THE CARD IS WHAT COUNTS. Prove the row's statement (the work); the ties are given (YtkolfalfpfnakaaDoorTie.lean); close each card by the builder's one call (the guide's Derived/Test/ToyasCard.lean, 'card_holds'). Laid BY PROGRAM, IN A SANDBOX (cutbox-door.mjs). By AI agents, Wed Nov 11 2026. No macro, syntax, notation, axiom, sorry.
-/
import Derived.Test.YtkolfalfpfnakaaDoorRows
import GoSem.ClaimSeven
namespace Go.Proofs.YtkolfalfpfnakaaDoor
namespace Rows

/-- THE TIED CARD OF 'stockpotlaw06.OpTells'. -/
def opTellsCard : Claim7 := { stood := { row := opTellsRow, standIns := [], harness := (true, "e2af3a3f550e8997023e26d626724c6d13e983ba3502a4656553efa33d14e82a"), looks := false }, kinds := [], alts := [], laidByText := true, laidKinds := [.data, .data, .data], laidTests := true, laidLooks := .later }
def OpTellsCardSaid : Prop := Claim7.holds Tryd.pinned (.plain (OpenSpec.ofChange opTellsSpec)) opTellsCard

/-- THE TIED CARD OF 'stockpotlaw06.OpNames'. -/
def opNamesCard : Claim7 := { stood := { row := opNamesRow, standIns := [], harness := (true, "e2af3a3f550e8997023e26d626724c6d13e983ba3502a4656553efa33d14e82a"), looks := false }, kinds := [], alts := [], laidByText := true, laidKinds := [.data, .data, .data], laidTests := true, laidLooks := .later }
def OpNamesCardSaid : Prop := Claim7.holds Tryd.pinned (.plain (OpenSpec.ofChange opNamesSpec)) opNamesCard

/-- THE TIED CARD OF 'stockpotlaw06.OpEffects'. -/
def opEffectsCard : Claim7 := { stood := { row := opEffectsRow, standIns := [], harness := (true, "e2af3a3f550e8997023e26d626724c6d13e983ba3502a4656553efa33d14e82a"), looks := false }, kinds := [], alts := [], laidByText := true, laidKinds := [.data, .data, .data], laidTests := true, laidLooks := .later }
def OpEffectsCardSaid : Prop := Claim7.holds Tryd.pinned (.plain (OpenSpec.ofChange opEffectsSpec)) opEffectsCard

/-- THE TIED CARD OF 'stockpotlaw06.OpStrange'. -/
def opStrangeCard : Claim7 := { stood := { row := opStrangeRow, standIns := [], harness := (true, "e2af3a3f550e8997023e26d626724c6d13e983ba3502a4656553efa33d14e82a"), looks := false }, kinds := [], alts := [], laidByText := true, laidKinds := [.data, .data, .data], laidTests := true, laidLooks := .later }
def OpStrangeCardSaid : Prop := Claim7.holds Tryd.pinned (.plain (OpenSpec.ofChange opStrangeSpec)) opStrangeCard

/-- THE SECOND FORM's CARD OF 'stockpotlaw06.OpTells'. -/
def opTellsUptoCard : Claim7 := { stood := { row := opTellsUptoRow, standIns := [], harness := (true, "e2af3a3f550e8997023e26d626724c6d13e983ba3502a4656553efa33d14e82a"), looks := false }, kinds := [], alts := [], laidByText := true, laidKinds := [.data, .data, .data], laidTests := true, laidLooks := .later }
def OpTellsUptoCardSaid : Prop := Claim7.holds Tryd.pinned (.plain (OpenSpec.upto opTellsSpec)) opTellsUptoCard

/-- THE SECOND FORM's CARD OF 'stockpotlaw06.OpNames'. -/
def opNamesUptoCard : Claim7 := { stood := { row := opNamesUptoRow, standIns := [], harness := (true, "e2af3a3f550e8997023e26d626724c6d13e983ba3502a4656553efa33d14e82a"), looks := false }, kinds := [], alts := [], laidByText := true, laidKinds := [.data, .data, .data], laidTests := true, laidLooks := .later }
def OpNamesUptoCardSaid : Prop := Claim7.holds Tryd.pinned (.plain (OpenSpec.upto opNamesSpec)) opNamesUptoCard

/-- THE SECOND FORM's CARD OF 'stockpotlaw06.OpEffects'. -/
def opEffectsUptoCard : Claim7 := { stood := { row := opEffectsUptoRow, standIns := [], harness := (true, "e2af3a3f550e8997023e26d626724c6d13e983ba3502a4656553efa33d14e82a"), looks := false }, kinds := [], alts := [], laidByText := true, laidKinds := [.data, .data, .data], laidTests := true, laidLooks := .later }
def OpEffectsUptoCardSaid : Prop := Claim7.holds Tryd.pinned (.plain (OpenSpec.upto opEffectsSpec)) opEffectsUptoCard

/-- THE SECOND FORM's CARD OF 'stockpotlaw06.OpStrange'. -/
def opStrangeUptoCard : Claim7 := { stood := { row := opStrangeUptoRow, standIns := [], harness := (true, "e2af3a3f550e8997023e26d626724c6d13e983ba3502a4656553efa33d14e82a"), looks := false }, kinds := [], alts := [], laidByText := true, laidKinds := [.data, .data, .data], laidTests := true, laidLooks := .later }
def OpStrangeUptoCardSaid : Prop := Claim7.holds Tryd.pinned (.plain (OpenSpec.upto opStrangeSpec)) opStrangeUptoCard
end Rows
end Go.Proofs.YtkolfalfpfnakaaDoor
