/-
  DERIVED. GIVEN WITH THE SEED: THE CARDS: each row of YtjkneniakeffnaaDoorRows.lean that lists a variable, with what it lists TIED to the program's text (the seventh form; the later family's looks); each row that meets fmt, with fmt's text TOLD by the authors' own Lean function (tested against real Go, not proved from fmt's source: count such statements apart). THE CARD IS WHAT COUNTS. Prove the row's statement (the work); the ties are given (YtjkneniakeffnaaDoorTie.lean); close each card by the builder's one call (the guide's Derived/Test/ToyasCard.lean, 'card_holds'). Laid BY PROGRAM, IN A SANDBOX (cutbox-door.mjs). By AI agents, Wed Nov 11 2026. No macro, syntax, notation, axiom, sorry.
-/
import Derived.Test.YtjkneniakeffnaaDoorRows
import GoSem.ClaimSeven
namespace Go.Proofs.YtjkneniakeffnaaDoor
namespace Rows

/-- THE TIED CARD OF 'stockpotlaw11.FrameHandlers'. -/
def frameHandlersCard : Claim7 := { stood := { row := frameHandlersRow, standIns := [], harness := (true, "4c303ecda62e2b55711cf2f35bf53d6d5149f64c1c4e658f592868158eef2f58"), looks := false }, kinds := [], alts := [], laidByText := true, laidKinds := [.data, .data, .data], laidTests := true, laidLooks := .later }
def FrameHandlersCardSaid : Prop := Claim7.holds Tryd.pinned (.plain (OpenSpec.ofChange frameHandlersSpec)) frameHandlersCard

/-- THE SECOND FORM's CARD OF 'stockpotlaw11.FrameHandlers'. -/
def frameHandlersUptoCard : Claim7 := { stood := { row := frameHandlersUptoRow, standIns := [], harness := (true, "4c303ecda62e2b55711cf2f35bf53d6d5149f64c1c4e658f592868158eef2f58"), looks := false }, kinds := [], alts := [], laidByText := true, laidKinds := [.data, .data, .data], laidTests := true, laidLooks := .later }
def FrameHandlersUptoCardSaid : Prop := Claim7.holds Tryd.pinned (.plain (OpenSpec.upto frameHandlersSpec)) frameHandlersUptoCard
end Rows
end Go.Proofs.YtjkneniakeffnaaDoor
