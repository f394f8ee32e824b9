/-
  DERIVED. GIVEN WITH THE SEED: THE PROGRAM's TIES (one call each: nine closed facts by the kernel) AND EACH ROW's TIE, after the 31st guide's Derived/Test/Toyas{Tie, Card}.lean. No idea stands in it: it is a product of the set-up. Laid BY PROGRAM, IN A SANDBOX (cutbox-door.mjs). By AI agents, Wed Nov 11 2026. No macro, syntax, notation, axiom, sorry.
-/
import Derived.Test.YtjkneniakeffnaaDoorRows
import Derived.LaidByTextLater
import Derived.SevenTiedAt
import Derived.LaidSub
import Derived.LaidOnce
namespace Go.Proofs.YtjkneniakeffnaaDoor
open Go
set_option maxRecDepth 100000
theorem seatTie1 : Tryd.prog.laidByTextLater [("stockpot/op.rows", Rows.laid_stockpot_op_rows), ("stockpot/op.hosts", Rows.laid_stockpot_op_hosts), ("stockpot/op.spans", Rows.laid_stockpot_op_spans)] [.data, .data, .data] true :=
  Program.laidByTextLater_by_one 79 8 191 (by kernel_rfl) (by kernel_rfl) (by kernel_rfl) (by kernel_rfl) (by kernel_rfl) (by kernel_rfl) (fun _ _ => by kernel_rfl)
theorem noOwnUnsafe : Tryd.pinned.checked.prog.headLifts.contains "ownunsafe" = false := by kernel_rfl
theorem tie : Tryd.prog.laidByTextLater [("stockpot/op.rows", Rows.laid_stockpot_op_rows), ("stockpot/op.hosts", Rows.laid_stockpot_op_hosts), ("stockpot/op.spans", Rows.laid_stockpot_op_spans)] [.data, .data, .data] true :=
  Program.laidByTextLater.sub seatTie1 ["stockpot/op.rows", "stockpot/op.hosts", "stockpot/op.spans"] (by kernel_rfl) (by kernel_rfl)
theorem frameHandlers_row_tie : Rows.frameHandlersRow.laidByTextAt .later Tryd.pinned [.data, .data, .data] true :=
  OpenClaim.laidByTextAt_later rfl rfl tie noOwnUnsafe
theorem frameHandlersUpto_row_tie : Rows.frameHandlersUptoRow.laidByTextAt .later Tryd.pinned [.data, .data, .data] true :=
  OpenClaim.laidByTextAt_later rfl rfl tie noOwnUnsafe
end Go.Proofs.YtjkneniakeffnaaDoor
