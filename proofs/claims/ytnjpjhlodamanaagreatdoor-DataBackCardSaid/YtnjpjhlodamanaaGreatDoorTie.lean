/-
  DERIVED. GIVEN WITH THE SEED: THE PROGRAM's TIES (one call each: nine closed facts by the kernel) AND EACH ROW's TIE, after the 31st guide's Derived/Test/Toyas{Tie, Card}.lean. No idea stands in it: it is a product of the set-up. Laid BY PROGRAM, IN A SANDBOX (cutbox-door.mjs). By AI agents, Wed Nov 11 2026. No macro, syntax, notation, axiom, sorry.
-/
import Derived.Test.YtnjpjhlodamanaaGreatDoorRows
import Derived.LaidByTextLater
import Derived.SevenTiedAt
import Derived.LaidSub
import Derived.LaidOnce
namespace Go.Proofs.YtnjpjhlodamanaaGreatDoor
open Go
set_option maxRecDepth 100000
theorem seatTie1 : Tryz.prog.laidByTextLater [("stockpot/op.rows", Rows.laid_stockpot_op_rows), ("stockpot/op.hosts", Rows.laid_stockpot_op_hosts), ("stockpot/op.spans", Rows.laid_stockpot_op_spans)] [.data, .data, .data] true :=
  Program.laidByTextLater_by_one 79 8 191 (by kernel_rfl) (by kernel_rfl) (by kernel_rfl) (by kernel_rfl) (by kernel_rfl) (by kernel_rfl) (fun _ _ => by kernel_rfl)
theorem noOwnUnsafe : Tryz.pinned.checked.prog.headLifts.contains "ownunsafe" = false := by kernel_rfl
theorem tie : Tryz.prog.laidByTextLater [("stockpot/op.rows", Rows.laid_stockpot_op_rows), ("stockpot/op.hosts", Rows.laid_stockpot_op_hosts), ("stockpot/op.spans", Rows.laid_stockpot_op_spans)] [.data, .data, .data] true :=
  Program.laidByTextLater.sub seatTie1 ["stockpot/op.rows", "stockpot/op.hosts", "stockpot/op.spans"] (by kernel_rfl) (by kernel_rfl)
theorem dataBack_row_tie : Rows.dataBackRow.laidByTextAt .later Tryz.pinned [.data, .data, .data] true :=
  OpenClaim.laidByTextAt_later rfl rfl tie noOwnUnsafe
theorem dataBackUpto_row_tie : Rows.dataBackUptoRow.laidByTextAt .later Tryz.pinned [.data, .data, .data] true :=
  OpenClaim.laidByTextAt_later rfl rfl tie noOwnUnsafe
end Go.Proofs.YtnjpjhlodamanaaGreatDoor
