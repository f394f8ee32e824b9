/-
  NARROWER THAN 'FOR EVERY INPUT', by the rows' own cells (each row's printed sentence says how): CodeTells: laid · CodeBack: laid · CodeLengths: laid · CodeSpoilt: laid.
  DERIVED. THE GIVEN ROWS OF THIS SEAT. 4 by the template 'for every input the law returns true; each argument reads behind the call as it read before'; 0 by the template 'total and deterministic' (their statements: YtabdbciebhmflaaDoorTotals.lean).
  GIVEN WITH THE SEED: the statements are not yours to turn. If you find one false, say at which input.
  Laid BY PROGRAM, IN A SANDBOX (cutbox-rows.mjs): the forced cells as the released guide's own fill.sh prints them over the translation 7daaf92a3aa9144f… (all of the seat's roots in one cut). By AI agents, Wed Nov 11 2026. No macro, syntax, notation, axiom, sorry.
-/
import Derived.Test.YtabdbciebhmflaaDoorChecked
import GoSem.Claim
import GoSem.ClaimJoined
import GoSem.ClaimMapViews
import Derived.JoinedTies
import Derived.KernelRfl
namespace Go.Proofs.YtabdbciebhmflaaDoor
/- THE CELL 'sum', in the pinned program and in every row, IS THE sha256 OF THE DUMP (.gsa) THAT YtabdbciebhmflaaDoorProg.lean LOADS. Nothing in Lean hashes anything: it is a label: what it is worth is what the hold of that sum in a sandbox is worth. -/
noncomputable def Tryd.pinned : Pinned := { name := "ytabdbciebhmflaadoor", sum := "7daaf92a3aa9144fa1cfc8f252fb6eaa678b7a37efaa2d9546082731cb6fdea4", checked := Tryd.checked }
namespace Rows
def none {H : Type} : Left H := { results := [], args := [] }

/- WHAT THE LISTED PACKAGE-LEVEL VARIABLES READ AS WHEN THE CALL BEGINS. Each datum BY PROGRAM (the guide's laid-datum.mjs) off the statement by which the dump's own 'gosem.cut.vars' lays the variable. In a bare row this is a premise. The card (YtabdbciebhmflaaDoorCards.lean) ties it to the program's text. -/
def laid_stockpot_op_rows {H : Type} : DataW H := .agg [.agg [.lit (.string [105, 110, 116]), .lit (.int .i64 1), .lit (.int .i64 0), .lit (.int .i64 0), .lit (.int .i64 1)], .agg [.lit (.string [115, 116, 114]), .lit (.int .i64 2), .lit (.int .i64 0), .lit (.int .i64 0), .lit (.int .i64 1)], .agg [.lit (.string [108, 111, 99, 97, 108]), .lit (.int .i64 3), .lit (.int .i64 0), .lit (.int .i64 0), .lit (.int .i64 1)], .agg [.lit (.string [115, 101, 116]), .lit (.int .i64 3), .lit (.int .i64 0), .lit (.int .i64 1), .lit (.int .i64 0)], .agg [.lit (.string [101, 110, 118]), .lit (.int .i64 4), .lit (.int .i64 0), .lit (.int .i64 0), .lit (.int .i64 1)], .agg [.lit (.string [115, 101, 108, 102]), .lit (.int .i64 0), .lit (.int .i64 0), .lit (.int .i64 0), .lit (.int .i64 1)], .agg [.lit (.string [99, 108, 111, 115, 101]), .lit (.int .i64 5), .lit (.int .i64 6), .lit (.int .i64 (-1)), .lit (.int .i64 1)], .agg [.lit (.string [99, 97, 108, 108]), .lit (.int .i64 0), .lit (.int .i64 0), .lit (.int .i64 2), .lit (.int .i64 1)], .agg [.lit (.string [116, 97, 105, 108]), .lit (.int .i64 0), .lit (.int .i64 0), .lit (.int .i64 2), .lit (.int .i64 0)], .agg [.lit (.string [114, 101, 116]), .lit (.int .i64 0), .lit (.int .i64 0), .lit (.int .i64 1), .lit (.int .i64 0)], .agg [.lit (.string [106, 117, 109, 112]), .lit (.int .i64 7), .lit (.int .i64 0), .lit (.int .i64 0), .lit (.int .i64 0)], .agg [.lit (.string [106, 117, 109, 112, 122]), .lit (.int .i64 7), .lit (.int .i64 0), .lit (.int .i64 1), .lit (.int .i64 0)], .agg [.lit (.string [97, 100, 100]), .lit (.int .i64 0), .lit (.int .i64 0), .lit (.int .i64 2), .lit (.int .i64 1)], .agg [.lit (.string [115, 117, 98]), .lit (.int .i64 0), .lit (.int .i64 0), .lit (.int .i64 2), .lit (.int .i64 1)], .agg [.lit (.string [109, 117, 108]), .lit (.int .i64 0), .lit (.int .i64 0), .lit (.int .i64 2), .lit (.int .i64 1)], .agg [.lit (.string [100, 105, 118]), .lit (.int .i64 0), .lit (.int .i64 0), .lit (.int .i64 2), .lit (.int .i64 1)], .agg [.lit (.string [109, 111, 100]), .lit (.int .i64 0), .lit (.int .i64 0), .lit (.int .i64 2), .lit (.int .i64 1)], .agg [.lit (.string [101, 113]), .lit (.int .i64 0), .lit (.int .i64 0), .lit (.int .i64 2), .lit (.int .i64 1)], .agg [.lit (.string [108, 101, 115, 115]), .lit (.int .i64 0), .lit (.int .i64 0), .lit (.int .i64 2), .lit (.int .i64 1)], .agg [.lit (.string [98, 108, 111, 99, 107]), .lit (.int .i64 8), .lit (.int .i64 9), .lit (.int .i64 (-1)), .lit (.int .i64 1)], .agg [.lit (.string [102, 105, 101, 108, 100]), .lit (.int .i64 10), .lit (.int .i64 0), .lit (.int .i64 1), .lit (.int .i64 1)], .agg [.lit (.string [105, 115, 105, 110, 116]), .lit (.int .i64 1), .lit (.int .i64 0), .lit (.int .i64 1), .lit (.int .i64 1)], .agg [.lit (.string [105, 115, 116, 97, 103]), .lit (.int .i64 8), .lit (.int .i64 0), .lit (.int .i64 1), .lit (.int .i64 1)], .agg [.lit (.string [115, 116, 111, 114, 101]), .lit (.int .i64 0), .lit (.int .i64 0), .lit (.int .i64 2), .lit (.int .i64 1)], .agg [.lit (.string [97, 114, 114, 97, 121]), .lit (.int .i64 0), .lit (.int .i64 0), .lit (.int .i64 2), .lit (.int .i64 1)], .agg [.lit (.string [103, 101, 116]), .lit (.int .i64 0), .lit (.int .i64 0), .lit (.int .i64 2), .lit (.int .i64 1)], .agg [.lit (.string [112, 117, 116]), .lit (.int .i64 0), .lit (.int .i64 0), .lit (.int .i64 3), .lit (.int .i64 1)], .agg [.lit (.string [108, 101, 110]), .lit (.int .i64 0), .lit (.int .i64 0), .lit (.int .i64 1), .lit (.int .i64 1)], .agg [.lit (.string [99, 97, 116]), .lit (.int .i64 0), .lit (.int .i64 0), .lit (.int .i64 2), .lit (.int .i64 1)], .agg [.lit (.string [115, 105, 122, 101]), .lit (.int .i64 0), .lit (.int .i64 0), .lit (.int .i64 1), .lit (.int .i64 1)], .agg [.lit (.string [98, 121, 116, 101]), .lit (.int .i64 0), .lit (.int .i64 0), .lit (.int .i64 2), .lit (.int .i64 1)], .agg [.lit (.string [116, 101, 120, 116]), .lit (.int .i64 0), .lit (.int .i64 0), .lit (.int .i64 1), .lit (.int .i64 1)], .agg [.lit (.string [115, 97, 109, 101]), .lit (.int .i64 0), .lit (.int .i64 0), .lit (.int .i64 2), .lit (.int .i64 1)], .agg [.lit (.string [116, 114, 121]), .lit (.int .i64 7), .lit (.int .i64 0), .lit (.int .i64 0), .lit (.int .i64 0)], .agg [.lit (.string [117, 110, 116, 114, 121]), .lit (.int .i64 0), .lit (.int .i64 0), .lit (.int .i64 0), .lit (.int .i64 0)], .agg [.lit (.string [114, 97, 105, 115, 101]), .lit (.int .i64 0), .lit (.int .i64 0), .lit (.int .i64 1), .lit (.int .i64 0)], .agg [.lit (.string [104, 111, 115, 116]), .lit (.int .i64 11), .lit (.int .i64 0), .lit (.int .i64 0), .lit (.int .i64 0)], .agg [.lit (.string [112, 111, 112]), .lit (.int .i64 0), .lit (.int .i64 0), .lit (.int .i64 1), .lit (.int .i64 0)]]
def laid_stockpot_op_hosts {H : Type} : DataW H := .agg [.agg [.lit (.string []), .lit (.int .i64 0), .lit (.int .i64 0), .lit (.int .i64 1), .lit (.int .i64 1)], .agg [.lit (.string []), .lit (.int .i64 0), .lit (.int .i64 0), .lit (.int .i64 1), .lit (.int .i64 1)], .agg [.lit (.string []), .lit (.int .i64 0), .lit (.int .i64 0), .lit (.int .i64 2), .lit (.int .i64 1)], .agg [.lit (.string []), .lit (.int .i64 0), .lit (.int .i64 12), .lit (.int .i64 0), .lit (.int .i64 1)]]
def laid_stockpot_op_spans {H : Type} : DataW H := .agg [.agg [.lit (.int .i64 0), .lit (.int .i64 0)], .agg [.lit (.int .i64 (-4611686018427387904)), .lit (.int .i64 4611686018427387903)], .agg [.lit (.int .i64 0), .lit (.int .i64 39)], .agg [.lit (.int .i64 0), .lit (.int .i64 59)], .agg [.lit (.int .i64 0), .lit (.int .i64 29)], .agg [.lit (.int .i64 1), .lit (.int .i64 59)], .agg [.lit (.int .i64 0), .lit (.int .i64 30)], .agg [.lit (.int .i64 0), .lit (.int .i64 599)], .agg [.lit (.int .i64 0), .lit (.int .i64 255)], .agg [.lit (.int .i64 1), .lit (.int .i64 8)], .agg [.lit (.int .i64 0), .lit (.int .i64 7)], .agg [.lit (.int .i64 0), .lit (.int .i64 3)], .agg [.lit (.int .i64 0), .lit (.int .i64 39)]]
def laid_stockpot_code_aWidths {H : Type} : DataW H := .agg [.lit (.int .u8 8), .lit (.int .u8 2), .lit (.int .u8 2), .lit (.int .u8 2), .lit (.int .u8 2), .lit (.int .u8 0), .lit (.int .u8 2), .lit (.int .u8 0), .lit (.int .u8 0), .lit (.int .u8 0), .lit (.int .u8 2), .lit (.int .u8 2), .lit (.int .u8 0), .lit (.int .u8 0), .lit (.int .u8 0), .lit (.int .u8 0), .lit (.int .u8 0), .lit (.int .u8 0), .lit (.int .u8 0), .lit (.int .u8 2), .lit (.int .u8 2), .lit (.int .u8 8), .lit (.int .u8 2), .lit (.int .u8 0), .lit (.int .u8 0), .lit (.int .u8 0), .lit (.int .u8 0), .lit (.int .u8 0), .lit (.int .u8 0), .lit (.int .u8 0), .lit (.int .u8 0), .lit (.int .u8 0), .lit (.int .u8 0), .lit (.int .u8 2), .lit (.int .u8 0), .lit (.int .u8 0), .lit (.int .u8 2), .lit (.int .u8 0)]
def laid_stockpot_code_bWidths {H : Type} : DataW H := .agg [.lit (.int .u8 0), .lit (.int .u8 0), .lit (.int .u8 0), .lit (.int .u8 0), .lit (.int .u8 0), .lit (.int .u8 0), .lit (.int .u8 1), .lit (.int .u8 0), .lit (.int .u8 0), .lit (.int .u8 0), .lit (.int .u8 0), .lit (.int .u8 0), .lit (.int .u8 0), .lit (.int .u8 0), .lit (.int .u8 0), .lit (.int .u8 0), .lit (.int .u8 0), .lit (.int .u8 0), .lit (.int .u8 0), .lit (.int .u8 1), .lit (.int .u8 0), .lit (.int .u8 0), .lit (.int .u8 0), .lit (.int .u8 0), .lit (.int .u8 0), .lit (.int .u8 0), .lit (.int .u8 0), .lit (.int .u8 0), .lit (.int .u8 0), .lit (.int .u8 0), .lit (.int .u8 0), .lit (.int .u8 0), .lit (.int .u8 0), .lit (.int .u8 0), .lit (.int .u8 0), .lit (.int .u8 0), .lit (.int .u8 1), .lit (.int .u8 0)]

/-- 'stockpotlaw07.CodeTells': WHATEVER THE INPUT: true; the input reads as it did. -/
def codeTellsSpec : ChangeSpec := { name := "codeTells", fn := fun _ => fun
  | [d1, d2] => { results := [.lit (.bool true)], args := [d1, d2] }
  | _ => none }
def codeTellsRow : OpenClaim := { program := "ytabdbciebhmflaadoor", sum := "7daaf92a3aa9144fa1cfc8f252fb6eaa678b7a37efaa2d9546082731cb6fdea4", func := "stockpot/stockpotlaw07.CodeTells", spec := "codeTells", unfollowed := true, recurses := true, named := ["stockpot/op.rows", "stockpot/op.hosts", "stockpot/op.spans", "stockpot/code.aWidths", "stockpot/code.bWidths"], apart := false, laid := [("stockpot/op.rows", laid_stockpot_op_rows), ("stockpot/op.hosts", laid_stockpot_op_hosts), ("stockpot/op.spans", laid_stockpot_op_spans), ("stockpot/code.aWidths", laid_stockpot_code_aWidths), ("stockpot/code.bWidths", laid_stockpot_code_bWidths)] }
def CodeTellsSaid : Prop := codeTellsRow.holds Tryd.pinned (OpenSpec.ofChange codeTellsSpec)

/-- ITS FALSE NEIGHBOUR: 'it returns false'. Refute it at one input. -/
def codeTellsWrong : ChangeSpec := { name := "codeTells", fn := fun _ => fun
  | [d1, d2] => { results := [.lit (.bool false)], args := [d1, d2] }
  | _ => none }
def CodeTellsWrongFalsely : Prop := codeTellsRow.holds Tryd.pinned (OpenSpec.ofChange codeTellsWrong)

/-- 'stockpotlaw07.CodeBack': WHATEVER THE INPUT: true; the input reads as it did. -/
def codeBackSpec : ChangeSpec := { name := "codeBack", fn := fun _ => fun
  | [d1, d2, d3] => { results := [.lit (.bool true)], args := [d1, d2, d3] }
  | _ => none }
def codeBackRow : OpenClaim := { program := "ytabdbciebhmflaadoor", sum := "7daaf92a3aa9144fa1cfc8f252fb6eaa678b7a37efaa2d9546082731cb6fdea4", func := "stockpot/stockpotlaw07.CodeBack", spec := "codeBack", unfollowed := true, recurses := true, named := ["stockpot/op.rows", "stockpot/op.hosts", "stockpot/op.spans", "stockpot/code.aWidths", "stockpot/code.bWidths"], apart := false, laid := [("stockpot/op.rows", laid_stockpot_op_rows), ("stockpot/op.hosts", laid_stockpot_op_hosts), ("stockpot/op.spans", laid_stockpot_op_spans), ("stockpot/code.aWidths", laid_stockpot_code_aWidths), ("stockpot/code.bWidths", laid_stockpot_code_bWidths)] }
def CodeBackSaid : Prop := codeBackRow.holds Tryd.pinned (OpenSpec.ofChange codeBackSpec)

/-- ITS FALSE NEIGHBOUR: 'it returns false'. Refute it at one input. -/
def codeBackWrong : ChangeSpec := { name := "codeBack", fn := fun _ => fun
  | [d1, d2, d3] => { results := [.lit (.bool false)], args := [d1, d2, d3] }
  | _ => none }
def CodeBackWrongFalsely : Prop := codeBackRow.holds Tryd.pinned (OpenSpec.ofChange codeBackWrong)

/-- 'stockpotlaw07.CodeLengths': WHATEVER THE INPUT: true; the input reads as it did. -/
def codeLengthsSpec : ChangeSpec := { name := "codeLengths", fn := fun _ => fun
  | [d] => { results := [.lit (.bool true)], args := [d] }
  | _ => none }
def codeLengthsRow : OpenClaim := { program := "ytabdbciebhmflaadoor", sum := "7daaf92a3aa9144fa1cfc8f252fb6eaa678b7a37efaa2d9546082731cb6fdea4", func := "stockpot/stockpotlaw07.CodeLengths", spec := "codeLengths", unfollowed := true, recurses := true, named := ["stockpot/op.rows", "stockpot/op.hosts", "stockpot/op.spans", "stockpot/code.aWidths", "stockpot/code.bWidths"], apart := false, laid := [("stockpot/op.rows", laid_stockpot_op_rows), ("stockpot/op.hosts", laid_stockpot_op_hosts), ("stockpot/op.spans", laid_stockpot_op_spans), ("stockpot/code.aWidths", laid_stockpot_code_aWidths), ("stockpot/code.bWidths", laid_stockpot_code_bWidths)] }
def CodeLengthsSaid : Prop := codeLengthsRow.holds Tryd.pinned (OpenSpec.ofChange codeLengthsSpec)

/-- ITS FALSE NEIGHBOUR: 'it returns false'. Refute it at one input. -/
def codeLengthsWrong : ChangeSpec := { name := "codeLengths", fn := fun _ => fun
  | [d] => { results := [.lit (.bool false)], args := [d] }
  | _ => none }
def CodeLengthsWrongFalsely : Prop := codeLengthsRow.holds Tryd.pinned (OpenSpec.ofChange codeLengthsWrong)

/-- 'stockpotlaw07.CodeSpoilt': WHATEVER THE INPUT: true; the input reads as it did. -/
def codeSpoiltSpec : ChangeSpec := { name := "codeSpoilt", fn := fun _ => fun
  | [d1, d2, d3] => { results := [.lit (.bool true)], args := [d1, d2, d3] }
  | _ => none }
def codeSpoiltRow : OpenClaim := { program := "ytabdbciebhmflaadoor", sum := "7daaf92a3aa9144fa1cfc8f252fb6eaa678b7a37efaa2d9546082731cb6fdea4", func := "stockpot/stockpotlaw07.CodeSpoilt", spec := "codeSpoilt", unfollowed := true, recurses := true, named := ["stockpot/op.rows", "stockpot/op.hosts", "stockpot/op.spans", "stockpot/code.aWidths", "stockpot/code.bWidths"], apart := false, laid := [("stockpot/op.rows", laid_stockpot_op_rows), ("stockpot/op.hosts", laid_stockpot_op_hosts), ("stockpot/op.spans", laid_stockpot_op_spans), ("stockpot/code.aWidths", laid_stockpot_code_aWidths), ("stockpot/code.bWidths", laid_stockpot_code_bWidths)] }
def CodeSpoiltSaid : Prop := codeSpoiltRow.holds Tryd.pinned (OpenSpec.ofChange codeSpoiltSpec)

/-- ITS FALSE NEIGHBOUR: 'it returns false'. Refute it at one input. -/
def codeSpoiltWrong : ChangeSpec := { name := "codeSpoilt", fn := fun _ => fun
  | [d1, d2, d3] => { results := [.lit (.bool false)], args := [d1, d2, d3] }
  | _ => none }
def CodeSpoiltWrongFalsely : Prop := codeSpoiltRow.holds Tryd.pinned (OpenSpec.ofChange codeSpoiltWrong)

/- THE SECOND FORM. 'bulk': how many values and letters a reading holds, each counted each time it is reached (what is shared counts as often as it is met; a slice's spare places count too). A statement '..UptoSaid' is the law's where the arguments, and the package variables that the reading takes, are together of bulk at most 1048576: NARROWER than '..Said'. Prove '..Said' where nothing that the law and all that it calls make is longer than what came in: it says more and counts as full. Else prove '..UptoSaid'. A law counts once. -/
mutual
def uptoBulk {H : Type} : DataW H → Nat
  | .lit (.string bytes) => bytes.length + 1
  | .lit _ => 1
  | .nil => 1
  | .ptr d => uptoBulk d + 1
  | .slice elems spare => uptoBulkAll elems + uptoBulkAll spare + 1
  | .agg parts => uptoBulkAll parts + 1
  | .iface _ d => uptoBulk d + 1
  | .map entries => uptoBulkEntries entries + 1
  | .held _ => 1
def uptoBulkAll {H : Type} : List (DataW H) → Nat
  | [] => 0
  | d :: r => uptoBulk d + uptoBulkAll r
def uptoBulkEntries {H : Type} : List (Lit × DataW H) → Nat
  | [] => 0
  | x :: r => uptoBulkEntry x + uptoBulkEntries r
def uptoBulkEntry {H : Type} : Lit × DataW H → Nat
  | (.string bytes, d) => bytes.length + uptoBulk d + 1
  | (_, d) => uptoBulk d + 1
 end
def uptoSmall : (H : Type) → List (DataW H) → Bool := fun _ ds => decide (uptoBulkAll ds ≤ 1048576)
def OpenSpec.upto (s : _root_.Go.ChangeSpec) : _root_.Go.OpenSpec := { _root_.Go.OpenSpec.ofChange s with cond := some uptoSmall }

/-- 'stockpotlaw07.CodeTells', WHERE WHAT IT READS IS OF BULK AT MOST 1048576: true; the input reads as it did. -/
def codeTellsUptoRow : OpenClaim := { program := "ytabdbciebhmflaadoor", sum := "7daaf92a3aa9144fa1cfc8f252fb6eaa678b7a37efaa2d9546082731cb6fdea4", func := "stockpot/stockpotlaw07.CodeTells", spec := "codeTells", unfollowed := true, recurses := true, named := ["stockpot/op.rows", "stockpot/op.hosts", "stockpot/op.spans", "stockpot/code.aWidths", "stockpot/code.bWidths"], apart := false, laid := [("stockpot/op.rows", laid_stockpot_op_rows), ("stockpot/op.hosts", laid_stockpot_op_hosts), ("stockpot/op.spans", laid_stockpot_op_spans), ("stockpot/code.aWidths", laid_stockpot_code_aWidths), ("stockpot/code.bWidths", laid_stockpot_code_bWidths)], narrowed := true }
def CodeTellsUptoSaid : Prop := codeTellsUptoRow.holds Tryd.pinned (OpenSpec.upto codeTellsSpec)

/-- 'stockpotlaw07.CodeBack', WHERE WHAT IT READS IS OF BULK AT MOST 1048576: true; the input reads as it did. -/
def codeBackUptoRow : OpenClaim := { program := "ytabdbciebhmflaadoor", sum := "7daaf92a3aa9144fa1cfc8f252fb6eaa678b7a37efaa2d9546082731cb6fdea4", func := "stockpot/stockpotlaw07.CodeBack", spec := "codeBack", unfollowed := true, recurses := true, named := ["stockpot/op.rows", "stockpot/op.hosts", "stockpot/op.spans", "stockpot/code.aWidths", "stockpot/code.bWidths"], apart := false, laid := [("stockpot/op.rows", laid_stockpot_op_rows), ("stockpot/op.hosts", laid_stockpot_op_hosts), ("stockpot/op.spans", laid_stockpot_op_spans), ("stockpot/code.aWidths", laid_stockpot_code_aWidths), ("stockpot/code.bWidths", laid_stockpot_code_bWidths)], narrowed := true }
def CodeBackUptoSaid : Prop := codeBackUptoRow.holds Tryd.pinned (OpenSpec.upto codeBackSpec)

/-- 'stockpotlaw07.CodeLengths', WHERE WHAT IT READS IS OF BULK AT MOST 1048576: true; the input reads as it did. -/
def codeLengthsUptoRow : OpenClaim := { program := "ytabdbciebhmflaadoor", sum := "7daaf92a3aa9144fa1cfc8f252fb6eaa678b7a37efaa2d9546082731cb6fdea4", func := "stockpot/stockpotlaw07.CodeLengths", spec := "codeLengths", unfollowed := true, recurses := true, named := ["stockpot/op.rows", "stockpot/op.hosts", "stockpot/op.spans", "stockpot/code.aWidths", "stockpot/code.bWidths"], apart := false, laid := [("stockpot/op.rows", laid_stockpot_op_rows), ("stockpot/op.hosts", laid_stockpot_op_hosts), ("stockpot/op.spans", laid_stockpot_op_spans), ("stockpot/code.aWidths", laid_stockpot_code_aWidths), ("stockpot/code.bWidths", laid_stockpot_code_bWidths)], narrowed := true }
def CodeLengthsUptoSaid : Prop := codeLengthsUptoRow.holds Tryd.pinned (OpenSpec.upto codeLengthsSpec)

/-- 'stockpotlaw07.CodeSpoilt', WHERE WHAT IT READS IS OF BULK AT MOST 1048576: true; the input reads as it did. -/
def codeSpoiltUptoRow : OpenClaim := { program := "ytabdbciebhmflaadoor", sum := "7daaf92a3aa9144fa1cfc8f252fb6eaa678b7a37efaa2d9546082731cb6fdea4", func := "stockpot/stockpotlaw07.CodeSpoilt", spec := "codeSpoilt", unfollowed := true, recurses := true, named := ["stockpot/op.rows", "stockpot/op.hosts", "stockpot/op.spans", "stockpot/code.aWidths", "stockpot/code.bWidths"], apart := false, laid := [("stockpot/op.rows", laid_stockpot_op_rows), ("stockpot/op.hosts", laid_stockpot_op_hosts), ("stockpot/op.spans", laid_stockpot_op_spans), ("stockpot/code.aWidths", laid_stockpot_code_aWidths), ("stockpot/code.bWidths", laid_stockpot_code_bWidths)], narrowed := true }
def CodeSpoiltUptoSaid : Prop := codeSpoiltUptoRow.holds Tryd.pinned (OpenSpec.upto codeSpoiltSpec)

end Rows
end Go.Proofs.YtabdbciebhmflaaDoor
