/-
  What arguments that are programs lean on: types, bytes in memory.
  Conditions: as each states.
-/
import Derived.Test.YtjkneniakeffnaaDoorCoM
namespace Go.Proofs.YtjkneniakeffnaaDoor
open Go.ChangeShapes Go.WideShapes Go.ChangeAt Go.RowKit
set_option linter.unusedVariables false
set_option linter.unusedSimpArgs false
set_option maxRecDepth 100000

/-- v is a slice of these bytes, in a block below B0. -/
def bySl (B0 : Nat) (w : World) (v : Value) (l : List Int) : Prop :=
  ∃ a c, v = .slice a l.length c ∧ l.length ≤ c ∧ c ≤ maxLen ∧ (l.length = 0 ∨ ∃ b o, a = some ⟨b, o, none⟩ ∧ b < B0 ∧ b < w.heap.size ∧ ∀ j z, l[j]? = some z → w.cell? ⟨b, o + j, none⟩ = some (.int .u8 z))
theorem under_inss : Tryd.prog.underlying 56 = some (.slice 47) := by kernel_rfl
theorem under_i64s : Tryd.prog.underlying 73 = some (.slice 3) := by kernel_rfl
theorem under_strs : Tryd.prog.underlying 41 = some (.slice 9) := by kernel_rfl
abbrev intL (l : List Int) : List Value := l.map (Value.int .i64)
theorem under_str : Tryd.prog.underlying 9 = some .string := by kernel_rfl
theorem under_fns : Tryd.prog.underlying 40 = some (.slice 58) := by kernel_rfl
theorem under_fms : Tryd.prog.underlying 42 = some (.slice 75) := by kernel_rfl
end Go.Proofs.YtjkneniakeffnaaDoor
