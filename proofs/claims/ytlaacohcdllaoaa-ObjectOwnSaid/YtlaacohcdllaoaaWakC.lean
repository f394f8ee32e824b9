/-
  The numbers of layer 3's wakes: one heap, three puts, a set.
  Conditions: none.
-/
import Derived.Test.YtlaacohcdllaoaaObY
import Derived.Test.YtlaacohcdllaoaaLay
namespace Go.Proofs.Ytlaacohcdllaoaa
open Go.ChangeShapes Go.WideShapes Go.ChangeAt Go.RowKit
set_option linter.unusedVariables false
set_option linter.unusedSimpArgs false
set_option maxRecDepth 100000

def wO1 : Ob := ⟨2, 0, [], [97, 98, 99, 100, 101, 102, 103, 104, 105]⟩
def wO2 : Ob := ⟨1, 1, [0, 3], []⟩
def wO3 : Ob := ⟨1, 0, [2], []⟩
def wA0 : Ar := Ar.laid (List.replicate 40 0)
def wA1 : Ar := wA0.puts 3 (0 * 20 + 0) wO1.lay
def wA2 : Ar := wA1.puts 3 (0 * 20 + 3) wO2.lay
def wA3 : Ar := wA2.set 3 5 6
theorem wk1 : wA0.putOk 3 20 0 0 wO1 = true := by decide +kernel
theorem wk1' : ((0 : Int) + (wO1.words : Int)) = 3 ∧ wPlace (0 * 20 + 0) = 0 := by decide +kernel
theorem wk2 : wA1.putOk 3 20 0 3 wO2 = true := by decide +kernel
theorem wk2' : ((3 : Int) + (wO2.words : Int)) = 6 ∧ wPlace (0 * 20 + 3) = 6 := by decide +kernel
theorem wk3 : wA2.putOk 3 20 0 6 wO3 = false := by decide +kernel
theorem wk4 : wA2.getOb 3 20 0 6 6 = some wO2 := by kernel_rfl
theorem wk5 : wA2.setAt 3 20 0 6 6 1 6 = some 5 := by decide +kernel
theorem wk6 : (wA3.objs 3 20 0 6).isSome = true := by decide +kernel
theorem wk7 : wA3.placesI 3 20 0 6 = [0, 3] := by decide +kernel
theorem wk8 : headWR 1 1 2 0 = 8589934849 ∧ headR 1 1 2 0 = true := by decide +kernel
theorem wk9 : wordsR 3 0 0 0 = 1 := by decide +kernel
end Go.Proofs.Ytlaacohcdllaoaa
