/-
  Package op: whether an instruction may be, what it takes and leaves, the op of a name.
  Conditions: as each states.
-/
import Derived.Test.YtjkneniakeffnaaDoorOpC
import Derived.Test.YtjkneniakeffnaaDoorOpD
namespace Go.Proofs.YtjkneniakeffnaaDoor
open Go.ChangeShapes Go.WideShapes Go.ChangeAt Go.RowKit
set_option linter.unusedVariables false
set_option linter.unusedSimpArgs false
set_option maxRecDepth 100000

theorem opGood_any (o a b : Int) (w : World) (T : OpTab w) :
    Calls Tryd.prog 32 #[.agg #[.int .i64 o, .int .i64 a, .int .i64 b]] w fun e w' => e = .returned (.bool (opGood o a b)) ∧ Below w.heap.size w w' := by
  go_enter Tryd.func32, Tryd.ntmps32
  go_wp2_with fail
  refine (rowOf_any _ _ _ _ (T.below (by repeat (first | exact Below.refl _ _ | refine down_alloc ?_ _)))).mono ?_
  rintro e w' ⟨rfl, hb⟩
  unfold rowV
  go_wp2_with fail
  go_ret
  exact ⟨rfl, by refine down_alloc (down_call ?_ hb) _; repeat (first | exact Below.refl _ _ | refine down_alloc ?_ _)⟩

def effT (o a b : Int) : Int := if opGood o a b = true then tkP o a b else 0
def effL (o a b : Int) : Int := if opGood o a b = true then lvP o a else 0
def EffPost (o a b : Int) (w : World) (e : Ending) (w' : World) : Prop := e = .returned (.tuple #[.int .i64 (effT o a b), .int .i64 (effL o a b), .bool (opGood o a b)]) ∧ Below w.heap.size w w'

theorem eff_row (o a b : Int) : effT o a b = (if (rowP o a b).2.2.2.1 = -1 then b else (rowP o a b).2.2.2.1) ∧ effL o a b = (rowP o a b).2.2.2.2 := by
  unfold effT effL rowP tkP lvP
  cases h : opGood o a b
  · exact ⟨rfl, rfl⟩
  · exact ⟨rfl, rfl⟩

def ofP (l : List UInt8) : Option Nat := (List.range 38).find? fun k => (opNm k).toList == l
def OfNm (s : ByteArray) (w : World) (e : Ending) (w' : World) : Prop := e = .returned (.tuple #[.int .i64 ((ofP s.toList).getD 0 : Nat), .bool (ofP s.toList).isSome]) ∧ w = w'

theorem ofP_hit (s : ByteArray) (j : Nat) (hj : j < 38) (hn : ∀ i, i < j → ((opNm i).toList == s.toList) = false) (h : ((opNm j).toList == s.toList) = true) : ofP s.toList = some j := by
  unfold ofP
  rw [List.find?_range_eq_some]
  exact ⟨h, List.mem_range.2 hj, fun i hi => by rw [hn i hi]; rfl⟩
theorem ofP_miss (s : ByteArray) (hn : ∀ i, i < 38 → ((opNm i).toList == s.toList) = false) : ofP s.toList = none := by
  unfold ofP
  rw [List.find?_range_eq_none]
  exact fun i hi => by rw [hn i hi]; rfl

theorem of_hit {s : ByteArray} {w : World} {j : Nat} (h : ofP s.toList = some j) : OfNm s w (.returned (.tuple #[.int .i64 (j : Nat), .bool true])) w := by
  refine ⟨?_, rfl⟩
  rw [h]; rfl
theorem of_miss {s : ByteArray} {w : World} (h : ofP s.toList = none) : OfNm s w (.returned (.tuple #[.int .i64 0, .bool false])) w := by
  refine ⟨?_, rfl⟩
  rw [h]; rfl

end Go.Proofs.YtjkneniakeffnaaDoor
