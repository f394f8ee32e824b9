/-
  Package op: whether an instruction may be, what it takes and leaves, the op of a name.
  Conditions: as each states.
-/
import Derived.Test.YtlfbfnkmbceejaaDoorOpC
import Derived.Test.YtlfbfnkmbceejaaDoorOpD
namespace Go.Proofs.YtlfbfnkmbceejaaDoor
open Go.ChangeShapes Go.WideShapes Go.ChangeAt Go.RowKit
set_option linter.unusedVariables false
set_option linter.unusedSimpArgs false
set_option maxRecDepth 100000

theorem good_any (o a b : Int) (w : World) (T : OpTab w) :
    Calls Tryd.prog 45 #[.agg #[.int .i64 o, .int .i64 a, .int .i64 b]] w fun e w' => e = .returned (.bool (opGood o a b)) ∧ Below w.heap.size w w' := by
  go_enter Tryd.func45, Tryd.ntmps45
  go_wp2_with fail
  refine (rowOf_any _ _ _ _ (T.below (by repeat (first | exact Below.refl _ _ | refine down_alloc ?_ _)))).mono ?_
  rintro e w' ⟨rfl, hb⟩
  unfold rowV
  go_wp2_with fail
  go_ret
  exact ⟨rfl, by refine down_alloc (down_call ?_ hb) _; repeat (first | exact Below.refl _ _ | refine down_alloc ?_ _)⟩

def effT (o a b : Int) : Int := if opGood o a b = true then tkP o a b else 0
def effL (o a b : Int) : Int := if opGood o a b = true then lvP o a else 0
def EffPost (o a b : Int) (w : World) (e : Ending) (w' : World) : Prop := e = .returned (.tuple #[.int .i64 (effT o a b), .int .i64 (effL o a b), .bool (opGood o a b)]) ∧ Below w.heap.size w w'

theorem eff_row (o a b : Int) : effT o a b = (if (rowP o a b).2.2.2.1 = -1 then b else (rowP o a b).2.2.2.1) ∧ effL o a b = (rowP o a b).2.2.2.2 := by
  unfold effT effL rowP tkP lvP
  cases h : opGood o a b
  · exact ⟨rfl, rfl⟩
  · exact ⟨rfl, rfl⟩

set_option maxHeartbeats 1000000 in
theorem effect_any (o a b : Int) (w : World) (T : OpTab w) :
    Calls Tryd.prog 49 #[.agg #[.int .i64 o, .int .i64 a, .int .i64 b]] w (EffPost o a b w) := by
  by_cases h : (rowP o a b).2.2.2.1 = -1
  · have E : effT o a b = b ∧ effL o a b = (rowP o a b).2.2.2.2 := by
      obtain ⟨e1, e2⟩ := eff_row o a b
      rw [if_pos h] at e1
      exact ⟨e1, e2⟩
    have EE := Lib.hid E
    have H := Lib.hid h
    clear E h
    go_enter Tryd.func49, Tryd.ntmps49
    go_wp2_with fail
    refine (rowOf_any _ _ _ _ (T.below (by repeat (first | exact Below.refl _ _ | refine down_alloc ?_ _)))).mono ?_
    rintro e w' ⟨rfl, hb⟩
    unfold rowV
    rw [H.out]
    obtain ⟨hc, hf⟩ := down_cell hb
    have hz : w.heap.size + 1 ≤ w'.heap.size := by have := hb.size; simpa using this
    have hz0 : w.heap.size < w'.heap.size := by omega
    go_wp2_with fail
    go_quiet (fail)
    all_goals go_wp2_with fail
    all_goals exact bodyPost_ret (v := .tuple #[.int .i64 b, .int .i64 (rowP o a b).2.2.2.2, .bool (opGood o a b)]) (by simp [results, Tryd.results49, go_sem]) rfl ⟨by rw [EE.out.1, EE.out.2], by repeat (first | exact Below.refl _ _ | refine down_alloc ?_ _ | refine down_drew ?_ | refine down_drewN ?_ _ | refine down_set ?_ (by first | exact hz | (simp; done) | (simp; omega)) _ | refine down_call ?_ hb)⟩
  · have E : effT o a b = (rowP o a b).2.2.2.1 ∧ effL o a b = (rowP o a b).2.2.2.2 := by
      obtain ⟨e1, e2⟩ := eff_row o a b
      rw [if_neg h] at e1
      exact ⟨e1, e2⟩
    have EE := Lib.hid E
    clear E
    go_enter Tryd.func49, Tryd.ntmps49
    go_wp2_with fail
    refine (rowOf_any _ _ _ _ (T.below (by repeat (first | exact Below.refl _ _ | refine down_alloc ?_ _)))).mono ?_
    rintro e w' ⟨rfl, hb⟩
    unfold rowV
    obtain ⟨hc, hf⟩ := down_cell hb
    have hz : w.heap.size + 1 ≤ w'.heap.size := by have := hb.size; simpa using this
    have hz0 : w.heap.size < w'.heap.size := by omega
    have h' : ((rowP o a b).2.2.2.1 == -1) = false := by simpa using h
    go_wp2_with fail
    go_quiet (fail)
    all_goals go_wp2_with fail
    all_goals exact bodyPost_ret (v := .tuple #[.int .i64 (rowP o a b).2.2.2.1, .int .i64 (rowP o a b).2.2.2.2, .bool (opGood o a b)]) (by simp [results, Tryd.results49, go_sem]) rfl ⟨by rw [EE.out.1, EE.out.2], by repeat (first | exact Below.refl _ _ | refine down_alloc ?_ _ | refine down_drew ?_ | refine down_drewN ?_ _ | refine down_set ?_ (by first | exact hz | (simp; done) | (simp; omega)) _ | refine down_call ?_ hb)⟩

def ofP (l : List UInt8) : Option Nat := (List.range 38).find? fun k => (opNm k).toList == l
def OfNm (s : ByteArray) (w : World) (e : Ending) (w' : World) : Prop := e = .returned (.tuple #[.int .i64 ((ofP s.toList).getD 0 : Nat), .bool (ofP s.toList).isSome]) ∧ w = w'

theorem ofP_hit (s : ByteArray) (j : Nat) (hj : j < 38) (hn : ∀ i, i < j → ((opNm i).toList == s.toList) = false) (h : ((opNm j).toList == s.toList) = true) : ofP s.toList = some j := by
  unfold ofP
  rw [List.find?_range_eq_some]
  exact ⟨h, List.mem_range.2 hj, fun i hi => by rw [hn i hi]; rfl⟩
theorem ofP_miss (s : ByteArray) (hn : ∀ i, i < 38 → ((opNm i).toList == s.toList) = false) : ofP s.toList = none := by
  unfold ofP
  rw [List.find?_range_eq_none]
  exact fun i hi => by rw [hn i hi]; rfl

theorem of_hit {s : ByteArray} {w : World} {j : Nat} (h : ofP s.toList = some j) : OfNm s w (.returned (.tuple #[.int .i64 (j : Nat), .bool true])) w := by
  refine ⟨?_, rfl⟩
  rw [h]; rfl
theorem of_miss {s : ByteArray} {w : World} (h : ofP s.toList = none) : OfNm s w (.returned (.tuple #[.int .i64 0, .bool false])) w := by
  refine ⟨?_, rfl⟩
  rw [h]; rfl

end Go.Proofs.YtlfbfnkmbceejaaDoor
