/-
  The document's own examples for package op ('wakes').
  Conditions: as each states.
-/
import Derived.Test.YtkolfalfpfnakaaDoorOpE
namespace Go.Proofs.YtkolfalfpfnakaaDoor
open Go.ChangeShapes Go.WideShapes Go.ChangeAt Go.RowKit
set_option linter.unusedVariables false
set_option linter.unusedSimpArgs false
set_option maxRecDepth 100000

theorem ofP_jumpz : ofP (ByteArray.toList ⟨#[106, 117, 109, 112, 122]⟩) = some 11 := by
  unfold ofP; simp only [ByteArray.toList_eq]; decide +kernel
theorem ofP_none : ofP (ByteArray.toList ⟨#[]⟩) = none := by
  unfold ofP; simp only [ByteArray.toList_eq]; decide +kernel

section
variable (w : World)
theorem wk_close (T : OpTab w) : Calls Tryd.prog 7 #[.agg #[.int .i64 6, .int .i64 2, .int .i64 3]] w fun e w' => e = .returned (.tuple #[.int .i64 3, .int .i64 1, .bool true]) ∧ Below w.heap.size w w' :=
  (effect_any 6 2 3 w T).mono fun e w' ⟨he, hb⟩ => ⟨by rw [he, show effT 6 2 3 = 3 from by kernel_rfl, show effL 6 2 3 = 1 from by kernel_rfl, show opGood 6 2 3 = true from by kernel_rfl], hb⟩
theorem wk_close0 (T : OpTab w) : Calls Tryd.prog 7 #[.agg #[.int .i64 6, .int .i64 0, .int .i64 3]] w fun e w' => e = .returned (.tuple #[.int .i64 0, .int .i64 0, .bool false]) ∧ Below w.heap.size w w' :=
  (effect_any 6 0 3 w T).mono fun e w' ⟨he, hb⟩ => ⟨by rw [he, show effT 6 0 3 = 0 from by kernel_rfl, show effL 6 0 3 = 0 from by kernel_rfl, show opGood 6 0 3 = false from by kernel_rfl], hb⟩
theorem wk_jumpz (T : OpTab w) : Calls Tryd.prog 11 #[.string ⟨#[106, 117, 109, 112, 122]⟩] w fun e w' => e = .returned (.tuple #[.int .i64 11, .bool true]) ∧ w = w' :=
  (of_any _ w T).mono fun e w' ⟨he, hb⟩ => ⟨by rw [he, ofP_jumpz]; rfl, hb⟩
theorem wk_none (T : OpTab w) : Calls Tryd.prog 11 #[.string ⟨#[]⟩] w fun e w' => e = .returned (.tuple #[.int .i64 0, .bool false]) ∧ w = w' :=
  (of_any _ w T).mono fun e w' ⟨he, hb⟩ => ⟨by rw [he, ofP_none]; rfl, hb⟩
theorem wk_host (T : OpTab w) : Calls Tryd.prog 12 #[.int .i64 36] w fun e w' => e = .returned (.string ⟨#[104, 111, 115, 116]⟩) ∧ w = w' :=
  (name_any 36 w T).mono fun e w' ⟨he, hb⟩ => ⟨by rw [he]; rfl, hb⟩
theorem wk_ops (T : OpTab w) : Calls Tryd.prog 12 #[.int .i64 38] w fun e w' => e = .returned (.string ⟨#[]⟩) ∧ w = w' :=
  (name_any 38 w T).mono fun e w' ⟨he, hb⟩ => ⟨by rw [he]; rfl, hb⟩
theorem wk_int (T : OpTab w) : Calls Tryd.prog 13 #[.agg #[.int .i64 0, .int .i64 (-4611686018427387904), .int .i64 0]] w fun e w' => e = .returned (.bool true) ∧ Below w.heap.size w w' :=
  (good_any _ _ _ w T).mono fun e w' ⟨he, hb⟩ => ⟨by rw [he, show opGood 0 (-4611686018427387904) 0 = true from by kernel_rfl], hb⟩
theorem wk_pop (T : OpTab w) : Calls Tryd.prog 13 #[.agg #[.int .i64 37, .int .i64 1, .int .i64 0]] w fun e w' => e = .returned (.bool false) ∧ Below w.heap.size w w' :=
  (good_any _ _ _ w T).mono fun e w' ⟨he, hb⟩ => ⟨by rw [he, show opGood 37 1 0 = false from by kernel_rfl], hb⟩
theorem wk_ret : Calls Tryd.prog 14 #[.agg #[.int .i64 9, .int .i64 0, .int .i64 0]] w fun e w' => e = .returned (.bool true) ∧ Below w.heap.size w w' :=
  (ends_any 9 0 0 w).mono fun e w' ⟨he, hb⟩ => ⟨by rw [he]; rfl, hb⟩
theorem wk_jz : Calls Tryd.prog 14 #[.agg #[.int .i64 11, .int .i64 0, .int .i64 0]] w fun e w' => e = .returned (.bool false) ∧ Below w.heap.size w w' :=
  (ends_any 11 0 0 w).mono fun e w' ⟨he, hb⟩ => ⟨by rw [he]; rfl, hb⟩
end

set_option maxHeartbeats 4000000 in
theorem wakes_any (w : World) (T : OpTab w) : Calls Tryd.prog 16 #[] w fun e w' => e = .returned (.bool true) ∧ Below w.heap.size w w' := by
  go_enter Tryd.func16, Tryd.ntmps16
  go_wp2_with fail
  refine (wk_close _ T).mono ?_
  rintro e w1 ⟨rfl, b1⟩
  have T1 := T.below b1
  go_wp2_with fail
  refine (wk_close0 _ T1).mono ?_
  rintro e w2 ⟨rfl, b2⟩
  have T2 := T1.below b2
  go_wp2_with fail
  refine (wk_jumpz _ T2).mono ?_
  rintro e w' ⟨rfl, rfl⟩
  go_wp2_with fail
  refine (wk_none _ T2).mono ?_
  rintro e w' ⟨rfl, rfl⟩
  go_wp2_with fail
  refine (wk_host _ T2).mono ?_
  rintro e w' ⟨rfl, rfl⟩
  go_wp2_with fail
  refine (wk_ops _ T2).mono ?_
  rintro e w' ⟨rfl, rfl⟩
  go_wp2_with fail
  refine (wk_int _ T2).mono ?_
  rintro e w3 ⟨rfl, b3⟩
  have T3 := T2.below b3
  go_wp2_with fail
  refine (wk_pop _ T3).mono ?_
  rintro e w4 ⟨rfl, b4⟩
  go_wp2_with fail
  refine (wk_ret _).mono ?_
  rintro e w5 ⟨rfl, b5⟩
  go_wp2_with fail
  refine (wk_jz _).mono ?_
  rintro e w6 ⟨rfl, b6⟩
  go_wp2_with fail
  go_ret
  exact ⟨rfl, down_call (down_call (down_call (down_call (down_call b1 b2) b3) b4) b5) b6⟩
end Go.Proofs.YtkolfalfpfnakaaDoor
