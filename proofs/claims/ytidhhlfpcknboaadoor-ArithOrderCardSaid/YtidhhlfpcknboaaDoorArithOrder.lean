/-
  For all numbers v, u and w the law ArithOrder returns true, and its arguments read as they did. Condition: the library's tables and errors and package arith's table of kinds read when the call begins as the program's text lays them (the card ties them).
-/
import Derived.Test.YtidhhlfpcknboaaDoorArL
import Derived.Test.YtidhhlfpcknboaaDoorTie
import Derived.Test.YtidhhlfpcknboaaDoorCards
import Derived.SevenTiedAt
import Derived.LaidMore
import Derived.Stop.Joined
namespace Go.Proofs.YtidhhlfpcknboaaDoor.arithOrder
open Go.ChangeShapes Go.WideShapes Go.ChangeAt Go.RowKit
set_option linter.unusedVariables false
set_option linter.unusedSimpArgs false
set_option linter.unusedVariables false
set_option maxRecDepth 100000

theorem own : ownKnob Tryd.prog.godebug = none := by kernel_rfl
theorem laidOut : laidOutB Tryd.prog = true := by kernel_rfl

set_option maxHeartbeats 1000000 in
theorem w_nop0 (a0 a1 a2 : Int) (hc : ¬ wWrap a0 < wWrap a1) (hd : wWrap a0 = 4611686018427387903) (w : World) (T : ArTab w) :
    Calls Tryd.prog 6 #[.int .i64 a0, .int .i64 a1, .int .i64 a2] w fun e w' => e = .returned (.bool true) ∧ Below w.heap.size w w' := by
  obtain ⟨h0, h1⟩ := wWrap_bounds a0
  obtain ⟨s, hs⟩ : ∃ s, s = opV 12 a0 1 := ⟨_, rfl⟩
  obtain ⟨B, hB⟩ : ∃ s, s = opV 18 a1 a2 := ⟨_, rfl⟩
  obtain ⟨C, hC⟩ : ∃ s, s = opV 18 a0 a2 := ⟨_, rfl⟩
  have HD : Hid (opV 18 a0 s = 0) := Lib.hid (by rw [opV_less, if_neg]; rw [hs, opV_wrapped, opV_add]; rw [hd]; decide +kernel)
  obtain ⟨x, hx⟩ : ∃ x, x = wWrap a0 := ⟨_, rfl⟩
  have W0 : ∀ w, Calls Tryd.prog 7 #[.int .i64 a0] w fun e w' => e = .returned (.int .i64 x) ∧ w = w' := fun w => by rw [hx]; exact refWrap_any _ _
  have hq : (x != 4611686018427387903) = false := by rw [hx]; rw [hd]; rfl
  have HX : Hid (opV 18 a0 a1 = 0) := Lib.hid (by rw [opV_less, if_neg hc])
  have HS := Lib.hid hs.symm
  have HB := Lib.hid hB.symm
  have HE := Lib.hid hC.symm
  clear hc hs hB hC hx hd h0 h1
  go_enter Tryd.func6, Tryd.ntmps6
  go_wp2_with fail
  refine (of_is (op := 18) (v := 0) (o := true) HX.out (opO_18 _) _ T).mono ?_
  rintro e w1 ⟨rfl, b1⟩
  have T1 := T.below b1; clear T
  go_wp2_with fail
  refine (of_is (op := 18) (v := B) (o := true) HB.out (opO_18 _) _ T1).mono ?_
  rintro e w2 ⟨rfl, b2⟩
  have T2 := T1.below b2; clear T1
  replace b2 := below_chain b1 b2; clear b1
  go_wp2_with fail
  refine (of_is (op := 18) (v := C) (o := true) HE.out (opO_18 _) _ T2).mono ?_
  rintro e w3 ⟨rfl, b3⟩
  have T3 := T2.below b3; clear T2
  replace b3 := below_chain b2 b3; clear b2
  go_wp2_with fail
  refine (of_is (op := 12) (v := s) (o := true) HS.out (opO_12 _) _ T3).mono ?_
  rintro e w4 ⟨rfl, b4⟩
  have T4 := T3.below b4; clear T3
  replace b4 := below_chain b3 b4; clear b3
  go_wp2_with fail
  refine (of_is (op := 18) (v := 0) (o := true) HD.out (opO_18 _) _ T4).mono ?_
  rintro e w5 ⟨rfl, b5⟩
  have T5 := T4.below b5; clear T4
  replace b5 := below_chain b4 b5; clear b4
  go_wp2_with fail
  refine (W0 _).mono ?_
  rintro e w' ⟨rfl, rfl⟩
  go_wp2_with fail
  refine (wakes_any _ T5).mono ?_
  rintro e w' ⟨rfl, hb⟩
  go_wp2_with fail
  go_ret
  exact ⟨rfl, below_chain b5 hb⟩

set_option maxHeartbeats 1000000 in
theorem w_nop1 (a0 a1 a2 : Int) (hc : ¬ wWrap a0 < wWrap a1) (hd : ¬ wWrap a0 = 4611686018427387903) (w : World) (T : ArTab w) :
    Calls Tryd.prog 6 #[.int .i64 a0, .int .i64 a1, .int .i64 a2] w fun e w' => e = .returned (.bool true) ∧ Below w.heap.size w w' := by
  obtain ⟨h0, h1⟩ := wWrap_bounds a0
  obtain ⟨s, hs⟩ : ∃ s, s = opV 12 a0 1 := ⟨_, rfl⟩
  obtain ⟨B, hB⟩ : ∃ s, s = opV 18 a1 a2 := ⟨_, rfl⟩
  obtain ⟨C, hC⟩ : ∃ s, s = opV 18 a0 a2 := ⟨_, rfl⟩
  have HD : Hid (opV 18 a0 s = 1) := Lib.hid (by rw [opV_less, if_pos]; rw [hs, opV_wrapped, opV_add, show wWrap 1 = 1 by decide +kernel, wWrap_is (x := wWrap a0 + 1) (by omega) (by omega)]; omega)
  obtain ⟨x, hx⟩ : ∃ x, x = wWrap a0 := ⟨_, rfl⟩
  have W0 : ∀ w, Calls Tryd.prog 7 #[.int .i64 a0] w fun e w' => e = .returned (.int .i64 x) ∧ w = w' := fun w => by rw [hx]; exact refWrap_any _ _
  have hq : (x != 4611686018427387903) = true := by rw [hx]; simpa using hd
  have HX : Hid (opV 18 a0 a1 = 0) := Lib.hid (by rw [opV_less, if_neg hc])
  have HS := Lib.hid hs.symm
  have HB := Lib.hid hB.symm
  have HE := Lib.hid hC.symm
  clear hc hs hB hC hx hd h0 h1
  go_enter Tryd.func6, Tryd.ntmps6
  go_wp2_with fail
  refine (of_is (op := 18) (v := 0) (o := true) HX.out (opO_18 _) _ T).mono ?_
  rintro e w1 ⟨rfl, b1⟩
  have T1 := T.below b1; clear T
  go_wp2_with fail
  refine (of_is (op := 18) (v := B) (o := true) HB.out (opO_18 _) _ T1).mono ?_
  rintro e w2 ⟨rfl, b2⟩
  have T2 := T1.below b2; clear T1
  replace b2 := below_chain b1 b2; clear b1
  go_wp2_with fail
  refine (of_is (op := 18) (v := C) (o := true) HE.out (opO_18 _) _ T2).mono ?_
  rintro e w3 ⟨rfl, b3⟩
  have T3 := T2.below b3; clear T2
  replace b3 := below_chain b2 b3; clear b2
  go_wp2_with fail
  refine (of_is (op := 12) (v := s) (o := true) HS.out (opO_12 _) _ T3).mono ?_
  rintro e w4 ⟨rfl, b4⟩
  have T4 := T3.below b4; clear T3
  replace b4 := below_chain b3 b4; clear b3
  go_wp2_with fail
  refine (of_is (op := 18) (v := 1) (o := true) HD.out (opO_18 _) _ T4).mono ?_
  rintro e w5 ⟨rfl, b5⟩
  have T5 := T4.below b5; clear T4
  replace b5 := below_chain b4 b5; clear b4
  go_wp2_with fail
  refine (W0 _).mono ?_
  rintro e w' ⟨rfl, rfl⟩
  go_wp2_with fail
  refine (wakes_any _ T5).mono ?_
  rintro e w' ⟨rfl, hb⟩
  go_wp2_with fail
  go_ret
  exact ⟨rfl, below_chain b5 hb⟩

set_option maxHeartbeats 1000000 in
theorem w_noq0 (a0 a1 a2 : Int) (hc : wWrap a0 < wWrap a1 ∧ ¬ wWrap a1 < wWrap a2) (hd : wWrap a0 = 4611686018427387903) (w : World) (T : ArTab w) :
    Calls Tryd.prog 6 #[.int .i64 a0, .int .i64 a1, .int .i64 a2] w fun e w' => e = .returned (.bool true) ∧ Below w.heap.size w w' := by
  obtain ⟨h0, h1⟩ := wWrap_bounds a0
  obtain ⟨s, hs⟩ : ∃ s, s = opV 12 a0 1 := ⟨_, rfl⟩
  obtain ⟨B, hB⟩ : ∃ s, s = opV 18 a1 a2 := ⟨_, rfl⟩
  obtain ⟨C, hC⟩ : ∃ s, s = opV 18 a0 a2 := ⟨_, rfl⟩
  have HD : Hid (opV 18 a0 s = 0) := Lib.hid (by rw [opV_less, if_neg]; rw [hs, opV_wrapped, opV_add]; rw [hd]; decide +kernel)
  obtain ⟨x, hx⟩ : ∃ x, x = wWrap a0 := ⟨_, rfl⟩
  have W0 : ∀ w, Calls Tryd.prog 7 #[.int .i64 a0] w fun e w' => e = .returned (.int .i64 x) ∧ w = w' := fun w => by rw [hx]; exact refWrap_any _ _
  have hq : (x != 4611686018427387903) = false := by rw [hx]; rw [hd]; rfl
  have HX : Hid (opV 18 a0 a1 = 1) := Lib.hid (by rw [opV_less, if_pos hc.1])
  have HY : Hid (opV 18 a1 a2 = 0) := Lib.hid (by rw [opV_less, if_neg hc.2])
  have HS := Lib.hid hs.symm
  have HB := Lib.hid hB.symm
  have HE := Lib.hid hC.symm
  clear hc hs hB hC hx hd h0 h1
  go_enter Tryd.func6, Tryd.ntmps6
  go_wp2_with fail
  refine (of_is (op := 18) (v := 1) (o := true) HX.out (opO_18 _) _ T).mono ?_
  rintro e w1 ⟨rfl, b1⟩
  have T1 := T.below b1; clear T
  go_wp2_with fail
  refine (of_is (op := 18) (v := 0) (o := true) HY.out (opO_18 _) _ T1).mono ?_
  rintro e w2 ⟨rfl, b2⟩
  have T2 := T1.below b2; clear T1
  replace b2 := below_chain b1 b2; clear b1
  go_wp2_with fail
  refine (of_is (op := 18) (v := C) (o := true) HE.out (opO_18 _) _ T2).mono ?_
  rintro e w3 ⟨rfl, b3⟩
  have T3 := T2.below b3; clear T2
  replace b3 := below_chain b2 b3; clear b2
  go_wp2_with fail
  refine (of_is (op := 12) (v := s) (o := true) HS.out (opO_12 _) _ T3).mono ?_
  rintro e w4 ⟨rfl, b4⟩
  have T4 := T3.below b4; clear T3
  replace b4 := below_chain b3 b4; clear b3
  go_wp2_with fail
  refine (of_is (op := 18) (v := 0) (o := true) HD.out (opO_18 _) _ T4).mono ?_
  rintro e w5 ⟨rfl, b5⟩
  have T5 := T4.below b5; clear T4
  replace b5 := below_chain b4 b5; clear b4
  go_wp2_with fail
  refine (W0 _).mono ?_
  rintro e w' ⟨rfl, rfl⟩
  go_wp2_with fail
  refine (wakes_any _ T5).mono ?_
  rintro e w' ⟨rfl, hb⟩
  go_wp2_with fail
  go_ret
  exact ⟨rfl, below_chain b5 hb⟩

set_option maxHeartbeats 1000000 in
theorem w_noq1 (a0 a1 a2 : Int) (hc : wWrap a0 < wWrap a1 ∧ ¬ wWrap a1 < wWrap a2) (hd : ¬ wWrap a0 = 4611686018427387903) (w : World) (T : ArTab w) :
    Calls Tryd.prog 6 #[.int .i64 a0, .int .i64 a1, .int .i64 a2] w fun e w' => e = .returned (.bool true) ∧ Below w.heap.size w w' := by
  obtain ⟨h0, h1⟩ := wWrap_bounds a0
  obtain ⟨s, hs⟩ : ∃ s, s = opV 12 a0 1 := ⟨_, rfl⟩
  obtain ⟨B, hB⟩ : ∃ s, s = opV 18 a1 a2 := ⟨_, rfl⟩
  obtain ⟨C, hC⟩ : ∃ s, s = opV 18 a0 a2 := ⟨_, rfl⟩
  have HD : Hid (opV 18 a0 s = 1) := Lib.hid (by rw [opV_less, if_pos]; rw [hs, opV_wrapped, opV_add, show wWrap 1 = 1 by decide +kernel, wWrap_is (x := wWrap a0 + 1) (by omega) (by omega)]; omega)
  obtain ⟨x, hx⟩ : ∃ x, x = wWrap a0 := ⟨_, rfl⟩
  have W0 : ∀ w, Calls Tryd.prog 7 #[.int .i64 a0] w fun e w' => e = .returned (.int .i64 x) ∧ w = w' := fun w => by rw [hx]; exact refWrap_any _ _
  have hq : (x != 4611686018427387903) = true := by rw [hx]; simpa using hd
  have HX : Hid (opV 18 a0 a1 = 1) := Lib.hid (by rw [opV_less, if_pos hc.1])
  have HY : Hid (opV 18 a1 a2 = 0) := Lib.hid (by rw [opV_less, if_neg hc.2])
  have HS := Lib.hid hs.symm
  have HB := Lib.hid hB.symm
  have HE := Lib.hid hC.symm
  clear hc hs hB hC hx hd h0 h1
  go_enter Tryd.func6, Tryd.ntmps6
  go_wp2_with fail
  refine (of_is (op := 18) (v := 1) (o := true) HX.out (opO_18 _) _ T).mono ?_
  rintro e w1 ⟨rfl, b1⟩
  have T1 := T.below b1; clear T
  go_wp2_with fail
  refine (of_is (op := 18) (v := 0) (o := true) HY.out (opO_18 _) _ T1).mono ?_
  rintro e w2 ⟨rfl, b2⟩
  have T2 := T1.below b2; clear T1
  replace b2 := below_chain b1 b2; clear b1
  go_wp2_with fail
  refine (of_is (op := 18) (v := C) (o := true) HE.out (opO_18 _) _ T2).mono ?_
  rintro e w3 ⟨rfl, b3⟩
  have T3 := T2.below b3; clear T2
  replace b3 := below_chain b2 b3; clear b2
  go_wp2_with fail
  refine (of_is (op := 12) (v := s) (o := true) HS.out (opO_12 _) _ T3).mono ?_
  rintro e w4 ⟨rfl, b4⟩
  have T4 := T3.below b4; clear T3
  replace b4 := below_chain b3 b4; clear b3
  go_wp2_with fail
  refine (of_is (op := 18) (v := 1) (o := true) HD.out (opO_18 _) _ T4).mono ?_
  rintro e w5 ⟨rfl, b5⟩
  have T5 := T4.below b5; clear T4
  replace b5 := below_chain b4 b5; clear b4
  go_wp2_with fail
  refine (W0 _).mono ?_
  rintro e w' ⟨rfl, rfl⟩
  go_wp2_with fail
  refine (wakes_any _ T5).mono ?_
  rintro e w' ⟨rfl, hb⟩
  go_wp2_with fail
  go_ret
  exact ⟨rfl, below_chain b5 hb⟩

set_option maxHeartbeats 1000000 in
theorem w_all0 (a0 a1 a2 : Int) (hc : wWrap a0 < wWrap a1 ∧ wWrap a1 < wWrap a2) (hd : wWrap a0 = 4611686018427387903) (w : World) (T : ArTab w) :
    Calls Tryd.prog 6 #[.int .i64 a0, .int .i64 a1, .int .i64 a2] w fun e w' => e = .returned (.bool true) ∧ Below w.heap.size w w' := by
  obtain ⟨h0, h1⟩ := wWrap_bounds a0
  obtain ⟨s, hs⟩ : ∃ s, s = opV 12 a0 1 := ⟨_, rfl⟩
  obtain ⟨B, hB⟩ : ∃ s, s = opV 18 a1 a2 := ⟨_, rfl⟩
  obtain ⟨C, hC⟩ : ∃ s, s = opV 18 a0 a2 := ⟨_, rfl⟩
  have HD : Hid (opV 18 a0 s = 0) := Lib.hid (by rw [opV_less, if_neg]; rw [hs, opV_wrapped, opV_add]; rw [hd]; decide +kernel)
  obtain ⟨x, hx⟩ : ∃ x, x = wWrap a0 := ⟨_, rfl⟩
  have W0 : ∀ w, Calls Tryd.prog 7 #[.int .i64 a0] w fun e w' => e = .returned (.int .i64 x) ∧ w = w' := fun w => by rw [hx]; exact refWrap_any _ _
  have hq : (x != 4611686018427387903) = false := by rw [hx]; rw [hd]; rfl
  have HX : Hid (opV 18 a0 a1 = 1) := Lib.hid (by rw [opV_less, if_pos hc.1])
  have HY : Hid (opV 18 a1 a2 = 1) := Lib.hid (by rw [opV_less, if_pos hc.2])
  have HZ : Hid (opV 18 a0 a2 = 1) := Lib.hid (by rw [opV_less, if_pos (Int.lt_trans hc.1 hc.2)])
  have HS := Lib.hid hs.symm
  have HB := Lib.hid hB.symm
  have HE := Lib.hid hC.symm
  clear hc hs hB hC hx hd h0 h1
  go_enter Tryd.func6, Tryd.ntmps6
  go_wp2_with fail
  refine (of_is (op := 18) (v := 1) (o := true) HX.out (opO_18 _) _ T).mono ?_
  rintro e w1 ⟨rfl, b1⟩
  have T1 := T.below b1; clear T
  go_wp2_with fail
  refine (of_is (op := 18) (v := 1) (o := true) HY.out (opO_18 _) _ T1).mono ?_
  rintro e w2 ⟨rfl, b2⟩
  have T2 := T1.below b2; clear T1
  replace b2 := below_chain b1 b2; clear b1
  go_wp2_with fail
  refine (of_is (op := 18) (v := 1) (o := true) HZ.out (opO_18 _) _ T2).mono ?_
  rintro e w3 ⟨rfl, b3⟩
  have T3 := T2.below b3; clear T2
  replace b3 := below_chain b2 b3; clear b2
  go_wp2_with fail
  refine (of_is (op := 12) (v := s) (o := true) HS.out (opO_12 _) _ T3).mono ?_
  rintro e w4 ⟨rfl, b4⟩
  have T4 := T3.below b4; clear T3
  replace b4 := below_chain b3 b4; clear b3
  go_wp2_with fail
  refine (of_is (op := 18) (v := 0) (o := true) HD.out (opO_18 _) _ T4).mono ?_
  rintro e w5 ⟨rfl, b5⟩
  have T5 := T4.below b5; clear T4
  replace b5 := below_chain b4 b5; clear b4
  go_wp2_with fail
  refine (W0 _).mono ?_
  rintro e w' ⟨rfl, rfl⟩
  go_wp2_with fail
  refine (wakes_any _ T5).mono ?_
  rintro e w' ⟨rfl, hb⟩
  go_wp2_with fail
  go_ret
  exact ⟨rfl, below_chain b5 hb⟩

set_option maxHeartbeats 1000000 in
theorem w_all1 (a0 a1 a2 : Int) (hc : wWrap a0 < wWrap a1 ∧ wWrap a1 < wWrap a2) (hd : ¬ wWrap a0 = 4611686018427387903) (w : World) (T : ArTab w) :
    Calls Tryd.prog 6 #[.int .i64 a0, .int .i64 a1, .int .i64 a2] w fun e w' => e = .returned (.bool true) ∧ Below w.heap.size w w' := by
  obtain ⟨h0, h1⟩ := wWrap_bounds a0
  obtain ⟨s, hs⟩ : ∃ s, s = opV 12 a0 1 := ⟨_, rfl⟩
  obtain ⟨B, hB⟩ : ∃ s, s = opV 18 a1 a2 := ⟨_, rfl⟩
  obtain ⟨C, hC⟩ : ∃ s, s = opV 18 a0 a2 := ⟨_, rfl⟩
  have HD : Hid (opV 18 a0 s = 1) := Lib.hid (by rw [opV_less, if_pos]; rw [hs, opV_wrapped, opV_add, show wWrap 1 = 1 by decide +kernel, wWrap_is (x := wWrap a0 + 1) (by omega) (by omega)]; omega)
  obtain ⟨x, hx⟩ : ∃ x, x = wWrap a0 := ⟨_, rfl⟩
  have W0 : ∀ w, Calls Tryd.prog 7 #[.int .i64 a0] w fun e w' => e = .returned (.int .i64 x) ∧ w = w' := fun w => by rw [hx]; exact refWrap_any _ _
  have hq : (x != 4611686018427387903) = true := by rw [hx]; simpa using hd
  have HX : Hid (opV 18 a0 a1 = 1) := Lib.hid (by rw [opV_less, if_pos hc.1])
  have HY : Hid (opV 18 a1 a2 = 1) := Lib.hid (by rw [opV_less, if_pos hc.2])
  have HZ : Hid (opV 18 a0 a2 = 1) := Lib.hid (by rw [opV_less, if_pos (Int.lt_trans hc.1 hc.2)])
  have HS := Lib.hid hs.symm
  have HB := Lib.hid hB.symm
  have HE := Lib.hid hC.symm
  clear hc hs hB hC hx hd h0 h1
  go_enter Tryd.func6, Tryd.ntmps6
  go_wp2_with fail
  refine (of_is (op := 18) (v := 1) (o := true) HX.out (opO_18 _) _ T).mono ?_
  rintro e w1 ⟨rfl, b1⟩
  have T1 := T.below b1; clear T
  go_wp2_with fail
  refine (of_is (op := 18) (v := 1) (o := true) HY.out (opO_18 _) _ T1).mono ?_
  rintro e w2 ⟨rfl, b2⟩
  have T2 := T1.below b2; clear T1
  replace b2 := below_chain b1 b2; clear b1
  go_wp2_with fail
  refine (of_is (op := 18) (v := 1) (o := true) HZ.out (opO_18 _) _ T2).mono ?_
  rintro e w3 ⟨rfl, b3⟩
  have T3 := T2.below b3; clear T2
  replace b3 := below_chain b2 b3; clear b2
  go_wp2_with fail
  refine (of_is (op := 12) (v := s) (o := true) HS.out (opO_12 _) _ T3).mono ?_
  rintro e w4 ⟨rfl, b4⟩
  have T4 := T3.below b4; clear T3
  replace b4 := below_chain b3 b4; clear b3
  go_wp2_with fail
  refine (of_is (op := 18) (v := 1) (o := true) HD.out (opO_18 _) _ T4).mono ?_
  rintro e w5 ⟨rfl, b5⟩
  have T5 := T4.below b5; clear T4
  replace b5 := below_chain b4 b5; clear b4
  go_wp2_with fail
  refine (W0 _).mono ?_
  rintro e w' ⟨rfl, rfl⟩
  go_wp2_with fail
  refine (wakes_any _ T5).mono ?_
  rintro e w' ⟨rfl, hb⟩
  go_wp2_with fail
  go_ret
  exact ⟨rfl, below_chain b5 hb⟩

theorem walk (a0 a1 a2 : Int) (w0 : (Lit.int .i64 a0).wf = true) (w1 : (Lit.int .i64 a1).wf = true) (w2 : (Lit.int .i64 a2).wf = true) (w : World) (T : ArTab w) :
    Calls Tryd.prog 6 #[.int .i64 a0, .int .i64 a1, .int .i64 a2] w fun e w' => e = .returned (.bool true) ∧ Below w.heap.size w w' := by
  by_cases hd : wWrap a0 = 4611686018427387903
  · by_cases h1 : wWrap a0 < wWrap a1
    · by_cases h2 : wWrap a1 < wWrap a2
      · exact w_all0 a0 a1 a2 ⟨h1, h2⟩ hd w T
      · exact w_noq0 a0 a1 a2 ⟨h1, h2⟩ hd w T
    · exact w_nop0 a0 a1 a2 h1 hd w T
  · by_cases h1 : wWrap a0 < wWrap a1
    · by_cases h2 : wWrap a1 < wWrap a2
      · exact w_all1 a0 a1 a2 ⟨h1, h2⟩ hd w T
      · exact w_noq1 a0 a1 a2 ⟨h1, h2⟩ hd w T
    · exact w_nop1 a0 a1 a2 h1 hd w T

theorem contract (H : Type) (enc : TypeId × Value → H) (W : World) (base : Nat) (args : Array Value) (ds gs : List (DataW H)) (before : List MemPlace)
    (hval0 : ∀ (j : Nat) t v, Tryd.f6.params[j]? = some t → args[j]? = some v → Value.okWide Tryd.prog W .any base t v)
    (hW : DataW.Whole enc Tryd.prog Tryd.f6.params.toList Rows.arithOrderSpec.vars false W args.toList ds gs before)
    (T : ArTab W) :
    Calls Tryd.prog 6 args W fun e W' => ∃ v, e = .returned v ∧ Rows.arithOrderSpec.post enc Tryd.prog Tryd.f6 false true false false W args v W' := by
  have hW' := hW
  have hval := hval0
  obtain ⟨p, q, hA0, hV, rfl, hfz, hnd⟩ := hW
  have hA : DataW.TrodAll enc Tryd.prog W 0 (fun _ => true) true Tryd.f6.params.toList args.toList ds p := hA0
  rw [Tryd.params6] at hA hval
  obtain ⟨rfl, rfl⟩ := trodVars_none hV
  obtain ⟨v0, vs0, d0, ds0, p0, q0, hargs, rfl, rfl, h0, r0⟩ := trodAll_cons hA
  obtain ⟨v1, vs1, d1, ds1, p1, q1, rfl, rfl, rfl, h1, r1⟩ := trodAll_cons r0
  obtain ⟨v2, vs2, d2, ds2, p2, q2, rfl, rfl, rfl, h2, r2⟩ := trodAll_cons r1
  obtain ⟨rfl, rfl, rfl⟩ := trodAll_nil r2
  obtain rfl : args = #[v0, v1, v2] := by cases args; simp_all
  obtain ⟨a0, rfl, rfl, rfl, w0⟩ := open_int Tryd.underlying2 (hval 0 2 v0 rfl rfl) h0
  obtain ⟨a1, rfl, rfl, rfl, w1⟩ := open_int Tryd.underlying2 (hval 1 2 v1 rfl rfl) h1
  obtain ⟨a2, rfl, rfl, rfl, w2⟩ := open_int Tryd.underlying2 (hval 2 2 v2 rfl rfl) h2
  refine (walk a0 a1 a2 w0 w1 w2 W T).mono fun e W' ⟨he, hb⟩ => ?_
  subst he
  exact ⟨_, rfl, law_post laidOut (by kernel_rfl) rfl (by kernel_rfl) Tryd.underlying4 hW' rfl rfl rfl hb⟩

theorem door_met (os : Os) (args : Array Value) : laidMetH Tryd.prog Rows.arithOrderRow.laid ((World.doorLaid Tryd.prog 67 os).forCall (fun _ _ => 0) ⟨#[], args, []⟩).memory :=
  laidMetH_of_parts3 (fuel := 8) (laidMet_of_run' 8 (by kernel_rfl) (by kernel_rfl)) (by kernel_rfl) (by kernel_rfl)

set_option maxRecDepth 100000 in
theorem lifted (os : Os) (started : os.Started) (H : Type) (enc : TypeId × Value → H) :
    ReturnsInHanded {} Tryd.checked os 6 .any (fun w args => (Rows.arithOrderSpec.pre enc Tryd.prog Tryd.f6 [] false w args ∧ laidMetH Tryd.prog Rows.arithOrderRow.laid w) ∧ sizedMet enc Tryd.prog Tryd.f6 (OpenSpec.ofChange Rows.arithOrderSpec) false w args)
      (Rows.arithOrderSpec.post enc Tryd.prog Tryd.f6 false true false false) := by
  refine returnsInHanded_of_change_and (C := Tryd.checked) (X := fun w _ => laidMetH Tryd.prog Rows.arithOrderRow.laid w) (fun _ _ _ hh h => h.of_heap hh) own started (by kernel_rfl) Tryd.func6
    (ChangeSpec.witness_shaped (enc := enc) (C := Tryd.checked) (os := os) (X := fun w _ => laidMetH Tryd.prog Rows.arithOrderRow.laid w) false (World.doorLaid Tryd.prog 67 os) #[.int .i64 0, .int .i64 0, .int .i64 0] 8 rfl (World.shaped_of_RefB (by kernel_rfl) (by kernel_rfl)) (by kernel_rfl) (by kernel_rfl) (by kernel_rfl) (door_met os _)) ?_
  intro W base args ds gs before hval hW _ hz hL _
  exact contract H enc W base args ds gs before hval hW (artab_of hL)

theorem over : Rows.arithOrderRow.holds Tryd.pinned (OpenSpec.ofChange Rows.arithOrderSpec) :=
  OpenClaim.holds_of_wide 6 Tryd.f6 rfl rfl rfl rfl rfl rfl rfl ⟨rfl, rfl, rfl, rfl, rfl⟩ rfl rfl rfl rfl rfl (by kernel_rfl) Tryd.func6 (by kernel_rfl)
    (of_decide_eq_true (by kernel_rfl)) (by unfold Func.isWrapper; first | (rw [if_pos (by decide +kernel)]; kernel_rfl) | (rw [if_neg (by decide +kernel)]; exact ⟨rfl, rfl⟩))
    (fun os started H enc _ => lifted os started H enc)

theorem proved : Rows.ArithOrderCardSaid :=
  Claim7.holds_tied_plain_at .later [] [.data, .data, .data, .sentinel, .sentinel, .data] true _ true
    over (fun _ h => by cases h) (by kernel_rfl) (fun _ h => by cases h) arithOrder_row_tie rfl ⟨rfl, rfl⟩ (by kernel_rfl) rfl
    (fun f fn hf hfn => by
      obtain rfl : f = 6 := Option.some.inj ((show Tryd.prog.funcNamed "stockpot/stockpotlaw09.ArithOrder" = some 6 by kernel_rfl).symm.trans hf) |>.symm
      obtain rfl : fn = Tryd.f6 := (Option.some.inj (Tryd.func6.symm.trans hfn)).symm
      exact ⟨by kernel_rfl, fun j t ht => by
        have hall : (Tryd.f6.params.toList.all fun u => !Tryd.prog.wantsStandIn u) = true := by kernel_rfl
        exact (show Tryd.prog.wantsStandIn t = false by simpa using List.all_eq_true.1 hall t (by simpa using Array.mem_of_getElem? ht))⟩)
    (by kernel_rfl)
#print axioms proved
end Go.Proofs.YtidhhlfpcknboaaDoor.arithOrder
