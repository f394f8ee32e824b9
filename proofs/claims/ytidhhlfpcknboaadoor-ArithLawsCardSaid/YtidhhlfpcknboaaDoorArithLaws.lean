/-
  For all numbers v and u the law ArithLaws returns true, and its arguments read as they did. Condition: the library's tables and errors and package arith's table of kinds read when the call begins as the program's text lays them (the card ties them).
-/
import Derived.Test.YtidhhlfpcknboaaDoorArL
import Derived.Test.YtidhhlfpcknboaaDoorTie
import Derived.Test.YtidhhlfpcknboaaDoorCards
import Derived.SevenTiedAt
import Derived.LaidMore
import Derived.Stop.Joined
namespace Go.Proofs.YtidhhlfpcknboaaDoor.arithLaws
open Go.ChangeShapes Go.WideShapes Go.ChangeAt Go.RowKit
set_option linter.unusedVariables false
set_option linter.unusedSimpArgs false
set_option linter.unusedVariables false
set_option maxRecDepth 100000

theorem own : ownKnob Tryd.prog.godebug = none := by kernel_rfl
theorem laidOut : laidOutB Tryd.prog = true := by kernel_rfl

set_option maxHeartbeats 1000000 in
theorem w_zero (a0 a1 : Int) (hz : wWrap a1 = 0) (w : World) (T : ArTab w) :
    Calls Tryd.prog 3 #[.int .i64 a0, .int .i64 a1] w fun e w' => e = .returned (.bool true) ∧ Below w.heap.size w w' := by
  obtain ⟨h0, h1⟩ := wWrap_bounds a0
  obtain ⟨k0, k1⟩ := wWrap_bounds a1
  obtain ⟨a, ha⟩ : ∃ a, a = wWrap a0 := ⟨_, rfl⟩
  obtain ⟨b, hb⟩ : ∃ b, b = wWrap a1 := ⟨_, rfl⟩
  have W0 : ∀ w, Calls Tryd.prog 7 #[.int .i64 a0] w fun e w' => e = .returned (.int .i64 a) ∧ w = w' := fun w => by rw [ha]; exact refWrap_any _ _
  have W1 : ∀ w, Calls Tryd.prog 7 #[.int .i64 a1] w fun e w' => e = .returned (.int .i64 b) ∧ w = w' := fun w => by rw [hb]; exact refWrap_any _ _
  rw [← ha] at h0 h1
  rw [← hb] at hz k0 k1
  have wa : wWrap a = a := wWrap_is h0 h1
  have wb : wWrap b = b := wWrap_is k0 k1
  obtain ⟨s, hs⟩ : ∃ s, s = opV 12 a b := ⟨_, rfl⟩
  have HS := Lib.hid hs.symm
  have HD : Hid (opV 13 s b = a) := Lib.hid (by
    rw [opV_sub, hs, opV_wrapped, opV_add, wa, wb]
    obtain ⟨k, hk⟩ := wWrap_add (a + b)
    rw [wWrap_mod (y := a) k (by omega)]
    exact wa)
  obtain ⟨l, hl⟩ : ∃ l, l = opV 18 a b := ⟨_, rfl⟩
  obtain ⟨m, hm⟩ : ∃ m, m = opV 18 b a := ⟨_, rfl⟩
  obtain ⟨e0, he⟩ : ∃ e, e = opV 17 a b := ⟨_, rfl⟩
  have l0 : l = if a < b then 1 else 0 := by rw [hl, opV_less, wa, wb]
  have m0 : m = if b < a then 1 else 0 := by rw [hm, opV_less, wa, wb]
  have e1 : e0 = if a = b then 1 else 0 := by rw [he, opV_eq, wa, wb]
  have HL := Lib.hid hl.symm
  have HM := Lib.hid hm.symm
  have HE := Lib.hid he.symm
  have hlr : 0 ≤ l ∧ l ≤ 1 := by rw [l0]; split <;> omega
  have hmr : 0 ≤ m ∧ m ≤ 1 := by rw [m0]; split <;> omega
  have her : 0 ≤ e0 ∧ e0 ≤ 1 := by rw [e1]; split <;> omega
  have hsum : l + m + e0 = 1 := by rw [l0, m0, e1]; split <;> split <;> split <;> omega
  obtain ⟨l2, l3⟩ := hlr
  obtain ⟨m2, m3⟩ := hmr
  obtain ⟨e2, e3⟩ := her
  have g1 : (wrap64 (wrap64 (l + m) + e0) != 1) = false := by
    have : wrap64 (wrap64 (l + m) + e0) = 1 := by unfold wrap64; omega
    rw [this]; rfl
  have g2 : wrap64 (l + m) = l + m := by unfold wrap64; omega
  have g3 : (l + m + e0 != 1) = false := by rw [hsum]; rfl
  have g4 : wrap64 (l + m + e0) = l + m + e0 := by unfold wrap64; omega
  have g5 : decide (l < 0) = false := decide_eq_false (by omega)
  have g6 : decide (m < 0) = false := decide_eq_false (by omega)
  have g7 : decide (e0 < 0) = false := decide_eq_false (by omega)
  clear hl hm he l0 m0 e1 hs hsum
  have HQ : Hid (opV 15 a b = 0) := Lib.hid (opV_div0 (by rw [wb]; exact hz))
  have HR : Hid (opV 16 a b = 0) := Lib.hid (opV_mod0 (by rw [wb]; exact hz))
  have HQO : Hid (opO 15 b = false) := Lib.hid (opO_150 (by rw [wb]; exact hz))
  have HRO : Hid (opO 16 b = false) := Lib.hid (opO_160 (by rw [wb]; exact hz))
  have hz0 : (b == 0) = true := by rw [hz]; rfl
  have HZ := Lib.hid hz
  clear ha hb wa wb hz
  go_enter Tryd.func3, Tryd.ntmps3
  go_wp2_with fail
  refine (W0 _).mono ?_
  rintro e w' ⟨rfl, rfl⟩
  go_wp2_with fail
  refine (W1 _).mono ?_
  rintro e w' ⟨rfl, rfl⟩
  go_wp2_with fail
  refine (of_is (op := 12) (v := s) (o := true) HS.out (opO_12 _) _ T).mono ?_
  rintro e w1 ⟨rfl, b1⟩
  have T1 := T.below b1; clear T
  go_wp2_with fail
  refine (of_is (op := 13) (v := a) (o := true) HD.out (opO_13 _) _ T1).mono ?_
  rintro e w2 ⟨rfl, b2⟩
  have T2 := T1.below b2; clear T1
  replace b2 := below_chain b1 b2; clear b1
  go_wp2_with fail
  refine (of_is (op := 18) (v := l) (o := true) HL.out (opO_18 _) _ T2).mono ?_
  rintro e w3 ⟨rfl, b3⟩
  have T3 := T2.below b3; clear T2
  replace b3 := below_chain b2 b3; clear b2
  go_wp2_with fail
  refine (of_is (op := 18) (v := m) (o := true) HM.out (opO_18 _) _ T3).mono ?_
  rintro e w4 ⟨rfl, b4⟩
  have T4 := T3.below b4; clear T3
  replace b4 := below_chain b3 b4; clear b3
  go_wp2_with fail
  refine (of_is (op := 17) (v := e0) (o := true) HE.out (opO_17 _) _ T4).mono ?_
  rintro e w5 ⟨rfl, b5⟩
  have T5 := T4.below b5; clear T4
  replace b5 := below_chain b4 b5; clear b4
  go_wp2_with fail
  refine (of_is (op := 15) (v := 0) (o := false) HQ.out HQO.out _ T5).mono ?_
  rintro e w6 ⟨rfl, b6⟩
  have T6 := T5.below b6; clear T5
  replace b6 := below_chain b5 b6; clear b5
  go_wp2_with fail
  refine (of_is (op := 16) (v := 0) (o := false) HR.out HRO.out _ T6).mono ?_
  rintro e w7 ⟨rfl, b7⟩
  have T7 := T6.below b7; clear T6
  replace b7 := below_chain b6 b7; clear b6
  go_wp2_with fail
  refine (wakes_any _ T7).mono ?_
  rintro e w' ⟨rfl, hb⟩
  go_wp2_with fail
  go_ret
  exact ⟨rfl, below_chain b7 hb⟩

set_option maxHeartbeats 1000000 in
theorem w_0m (a0 a1 r : Int) (hr : r = (wWrap a0).tmod (wWrap a1)) (hrc : r = 0) (hbc : wWrap a1 = -4611686018427387904) (w : World) (T : ArTab w) :
    Calls Tryd.prog 3 #[.int .i64 a0, .int .i64 a1] w fun e w' => e = .returned (.bool true) ∧ Below w.heap.size w w' := by
  have hz : ¬ wWrap a1 = 0 := by omega
  have hrng := tmod_range (wWrap a0) (wWrap a1) hz
  rw [← hr] at hrng
  have hback := back_is (wWrap a0) (wWrap a1) (wWrap_bounds a0).1 (wWrap_bounds a0).2
  rw [← hr] at hback
  obtain ⟨h0, h1⟩ := wWrap_bounds a0
  obtain ⟨k0, k1⟩ := wWrap_bounds a1
  obtain ⟨a, ha⟩ : ∃ a, a = wWrap a0 := ⟨_, rfl⟩
  obtain ⟨b, hb⟩ : ∃ b, b = wWrap a1 := ⟨_, rfl⟩
  have W0 : ∀ w, Calls Tryd.prog 7 #[.int .i64 a0] w fun e w' => e = .returned (.int .i64 a) ∧ w = w' := fun w => by rw [ha]; exact refWrap_any _ _
  have W1 : ∀ w, Calls Tryd.prog 7 #[.int .i64 a1] w fun e w' => e = .returned (.int .i64 b) ∧ w = w' := fun w => by rw [hb]; exact refWrap_any _ _
  rw [← ha] at hr hback h0 h1
  rw [← hb] at hr hz hback hbc hrng k0 k1
  have wa : wWrap a = a := wWrap_is h0 h1
  have wb : wWrap b = b := wWrap_is k0 k1
  obtain ⟨s, hs⟩ : ∃ s, s = opV 12 a b := ⟨_, rfl⟩
  have HS := Lib.hid hs.symm
  have HD : Hid (opV 13 s b = a) := Lib.hid (by
    rw [opV_sub, hs, opV_wrapped, opV_add, wa, wb]
    obtain ⟨k, hk⟩ := wWrap_add (a + b)
    rw [wWrap_mod (y := a) k (by omega)]
    exact wa)
  obtain ⟨l, hl⟩ : ∃ l, l = opV 18 a b := ⟨_, rfl⟩
  obtain ⟨m, hm⟩ : ∃ m, m = opV 18 b a := ⟨_, rfl⟩
  obtain ⟨e0, he⟩ : ∃ e, e = opV 17 a b := ⟨_, rfl⟩
  have l0 : l = if a < b then 1 else 0 := by rw [hl, opV_less, wa, wb]
  have m0 : m = if b < a then 1 else 0 := by rw [hm, opV_less, wa, wb]
  have e1 : e0 = if a = b then 1 else 0 := by rw [he, opV_eq, wa, wb]
  have HL := Lib.hid hl.symm
  have HM := Lib.hid hm.symm
  have HE := Lib.hid he.symm
  have hlr : 0 ≤ l ∧ l ≤ 1 := by rw [l0]; split <;> omega
  have hmr : 0 ≤ m ∧ m ≤ 1 := by rw [m0]; split <;> omega
  have her : 0 ≤ e0 ∧ e0 ≤ 1 := by rw [e1]; split <;> omega
  have hsum : l + m + e0 = 1 := by rw [l0, m0, e1]; split <;> split <;> split <;> omega
  obtain ⟨l2, l3⟩ := hlr
  obtain ⟨m2, m3⟩ := hmr
  obtain ⟨e2, e3⟩ := her
  have g1 : (wrap64 (wrap64 (l + m) + e0) != 1) = false := by
    have : wrap64 (wrap64 (l + m) + e0) = 1 := by unfold wrap64; omega
    rw [this]; rfl
  have g2 : wrap64 (l + m) = l + m := by unfold wrap64; omega
  have g3 : (l + m + e0 != 1) = false := by rw [hsum]; rfl
  have g4 : wrap64 (l + m + e0) = l + m + e0 := by unfold wrap64; omega
  have g5 : decide (l < 0) = false := decide_eq_false (by omega)
  have g6 : decide (m < 0) = false := decide_eq_false (by omega)
  have g7 : decide (e0 < 0) = false := decide_eq_false (by omega)
  clear hl hm he l0 m0 e1 hs hsum
  obtain ⟨-, -, n1, n2⟩ := hrng
  have wr : wWrap r = r := wWrap_is (by omega) (by omega)
  obtain ⟨q, hq⟩ : ∃ q, q = opV 15 a b := ⟨_, rfl⟩
  obtain ⟨p, hp⟩ : ∃ p, p = opV 14 q b := ⟨_, rfl⟩
  have HQ := Lib.hid hq.symm
  have HP := Lib.hid hp.symm
  have HR : Hid (opV 16 a b = r) := Lib.hid (by rw [opV_mod (by rw [wb]; exact hz), wa, wb, ← hr]; exact wr)
  have HQO : Hid (opO 15 b = true) := Lib.hid (opO_15 (by rw [wb]; exact hz))
  have HRO : Hid (opO 16 b = true) := Lib.hid (opO_16 (by rw [wb]; exact hz))
  have HB : Hid (opV 12 p r = a) := Lib.hid (by
    rw [opV_add, hp, opV_wrapped, opV_mul, hq, opV_wrapped, opV_div (by rw [wb]; exact hz), wa, wb]
    exact hback)
  have hz0 : (b == 0) = false := by simpa using hz
  have v1 : wrap64 (-b) = -b := by unfold wrap64; omega
  have v2 : wrap64 (-r) = -r := by unfold wrap64; omega
  have hb1 : (b == -4611686018427387904) = true := by rw [hbc]; rfl
  have HBC := Lib.hid hbc
  have hr0 : (r == 0) = true := by rw [hrc]; rfl
  have HRC := Lib.hid hrc
  clear ha hb wa wb hz hr hback wr hq hp n1 n2 hbc hrc
  go_enter Tryd.func3, Tryd.ntmps3
  go_wp2_with fail
  refine (W0 _).mono ?_
  rintro e w' ⟨rfl, rfl⟩
  go_wp2_with fail
  refine (W1 _).mono ?_
  rintro e w' ⟨rfl, rfl⟩
  go_wp2_with fail
  refine (of_is (op := 12) (v := s) (o := true) HS.out (opO_12 _) _ T).mono ?_
  rintro e w1 ⟨rfl, b1⟩
  have T1 := T.below b1; clear T
  go_wp2_with fail
  refine (of_is (op := 13) (v := a) (o := true) HD.out (opO_13 _) _ T1).mono ?_
  rintro e w2 ⟨rfl, b2⟩
  have T2 := T1.below b2; clear T1
  replace b2 := below_chain b1 b2; clear b1
  go_wp2_with fail
  refine (of_is (op := 18) (v := l) (o := true) HL.out (opO_18 _) _ T2).mono ?_
  rintro e w3 ⟨rfl, b3⟩
  have T3 := T2.below b3; clear T2
  replace b3 := below_chain b2 b3; clear b2
  go_wp2_with fail
  refine (of_is (op := 18) (v := m) (o := true) HM.out (opO_18 _) _ T3).mono ?_
  rintro e w4 ⟨rfl, b4⟩
  have T4 := T3.below b4; clear T3
  replace b4 := below_chain b3 b4; clear b3
  go_wp2_with fail
  refine (of_is (op := 17) (v := e0) (o := true) HE.out (opO_17 _) _ T4).mono ?_
  rintro e w5 ⟨rfl, b5⟩
  have T5 := T4.below b5; clear T4
  replace b5 := below_chain b4 b5; clear b4
  go_wp2_with fail
  refine (of_is (op := 15) (v := q) (o := true) HQ.out HQO.out _ T5).mono ?_
  rintro e w6 ⟨rfl, b6⟩
  have T6 := T5.below b6; clear T5
  replace b6 := below_chain b5 b6; clear b5
  go_wp2_with fail
  refine (of_is (op := 16) (v := r) (o := true) HR.out HRO.out _ T6).mono ?_
  rintro e w7 ⟨rfl, b7⟩
  have T7 := T6.below b7; clear T6
  replace b7 := below_chain b6 b7; clear b6
  go_wp2_with fail
  refine (of_is (op := 14) (v := p) (o := true) HP.out (opO_14 _) _ T7).mono ?_
  rintro e w8 ⟨rfl, b8⟩
  have T8 := T7.below b8; clear T7
  replace b8 := below_chain b7 b8; clear b7
  go_wp2_with fail
  refine (of_is (op := 12) (v := a) (o := true) HB.out (opO_12 _) _ T8).mono ?_
  rintro e w9 ⟨rfl, b9⟩
  have T9 := T8.below b9; clear T8
  replace b9 := below_chain b8 b9; clear b8
  go_wp2_with fail
  refine (wakes_any _ T9).mono ?_
  rintro e w' ⟨rfl, hb⟩
  go_wp2_with fail
  go_ret
  exact ⟨rfl, below_chain b9 hb⟩

set_option maxHeartbeats 1000000 in
theorem w_0n (a0 a1 r : Int) (hr : r = (wWrap a0).tmod (wWrap a1)) (hrc : r = 0) (hbc : -4611686018427387904 < wWrap a1 ∧ wWrap a1 < 0) (w : World) (T : ArTab w) :
    Calls Tryd.prog 3 #[.int .i64 a0, .int .i64 a1] w fun e w' => e = .returned (.bool true) ∧ Below w.heap.size w w' := by
  have hz : ¬ wWrap a1 = 0 := by omega
  have hrng := tmod_range (wWrap a0) (wWrap a1) hz
  rw [← hr] at hrng
  have hback := back_is (wWrap a0) (wWrap a1) (wWrap_bounds a0).1 (wWrap_bounds a0).2
  rw [← hr] at hback
  obtain ⟨h0, h1⟩ := wWrap_bounds a0
  obtain ⟨k0, k1⟩ := wWrap_bounds a1
  obtain ⟨a, ha⟩ : ∃ a, a = wWrap a0 := ⟨_, rfl⟩
  obtain ⟨b, hb⟩ : ∃ b, b = wWrap a1 := ⟨_, rfl⟩
  have W0 : ∀ w, Calls Tryd.prog 7 #[.int .i64 a0] w fun e w' => e = .returned (.int .i64 a) ∧ w = w' := fun w => by rw [ha]; exact refWrap_any _ _
  have W1 : ∀ w, Calls Tryd.prog 7 #[.int .i64 a1] w fun e w' => e = .returned (.int .i64 b) ∧ w = w' := fun w => by rw [hb]; exact refWrap_any _ _
  rw [← ha] at hr hback h0 h1
  rw [← hb] at hr hz hback hbc hrng k0 k1
  have wa : wWrap a = a := wWrap_is h0 h1
  have wb : wWrap b = b := wWrap_is k0 k1
  obtain ⟨s, hs⟩ : ∃ s, s = opV 12 a b := ⟨_, rfl⟩
  have HS := Lib.hid hs.symm
  have HD : Hid (opV 13 s b = a) := Lib.hid (by
    rw [opV_sub, hs, opV_wrapped, opV_add, wa, wb]
    obtain ⟨k, hk⟩ := wWrap_add (a + b)
    rw [wWrap_mod (y := a) k (by omega)]
    exact wa)
  obtain ⟨l, hl⟩ : ∃ l, l = opV 18 a b := ⟨_, rfl⟩
  obtain ⟨m, hm⟩ : ∃ m, m = opV 18 b a := ⟨_, rfl⟩
  obtain ⟨e0, he⟩ : ∃ e, e = opV 17 a b := ⟨_, rfl⟩
  have l0 : l = if a < b then 1 else 0 := by rw [hl, opV_less, wa, wb]
  have m0 : m = if b < a then 1 else 0 := by rw [hm, opV_less, wa, wb]
  have e1 : e0 = if a = b then 1 else 0 := by rw [he, opV_eq, wa, wb]
  have HL := Lib.hid hl.symm
  have HM := Lib.hid hm.symm
  have HE := Lib.hid he.symm
  have hlr : 0 ≤ l ∧ l ≤ 1 := by rw [l0]; split <;> omega
  have hmr : 0 ≤ m ∧ m ≤ 1 := by rw [m0]; split <;> omega
  have her : 0 ≤ e0 ∧ e0 ≤ 1 := by rw [e1]; split <;> omega
  have hsum : l + m + e0 = 1 := by rw [l0, m0, e1]; split <;> split <;> split <;> omega
  obtain ⟨l2, l3⟩ := hlr
  obtain ⟨m2, m3⟩ := hmr
  obtain ⟨e2, e3⟩ := her
  have g1 : (wrap64 (wrap64 (l + m) + e0) != 1) = false := by
    have : wrap64 (wrap64 (l + m) + e0) = 1 := by unfold wrap64; omega
    rw [this]; rfl
  have g2 : wrap64 (l + m) = l + m := by unfold wrap64; omega
  have g3 : (l + m + e0 != 1) = false := by rw [hsum]; rfl
  have g4 : wrap64 (l + m + e0) = l + m + e0 := by unfold wrap64; omega
  have g5 : decide (l < 0) = false := decide_eq_false (by omega)
  have g6 : decide (m < 0) = false := decide_eq_false (by omega)
  have g7 : decide (e0 < 0) = false := decide_eq_false (by omega)
  clear hl hm he l0 m0 e1 hs hsum
  obtain ⟨-, -, n1, n2⟩ := hrng
  have wr : wWrap r = r := wWrap_is (by omega) (by omega)
  obtain ⟨q, hq⟩ : ∃ q, q = opV 15 a b := ⟨_, rfl⟩
  obtain ⟨p, hp⟩ : ∃ p, p = opV 14 q b := ⟨_, rfl⟩
  have HQ := Lib.hid hq.symm
  have HP := Lib.hid hp.symm
  have HR : Hid (opV 16 a b = r) := Lib.hid (by rw [opV_mod (by rw [wb]; exact hz), wa, wb, ← hr]; exact wr)
  have HQO : Hid (opO 15 b = true) := Lib.hid (opO_15 (by rw [wb]; exact hz))
  have HRO : Hid (opO 16 b = true) := Lib.hid (opO_16 (by rw [wb]; exact hz))
  have HB : Hid (opV 12 p r = a) := Lib.hid (by
    rw [opV_add, hp, opV_wrapped, opV_mul, hq, opV_wrapped, opV_div (by rw [wb]; exact hz), wa, wb]
    exact hback)
  have hz0 : (b == 0) = false := by simpa using hz
  have v1 : wrap64 (-b) = -b := by unfold wrap64; omega
  have v2 : wrap64 (-r) = -r := by unfold wrap64; omega
  have hb1 : (b == -4611686018427387904) = false := by
    rw [beq_eq_false_iff_ne]; omega
  have n3 : r < -b := by omega
  have n4 : -r < -b := by omega
  obtain ⟨bc1, bc2⟩ := hbc
  have hr0 : (r == 0) = true := by rw [hrc]; rfl
  have HRC := Lib.hid hrc
  clear ha hb wa wb hz hr hback wr hq hp n1 n2 hrc
  go_enter Tryd.func3, Tryd.ntmps3
  go_wp2_with fail
  refine (W0 _).mono ?_
  rintro e w' ⟨rfl, rfl⟩
  go_wp2_with fail
  refine (W1 _).mono ?_
  rintro e w' ⟨rfl, rfl⟩
  go_wp2_with fail
  refine (of_is (op := 12) (v := s) (o := true) HS.out (opO_12 _) _ T).mono ?_
  rintro e w1 ⟨rfl, b1⟩
  have T1 := T.below b1; clear T
  go_wp2_with fail
  refine (of_is (op := 13) (v := a) (o := true) HD.out (opO_13 _) _ T1).mono ?_
  rintro e w2 ⟨rfl, b2⟩
  have T2 := T1.below b2; clear T1
  replace b2 := below_chain b1 b2; clear b1
  go_wp2_with fail
  refine (of_is (op := 18) (v := l) (o := true) HL.out (opO_18 _) _ T2).mono ?_
  rintro e w3 ⟨rfl, b3⟩
  have T3 := T2.below b3; clear T2
  replace b3 := below_chain b2 b3; clear b2
  go_wp2_with fail
  refine (of_is (op := 18) (v := m) (o := true) HM.out (opO_18 _) _ T3).mono ?_
  rintro e w4 ⟨rfl, b4⟩
  have T4 := T3.below b4; clear T3
  replace b4 := below_chain b3 b4; clear b3
  go_wp2_with fail
  refine (of_is (op := 17) (v := e0) (o := true) HE.out (opO_17 _) _ T4).mono ?_
  rintro e w5 ⟨rfl, b5⟩
  have T5 := T4.below b5; clear T4
  replace b5 := below_chain b4 b5; clear b4
  go_wp2_with fail
  refine (of_is (op := 15) (v := q) (o := true) HQ.out HQO.out _ T5).mono ?_
  rintro e w6 ⟨rfl, b6⟩
  have T6 := T5.below b6; clear T5
  replace b6 := below_chain b5 b6; clear b5
  go_wp2_with fail
  refine (of_is (op := 16) (v := r) (o := true) HR.out HRO.out _ T6).mono ?_
  rintro e w7 ⟨rfl, b7⟩
  have T7 := T6.below b7; clear T6
  replace b7 := below_chain b6 b7; clear b6
  go_wp2_with fail
  refine (of_is (op := 14) (v := p) (o := true) HP.out (opO_14 _) _ T7).mono ?_
  rintro e w8 ⟨rfl, b8⟩
  have T8 := T7.below b8; clear T7
  replace b8 := below_chain b7 b8; clear b7
  go_wp2_with fail
  refine (of_is (op := 12) (v := a) (o := true) HB.out (opO_12 _) _ T8).mono ?_
  rintro e w9 ⟨rfl, b9⟩
  have T9 := T8.below b9; clear T8
  replace b9 := below_chain b8 b9; clear b8
  go_wp2_with fail
  refine (wakes_any _ T9).mono ?_
  rintro e w' ⟨rfl, hb⟩
  go_wp2_with fail
  go_ret
  exact ⟨rfl, below_chain b9 hb⟩

set_option maxHeartbeats 1000000 in
theorem w_0p (a0 a1 r : Int) (hr : r = (wWrap a0).tmod (wWrap a1)) (hrc : r = 0) (hbc : 0 < wWrap a1) (w : World) (T : ArTab w) :
    Calls Tryd.prog 3 #[.int .i64 a0, .int .i64 a1] w fun e w' => e = .returned (.bool true) ∧ Below w.heap.size w w' := by
  have hz : ¬ wWrap a1 = 0 := by omega
  have hrng := tmod_range (wWrap a0) (wWrap a1) hz
  rw [← hr] at hrng
  have hback := back_is (wWrap a0) (wWrap a1) (wWrap_bounds a0).1 (wWrap_bounds a0).2
  rw [← hr] at hback
  obtain ⟨h0, h1⟩ := wWrap_bounds a0
  obtain ⟨k0, k1⟩ := wWrap_bounds a1
  obtain ⟨a, ha⟩ : ∃ a, a = wWrap a0 := ⟨_, rfl⟩
  obtain ⟨b, hb⟩ : ∃ b, b = wWrap a1 := ⟨_, rfl⟩
  have W0 : ∀ w, Calls Tryd.prog 7 #[.int .i64 a0] w fun e w' => e = .returned (.int .i64 a) ∧ w = w' := fun w => by rw [ha]; exact refWrap_any _ _
  have W1 : ∀ w, Calls Tryd.prog 7 #[.int .i64 a1] w fun e w' => e = .returned (.int .i64 b) ∧ w = w' := fun w => by rw [hb]; exact refWrap_any _ _
  rw [← ha] at hr hback h0 h1
  rw [← hb] at hr hz hback hbc hrng k0 k1
  have wa : wWrap a = a := wWrap_is h0 h1
  have wb : wWrap b = b := wWrap_is k0 k1
  obtain ⟨s, hs⟩ : ∃ s, s = opV 12 a b := ⟨_, rfl⟩
  have HS := Lib.hid hs.symm
  have HD : Hid (opV 13 s b = a) := Lib.hid (by
    rw [opV_sub, hs, opV_wrapped, opV_add, wa, wb]
    obtain ⟨k, hk⟩ := wWrap_add (a + b)
    rw [wWrap_mod (y := a) k (by omega)]
    exact wa)
  obtain ⟨l, hl⟩ : ∃ l, l = opV 18 a b := ⟨_, rfl⟩
  obtain ⟨m, hm⟩ : ∃ m, m = opV 18 b a := ⟨_, rfl⟩
  obtain ⟨e0, he⟩ : ∃ e, e = opV 17 a b := ⟨_, rfl⟩
  have l0 : l = if a < b then 1 else 0 := by rw [hl, opV_less, wa, wb]
  have m0 : m = if b < a then 1 else 0 := by rw [hm, opV_less, wa, wb]
  have e1 : e0 = if a = b then 1 else 0 := by rw [he, opV_eq, wa, wb]
  have HL := Lib.hid hl.symm
  have HM := Lib.hid hm.symm
  have HE := Lib.hid he.symm
  have hlr : 0 ≤ l ∧ l ≤ 1 := by rw [l0]; split <;> omega
  have hmr : 0 ≤ m ∧ m ≤ 1 := by rw [m0]; split <;> omega
  have her : 0 ≤ e0 ∧ e0 ≤ 1 := by rw [e1]; split <;> omega
  have hsum : l + m + e0 = 1 := by rw [l0, m0, e1]; split <;> split <;> split <;> omega
  obtain ⟨l2, l3⟩ := hlr
  obtain ⟨m2, m3⟩ := hmr
  obtain ⟨e2, e3⟩ := her
  have g1 : (wrap64 (wrap64 (l + m) + e0) != 1) = false := by
    have : wrap64 (wrap64 (l + m) + e0) = 1 := by unfold wrap64; omega
    rw [this]; rfl
  have g2 : wrap64 (l + m) = l + m := by unfold wrap64; omega
  have g3 : (l + m + e0 != 1) = false := by rw [hsum]; rfl
  have g4 : wrap64 (l + m + e0) = l + m + e0 := by unfold wrap64; omega
  have g5 : decide (l < 0) = false := decide_eq_false (by omega)
  have g6 : decide (m < 0) = false := decide_eq_false (by omega)
  have g7 : decide (e0 < 0) = false := decide_eq_false (by omega)
  clear hl hm he l0 m0 e1 hs hsum
  obtain ⟨-, -, n1, n2⟩ := hrng
  have wr : wWrap r = r := wWrap_is (by omega) (by omega)
  obtain ⟨q, hq⟩ : ∃ q, q = opV 15 a b := ⟨_, rfl⟩
  obtain ⟨p, hp⟩ : ∃ p, p = opV 14 q b := ⟨_, rfl⟩
  have HQ := Lib.hid hq.symm
  have HP := Lib.hid hp.symm
  have HR : Hid (opV 16 a b = r) := Lib.hid (by rw [opV_mod (by rw [wb]; exact hz), wa, wb, ← hr]; exact wr)
  have HQO : Hid (opO 15 b = true) := Lib.hid (opO_15 (by rw [wb]; exact hz))
  have HRO : Hid (opO 16 b = true) := Lib.hid (opO_16 (by rw [wb]; exact hz))
  have HB : Hid (opV 12 p r = a) := Lib.hid (by
    rw [opV_add, hp, opV_wrapped, opV_mul, hq, opV_wrapped, opV_div (by rw [wb]; exact hz), wa, wb]
    exact hback)
  have hz0 : (b == 0) = false := by simpa using hz
  have v1 : wrap64 (-b) = -b := by unfold wrap64; omega
  have v2 : wrap64 (-r) = -r := by unfold wrap64; omega
  have hb1 : (b == -4611686018427387904) = false := by
    rw [beq_eq_false_iff_ne]; omega
  have n3 : r < b := by omega
  have n4 : -r < b := by omega
  have hr0 : (r == 0) = true := by rw [hrc]; rfl
  have HRC := Lib.hid hrc
  clear ha hb wa wb hz hr hback wr hq hp n1 n2 hrc
  go_enter Tryd.func3, Tryd.ntmps3
  go_wp2_with fail
  refine (W0 _).mono ?_
  rintro e w' ⟨rfl, rfl⟩
  go_wp2_with fail
  refine (W1 _).mono ?_
  rintro e w' ⟨rfl, rfl⟩
  go_wp2_with fail
  refine (of_is (op := 12) (v := s) (o := true) HS.out (opO_12 _) _ T).mono ?_
  rintro e w1 ⟨rfl, b1⟩
  have T1 := T.below b1; clear T
  go_wp2_with fail
  refine (of_is (op := 13) (v := a) (o := true) HD.out (opO_13 _) _ T1).mono ?_
  rintro e w2 ⟨rfl, b2⟩
  have T2 := T1.below b2; clear T1
  replace b2 := below_chain b1 b2; clear b1
  go_wp2_with fail
  refine (of_is (op := 18) (v := l) (o := true) HL.out (opO_18 _) _ T2).mono ?_
  rintro e w3 ⟨rfl, b3⟩
  have T3 := T2.below b3; clear T2
  replace b3 := below_chain b2 b3; clear b2
  go_wp2_with fail
  refine (of_is (op := 18) (v := m) (o := true) HM.out (opO_18 _) _ T3).mono ?_
  rintro e w4 ⟨rfl, b4⟩
  have T4 := T3.below b4; clear T3
  replace b4 := below_chain b3 b4; clear b3
  go_wp2_with fail
  refine (of_is (op := 17) (v := e0) (o := true) HE.out (opO_17 _) _ T4).mono ?_
  rintro e w5 ⟨rfl, b5⟩
  have T5 := T4.below b5; clear T4
  replace b5 := below_chain b4 b5; clear b4
  go_wp2_with fail
  refine (of_is (op := 15) (v := q) (o := true) HQ.out HQO.out _ T5).mono ?_
  rintro e w6 ⟨rfl, b6⟩
  have T6 := T5.below b6; clear T5
  replace b6 := below_chain b5 b6; clear b5
  go_wp2_with fail
  refine (of_is (op := 16) (v := r) (o := true) HR.out HRO.out _ T6).mono ?_
  rintro e w7 ⟨rfl, b7⟩
  have T7 := T6.below b7; clear T6
  replace b7 := below_chain b6 b7; clear b6
  go_wp2_with fail
  refine (of_is (op := 14) (v := p) (o := true) HP.out (opO_14 _) _ T7).mono ?_
  rintro e w8 ⟨rfl, b8⟩
  have T8 := T7.below b8; clear T7
  replace b8 := below_chain b7 b8; clear b7
  go_wp2_with fail
  refine (of_is (op := 12) (v := a) (o := true) HB.out (opO_12 _) _ T8).mono ?_
  rintro e w9 ⟨rfl, b9⟩
  have T9 := T8.below b9; clear T8
  replace b9 := below_chain b8 b9; clear b8
  go_wp2_with fail
  refine (wakes_any _ T9).mono ?_
  rintro e w' ⟨rfl, hb⟩
  go_wp2_with fail
  go_ret
  exact ⟨rfl, below_chain b9 hb⟩

set_option maxHeartbeats 1000000 in
theorem w_nm (a0 a1 r : Int) (hr : r = (wWrap a0).tmod (wWrap a1)) (hrc : r < 0 ∧ wWrap a0 < 0) (hbc : wWrap a1 = -4611686018427387904) (w : World) (T : ArTab w) :
    Calls Tryd.prog 3 #[.int .i64 a0, .int .i64 a1] w fun e w' => e = .returned (.bool true) ∧ Below w.heap.size w w' := by
  have hz : ¬ wWrap a1 = 0 := by omega
  have hrng := tmod_range (wWrap a0) (wWrap a1) hz
  rw [← hr] at hrng
  have hback := back_is (wWrap a0) (wWrap a1) (wWrap_bounds a0).1 (wWrap_bounds a0).2
  rw [← hr] at hback
  obtain ⟨h0, h1⟩ := wWrap_bounds a0
  obtain ⟨k0, k1⟩ := wWrap_bounds a1
  obtain ⟨a, ha⟩ : ∃ a, a = wWrap a0 := ⟨_, rfl⟩
  obtain ⟨b, hb⟩ : ∃ b, b = wWrap a1 := ⟨_, rfl⟩
  have W0 : ∀ w, Calls Tryd.prog 7 #[.int .i64 a0] w fun e w' => e = .returned (.int .i64 a) ∧ w = w' := fun w => by rw [ha]; exact refWrap_any _ _
  have W1 : ∀ w, Calls Tryd.prog 7 #[.int .i64 a1] w fun e w' => e = .returned (.int .i64 b) ∧ w = w' := fun w => by rw [hb]; exact refWrap_any _ _
  rw [← ha] at hr hback hrc h0 h1
  rw [← hb] at hr hz hback hbc hrng k0 k1
  have wa : wWrap a = a := wWrap_is h0 h1
  have wb : wWrap b = b := wWrap_is k0 k1
  obtain ⟨s, hs⟩ : ∃ s, s = opV 12 a b := ⟨_, rfl⟩
  have HS := Lib.hid hs.symm
  have HD : Hid (opV 13 s b = a) := Lib.hid (by
    rw [opV_sub, hs, opV_wrapped, opV_add, wa, wb]
    obtain ⟨k, hk⟩ := wWrap_add (a + b)
    rw [wWrap_mod (y := a) k (by omega)]
    exact wa)
  obtain ⟨l, hl⟩ : ∃ l, l = opV 18 a b := ⟨_, rfl⟩
  obtain ⟨m, hm⟩ : ∃ m, m = opV 18 b a := ⟨_, rfl⟩
  obtain ⟨e0, he⟩ : ∃ e, e = opV 17 a b := ⟨_, rfl⟩
  have l0 : l = if a < b then 1 else 0 := by rw [hl, opV_less, wa, wb]
  have m0 : m = if b < a then 1 else 0 := by rw [hm, opV_less, wa, wb]
  have e1 : e0 = if a = b then 1 else 0 := by rw [he, opV_eq, wa, wb]
  have HL := Lib.hid hl.symm
  have HM := Lib.hid hm.symm
  have HE := Lib.hid he.symm
  have hlr : 0 ≤ l ∧ l ≤ 1 := by rw [l0]; split <;> omega
  have hmr : 0 ≤ m ∧ m ≤ 1 := by rw [m0]; split <;> omega
  have her : 0 ≤ e0 ∧ e0 ≤ 1 := by rw [e1]; split <;> omega
  have hsum : l + m + e0 = 1 := by rw [l0, m0, e1]; split <;> split <;> split <;> omega
  obtain ⟨l2, l3⟩ := hlr
  obtain ⟨m2, m3⟩ := hmr
  obtain ⟨e2, e3⟩ := her
  have g1 : (wrap64 (wrap64 (l + m) + e0) != 1) = false := by
    have : wrap64 (wrap64 (l + m) + e0) = 1 := by unfold wrap64; omega
    rw [this]; rfl
  have g2 : wrap64 (l + m) = l + m := by unfold wrap64; omega
  have g3 : (l + m + e0 != 1) = false := by rw [hsum]; rfl
  have g4 : wrap64 (l + m + e0) = l + m + e0 := by unfold wrap64; omega
  have g5 : decide (l < 0) = false := decide_eq_false (by omega)
  have g6 : decide (m < 0) = false := decide_eq_false (by omega)
  have g7 : decide (e0 < 0) = false := decide_eq_false (by omega)
  clear hl hm he l0 m0 e1 hs hsum
  obtain ⟨-, -, n1, n2⟩ := hrng
  have wr : wWrap r = r := wWrap_is (by omega) (by omega)
  obtain ⟨q, hq⟩ : ∃ q, q = opV 15 a b := ⟨_, rfl⟩
  obtain ⟨p, hp⟩ : ∃ p, p = opV 14 q b := ⟨_, rfl⟩
  have HQ := Lib.hid hq.symm
  have HP := Lib.hid hp.symm
  have HR : Hid (opV 16 a b = r) := Lib.hid (by rw [opV_mod (by rw [wb]; exact hz), wa, wb, ← hr]; exact wr)
  have HQO : Hid (opO 15 b = true) := Lib.hid (opO_15 (by rw [wb]; exact hz))
  have HRO : Hid (opO 16 b = true) := Lib.hid (opO_16 (by rw [wb]; exact hz))
  have HB : Hid (opV 12 p r = a) := Lib.hid (by
    rw [opV_add, hp, opV_wrapped, opV_mul, hq, opV_wrapped, opV_div (by rw [wb]; exact hz), wa, wb]
    exact hback)
  have hz0 : (b == 0) = false := by simpa using hz
  have v1 : wrap64 (-b) = -b := by unfold wrap64; omega
  have v2 : wrap64 (-r) = -r := by unfold wrap64; omega
  have hb1 : (b == -4611686018427387904) = true := by rw [hbc]; rfl
  have HBC := Lib.hid hbc
  have hr0 : (r == 0) = false := by
    rw [beq_eq_false_iff_ne]; omega
  obtain ⟨rc1, rc2⟩ := hrc
  clear ha hb wa wb hz hr hback wr hq hp n1 n2 hbc
  go_enter Tryd.func3, Tryd.ntmps3
  go_wp2_with fail
  refine (W0 _).mono ?_
  rintro e w' ⟨rfl, rfl⟩
  go_wp2_with fail
  refine (W1 _).mono ?_
  rintro e w' ⟨rfl, rfl⟩
  go_wp2_with fail
  refine (of_is (op := 12) (v := s) (o := true) HS.out (opO_12 _) _ T).mono ?_
  rintro e w1 ⟨rfl, b1⟩
  have T1 := T.below b1; clear T
  go_wp2_with fail
  refine (of_is (op := 13) (v := a) (o := true) HD.out (opO_13 _) _ T1).mono ?_
  rintro e w2 ⟨rfl, b2⟩
  have T2 := T1.below b2; clear T1
  replace b2 := below_chain b1 b2; clear b1
  go_wp2_with fail
  refine (of_is (op := 18) (v := l) (o := true) HL.out (opO_18 _) _ T2).mono ?_
  rintro e w3 ⟨rfl, b3⟩
  have T3 := T2.below b3; clear T2
  replace b3 := below_chain b2 b3; clear b2
  go_wp2_with fail
  refine (of_is (op := 18) (v := m) (o := true) HM.out (opO_18 _) _ T3).mono ?_
  rintro e w4 ⟨rfl, b4⟩
  have T4 := T3.below b4; clear T3
  replace b4 := below_chain b3 b4; clear b3
  go_wp2_with fail
  refine (of_is (op := 17) (v := e0) (o := true) HE.out (opO_17 _) _ T4).mono ?_
  rintro e w5 ⟨rfl, b5⟩
  have T5 := T4.below b5; clear T4
  replace b5 := below_chain b4 b5; clear b4
  go_wp2_with fail
  refine (of_is (op := 15) (v := q) (o := true) HQ.out HQO.out _ T5).mono ?_
  rintro e w6 ⟨rfl, b6⟩
  have T6 := T5.below b6; clear T5
  replace b6 := below_chain b5 b6; clear b5
  go_wp2_with fail
  refine (of_is (op := 16) (v := r) (o := true) HR.out HRO.out _ T6).mono ?_
  rintro e w7 ⟨rfl, b7⟩
  have T7 := T6.below b7; clear T6
  replace b7 := below_chain b6 b7; clear b6
  go_wp2_with fail
  refine (of_is (op := 14) (v := p) (o := true) HP.out (opO_14 _) _ T7).mono ?_
  rintro e w8 ⟨rfl, b8⟩
  have T8 := T7.below b8; clear T7
  replace b8 := below_chain b7 b8; clear b7
  go_wp2_with fail
  refine (of_is (op := 12) (v := a) (o := true) HB.out (opO_12 _) _ T8).mono ?_
  rintro e w9 ⟨rfl, b9⟩
  have T9 := T8.below b9; clear T8
  replace b9 := below_chain b8 b9; clear b8
  go_wp2_with fail
  refine (wakes_any _ T9).mono ?_
  rintro e w' ⟨rfl, hb⟩
  go_wp2_with fail
  go_ret
  exact ⟨rfl, below_chain b9 hb⟩

set_option maxHeartbeats 1000000 in
theorem w_nn (a0 a1 r : Int) (hr : r = (wWrap a0).tmod (wWrap a1)) (hrc : r < 0 ∧ wWrap a0 < 0) (hbc : -4611686018427387904 < wWrap a1 ∧ wWrap a1 < 0) (w : World) (T : ArTab w) :
    Calls Tryd.prog 3 #[.int .i64 a0, .int .i64 a1] w fun e w' => e = .returned (.bool true) ∧ Below w.heap.size w w' := by
  have hz : ¬ wWrap a1 = 0 := by omega
  have hrng := tmod_range (wWrap a0) (wWrap a1) hz
  rw [← hr] at hrng
  have hback := back_is (wWrap a0) (wWrap a1) (wWrap_bounds a0).1 (wWrap_bounds a0).2
  rw [← hr] at hback
  obtain ⟨h0, h1⟩ := wWrap_bounds a0
  obtain ⟨k0, k1⟩ := wWrap_bounds a1
  obtain ⟨a, ha⟩ : ∃ a, a = wWrap a0 := ⟨_, rfl⟩
  obtain ⟨b, hb⟩ : ∃ b, b = wWrap a1 := ⟨_, rfl⟩
  have W0 : ∀ w, Calls Tryd.prog 7 #[.int .i64 a0] w fun e w' => e = .returned (.int .i64 a) ∧ w = w' := fun w => by rw [ha]; exact refWrap_any _ _
  have W1 : ∀ w, Calls Tryd.prog 7 #[.int .i64 a1] w fun e w' => e = .returned (.int .i64 b) ∧ w = w' := fun w => by rw [hb]; exact refWrap_any _ _
  rw [← ha] at hr hback hrc h0 h1
  rw [← hb] at hr hz hback hbc hrng k0 k1
  have wa : wWrap a = a := wWrap_is h0 h1
  have wb : wWrap b = b := wWrap_is k0 k1
  obtain ⟨s, hs⟩ : ∃ s, s = opV 12 a b := ⟨_, rfl⟩
  have HS := Lib.hid hs.symm
  have HD : Hid (opV 13 s b = a) := Lib.hid (by
    rw [opV_sub, hs, opV_wrapped, opV_add, wa, wb]
    obtain ⟨k, hk⟩ := wWrap_add (a + b)
    rw [wWrap_mod (y := a) k (by omega)]
    exact wa)
  obtain ⟨l, hl⟩ : ∃ l, l = opV 18 a b := ⟨_, rfl⟩
  obtain ⟨m, hm⟩ : ∃ m, m = opV 18 b a := ⟨_, rfl⟩
  obtain ⟨e0, he⟩ : ∃ e, e = opV 17 a b := ⟨_, rfl⟩
  have l0 : l = if a < b then 1 else 0 := by rw [hl, opV_less, wa, wb]
  have m0 : m = if b < a then 1 else 0 := by rw [hm, opV_less, wa, wb]
  have e1 : e0 = if a = b then 1 else 0 := by rw [he, opV_eq, wa, wb]
  have HL := Lib.hid hl.symm
  have HM := Lib.hid hm.symm
  have HE := Lib.hid he.symm
  have hlr : 0 ≤ l ∧ l ≤ 1 := by rw [l0]; split <;> omega
  have hmr : 0 ≤ m ∧ m ≤ 1 := by rw [m0]; split <;> omega
  have her : 0 ≤ e0 ∧ e0 ≤ 1 := by rw [e1]; split <;> omega
  have hsum : l + m + e0 = 1 := by rw [l0, m0, e1]; split <;> split <;> split <;> omega
  obtain ⟨l2, l3⟩ := hlr
  obtain ⟨m2, m3⟩ := hmr
  obtain ⟨e2, e3⟩ := her
  have g1 : (wrap64 (wrap64 (l + m) + e0) != 1) = false := by
    have : wrap64 (wrap64 (l + m) + e0) = 1 := by unfold wrap64; omega
    rw [this]; rfl
  have g2 : wrap64 (l + m) = l + m := by unfold wrap64; omega
  have g3 : (l + m + e0 != 1) = false := by rw [hsum]; rfl
  have g4 : wrap64 (l + m + e0) = l + m + e0 := by unfold wrap64; omega
  have g5 : decide (l < 0) = false := decide_eq_false (by omega)
  have g6 : decide (m < 0) = false := decide_eq_false (by omega)
  have g7 : decide (e0 < 0) = false := decide_eq_false (by omega)
  clear hl hm he l0 m0 e1 hs hsum
  obtain ⟨-, -, n1, n2⟩ := hrng
  have wr : wWrap r = r := wWrap_is (by omega) (by omega)
  obtain ⟨q, hq⟩ : ∃ q, q = opV 15 a b := ⟨_, rfl⟩
  obtain ⟨p, hp⟩ : ∃ p, p = opV 14 q b := ⟨_, rfl⟩
  have HQ := Lib.hid hq.symm
  have HP := Lib.hid hp.symm
  have HR : Hid (opV 16 a b = r) := Lib.hid (by rw [opV_mod (by rw [wb]; exact hz), wa, wb, ← hr]; exact wr)
  have HQO : Hid (opO 15 b = true) := Lib.hid (opO_15 (by rw [wb]; exact hz))
  have HRO : Hid (opO 16 b = true) := Lib.hid (opO_16 (by rw [wb]; exact hz))
  have HB : Hid (opV 12 p r = a) := Lib.hid (by
    rw [opV_add, hp, opV_wrapped, opV_mul, hq, opV_wrapped, opV_div (by rw [wb]; exact hz), wa, wb]
    exact hback)
  have hz0 : (b == 0) = false := by simpa using hz
  have v1 : wrap64 (-b) = -b := by unfold wrap64; omega
  have v2 : wrap64 (-r) = -r := by unfold wrap64; omega
  have hb1 : (b == -4611686018427387904) = false := by
    rw [beq_eq_false_iff_ne]; omega
  have n3 : r < -b := by omega
  have n4 : -r < -b := by omega
  obtain ⟨bc1, bc2⟩ := hbc
  have hr0 : (r == 0) = false := by
    rw [beq_eq_false_iff_ne]; omega
  obtain ⟨rc1, rc2⟩ := hrc
  clear ha hb wa wb hz hr hback wr hq hp n1 n2
  go_enter Tryd.func3, Tryd.ntmps3
  go_wp2_with fail
  refine (W0 _).mono ?_
  rintro e w' ⟨rfl, rfl⟩
  go_wp2_with fail
  refine (W1 _).mono ?_
  rintro e w' ⟨rfl, rfl⟩
  go_wp2_with fail
  refine (of_is (op := 12) (v := s) (o := true) HS.out (opO_12 _) _ T).mono ?_
  rintro e w1 ⟨rfl, b1⟩
  have T1 := T.below b1; clear T
  go_wp2_with fail
  refine (of_is (op := 13) (v := a) (o := true) HD.out (opO_13 _) _ T1).mono ?_
  rintro e w2 ⟨rfl, b2⟩
  have T2 := T1.below b2; clear T1
  replace b2 := below_chain b1 b2; clear b1
  go_wp2_with fail
  refine (of_is (op := 18) (v := l) (o := true) HL.out (opO_18 _) _ T2).mono ?_
  rintro e w3 ⟨rfl, b3⟩
  have T3 := T2.below b3; clear T2
  replace b3 := below_chain b2 b3; clear b2
  go_wp2_with fail
  refine (of_is (op := 18) (v := m) (o := true) HM.out (opO_18 _) _ T3).mono ?_
  rintro e w4 ⟨rfl, b4⟩
  have T4 := T3.below b4; clear T3
  replace b4 := below_chain b3 b4; clear b3
  go_wp2_with fail
  refine (of_is (op := 17) (v := e0) (o := true) HE.out (opO_17 _) _ T4).mono ?_
  rintro e w5 ⟨rfl, b5⟩
  have T5 := T4.below b5; clear T4
  replace b5 := below_chain b4 b5; clear b4
  go_wp2_with fail
  refine (of_is (op := 15) (v := q) (o := true) HQ.out HQO.out _ T5).mono ?_
  rintro e w6 ⟨rfl, b6⟩
  have T6 := T5.below b6; clear T5
  replace b6 := below_chain b5 b6; clear b5
  go_wp2_with fail
  refine (of_is (op := 16) (v := r) (o := true) HR.out HRO.out _ T6).mono ?_
  rintro e w7 ⟨rfl, b7⟩
  have T7 := T6.below b7; clear T6
  replace b7 := below_chain b6 b7; clear b6
  go_wp2_with fail
  refine (of_is (op := 14) (v := p) (o := true) HP.out (opO_14 _) _ T7).mono ?_
  rintro e w8 ⟨rfl, b8⟩
  have T8 := T7.below b8; clear T7
  replace b8 := below_chain b7 b8; clear b7
  go_wp2_with fail
  refine (of_is (op := 12) (v := a) (o := true) HB.out (opO_12 _) _ T8).mono ?_
  rintro e w9 ⟨rfl, b9⟩
  have T9 := T8.below b9; clear T8
  replace b9 := below_chain b8 b9; clear b8
  go_wp2_with fail
  refine (wakes_any _ T9).mono ?_
  rintro e w' ⟨rfl, hb⟩
  go_wp2_with fail
  go_ret
  exact ⟨rfl, below_chain b9 hb⟩

set_option maxHeartbeats 1000000 in
theorem w_np (a0 a1 r : Int) (hr : r = (wWrap a0).tmod (wWrap a1)) (hrc : r < 0 ∧ wWrap a0 < 0) (hbc : 0 < wWrap a1) (w : World) (T : ArTab w) :
    Calls Tryd.prog 3 #[.int .i64 a0, .int .i64 a1] w fun e w' => e = .returned (.bool true) ∧ Below w.heap.size w w' := by
  have hz : ¬ wWrap a1 = 0 := by omega
  have hrng := tmod_range (wWrap a0) (wWrap a1) hz
  rw [← hr] at hrng
  have hback := back_is (wWrap a0) (wWrap a1) (wWrap_bounds a0).1 (wWrap_bounds a0).2
  rw [← hr] at hback
  obtain ⟨h0, h1⟩ := wWrap_bounds a0
  obtain ⟨k0, k1⟩ := wWrap_bounds a1
  obtain ⟨a, ha⟩ : ∃ a, a = wWrap a0 := ⟨_, rfl⟩
  obtain ⟨b, hb⟩ : ∃ b, b = wWrap a1 := ⟨_, rfl⟩
  have W0 : ∀ w, Calls Tryd.prog 7 #[.int .i64 a0] w fun e w' => e = .returned (.int .i64 a) ∧ w = w' := fun w => by rw [ha]; exact refWrap_any _ _
  have W1 : ∀ w, Calls Tryd.prog 7 #[.int .i64 a1] w fun e w' => e = .returned (.int .i64 b) ∧ w = w' := fun w => by rw [hb]; exact refWrap_any _ _
  rw [← ha] at hr hback hrc h0 h1
  rw [← hb] at hr hz hback hbc hrng k0 k1
  have wa : wWrap a = a := wWrap_is h0 h1
  have wb : wWrap b = b := wWrap_is k0 k1
  obtain ⟨s, hs⟩ : ∃ s, s = opV 12 a b := ⟨_, rfl⟩
  have HS := Lib.hid hs.symm
  have HD : Hid (opV 13 s b = a) := Lib.hid (by
    rw [opV_sub, hs, opV_wrapped, opV_add, wa, wb]
    obtain ⟨k, hk⟩ := wWrap_add (a + b)
    rw [wWrap_mod (y := a) k (by omega)]
    exact wa)
  obtain ⟨l, hl⟩ : ∃ l, l = opV 18 a b := ⟨_, rfl⟩
  obtain ⟨m, hm⟩ : ∃ m, m = opV 18 b a := ⟨_, rfl⟩
  obtain ⟨e0, he⟩ : ∃ e, e = opV 17 a b := ⟨_, rfl⟩
  have l0 : l = if a < b then 1 else 0 := by rw [hl, opV_less, wa, wb]
  have m0 : m = if b < a then 1 else 0 := by rw [hm, opV_less, wa, wb]
  have e1 : e0 = if a = b then 1 else 0 := by rw [he, opV_eq, wa, wb]
  have HL := Lib.hid hl.symm
  have HM := Lib.hid hm.symm
  have HE := Lib.hid he.symm
  have hlr : 0 ≤ l ∧ l ≤ 1 := by rw [l0]; split <;> omega
  have hmr : 0 ≤ m ∧ m ≤ 1 := by rw [m0]; split <;> omega
  have her : 0 ≤ e0 ∧ e0 ≤ 1 := by rw [e1]; split <;> omega
  have hsum : l + m + e0 = 1 := by rw [l0, m0, e1]; split <;> split <;> split <;> omega
  obtain ⟨l2, l3⟩ := hlr
  obtain ⟨m2, m3⟩ := hmr
  obtain ⟨e2, e3⟩ := her
  have g1 : (wrap64 (wrap64 (l + m) + e0) != 1) = false := by
    have : wrap64 (wrap64 (l + m) + e0) = 1 := by unfold wrap64; omega
    rw [this]; rfl
  have g2 : wrap64 (l + m) = l + m := by unfold wrap64; omega
  have g3 : (l + m + e0 != 1) = false := by rw [hsum]; rfl
  have g4 : wrap64 (l + m + e0) = l + m + e0 := by unfold wrap64; omega
  have g5 : decide (l < 0) = false := decide_eq_false (by omega)
  have g6 : decide (m < 0) = false := decide_eq_false (by omega)
  have g7 : decide (e0 < 0) = false := decide_eq_false (by omega)
  clear hl hm he l0 m0 e1 hs hsum
  obtain ⟨-, -, n1, n2⟩ := hrng
  have wr : wWrap r = r := wWrap_is (by omega) (by omega)
  obtain ⟨q, hq⟩ : ∃ q, q = opV 15 a b := ⟨_, rfl⟩
  obtain ⟨p, hp⟩ : ∃ p, p = opV 14 q b := ⟨_, rfl⟩
  have HQ := Lib.hid hq.symm
  have HP := Lib.hid hp.symm
  have HR : Hid (opV 16 a b = r) := Lib.hid (by rw [opV_mod (by rw [wb]; exact hz), wa, wb, ← hr]; exact wr)
  have HQO : Hid (opO 15 b = true) := Lib.hid (opO_15 (by rw [wb]; exact hz))
  have HRO : Hid (opO 16 b = true) := Lib.hid (opO_16 (by rw [wb]; exact hz))
  have HB : Hid (opV 12 p r = a) := Lib.hid (by
    rw [opV_add, hp, opV_wrapped, opV_mul, hq, opV_wrapped, opV_div (by rw [wb]; exact hz), wa, wb]
    exact hback)
  have hz0 : (b == 0) = false := by simpa using hz
  have v1 : wrap64 (-b) = -b := by unfold wrap64; omega
  have v2 : wrap64 (-r) = -r := by unfold wrap64; omega
  have hb1 : (b == -4611686018427387904) = false := by
    rw [beq_eq_false_iff_ne]; omega
  have n3 : r < b := by omega
  have n4 : -r < b := by omega
  have hr0 : (r == 0) = false := by
    rw [beq_eq_false_iff_ne]; omega
  obtain ⟨rc1, rc2⟩ := hrc
  clear ha hb wa wb hz hr hback wr hq hp n1 n2
  go_enter Tryd.func3, Tryd.ntmps3
  go_wp2_with fail
  refine (W0 _).mono ?_
  rintro e w' ⟨rfl, rfl⟩
  go_wp2_with fail
  refine (W1 _).mono ?_
  rintro e w' ⟨rfl, rfl⟩
  go_wp2_with fail
  refine (of_is (op := 12) (v := s) (o := true) HS.out (opO_12 _) _ T).mono ?_
  rintro e w1 ⟨rfl, b1⟩
  have T1 := T.below b1; clear T
  go_wp2_with fail
  refine (of_is (op := 13) (v := a) (o := true) HD.out (opO_13 _) _ T1).mono ?_
  rintro e w2 ⟨rfl, b2⟩
  have T2 := T1.below b2; clear T1
  replace b2 := below_chain b1 b2; clear b1
  go_wp2_with fail
  refine (of_is (op := 18) (v := l) (o := true) HL.out (opO_18 _) _ T2).mono ?_
  rintro e w3 ⟨rfl, b3⟩
  have T3 := T2.below b3; clear T2
  replace b3 := below_chain b2 b3; clear b2
  go_wp2_with fail
  refine (of_is (op := 18) (v := m) (o := true) HM.out (opO_18 _) _ T3).mono ?_
  rintro e w4 ⟨rfl, b4⟩
  have T4 := T3.below b4; clear T3
  replace b4 := below_chain b3 b4; clear b3
  go_wp2_with fail
  refine (of_is (op := 17) (v := e0) (o := true) HE.out (opO_17 _) _ T4).mono ?_
  rintro e w5 ⟨rfl, b5⟩
  have T5 := T4.below b5; clear T4
  replace b5 := below_chain b4 b5; clear b4
  go_wp2_with fail
  refine (of_is (op := 15) (v := q) (o := true) HQ.out HQO.out _ T5).mono ?_
  rintro e w6 ⟨rfl, b6⟩
  have T6 := T5.below b6; clear T5
  replace b6 := below_chain b5 b6; clear b5
  go_wp2_with fail
  refine (of_is (op := 16) (v := r) (o := true) HR.out HRO.out _ T6).mono ?_
  rintro e w7 ⟨rfl, b7⟩
  have T7 := T6.below b7; clear T6
  replace b7 := below_chain b6 b7; clear b6
  go_wp2_with fail
  refine (of_is (op := 14) (v := p) (o := true) HP.out (opO_14 _) _ T7).mono ?_
  rintro e w8 ⟨rfl, b8⟩
  have T8 := T7.below b8; clear T7
  replace b8 := below_chain b7 b8; clear b7
  go_wp2_with fail
  refine (of_is (op := 12) (v := a) (o := true) HB.out (opO_12 _) _ T8).mono ?_
  rintro e w9 ⟨rfl, b9⟩
  have T9 := T8.below b9; clear T8
  replace b9 := below_chain b8 b9; clear b8
  go_wp2_with fail
  refine (wakes_any _ T9).mono ?_
  rintro e w' ⟨rfl, hb⟩
  go_wp2_with fail
  go_ret
  exact ⟨rfl, below_chain b9 hb⟩

set_option maxHeartbeats 1000000 in
theorem w_pm (a0 a1 r : Int) (hr : r = (wWrap a0).tmod (wWrap a1)) (hrc : 0 < r ∧ 0 < wWrap a0) (hbc : wWrap a1 = -4611686018427387904) (w : World) (T : ArTab w) :
    Calls Tryd.prog 3 #[.int .i64 a0, .int .i64 a1] w fun e w' => e = .returned (.bool true) ∧ Below w.heap.size w w' := by
  have hz : ¬ wWrap a1 = 0 := by omega
  have hrng := tmod_range (wWrap a0) (wWrap a1) hz
  rw [← hr] at hrng
  have hback := back_is (wWrap a0) (wWrap a1) (wWrap_bounds a0).1 (wWrap_bounds a0).2
  rw [← hr] at hback
  obtain ⟨h0, h1⟩ := wWrap_bounds a0
  obtain ⟨k0, k1⟩ := wWrap_bounds a1
  obtain ⟨a, ha⟩ : ∃ a, a = wWrap a0 := ⟨_, rfl⟩
  obtain ⟨b, hb⟩ : ∃ b, b = wWrap a1 := ⟨_, rfl⟩
  have W0 : ∀ w, Calls Tryd.prog 7 #[.int .i64 a0] w fun e w' => e = .returned (.int .i64 a) ∧ w = w' := fun w => by rw [ha]; exact refWrap_any _ _
  have W1 : ∀ w, Calls Tryd.prog 7 #[.int .i64 a1] w fun e w' => e = .returned (.int .i64 b) ∧ w = w' := fun w => by rw [hb]; exact refWrap_any _ _
  rw [← ha] at hr hback hrc h0 h1
  rw [← hb] at hr hz hback hbc hrng k0 k1
  have wa : wWrap a = a := wWrap_is h0 h1
  have wb : wWrap b = b := wWrap_is k0 k1
  obtain ⟨s, hs⟩ : ∃ s, s = opV 12 a b := ⟨_, rfl⟩
  have HS := Lib.hid hs.symm
  have HD : Hid (opV 13 s b = a) := Lib.hid (by
    rw [opV_sub, hs, opV_wrapped, opV_add, wa, wb]
    obtain ⟨k, hk⟩ := wWrap_add (a + b)
    rw [wWrap_mod (y := a) k (by omega)]
    exact wa)
  obtain ⟨l, hl⟩ : ∃ l, l = opV 18 a b := ⟨_, rfl⟩
  obtain ⟨m, hm⟩ : ∃ m, m = opV 18 b a := ⟨_, rfl⟩
  obtain ⟨e0, he⟩ : ∃ e, e = opV 17 a b := ⟨_, rfl⟩
  have l0 : l = if a < b then 1 else 0 := by rw [hl, opV_less, wa, wb]
  have m0 : m = if b < a then 1 else 0 := by rw [hm, opV_less, wa, wb]
  have e1 : e0 = if a = b then 1 else 0 := by rw [he, opV_eq, wa, wb]
  have HL := Lib.hid hl.symm
  have HM := Lib.hid hm.symm
  have HE := Lib.hid he.symm
  have hlr : 0 ≤ l ∧ l ≤ 1 := by rw [l0]; split <;> omega
  have hmr : 0 ≤ m ∧ m ≤ 1 := by rw [m0]; split <;> omega
  have her : 0 ≤ e0 ∧ e0 ≤ 1 := by rw [e1]; split <;> omega
  have hsum : l + m + e0 = 1 := by rw [l0, m0, e1]; split <;> split <;> split <;> omega
  obtain ⟨l2, l3⟩ := hlr
  obtain ⟨m2, m3⟩ := hmr
  obtain ⟨e2, e3⟩ := her
  have g1 : (wrap64 (wrap64 (l + m) + e0) != 1) = false := by
    have : wrap64 (wrap64 (l + m) + e0) = 1 := by unfold wrap64; omega
    rw [this]; rfl
  have g2 : wrap64 (l + m) = l + m := by unfold wrap64; omega
  have g3 : (l + m + e0 != 1) = false := by rw [hsum]; rfl
  have g4 : wrap64 (l + m + e0) = l + m + e0 := by unfold wrap64; omega
  have g5 : decide (l < 0) = false := decide_eq_false (by omega)
  have g6 : decide (m < 0) = false := decide_eq_false (by omega)
  have g7 : decide (e0 < 0) = false := decide_eq_false (by omega)
  clear hl hm he l0 m0 e1 hs hsum
  obtain ⟨-, -, n1, n2⟩ := hrng
  have wr : wWrap r = r := wWrap_is (by omega) (by omega)
  obtain ⟨q, hq⟩ : ∃ q, q = opV 15 a b := ⟨_, rfl⟩
  obtain ⟨p, hp⟩ : ∃ p, p = opV 14 q b := ⟨_, rfl⟩
  have HQ := Lib.hid hq.symm
  have HP := Lib.hid hp.symm
  have HR : Hid (opV 16 a b = r) := Lib.hid (by rw [opV_mod (by rw [wb]; exact hz), wa, wb, ← hr]; exact wr)
  have HQO : Hid (opO 15 b = true) := Lib.hid (opO_15 (by rw [wb]; exact hz))
  have HRO : Hid (opO 16 b = true) := Lib.hid (opO_16 (by rw [wb]; exact hz))
  have HB : Hid (opV 12 p r = a) := Lib.hid (by
    rw [opV_add, hp, opV_wrapped, opV_mul, hq, opV_wrapped, opV_div (by rw [wb]; exact hz), wa, wb]
    exact hback)
  have hz0 : (b == 0) = false := by simpa using hz
  have v1 : wrap64 (-b) = -b := by unfold wrap64; omega
  have v2 : wrap64 (-r) = -r := by unfold wrap64; omega
  have hb1 : (b == -4611686018427387904) = true := by rw [hbc]; rfl
  have HBC := Lib.hid hbc
  have hr0 : (r == 0) = false := by
    rw [beq_eq_false_iff_ne]; omega
  obtain ⟨rc1, rc2⟩ := hrc
  clear ha hb wa wb hz hr hback wr hq hp n1 n2 hbc
  go_enter Tryd.func3, Tryd.ntmps3
  go_wp2_with fail
  refine (W0 _).mono ?_
  rintro e w' ⟨rfl, rfl⟩
  go_wp2_with fail
  refine (W1 _).mono ?_
  rintro e w' ⟨rfl, rfl⟩
  go_wp2_with fail
  refine (of_is (op := 12) (v := s) (o := true) HS.out (opO_12 _) _ T).mono ?_
  rintro e w1 ⟨rfl, b1⟩
  have T1 := T.below b1; clear T
  go_wp2_with fail
  refine (of_is (op := 13) (v := a) (o := true) HD.out (opO_13 _) _ T1).mono ?_
  rintro e w2 ⟨rfl, b2⟩
  have T2 := T1.below b2; clear T1
  replace b2 := below_chain b1 b2; clear b1
  go_wp2_with fail
  refine (of_is (op := 18) (v := l) (o := true) HL.out (opO_18 _) _ T2).mono ?_
  rintro e w3 ⟨rfl, b3⟩
  have T3 := T2.below b3; clear T2
  replace b3 := below_chain b2 b3; clear b2
  go_wp2_with fail
  refine (of_is (op := 18) (v := m) (o := true) HM.out (opO_18 _) _ T3).mono ?_
  rintro e w4 ⟨rfl, b4⟩
  have T4 := T3.below b4; clear T3
  replace b4 := below_chain b3 b4; clear b3
  go_wp2_with fail
  refine (of_is (op := 17) (v := e0) (o := true) HE.out (opO_17 _) _ T4).mono ?_
  rintro e w5 ⟨rfl, b5⟩
  have T5 := T4.below b5; clear T4
  replace b5 := below_chain b4 b5; clear b4
  go_wp2_with fail
  refine (of_is (op := 15) (v := q) (o := true) HQ.out HQO.out _ T5).mono ?_
  rintro e w6 ⟨rfl, b6⟩
  have T6 := T5.below b6; clear T5
  replace b6 := below_chain b5 b6; clear b5
  go_wp2_with fail
  refine (of_is (op := 16) (v := r) (o := true) HR.out HRO.out _ T6).mono ?_
  rintro e w7 ⟨rfl, b7⟩
  have T7 := T6.below b7; clear T6
  replace b7 := below_chain b6 b7; clear b6
  go_wp2_with fail
  refine (of_is (op := 14) (v := p) (o := true) HP.out (opO_14 _) _ T7).mono ?_
  rintro e w8 ⟨rfl, b8⟩
  have T8 := T7.below b8; clear T7
  replace b8 := below_chain b7 b8; clear b7
  go_wp2_with fail
  refine (of_is (op := 12) (v := a) (o := true) HB.out (opO_12 _) _ T8).mono ?_
  rintro e w9 ⟨rfl, b9⟩
  have T9 := T8.below b9; clear T8
  replace b9 := below_chain b8 b9; clear b8
  go_wp2_with fail
  refine (wakes_any _ T9).mono ?_
  rintro e w' ⟨rfl, hb⟩
  go_wp2_with fail
  go_ret
  exact ⟨rfl, below_chain b9 hb⟩

set_option maxHeartbeats 1000000 in
theorem w_pn (a0 a1 r : Int) (hr : r = (wWrap a0).tmod (wWrap a1)) (hrc : 0 < r ∧ 0 < wWrap a0) (hbc : -4611686018427387904 < wWrap a1 ∧ wWrap a1 < 0) (w : World) (T : ArTab w) :
    Calls Tryd.prog 3 #[.int .i64 a0, .int .i64 a1] w fun e w' => e = .returned (.bool true) ∧ Below w.heap.size w w' := by
  have hz : ¬ wWrap a1 = 0 := by omega
  have hrng := tmod_range (wWrap a0) (wWrap a1) hz
  rw [← hr] at hrng
  have hback := back_is (wWrap a0) (wWrap a1) (wWrap_bounds a0).1 (wWrap_bounds a0).2
  rw [← hr] at hback
  obtain ⟨h0, h1⟩ := wWrap_bounds a0
  obtain ⟨k0, k1⟩ := wWrap_bounds a1
  obtain ⟨a, ha⟩ : ∃ a, a = wWrap a0 := ⟨_, rfl⟩
  obtain ⟨b, hb⟩ : ∃ b, b = wWrap a1 := ⟨_, rfl⟩
  have W0 : ∀ w, Calls Tryd.prog 7 #[.int .i64 a0] w fun e w' => e = .returned (.int .i64 a) ∧ w = w' := fun w => by rw [ha]; exact refWrap_any _ _
  have W1 : ∀ w, Calls Tryd.prog 7 #[.int .i64 a1] w fun e w' => e = .returned (.int .i64 b) ∧ w = w' := fun w => by rw [hb]; exact refWrap_any _ _
  rw [← ha] at hr hback hrc h0 h1
  rw [← hb] at hr hz hback hbc hrng k0 k1
  have wa : wWrap a = a := wWrap_is h0 h1
  have wb : wWrap b = b := wWrap_is k0 k1
  obtain ⟨s, hs⟩ : ∃ s, s = opV 12 a b := ⟨_, rfl⟩
  have HS := Lib.hid hs.symm
  have HD : Hid (opV 13 s b = a) := Lib.hid (by
    rw [opV_sub, hs, opV_wrapped, opV_add, wa, wb]
    obtain ⟨k, hk⟩ := wWrap_add (a + b)
    rw [wWrap_mod (y := a) k (by omega)]
    exact wa)
  obtain ⟨l, hl⟩ : ∃ l, l = opV 18 a b := ⟨_, rfl⟩
  obtain ⟨m, hm⟩ : ∃ m, m = opV 18 b a := ⟨_, rfl⟩
  obtain ⟨e0, he⟩ : ∃ e, e = opV 17 a b := ⟨_, rfl⟩
  have l0 : l = if a < b then 1 else 0 := by rw [hl, opV_less, wa, wb]
  have m0 : m = if b < a then 1 else 0 := by rw [hm, opV_less, wa, wb]
  have e1 : e0 = if a = b then 1 else 0 := by rw [he, opV_eq, wa, wb]
  have HL := Lib.hid hl.symm
  have HM := Lib.hid hm.symm
  have HE := Lib.hid he.symm
  have hlr : 0 ≤ l ∧ l ≤ 1 := by rw [l0]; split <;> omega
  have hmr : 0 ≤ m ∧ m ≤ 1 := by rw [m0]; split <;> omega
  have her : 0 ≤ e0 ∧ e0 ≤ 1 := by rw [e1]; split <;> omega
  have hsum : l + m + e0 = 1 := by rw [l0, m0, e1]; split <;> split <;> split <;> omega
  obtain ⟨l2, l3⟩ := hlr
  obtain ⟨m2, m3⟩ := hmr
  obtain ⟨e2, e3⟩ := her
  have g1 : (wrap64 (wrap64 (l + m) + e0) != 1) = false := by
    have : wrap64 (wrap64 (l + m) + e0) = 1 := by unfold wrap64; omega
    rw [this]; rfl
  have g2 : wrap64 (l + m) = l + m := by unfold wrap64; omega
  have g3 : (l + m + e0 != 1) = false := by rw [hsum]; rfl
  have g4 : wrap64 (l + m + e0) = l + m + e0 := by unfold wrap64; omega
  have g5 : decide (l < 0) = false := decide_eq_false (by omega)
  have g6 : decide (m < 0) = false := decide_eq_false (by omega)
  have g7 : decide (e0 < 0) = false := decide_eq_false (by omega)
  clear hl hm he l0 m0 e1 hs hsum
  obtain ⟨-, -, n1, n2⟩ := hrng
  have wr : wWrap r = r := wWrap_is (by omega) (by omega)
  obtain ⟨q, hq⟩ : ∃ q, q = opV 15 a b := ⟨_, rfl⟩
  obtain ⟨p, hp⟩ : ∃ p, p = opV 14 q b := ⟨_, rfl⟩
  have HQ := Lib.hid hq.symm
  have HP := Lib.hid hp.symm
  have HR : Hid (opV 16 a b = r) := Lib.hid (by rw [opV_mod (by rw [wb]; exact hz), wa, wb, ← hr]; exact wr)
  have HQO : Hid (opO 15 b = true) := Lib.hid (opO_15 (by rw [wb]; exact hz))
  have HRO : Hid (opO 16 b = true) := Lib.hid (opO_16 (by rw [wb]; exact hz))
  have HB : Hid (opV 12 p r = a) := Lib.hid (by
    rw [opV_add, hp, opV_wrapped, opV_mul, hq, opV_wrapped, opV_div (by rw [wb]; exact hz), wa, wb]
    exact hback)
  have hz0 : (b == 0) = false := by simpa using hz
  have v1 : wrap64 (-b) = -b := by unfold wrap64; omega
  have v2 : wrap64 (-r) = -r := by unfold wrap64; omega
  have hb1 : (b == -4611686018427387904) = false := by
    rw [beq_eq_false_iff_ne]; omega
  have n3 : r < -b := by omega
  have n4 : -r < -b := by omega
  obtain ⟨bc1, bc2⟩ := hbc
  have hr0 : (r == 0) = false := by
    rw [beq_eq_false_iff_ne]; omega
  obtain ⟨rc1, rc2⟩ := hrc
  clear ha hb wa wb hz hr hback wr hq hp n1 n2
  go_enter Tryd.func3, Tryd.ntmps3
  go_wp2_with fail
  refine (W0 _).mono ?_
  rintro e w' ⟨rfl, rfl⟩
  go_wp2_with fail
  refine (W1 _).mono ?_
  rintro e w' ⟨rfl, rfl⟩
  go_wp2_with fail
  refine (of_is (op := 12) (v := s) (o := true) HS.out (opO_12 _) _ T).mono ?_
  rintro e w1 ⟨rfl, b1⟩
  have T1 := T.below b1; clear T
  go_wp2_with fail
  refine (of_is (op := 13) (v := a) (o := true) HD.out (opO_13 _) _ T1).mono ?_
  rintro e w2 ⟨rfl, b2⟩
  have T2 := T1.below b2; clear T1
  replace b2 := below_chain b1 b2; clear b1
  go_wp2_with fail
  refine (of_is (op := 18) (v := l) (o := true) HL.out (opO_18 _) _ T2).mono ?_
  rintro e w3 ⟨rfl, b3⟩
  have T3 := T2.below b3; clear T2
  replace b3 := below_chain b2 b3; clear b2
  go_wp2_with fail
  refine (of_is (op := 18) (v := m) (o := true) HM.out (opO_18 _) _ T3).mono ?_
  rintro e w4 ⟨rfl, b4⟩
  have T4 := T3.below b4; clear T3
  replace b4 := below_chain b3 b4; clear b3
  go_wp2_with fail
  refine (of_is (op := 17) (v := e0) (o := true) HE.out (opO_17 _) _ T4).mono ?_
  rintro e w5 ⟨rfl, b5⟩
  have T5 := T4.below b5; clear T4
  replace b5 := below_chain b4 b5; clear b4
  go_wp2_with fail
  refine (of_is (op := 15) (v := q) (o := true) HQ.out HQO.out _ T5).mono ?_
  rintro e w6 ⟨rfl, b6⟩
  have T6 := T5.below b6; clear T5
  replace b6 := below_chain b5 b6; clear b5
  go_wp2_with fail
  refine (of_is (op := 16) (v := r) (o := true) HR.out HRO.out _ T6).mono ?_
  rintro e w7 ⟨rfl, b7⟩
  have T7 := T6.below b7; clear T6
  replace b7 := below_chain b6 b7; clear b6
  go_wp2_with fail
  refine (of_is (op := 14) (v := p) (o := true) HP.out (opO_14 _) _ T7).mono ?_
  rintro e w8 ⟨rfl, b8⟩
  have T8 := T7.below b8; clear T7
  replace b8 := below_chain b7 b8; clear b7
  go_wp2_with fail
  refine (of_is (op := 12) (v := a) (o := true) HB.out (opO_12 _) _ T8).mono ?_
  rintro e w9 ⟨rfl, b9⟩
  have T9 := T8.below b9; clear T8
  replace b9 := below_chain b8 b9; clear b8
  go_wp2_with fail
  refine (wakes_any _ T9).mono ?_
  rintro e w' ⟨rfl, hb⟩
  go_wp2_with fail
  go_ret
  exact ⟨rfl, below_chain b9 hb⟩

set_option maxHeartbeats 1000000 in
theorem w_pp (a0 a1 r : Int) (hr : r = (wWrap a0).tmod (wWrap a1)) (hrc : 0 < r ∧ 0 < wWrap a0) (hbc : 0 < wWrap a1) (w : World) (T : ArTab w) :
    Calls Tryd.prog 3 #[.int .i64 a0, .int .i64 a1] w fun e w' => e = .returned (.bool true) ∧ Below w.heap.size w w' := by
  have hz : ¬ wWrap a1 = 0 := by omega
  have hrng := tmod_range (wWrap a0) (wWrap a1) hz
  rw [← hr] at hrng
  have hback := back_is (wWrap a0) (wWrap a1) (wWrap_bounds a0).1 (wWrap_bounds a0).2
  rw [← hr] at hback
  obtain ⟨h0, h1⟩ := wWrap_bounds a0
  obtain ⟨k0, k1⟩ := wWrap_bounds a1
  obtain ⟨a, ha⟩ : ∃ a, a = wWrap a0 := ⟨_, rfl⟩
  obtain ⟨b, hb⟩ : ∃ b, b = wWrap a1 := ⟨_, rfl⟩
  have W0 : ∀ w, Calls Tryd.prog 7 #[.int .i64 a0] w fun e w' => e = .returned (.int .i64 a) ∧ w = w' := fun w => by rw [ha]; exact refWrap_any _ _
  have W1 : ∀ w, Calls Tryd.prog 7 #[.int .i64 a1] w fun e w' => e = .returned (.int .i64 b) ∧ w = w' := fun w => by rw [hb]; exact refWrap_any _ _
  rw [← ha] at hr hback hrc h0 h1
  rw [← hb] at hr hz hback hbc hrng k0 k1
  have wa : wWrap a = a := wWrap_is h0 h1
  have wb : wWrap b = b := wWrap_is k0 k1
  obtain ⟨s, hs⟩ : ∃ s, s = opV 12 a b := ⟨_, rfl⟩
  have HS := Lib.hid hs.symm
  have HD : Hid (opV 13 s b = a) := Lib.hid (by
    rw [opV_sub, hs, opV_wrapped, opV_add, wa, wb]
    obtain ⟨k, hk⟩ := wWrap_add (a + b)
    rw [wWrap_mod (y := a) k (by omega)]
    exact wa)
  obtain ⟨l, hl⟩ : ∃ l, l = opV 18 a b := ⟨_, rfl⟩
  obtain ⟨m, hm⟩ : ∃ m, m = opV 18 b a := ⟨_, rfl⟩
  obtain ⟨e0, he⟩ : ∃ e, e = opV 17 a b := ⟨_, rfl⟩
  have l0 : l = if a < b then 1 else 0 := by rw [hl, opV_less, wa, wb]
  have m0 : m = if b < a then 1 else 0 := by rw [hm, opV_less, wa, wb]
  have e1 : e0 = if a = b then 1 else 0 := by rw [he, opV_eq, wa, wb]
  have HL := Lib.hid hl.symm
  have HM := Lib.hid hm.symm
  have HE := Lib.hid he.symm
  have hlr : 0 ≤ l ∧ l ≤ 1 := by rw [l0]; split <;> omega
  have hmr : 0 ≤ m ∧ m ≤ 1 := by rw [m0]; split <;> omega
  have her : 0 ≤ e0 ∧ e0 ≤ 1 := by rw [e1]; split <;> omega
  have hsum : l + m + e0 = 1 := by rw [l0, m0, e1]; split <;> split <;> split <;> omega
  obtain ⟨l2, l3⟩ := hlr
  obtain ⟨m2, m3⟩ := hmr
  obtain ⟨e2, e3⟩ := her
  have g1 : (wrap64 (wrap64 (l + m) + e0) != 1) = false := by
    have : wrap64 (wrap64 (l + m) + e0) = 1 := by unfold wrap64; omega
    rw [this]; rfl
  have g2 : wrap64 (l + m) = l + m := by unfold wrap64; omega
  have g3 : (l + m + e0 != 1) = false := by rw [hsum]; rfl
  have g4 : wrap64 (l + m + e0) = l + m + e0 := by unfold wrap64; omega
  have g5 : decide (l < 0) = false := decide_eq_false (by omega)
  have g6 : decide (m < 0) = false := decide_eq_false (by omega)
  have g7 : decide (e0 < 0) = false := decide_eq_false (by omega)
  clear hl hm he l0 m0 e1 hs hsum
  obtain ⟨-, -, n1, n2⟩ := hrng
  have wr : wWrap r = r := wWrap_is (by omega) (by omega)
  obtain ⟨q, hq⟩ : ∃ q, q = opV 15 a b := ⟨_, rfl⟩
  obtain ⟨p, hp⟩ : ∃ p, p = opV 14 q b := ⟨_, rfl⟩
  have HQ := Lib.hid hq.symm
  have HP := Lib.hid hp.symm
  have HR : Hid (opV 16 a b = r) := Lib.hid (by rw [opV_mod (by rw [wb]; exact hz), wa, wb, ← hr]; exact wr)
  have HQO : Hid (opO 15 b = true) := Lib.hid (opO_15 (by rw [wb]; exact hz))
  have HRO : Hid (opO 16 b = true) := Lib.hid (opO_16 (by rw [wb]; exact hz))
  have HB : Hid (opV 12 p r = a) := Lib.hid (by
    rw [opV_add, hp, opV_wrapped, opV_mul, hq, opV_wrapped, opV_div (by rw [wb]; exact hz), wa, wb]
    exact hback)
  have hz0 : (b == 0) = false := by simpa using hz
  have v1 : wrap64 (-b) = -b := by unfold wrap64; omega
  have v2 : wrap64 (-r) = -r := by unfold wrap64; omega
  have hb1 : (b == -4611686018427387904) = false := by
    rw [beq_eq_false_iff_ne]; omega
  have n3 : r < b := by omega
  have n4 : -r < b := by omega
  have hr0 : (r == 0) = false := by
    rw [beq_eq_false_iff_ne]; omega
  obtain ⟨rc1, rc2⟩ := hrc
  clear ha hb wa wb hz hr hback wr hq hp n1 n2
  go_enter Tryd.func3, Tryd.ntmps3
  go_wp2_with fail
  refine (W0 _).mono ?_
  rintro e w' ⟨rfl, rfl⟩
  go_wp2_with fail
  refine (W1 _).mono ?_
  rintro e w' ⟨rfl, rfl⟩
  go_wp2_with fail
  refine (of_is (op := 12) (v := s) (o := true) HS.out (opO_12 _) _ T).mono ?_
  rintro e w1 ⟨rfl, b1⟩
  have T1 := T.below b1; clear T
  go_wp2_with fail
  refine (of_is (op := 13) (v := a) (o := true) HD.out (opO_13 _) _ T1).mono ?_
  rintro e w2 ⟨rfl, b2⟩
  have T2 := T1.below b2; clear T1
  replace b2 := below_chain b1 b2; clear b1
  go_wp2_with fail
  refine (of_is (op := 18) (v := l) (o := true) HL.out (opO_18 _) _ T2).mono ?_
  rintro e w3 ⟨rfl, b3⟩
  have T3 := T2.below b3; clear T2
  replace b3 := below_chain b2 b3; clear b2
  go_wp2_with fail
  refine (of_is (op := 18) (v := m) (o := true) HM.out (opO_18 _) _ T3).mono ?_
  rintro e w4 ⟨rfl, b4⟩
  have T4 := T3.below b4; clear T3
  replace b4 := below_chain b3 b4; clear b3
  go_wp2_with fail
  refine (of_is (op := 17) (v := e0) (o := true) HE.out (opO_17 _) _ T4).mono ?_
  rintro e w5 ⟨rfl, b5⟩
  have T5 := T4.below b5; clear T4
  replace b5 := below_chain b4 b5; clear b4
  go_wp2_with fail
  refine (of_is (op := 15) (v := q) (o := true) HQ.out HQO.out _ T5).mono ?_
  rintro e w6 ⟨rfl, b6⟩
  have T6 := T5.below b6; clear T5
  replace b6 := below_chain b5 b6; clear b5
  go_wp2_with fail
  refine (of_is (op := 16) (v := r) (o := true) HR.out HRO.out _ T6).mono ?_
  rintro e w7 ⟨rfl, b7⟩
  have T7 := T6.below b7; clear T6
  replace b7 := below_chain b6 b7; clear b6
  go_wp2_with fail
  refine (of_is (op := 14) (v := p) (o := true) HP.out (opO_14 _) _ T7).mono ?_
  rintro e w8 ⟨rfl, b8⟩
  have T8 := T7.below b8; clear T7
  replace b8 := below_chain b7 b8; clear b7
  go_wp2_with fail
  refine (of_is (op := 12) (v := a) (o := true) HB.out (opO_12 _) _ T8).mono ?_
  rintro e w9 ⟨rfl, b9⟩
  have T9 := T8.below b9; clear T8
  replace b9 := below_chain b8 b9; clear b8
  go_wp2_with fail
  refine (wakes_any _ T9).mono ?_
  rintro e w' ⟨rfl, hb⟩
  go_wp2_with fail
  go_ret
  exact ⟨rfl, below_chain b9 hb⟩

theorem walk (a0 a1 : Int) (w0 : (Lit.int .i64 a0).wf = true) (w1 : (Lit.int .i64 a1).wf = true) (w : World) (T : ArTab w) :
    Calls Tryd.prog 3 #[.int .i64 a0, .int .i64 a1] w fun e w' => e = .returned (.bool true) ∧ Below w.heap.size w w' := by
  by_cases hz : wWrap a1 = 0
  · exact w_zero a0 a1 hz w T
  · obtain ⟨m1, m2, m3, m4⟩ := tmod_range (wWrap a0) (wWrap a1) hz
    obtain ⟨k0, k1⟩ := wWrap_bounds a1
    obtain ⟨r, hr⟩ : ∃ r, r = (wWrap a0).tmod (wWrap a1) := ⟨_, rfl⟩
    rw [← hr] at m1 m2
    by_cases r0 : r = 0
    · by_cases b0 : wWrap a1 = -4611686018427387904
      · exact w_0m a0 a1 r hr r0 b0 w T
      · by_cases b1 : wWrap a1 < 0
        · exact w_0n a0 a1 r hr r0 ⟨by omega, b1⟩ w T
        · exact w_0p a0 a1 r hr r0 (by omega) w T
    · by_cases r1 : r < 0
      · have ra : r < 0 ∧ wWrap a0 < 0 := ⟨r1, by omega⟩
        by_cases b0 : wWrap a1 = -4611686018427387904
        · exact w_nm a0 a1 r hr ra b0 w T
        · by_cases b1 : wWrap a1 < 0
          · exact w_nn a0 a1 r hr ra ⟨by omega, b1⟩ w T
          · exact w_np a0 a1 r hr ra (by omega) w T
      · have ra : 0 < r ∧ 0 < wWrap a0 := ⟨by omega, by omega⟩
        by_cases b0 : wWrap a1 = -4611686018427387904
        · exact w_pm a0 a1 r hr ra b0 w T
        · by_cases b1 : wWrap a1 < 0
          · exact w_pn a0 a1 r hr ra ⟨by omega, b1⟩ w T
          · exact w_pp a0 a1 r hr ra (by omega) w T

theorem contract (H : Type) (enc : TypeId × Value → H) (W : World) (base : Nat) (args : Array Value) (ds gs : List (DataW H)) (before : List MemPlace)
    (hval0 : ∀ (j : Nat) t v, Tryd.f3.params[j]? = some t → args[j]? = some v → Value.okWide Tryd.prog W .any base t v)
    (hW : DataW.Whole enc Tryd.prog Tryd.f3.params.toList Rows.arithLawsSpec.vars false W args.toList ds gs before)
    (T : ArTab W) :
    Calls Tryd.prog 3 args W fun e W' => ∃ v, e = .returned v ∧ Rows.arithLawsSpec.post enc Tryd.prog Tryd.f3 false true false false W args v W' := by
  have hW' := hW
  have hval := hval0
  obtain ⟨p, q, hA0, hV, rfl, hfz, hnd⟩ := hW
  have hA : DataW.TrodAll enc Tryd.prog W 0 (fun _ => true) true Tryd.f3.params.toList args.toList ds p := hA0
  rw [Tryd.params3] at hA hval
  obtain ⟨rfl, rfl⟩ := trodVars_none hV
  obtain ⟨v0, vs0, d0, ds0, p0, q0, hargs, rfl, rfl, h0, r0⟩ := trodAll_cons hA
  obtain ⟨v1, vs1, d1, ds1, p1, q1, rfl, rfl, rfl, h1, r1⟩ := trodAll_cons r0
  obtain ⟨rfl, rfl, rfl⟩ := trodAll_nil r1
  obtain rfl : args = #[v0, v1] := by cases args; simp_all
  obtain ⟨a0, rfl, rfl, rfl, w0⟩ := open_int Tryd.underlying2 (hval 0 2 v0 rfl rfl) h0
  obtain ⟨a1, rfl, rfl, rfl, w1⟩ := open_int Tryd.underlying2 (hval 1 2 v1 rfl rfl) h1
  refine (walk a0 a1 w0 w1 W T).mono fun e W' ⟨he, hb⟩ => ?_
  subst he
  exact ⟨_, rfl, law_post laidOut (by kernel_rfl) rfl (by kernel_rfl) Tryd.underlying4 hW' rfl rfl rfl hb⟩

theorem door_met (os : Os) (args : Array Value) : laidMetH Tryd.prog Rows.arithLawsRow.laid ((World.doorLaid Tryd.prog 67 os).forCall (fun _ _ => 0) ⟨#[], args, []⟩).memory :=
  laidMetH_of_parts3 (fuel := 8) (laidMet_of_run' 8 (by kernel_rfl) (by kernel_rfl)) (by kernel_rfl) (by kernel_rfl)

set_option maxRecDepth 100000 in
theorem lifted (os : Os) (started : os.Started) (H : Type) (enc : TypeId × Value → H) :
    ReturnsInHanded {} Tryd.checked os 3 .any (fun w args => (Rows.arithLawsSpec.pre enc Tryd.prog Tryd.f3 [] false w args ∧ laidMetH Tryd.prog Rows.arithLawsRow.laid w) ∧ sizedMet enc Tryd.prog Tryd.f3 (OpenSpec.ofChange Rows.arithLawsSpec) false w args)
      (Rows.arithLawsSpec.post enc Tryd.prog Tryd.f3 false true false false) := by
  refine returnsInHanded_of_change_and (C := Tryd.checked) (X := fun w _ => laidMetH Tryd.prog Rows.arithLawsRow.laid w) (fun _ _ _ hh h => h.of_heap hh) own started (by kernel_rfl) Tryd.func3
    (ChangeSpec.witness_shaped (enc := enc) (C := Tryd.checked) (os := os) (X := fun w _ => laidMetH Tryd.prog Rows.arithLawsRow.laid w) false (World.doorLaid Tryd.prog 67 os) #[.int .i64 0, .int .i64 0] 8 rfl (World.shaped_of_RefB (by kernel_rfl) (by kernel_rfl)) (by kernel_rfl) (by kernel_rfl) (by kernel_rfl) (door_met os _)) ?_
  intro W base args ds gs before hval hW _ hz hL _
  exact contract H enc W base args ds gs before hval hW (artab_of hL)

theorem over : Rows.arithLawsRow.holds Tryd.pinned (OpenSpec.ofChange Rows.arithLawsSpec) :=
  OpenClaim.holds_of_wide 3 Tryd.f3 rfl rfl rfl rfl rfl rfl rfl ⟨rfl, rfl, rfl, rfl, rfl⟩ rfl rfl rfl rfl rfl (by kernel_rfl) Tryd.func3 (by kernel_rfl)
    (of_decide_eq_true (by kernel_rfl)) (by unfold Func.isWrapper; first | (rw [if_pos (by decide +kernel)]; kernel_rfl) | (rw [if_neg (by decide +kernel)]; exact ⟨rfl, rfl⟩))
    (fun os started H enc _ => lifted os started H enc)

theorem proved : Rows.ArithLawsCardSaid :=
  Claim7.holds_tied_plain_at .later [] [.data, .data, .data, .sentinel, .sentinel, .data] true _ true
    over (fun _ h => by cases h) (by kernel_rfl) (fun _ h => by cases h) arithLaws_row_tie rfl ⟨rfl, rfl⟩ (by kernel_rfl) rfl
    (fun f fn hf hfn => by
      obtain rfl : f = 3 := Option.some.inj ((show Tryd.prog.funcNamed "stockpot/stockpotlaw09.ArithLaws" = some 3 by kernel_rfl).symm.trans hf) |>.symm
      obtain rfl : fn = Tryd.f3 := (Option.some.inj (Tryd.func3.symm.trans hfn)).symm
      exact ⟨by kernel_rfl, fun j t ht => by
        have hall : (Tryd.f3.params.toList.all fun u => !Tryd.prog.wantsStandIn u) = true := by kernel_rfl
        exact (show Tryd.prog.wantsStandIn t = false by simpa using List.all_eq_true.1 hall t (by simpa using Array.mem_of_getElem? ht))⟩)
    (by kernel_rfl)
#print axioms proved
end Go.Proofs.YtidhhlfpcknboaaDoor.arithLaws
