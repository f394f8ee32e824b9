/-
  The contract of package arith's Of: what any op makes of any two numbers.
  Conditions: the table of kinds reads as the program's text lays it.
-/
import Derived.Test.YtidhhlfpcknboaaDoorArC
namespace Go.Proofs.YtidhhlfpcknboaaDoor
open Go.ChangeShapes Go.WideShapes Go.ChangeAt Go.RowKit
set_option linter.unusedVariables false
set_option linter.unusedSimpArgs false
set_option maxRecDepth 100000

def OfRet (v : Int) (o : Bool) (e : Ending) : Prop := e = .returned (.tuple #[.int .i64 v, .bool o])

theorem kof_plain (k x y : Int) (hk : k = 0 ∨ k = 1 ∨ k = 2 ∨ k = 3) (w : World) :
    Calls Tryd.prog 13 #[.int .i64 k, .int .i64 x, .int .i64 y] w fun e w' => OfRet (kdV k x y) (kdO k y) e ∧ w = w' := by
  rcases hk with rfl | rfl | rfl | rfl
  all_goals
    go_enter Tryd.func13, Tryd.ntmps13
    go_wp2
    go_ret2
    exact ⟨rfl, rfl⟩

theorem kof_div (k x y : Int) (hk : k = 4 ∨ k = 5) (w : World) :
    Calls Tryd.prog 13 #[.int .i64 k, .int .i64 x, .int .i64 y] w fun e w' => OfRet (kdV k x y) (kdO k y) e ∧ w = w' := by
  by_cases hy : y = 0
  · subst hy
    rcases hk with rfl | rfl
    all_goals
      go_enter Tryd.func13, Tryd.ntmps13
      go_wp2_with (go_at_call 17; refine (divided_zero _ _ _).mono ?_; rintro e w' ⟨rfl, rfl⟩)
      go_ret2
      exact ⟨rfl, rfl⟩
  · rcases hk with rfl | rfl
    · have e1 : kdV 4 x y = wrap64 (x.tdiv y) := by simp [kdV, hy]
      have e2 : kdO 4 y = true := by simp [kdO, hy]
      rw [e1, e2]
      clear e1 e2
      go_enter Tryd.func13, Tryd.ntmps13
      go_wp2_with (go_at_call 17; refine (divided_quo _ _ hy _).mono ?_; rintro e w' ⟨rfl, rfl⟩)
      go_ret2
      exact ⟨rfl, rfl⟩
    · have e1 : kdV 5 x y = x.tmod y := by simp [kdV, hy]
      have e2 : kdO 5 y = true := by simp [kdO, hy]
      rw [e1, e2]
      clear e1 e2
      go_enter Tryd.func13, Tryd.ntmps13
      go_wp2_with (go_at_call 17; refine (divided_rem _ _ hy _).mono ?_; rintro e w' ⟨rfl, rfl⟩)
      go_ret2
      exact ⟨rfl, rfl⟩

theorem kof_cmp (k x y : Int) (hk : k = 6 ∨ k = 7) (w : World) :
    Calls Tryd.prog 13 #[.int .i64 k, .int .i64 x, .int .i64 y] w fun e w' => OfRet (kdV k x y) (kdO k y) e ∧ w = w' := by
  rcases hk with rfl | rfl
  · have e1 : kdV 6 x y = (if (x == y) = true then 1 else 0) := by simp [kdV]
    have e2 : kdO 6 y = true := by simp [kdO]
    rw [e1, e2]
    clear e1 e2
    obtain ⟨b, hb⟩ : ∃ b, b = (x == y) := ⟨_, rfl⟩
    rw [← hb]
    have hb' := hb.symm
    clear hb
    go_enter Tryd.func13, Tryd.ntmps13
    go_wp2_with (go_at_call 18; refine (bit_any _ _).mono ?_; rintro e w' ⟨rfl, rfl⟩)
    all_goals
      go_ret2
      exact ⟨rfl, rfl⟩
  · have e1 : kdV 7 x y = (if decide (x < y) = true then 1 else 0) := by simp [kdV]
    have e2 : kdO 7 y = true := by simp [kdO]
    rw [e1, e2]
    clear e1 e2
    obtain ⟨b, hb⟩ : ∃ b, b = decide (x < y) := ⟨_, rfl⟩
    rw [← hb]
    have hb' := hb.symm
    clear hb
    go_enter Tryd.func13, Tryd.ntmps13
    go_wp2_with (go_at_call 18; refine (bit_any _ _).mono ?_; rintro e w' ⟨rfl, rfl⟩)
    all_goals
      go_ret2
      exact ⟨rfl, rfl⟩

theorem kof_any (k x y : Int) (hk : 0 ≤ k ∧ k ≤ 7) (w : World) :
    Calls Tryd.prog 13 #[.int .i64 k, .int .i64 x, .int .i64 y] w fun e w' => OfRet (kdV k x y) (kdO k y) e ∧ w = w' := by
  by_cases h1 : k ≤ 3
  · exact kof_plain k x y (by omega) w
  · by_cases h2 : k ≤ 5
    · exact kof_div k x y (by omega) w
    · exact kof_cmp k x y (by omega) w

theorem of_any (op a b : Int) (w : World) (T : ArTab w) :
    Calls Tryd.prog 8 #[.int .i64 op, .int .i64 a, .int .i64 b] w fun e w' => OfRet (opV op a b) (opO op b) e ∧ Below w.heap.size w w' := by
  have hk := kdI_le op
  have E1 := Lib.hid (show wWrap (kdV (kdI op) (wWrap a) (wWrap b)) = opV op a b from rfl)
  have E2 := Lib.hid (show kdO (kdI op) (wWrap b) = opO op b from rfl)
  go_enter Tryd.func8, Tryd.ntmps8
  go_wp2_with fail
  refine (kindOf_any op _ T).mono ?_
  rintro e w' ⟨rfl, rfl⟩
  clear T
  go_wp2_with fail
  refine (wrap_any _ _).mono ?_
  rintro e w1 ⟨rfl, b1⟩
  go_wp2_with fail
  refine (wrap_any _ _).mono ?_
  rintro e w2 ⟨rfl, b2⟩
  go_wp2_with fail
  generalize kdI op = k at hk E1 E2 ⊢
  generalize wWrap a = x at E1 E2 ⊢
  generalize wWrap b = y at E1 E2 ⊢
  refine (kof_any k x y hk _).mono ?_
  rintro e w' ⟨rfl, rfl⟩
  go_wp2_with fail
  refine (wrap_any _ _).mono ?_
  rintro e w3 ⟨rfl, b3⟩
  go_wp2_with fail
  go_ret2
  refine ⟨?_, below_chain (below_chain b1 b2) b3⟩
  unfold OfRet
  rw [E1.out, E2.out]
  rfl

end Go.Proofs.YtidhhlfpcknboaaDoor
