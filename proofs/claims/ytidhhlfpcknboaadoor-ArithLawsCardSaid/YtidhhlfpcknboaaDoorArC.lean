/-
  The contracts of package arith's Of and of what it calls.
  Conditions: the table of kinds reads as the program's text lays it.
-/
import Derived.Test.YtidhhlfpcknboaaDoorAr
namespace Go.Proofs.YtidhhlfpcknboaaDoor
open Go.ChangeShapes Go.WideShapes Go.ChangeAt Go.RowKit
set_option linter.unusedVariables false
set_option linter.unusedSimpArgs false
set_option maxRecDepth 100000

theorem kindOf_any (op : Int) (w : World) (T : ArTab w) :
    Calls Tryd.prog 12 #[.int .i64 op] w fun e w' => e = .returned (.int .i64 (kdI op)) ∧ w = w' := by
  by_cases h0 : op < 0
  · have e : 0 = kdI op := by unfold kdI; rw [if_neg (by omega)]
    have E := Lib.hid e; clear e T
    go_enter Tryd.func12, Tryd.ntmps12
    go_wp2
    go_ret
    exact ⟨ret_int E.out, rfl⟩
  · by_cases h1 : op < 38
    · obtain ⟨k, rfl⟩ := Int.eq_ofNat_of_zero_le (show 0 ≤ op by omega)
      have hk : k < 38 := by omega
      have l := T.kd k hk
      have e : kdL.getD k 0 = kdI k := by unfold kdI; rw [if_pos (by omega)]; rfl
      rw [e] at l
      clear e T h0
      generalize kdI k = v at l ⊢
      go_enter Tryd.func12, Tryd.ntmps12
      go_wp2
      go_ret
      exact ⟨rfl, rfl⟩
    · have e : 0 = kdI op := by unfold kdI; rw [if_neg (by omega)]
      have E := Lib.hid e; clear e T
      have h2 : 38 ≤ op := by omega
      go_enter Tryd.func12, Tryd.ntmps12
      go_wp2
      go_ret
      exact ⟨ret_int E.out, rfl⟩

theorem divided_zero (k x : Int) (w : World) :
    Calls Tryd.prog 17 #[.int .i64 k, .int .i64 x, .int .i64 0] w fun e w' => e = .returned (.tuple #[.int .i64 0, .bool false]) ∧ w = w' := by
  go_enter Tryd.func17, Tryd.ntmps17
  go_wp2
  go_ret2
  exact ⟨rfl, rfl⟩
theorem divided_rem (x y : Int) (hy : ¬ y = 0) (w : World) :
    Calls Tryd.prog 17 #[.int .i64 5, .int .i64 x, .int .i64 y] w fun e w' => e = .returned (.tuple #[.int .i64 (x.tmod y), .bool true]) ∧ w = w' := by
  go_enter Tryd.func17, Tryd.ntmps17
  go_wp2
  go_ret2
  exact ⟨rfl, rfl⟩
theorem divided_quo (x y : Int) (hy : ¬ y = 0) (w : World) :
    Calls Tryd.prog 17 #[.int .i64 4, .int .i64 x, .int .i64 y] w fun e w' => e = .returned (.tuple #[.int .i64 (wrap64 (x.tdiv y)), .bool true]) ∧ w = w' := by
  go_enter Tryd.func17, Tryd.ntmps17
  go_wp2
  go_ret2
  exact ⟨rfl, rfl⟩
theorem bit_any (b : Bool) (w : World) :
    Calls Tryd.prog 18 #[.bool b] w fun e w' => e = .returned (.int .i64 (if b then 1 else 0)) ∧ w = w' := by
  cases b
  all_goals
    go_enter Tryd.func18, Tryd.ntmps18
    go_wp2
    go_ret
    exact ⟨rfl, rfl⟩

end Go.Proofs.YtidhhlfpcknboaaDoor
