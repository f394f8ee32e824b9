/-
  For all numbers v and u and every place at of 32 bits the law WordBack returns true, and its arguments read as they did. Conditions: none.
-/
import Derived.Test.YtnpbiipaepmboaaWord
namespace Go.Proofs.Ytnpbiipaepmboaa.wordBack
open Go.ChangeShapes Go.WideShapes Go.ChangeAt Go.RowKit
set_option linter.unusedVariables false

theorem own : ownKnob Try.prog.godebug = none := by kernel_rfl
theorem laidOut : laidOutB Try.prog = true := by kernel_rfl

theorem walk (a0 a1 a2 : Int) (w0 : (Lit.int .i64 a0).wf = true) (w1 : (Lit.int .i64 a1).wf = true) (w2 : (Lit.int .u32 a2).wf = true) (w : World) :
    Calls Try.prog 4 #[.int .i64 a0, .int .i64 a1, .int .u32 a2] w fun e w' => e = .returned (.bool true) ∧ Below w.heap.size w w' := by
  obtain ⟨q1, q2⟩ := bounds_u32 w2
  have p1 : 0 ≤ wInt a0 := by unfold wInt; omega
  have p2 : wInt a0 ≤ 18446744073709551615 := by unfold wInt; omega
  have e0 : wInt a0 % 2 = 1 := by unfold wInt; omega
  have e1 : wVal (wInt a0) = wWrap a0 := by unfold wVal; rw [if_pos e0]; unfold wInt wNum wWrap wrap64; omega
  have e2 : wIs (wInt a0) = true := by unfold wIs; exact decide_eq_true e0
  have e3 : wInt (wWrap a0) = wInt a0 := by unfold wInt wWrap wrap64; omega
  have e4 : wPlace a2 = 2 * a2 := by unfold wPlace; rw [if_neg (by omega)]
  have e5 : wOk (2 * a2) = true := by simp [wOk]; omega
  have e6 : wAt (2 * a2) = a2 := by unfold wAt; rw [if_pos (by omega)]; omega
  have e7 : wIs (2 * a2) = false := by simp [wIs]
  have e8 : wOk (wInt a0) = false := by unfold wOk; exact decide_eq_false (by omega)
  have e9 : wAt (wInt a0) = 0 := by unfold wAt; rw [if_neg (by omega)]
  clear e0
  have e10 : wWrap (wWrap a0) = wWrap a0 := by unfold wWrap wrap64; omega
  have p3 : 0 ≤ 2 * a2 := by omega
  have p4 : 2 * a2 ≤ 18446744073709551615 := by omega
  have both : wInt a0 = wInt a1 ↔ wWrap a0 = wWrap a1 := by unfold wInt wWrap wrap64; omega
  by_cases h : wWrap a0 = wWrap a1
  · have f1 : (wInt a0 == wInt a1) = true := by simpa using both.mpr h
    have f2 : (wWrap a0 == wWrap a1) = true := by simpa using h
    clear both h
    go_enter Try.func4, Try.ntmps4
    go_wp2_with (first
      | (go_at_call 9; refine (int_any _ _).mono ?_; rintro e w' ⟨rfl, rfl⟩)
      | (go_at_call 11; refine (wrap_any _ _).mono ?_; rintro e w' ⟨rfl, hb⟩)
      | (go_at_call 13; refine (is_any _ (by assumption) (by assumption) _).mono ?_; rintro e w' ⟨rfl, rfl⟩)
      | (go_at_call 15; refine (value_any _ (by assumption) (by assumption) _).mono ?_; rintro e w' ⟨rfl, hb⟩)
      | (go_at_call 17; refine (place_any _ (by omega) (by omega) _).mono ?_; rintro e w' ⟨rfl, rfl⟩)
      | (go_at_call 7; refine (at_any _ (by assumption) (by assumption) _).mono ?_; rintro e w' ⟨rfl, rfl⟩)
      | (go_at_call 19; refine (wakes_any _).mono ?_; rintro e w' ⟨rfl, hb⟩))
    all_goals
      go_ret
      exact ⟨rfl, by repeat (first | (with_reducible assumption) | refine below_chain ?_ (by with_reducible assumption))⟩
  · have f1 : (wInt a0 == wInt a1) = false := by simpa using fun x => h (both.mp x)
    have f2 : (wWrap a0 == wWrap a1) = false := by simpa using h
    clear both h
    go_enter Try.func4, Try.ntmps4
    go_wp2_with (first
      | (go_at_call 9; refine (int_any _ _).mono ?_; rintro e w' ⟨rfl, rfl⟩)
      | (go_at_call 11; refine (wrap_any _ _).mono ?_; rintro e w' ⟨rfl, hb⟩)
      | (go_at_call 13; refine (is_any _ (by assumption) (by assumption) _).mono ?_; rintro e w' ⟨rfl, rfl⟩)
      | (go_at_call 15; refine (value_any _ (by assumption) (by assumption) _).mono ?_; rintro e w' ⟨rfl, hb⟩)
      | (go_at_call 17; refine (place_any _ (by omega) (by omega) _).mono ?_; rintro e w' ⟨rfl, rfl⟩)
      | (go_at_call 7; refine (at_any _ (by assumption) (by assumption) _).mono ?_; rintro e w' ⟨rfl, rfl⟩)
      | (go_at_call 19; refine (wakes_any _).mono ?_; rintro e w' ⟨rfl, hb⟩))
    all_goals
      go_ret
      exact ⟨rfl, by repeat (first | (with_reducible assumption) | refine below_chain ?_ (by with_reducible assumption))⟩

theorem contract (H : Type) (enc : TypeId × Value → H) (W : World) (base : Nat) (args : Array Value) (ds gs : List (DataW H)) (before : List MemPlace)
    (hval0 : ∀ (j : Nat) t v, Try.f4.params[j]? = some t → args[j]? = some v → Value.okWide Try.prog W .any base t v)
    (hW : DataW.Whole enc Try.prog Try.f4.params.toList Rows.wordBackSpec.vars false W args.toList ds gs before) :
    Calls Try.prog 4 args W fun e W' => ∃ v, e = .returned v ∧ Rows.wordBackSpec.post enc Try.prog Try.f4 false true false false W args v W' := by
  have hW' := hW
  have hval := hval0
  obtain ⟨p, q, hA0, hV, rfl, hfz, hnd⟩ := hW
  have hA : DataW.TrodAll enc Try.prog W 0 (fun _ => true) true Try.f4.params.toList args.toList ds p := hA0
  rw [Try.params4] at hA hval
  obtain ⟨rfl, rfl⟩ := trodVars_none hV
  obtain ⟨v0, vs0, d0, ds0, p0, q0, hargs, rfl, rfl, h0, r0⟩ := trodAll_cons hA
  obtain ⟨v1, vs1, d1, ds1, p1, q1, rfl, rfl, rfl, h1, r1⟩ := trodAll_cons r0
  obtain ⟨v2, vs2, d2, ds2, p2, q2, rfl, rfl, rfl, h2, r2⟩ := trodAll_cons r1
  obtain ⟨rfl, rfl, rfl⟩ := trodAll_nil r2
  obtain rfl : args = #[v0, v1, v2] := by cases args; simp_all
  obtain ⟨a0, rfl, rfl, rfl, w0⟩ := open_int Try.underlying2 (hval 0 2 v0 rfl rfl) h0
  obtain ⟨a1, rfl, rfl, rfl, w1⟩ := open_int Try.underlying2 (hval 1 2 v1 rfl rfl) h1
  obtain ⟨a2, rfl, rfl, rfl, w2⟩ := open_int Try.underlying33 (hval 2 33 v2 rfl rfl) h2
  refine (walk a0 a1 a2 w0 w1 w2 W).mono fun e W' ⟨he, hb⟩ => ?_
  subst he
  exact ⟨_, rfl, law_post laidOut (by kernel_rfl) rfl (by kernel_rfl) Try.underlying4 hW' rfl rfl rfl hb⟩

set_option maxRecDepth 100000 in
theorem lifted (os : Os) (started : os.Started) (H : Type) (enc : TypeId × Value → H) :
    ReturnsInHanded {} Try.checked os 4 .any (Rows.wordBackSpec.pre6 enc Try.prog Try.f4 Rows.wordBackRow.domain false) (Rows.wordBackSpec.post enc Try.prog Try.f4 false true false false) := by
  refine returnsInHanded_of_change (C := Try.checked) own started (by kernel_rfl) Try.func4
    (ChangeSpec.witness6 (enc := enc) (C := Try.checked) false ⟨#[], #[.int .i64 0, .int .i64 0, .int .u32 0], []⟩ 8 (by kernel_rfl) (by kernel_rfl) (by kernel_rfl) (by kernel_rfl)) ?_
  intro W base args ds gs before hval hW _ _
  exact contract H enc W base args ds gs before hval hW

theorem over : Rows.wordBackRow.holds Try.pinned (OpenSpec.ofChange Rows.wordBackSpec) :=
  OpenClaim.holds_of_wide 4 Try.f4 rfl rfl rfl rfl rfl rfl rfl ⟨rfl, rfl, rfl, rfl, rfl⟩ rfl rfl rfl rfl rfl (by kernel_rfl) Try.func4 (by kernel_rfl)
    (of_decide_eq_true (by kernel_rfl)) (by unfold Func.isWrapper; first | (rw [if_pos (by decide +kernel)]; kernel_rfl) | (rw [if_neg (by decide +kernel)]; exact ⟨rfl, rfl⟩))
    (fun os started H enc _ => lifted os started H enc)

theorem proved : Rows.WordBackSaid := over
#print axioms proved
end Go.Proofs.Ytnpbiipaepmboaa.wordBack
