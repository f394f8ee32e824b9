/-
  For all numbers v and u the law WordWraps returns true, and its arguments read as they did. Conditions: none.
-/
import Derived.Test.YtnpbiipaepmboaaWord
namespace Go.Proofs.Ytnpbiipaepmboaa.wordWraps
open Go.ChangeShapes Go.WideShapes Go.ChangeAt Go.RowKit
set_option linter.unusedVariables false

theorem own : ownKnob Try.prog.godebug = none := by kernel_rfl
theorem laidOut : laidOutB Try.prog = true := by kernel_rfl

theorem walk (a0 a1 : Int) (w0 : (Lit.int .i64 a0).wf = true) (w1 : (Lit.int .i64 a1).wf = true) (w : World) :
    Calls Try.prog 5 #[.int .i64 a0, .int .i64 a1] w fun e w' => e = .returned (.bool true) ∧ Below w.heap.size w w' := by
  obtain ⟨p1, p2⟩ := bounds_i64 w0
  obtain ⟨q1, q2⟩ := bounds_i64 w1
  have r1 : -4611686018427387904 ≤ wWrap a0 := by unfold wWrap wrap64; omega
  have r2 : wWrap a0 ≤ 4611686018427387903 := by unfold wWrap wrap64; omega
  have s1 : -4611686018427387904 ≤ wWrap a1 := by unfold wWrap wrap64; omega
  have s2 : wWrap a1 ≤ 4611686018427387903 := by unfold wWrap wrap64; omega
  have f1 : decide (wWrap a0 < -4611686018427387904) = false := decide_eq_false (by omega)
  have f2 : decide (4611686018427387903 < wWrap a0) = false := decide_eq_false (by omega)
  have f3 : (IntKind.u64.wrap (IntKind.u64.wrap (wrap64 (a0 - wWrap a0)) * 2) != 0) = false := by
    have : IntKind.u64.wrap (IntKind.u64.wrap (wrap64 (a0 - wWrap a0)) * 2) = 0 := by
      simp only [IntKind.wrap_u64]; unfold wWrap wrap64; omega
    rw [this]; rfl
  have m : ∀ x y t : Int, x = y + 9223372036854775808 * t → wWrap (wrap64 x) = wWrap (wrap64 y) := by
    intro x y t h; unfold wWrap wrap64; omega
  have k0 : ∃ s, wWrap a0 = a0 + 9223372036854775808 * s := ⟨(wWrap a0 - a0) / 9223372036854775808, by unfold wWrap wrap64; omega⟩
  have k1 : ∃ t, wWrap a1 = a1 + 9223372036854775808 * t := ⟨(wWrap a1 - a1) / 9223372036854775808, by unfold wWrap wrap64; omega⟩
  have f4 : (wWrap (wWrap a0 + wWrap a1) == wWrap (wrap64 (a0 + a1))) = true := by
    have : wWrap (wWrap a0 + wWrap a1) = wWrap (wrap64 (a0 + a1)) := by unfold wWrap wrap64; omega
    simpa using this
  have f5 : (wWrap (wrap64 (wWrap a0 * wWrap a1)) == wWrap (wrap64 (a0 * a1))) = true := by
    have : wWrap (wrap64 (wWrap a0 * wWrap a1)) = wWrap (wrap64 (a0 * a1)) := by
      obtain ⟨s, hs⟩ := k0
      obtain ⟨t, ht⟩ := k1
      refine m _ _ (a0 * t + s * a1 + s * (9223372036854775808 * t)) ?_
      rw [hs, ht]
      simp only [Int.add_mul, Int.mul_add, Int.mul_assoc, Int.mul_left_comm _ (9223372036854775808 : Int)]
      simp only [Int.add_assoc]
      omega
    simpa using this
  clear m k0 k1
  go_enter Try.func5, Try.ntmps5
  go_wp2_with (first
    | (go_at_call 11; refine (wrap_any _ _).mono ?_; rintro e w' ⟨rfl, hb⟩)
    | (go_at_call 19; refine (wakes_any _).mono ?_; rintro e w' ⟨rfl, hb⟩))
  all_goals
    go_ret
    exact ⟨rfl, by repeat (first | (with_reducible assumption) | refine below_chain ?_ (by with_reducible assumption))⟩

theorem contract (H : Type) (enc : TypeId × Value → H) (W : World) (base : Nat) (args : Array Value) (ds gs : List (DataW H)) (before : List MemPlace)
    (hval0 : ∀ (j : Nat) t v, Try.f5.params[j]? = some t → args[j]? = some v → Value.okWide Try.prog W .any base t v)
    (hW : DataW.Whole enc Try.prog Try.f5.params.toList Rows.wordWrapsSpec.vars false W args.toList ds gs before) :
    Calls Try.prog 5 args W fun e W' => ∃ v, e = .returned v ∧ Rows.wordWrapsSpec.post enc Try.prog Try.f5 false true false false W args v W' := by
  have hW' := hW
  have hval := hval0
  obtain ⟨p, q, hA0, hV, rfl, hfz, hnd⟩ := hW
  have hA : DataW.TrodAll enc Try.prog W 0 (fun _ => true) true Try.f5.params.toList args.toList ds p := hA0
  rw [Try.params5] at hA hval
  obtain ⟨rfl, rfl⟩ := trodVars_none hV
  obtain ⟨v0, vs0, d0, ds0, p0, q0, hargs, rfl, rfl, h0, r0⟩ := trodAll_cons hA
  obtain ⟨v1, vs1, d1, ds1, p1, q1, rfl, rfl, rfl, h1, r1⟩ := trodAll_cons r0
  obtain ⟨rfl, rfl, rfl⟩ := trodAll_nil r1
  obtain rfl : args = #[v0, v1] := by cases args; simp_all
  obtain ⟨a0, rfl, rfl, rfl, w0⟩ := open_int Try.underlying2 (hval 0 2 v0 rfl rfl) h0
  obtain ⟨a1, rfl, rfl, rfl, w1⟩ := open_int Try.underlying2 (hval 1 2 v1 rfl rfl) h1
  refine (walk a0 a1 w0 w1 W).mono fun e W' ⟨he, hb⟩ => ?_
  subst he
  exact ⟨_, rfl, law_post laidOut (by kernel_rfl) rfl (by kernel_rfl) Try.underlying4 hW' rfl rfl rfl hb⟩

set_option maxRecDepth 100000 in
theorem lifted (os : Os) (started : os.Started) (H : Type) (enc : TypeId × Value → H) :
    ReturnsInHanded {} Try.checked os 5 .any (Rows.wordWrapsSpec.pre6 enc Try.prog Try.f5 Rows.wordWrapsRow.domain false) (Rows.wordWrapsSpec.post enc Try.prog Try.f5 false true false false) := by
  refine returnsInHanded_of_change (C := Try.checked) own started (by kernel_rfl) Try.func5
    (ChangeSpec.witness6 (enc := enc) (C := Try.checked) false ⟨#[], #[.int .i64 0, .int .i64 0], []⟩ 8 (by kernel_rfl) (by kernel_rfl) (by kernel_rfl) (by kernel_rfl)) ?_
  intro W base args ds gs before hval hW _ _
  exact contract H enc W base args ds gs before hval hW

theorem over : Rows.wordWrapsRow.holds Try.pinned (OpenSpec.ofChange Rows.wordWrapsSpec) :=
  OpenClaim.holds_of_wide 5 Try.f5 rfl rfl rfl rfl rfl rfl rfl ⟨rfl, rfl, rfl, rfl, rfl⟩ rfl rfl rfl rfl rfl (by kernel_rfl) Try.func5 (by kernel_rfl)
    (of_decide_eq_true (by kernel_rfl)) (by unfold Func.isWrapper; first | (rw [if_pos (by decide +kernel)]; kernel_rfl) | (rw [if_neg (by decide +kernel)]; exact ⟨rfl, rfl⟩))
    (fun os started H enc _ => lifted os started H enc)

theorem proved : Rows.WordWrapsSaid := over
#print axioms proved
end Go.Proofs.Ytnpbiipaepmboaa.wordWraps
