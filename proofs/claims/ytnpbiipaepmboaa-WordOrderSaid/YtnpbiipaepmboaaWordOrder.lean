/-
  For all numbers v and u and each two places at of 32 bits the law WordOrder returns true, and its arguments read as they did. Conditions: none.
-/
import Derived.Test.YtnpbiipaepmboaaWord
namespace Go.Proofs.Ytnpbiipaepmboaa.wordOrder
open Go.ChangeShapes Go.WideShapes Go.ChangeAt Go.RowKit
set_option linter.unusedVariables false

theorem own : ownKnob Try.prog.godebug = none := by kernel_rfl
theorem laidOut : laidOutB Try.prog = true := by kernel_rfl

theorem cells2_uint32 : Try.prog.cellsOf 37 = 2 := by kernel_rfl
theorem cellsuint32 : Try.prog.cellsOf 33 = 1 := by kernel_rfl
theorem walk (a0 a1 a2_0 a2_1 : Int) (w0 : (Lit.int .i64 a0).wf = true) (w1 : (Lit.int .i64 a1).wf = true) (w2 : (Lit.int .u32 a2_0).wf = true) (w3 : (Lit.int .u32 a2_1).wf = true) (w : World) :
    Calls Try.prog 6 #[.int .i64 a0, .int .i64 a1, .agg #[.int .u32 a2_0, .int .u32 a2_1]] w fun e w' => e = .returned (.bool true) ∧ Below w.heap.size w w' := by
  obtain ⟨x1, x2⟩ := bounds_u32 w2
  obtain ⟨y1, y2⟩ := bounds_u32 w3
  have ex : wPlace a2_0 = 2 * a2_0 := by unfold wPlace; rw [if_neg (by omega)]
  have ey : wPlace a2_1 = 2 * a2_1 := by unfold wPlace; rw [if_neg (by omega)]
  have f1 : (decide (wPlace a2_0 < wPlace a2_1) == decide (a2_0 < a2_1)) = true := by rw [ex, ey, beq_iff_eq, decide_eq_decide]; omega
  have f2 : ((wPlace a2_0 == wPlace a2_1) == (a2_0 == a2_1)) = true := by rw [ex, ey, beq_iff_eq, Bool.eq_iff_iff]; simp only [beq_iff_eq]; omega
  have f0 : (decide (wrap64 (wInt a0) < wrap64 (wInt a1)) == decide (wWrap a0 < wWrap a1)) = true := by
    rw [beq_iff_eq, decide_eq_decide]; unfold wInt wWrap wrap64; omega
  clear ex ey
  go_enter Try.func6, Try.ntmps6
  go_wp2_with (first
    | (go_at_call 9; refine (int_any _ _).mono ?_; rintro e w' ⟨rfl, rfl⟩)
    | (go_at_call 11; refine (wrap_any _ _).mono ?_; rintro e w' ⟨rfl, hb⟩; have c0 : w'.cell? ⟨w.heap.size, 0, none⟩ = some (.int .u32 a2_0) := (hb.cell (p := ⟨w.heap.size, 0, none⟩) (by go_size)).trans (by first | assumption | (simp [go_sem]; done)); have c1 : w'.cell? ⟨w.heap.size, 1, none⟩ = some (.int .u32 a2_1) := (hb.cell (p := ⟨w.heap.size, 1, none⟩) (by go_size)).trans (by first | assumption | (simp [go_sem]; done)); have hs : w.heap.size < w'.heap.size := Nat.lt_of_lt_of_le (by go_size) hb.size))
  go_quiet ((go_at_call 17; exact Calls.quiet_of_same ((place_any _ (by omega) (by omega) _).mono fun _ _ h => ⟨h.1, h.2.symm⟩)))
  go_wp2_with ((go_at_call 19; refine (wakes_any _).mono ?_; rintro e w2 ⟨rfl, hb2⟩))
  go_ret
  refine ⟨rfl, ?_⟩
  rename_i w1 hb1 _ _ _
  have h0 : Below w.heap.size w (w.alloc (.cells #[.int .u32 a2_0, .int .u32 a2_1] 37)) := by go_grown
  exact (h0.trans (hb1.mono (by go_size))).trans ((hb.mono (by omega)).trans ((below_draws (Below.refl _ _) _).trans (hb2.mono (by show _ ≤ _; have : (w'.drewN nq).heap.size = w'.heap.size := rfl; omega))))

theorem contract (H : Type) (enc : TypeId × Value → H) (W : World) (base : Nat) (args : Array Value) (ds gs : List (DataW H)) (before : List MemPlace)
    (hval0 : ∀ (j : Nat) t v, Try.f6.params[j]? = some t → args[j]? = some v → Value.okWide Try.prog W .any base t v)
    (hW : DataW.Whole enc Try.prog Try.f6.params.toList Rows.wordOrderSpec.vars false W args.toList ds gs before) :
    Calls Try.prog 6 args W fun e W' => ∃ v, e = .returned v ∧ Rows.wordOrderSpec.post enc Try.prog Try.f6 false true false false W args v W' := by
  have hW' := hW
  have hval := hval0
  obtain ⟨p, q, hA0, hV, rfl, hfz, hnd⟩ := hW
  have hA : DataW.TrodAll enc Try.prog W 0 (fun _ => true) true Try.f6.params.toList args.toList ds p := hA0
  rw [Try.params6] at hA hval
  obtain ⟨rfl, rfl⟩ := trodVars_none hV
  obtain ⟨v0, vs0, d0, ds0, p0, q0, hargs, rfl, rfl, h0, r0⟩ := trodAll_cons hA
  obtain ⟨v1, vs1, d1, ds1, p1, q1, rfl, rfl, rfl, h1, r1⟩ := trodAll_cons r0
  obtain ⟨v2, vs2, d2, ds2, p2, q2, rfl, rfl, rfl, h2, r2⟩ := trodAll_cons r1
  obtain ⟨rfl, rfl, rfl⟩ := trodAll_nil r2
  obtain rfl : args = #[v0, v1, v2] := by cases args; simp_all
  obtain ⟨a0, rfl, rfl, rfl, w0⟩ := open_int Try.underlying2 (hval 0 2 v0 rfl rfl) h0
  obtain ⟨a1, rfl, rfl, rfl, w1⟩ := open_int Try.underlying2 (hval 1 2 v1 rfl rfl) h1
  obtain ⟨zs2, hl2, rfl, hz2⟩ := open_int_array Try.underlying37 Try.underlying33 cellsuint32 cells2_uint32 (hval 2 37 v2 rfl rfl) h2
  obtain ⟨a2_0, a2_1, rfl⟩ : ∃ a2_0 a2_1, zs2 = [a2_0, a2_1] := by
    match zs2, hl2 with
    | [a2_0, a2_1], _ => exact ⟨a2_0, a2_1, rfl⟩
  refine (walk a0 a1 a2_0 a2_1 w0 w1 (hz2 _ (by simp)) (hz2 _ (by simp)) W).mono fun e W' ⟨he, hb⟩ => ?_
  subst he
  exact ⟨_, rfl, law_post laidOut (by kernel_rfl) rfl (by kernel_rfl) Try.underlying4 hW' rfl rfl rfl hb⟩

set_option maxRecDepth 100000 in
theorem lifted (os : Os) (started : os.Started) (H : Type) (enc : TypeId × Value → H) :
    ReturnsInHanded {} Try.checked os 6 .any (Rows.wordOrderSpec.pre6 enc Try.prog Try.f6 Rows.wordOrderRow.domain false) (Rows.wordOrderSpec.post enc Try.prog Try.f6 false true false false) := by
  refine returnsInHanded_of_change (C := Try.checked) own started (by kernel_rfl) Try.func6
    (ChangeSpec.witness6 (enc := enc) (C := Try.checked) false ⟨#[], #[.int .i64 0, .int .i64 0, .agg #[.int .u32 0, .int .u32 0]], []⟩ 8 (by kernel_rfl) (by kernel_rfl) (by kernel_rfl) (by kernel_rfl)) ?_
  intro W base args ds gs before hval hW _ _
  exact contract H enc W base args ds gs before hval hW

theorem over : Rows.wordOrderRow.holds Try.pinned (OpenSpec.ofChange Rows.wordOrderSpec) :=
  OpenClaim.holds_of_wide 6 Try.f6 rfl rfl rfl rfl rfl rfl rfl ⟨rfl, rfl, rfl, rfl, rfl⟩ rfl rfl rfl rfl rfl (by kernel_rfl) Try.func6 (by kernel_rfl)
    (of_decide_eq_true (by kernel_rfl)) (by unfold Func.isWrapper; first | (rw [if_pos (by decide +kernel)]; kernel_rfl) | (rw [if_neg (by decide +kernel)]; exact ⟨rfl, rfl⟩))
    (fun os started H enc _ => lifted os started H enc)

theorem proved : Rows.WordOrderSaid := over
#print axioms proved
end Go.Proofs.Ytnpbiipaepmboaa.wordOrder
