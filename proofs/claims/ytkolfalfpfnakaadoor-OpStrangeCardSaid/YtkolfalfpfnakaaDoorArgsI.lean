/-
  An instruction as an argument: a struct of three integers, taken apart.
  Conditions: as each states.
-/
import Derived.Test.YtkolfalfpfnakaaDoorKit
import Derived.Lib.SmallJoins
namespace Go.Proofs.YtkolfalfpfnakaaDoor
open Go.ChangeShapes Go.WideShapes Go.ChangeAt Go.RowKit
set_option linter.unusedVariables false
set_option linter.unusedSimpArgs false

section
variable {H : Type} {enc : TypeId × Value → H}
theorem under_ins : ∃ f0 f1 f2 : Field, Tryd.prog.underlying 23 = some (.struct #[f0, f1, f2]) ∧ Deep.oneCellFields Tryd.prog #[f0, f1, f2] = true ∧ Tryd.prog.cellsOf 23 = 3 ∧
    Tryd.prog.underlying f0.type = some (.int .i64) ∧ Tryd.prog.underlying f1.type = some (.int .i64) ∧ Tryd.prog.underlying f2.type = some (.int .i64) :=
  ⟨_, _, _, Tryd.underlying23, by kernel_rfl, by kernel_rfl, by kernel_rfl, by kernel_rfl, by kernel_rfl⟩

theorem open_ins {base b0 : Nat} {spare : Nat → Bool} {held : Bool} {r : Reach} {W : World} {v : Value} {d : DataW H} {ps : List MemPlace}
    (hval : Value.okWide Tryd.prog W r b0 23 v) (h : DataW.Trod enc Tryd.prog W base spare held 23 v d ps) :
    ∃ o a b : Int, v = .agg #[.int .i64 o, .int .i64 a, .int .i64 b] ∧ (Lit.int .i64 o).wf = true ∧ (Lit.int .i64 a).wf = true ∧ (Lit.int .i64 b).wf = true := by
  obtain ⟨f0, f1, f2, hs, ho, hc, u0, u1, u2⟩ := under_ins
  obtain ⟨v0, v1, v2, y0, y1, y2, n, rfl, _, _, h0, h1, h2⟩ := Joins.open_agg3 hs ho hc hval h
  obtain ⟨o, e0, _, w0⟩ := DataW.trod_int u0 h0
  obtain ⟨a, e1, _, w1⟩ := DataW.trod_int u1 h1
  obtain ⟨b, e2, _, w2⟩ := DataW.trod_int u2 h2
  cases e0; cases e1; cases e2
  exact ⟨o, a, b, rfl, w0, w1, w2⟩
end
end Go.Proofs.YtkolfalfpfnakaaDoor
