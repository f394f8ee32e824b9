/-
  Names that are longer, or shorter, than an op's.
  Conditions: as each states.
-/
import Derived.Test.YtkolfalfpfnakaaDoorOpN
import Derived.StillTailTactics
namespace Go.Proofs.YtkolfalfpfnakaaDoor
open Go.ChangeShapes Go.WideShapes Go.ChangeAt Go.RowKit
set_option linter.unusedVariables false
set_option linter.unusedSimpArgs false
set_option maxRecDepth 100000

theorem nm_sizes : ∀ i : Nat, i < 38 → 1 ≤ (opNm i).size ∧ (opNm i).size ≤ 5 := by
  have h : ∀ i : Nat, i < 38 → 1 ≤ (opT.getD i ([], 0, 0, 0, 0)).1.length ∧ (opT.getD i ([], 0, 0, 0, 0)).1.length ≤ 5 := by decide
  intro i hi
  exact h i hi
theorem of_let {s : ByteArray} {k : Nat} {b : Bool} (h : (ofP s.toList).getD 0 = k ∧ (ofP s.toList).isSome = b) (w : World) (T : OpTab w) : Calls Tryd.prog 11 #[.string s] w fun e w' => e = .returned (.tuple #[.int .i64 k, .bool b]) ∧ w = w' :=
  (of_any s w T).mono fun e w' ⟨he, hw⟩ => ⟨by rw [he, h.1, h.2], hw⟩
theorem empty_cat (i : Nat) (s : ByteArray) (h : s.toList = []) : (opNm i ++ s).toList = (opNm i).toList := by
  rw [ByteArray.toList_eq] at h
  rw [ByteArray.toList_eq, ByteArray.toList_eq, ByteArray.data_append, Array.toList_append, h, List.append_nil]
theorem wpStill_skip {P : Program} {ops : Array Oper} {w : World} {Q : Act → Prop} {a : Act} {op : Oper} {rest : List Oper} (hw : Region.wanted op (yielded ops a.tmps) = false)
    (h : ∀ K : Act → Prop, (∀ a', wpStill P ops w Q rest a' → K a') → K (a.put op.dst undef)) : wpStill P ops w Q (op :: rest) a := by
  unfold wpStill
  rw [if_neg (by rw [hw]; exact fun h => by cases h)]
  exact h _ fun _ h => h
/-- What an op's name says: found, it is the name; else nothing. -/
theorem of_cases (s : ByteArray) : (ofP s.toList = none ∧ (ofP s.toList).getD 0 = 0 ∧ (ofP s.toList).isSome = false) ∨ ∃ k, k < 38 ∧ (ofP s.toList = some k ∧ (ofP s.toList).getD 0 = k ∧ (ofP s.toList).isSome = true) ∧ ((opNm k).toList == s.toList) = true := by
  cases h : ofP s.toList with
  | none => exact Or.inl ⟨rfl, rfl, rfl⟩
  | some k =>
    obtain ⟨h1, h2⟩ := ofP_is h
    exact Or.inr ⟨k, h1, ⟨rfl, rfl, rfl⟩, h2⟩

end Go.Proofs.YtkolfalfpfnakaaDoor
