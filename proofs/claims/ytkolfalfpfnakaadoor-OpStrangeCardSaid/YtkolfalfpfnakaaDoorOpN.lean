/-
  The names of the ops: each is one op's; the op of a name.
  Conditions: as each states.
-/
import Derived.Test.YtkolfalfpfnakaaDoorOpW
namespace Go.Proofs.YtkolfalfpfnakaaDoor
open Go.ChangeShapes Go.WideShapes Go.ChangeAt Go.RowKit
set_option linter.unusedVariables false
set_option linter.unusedSimpArgs false
set_option maxRecDepth 100000

theorem name_in (i : Nat) (hi : i < 38) (w : World) (T : OpTab w) : Calls Tryd.prog 12 #[.int .i64 i] w fun e w' => e = .returned (.string (opNm i)) ∧ w = w' :=
  (name_any i w T).mono fun e w' ⟨he, hw⟩ => ⟨by rw [he, nmOf_in i hi], hw⟩
theorem nm_other : ∀ i : Nat, i < 38 → ∀ j : Nat, j < 38 → i ≠ j → ((opNm i).toList == (opNm j).toList) = false := by
  simp only [ByteArray.toList_eq]
  decide +kernel
theorem of_nm (i : Nat) (hi : i < 38) (w : World) (T : OpTab w) : Calls Tryd.prog 11 #[.string (opNm i)] w fun e w' => e = .returned (.tuple #[.int .i64 i, .bool true]) ∧ w = w' :=
  (of_any (opNm i) w T).mono fun e w' ⟨he, hw⟩ => ⟨by rw [he, ofP_hit (opNm i) i hi (fun j hj => nm_other j (by omega) i hi (by omega)) (by simp)]; rfl, hw⟩

theorem of_some {s : ByteArray} {k : Nat} (h : ofP s.toList = some k) (w : World) (T : OpTab w) : Calls Tryd.prog 11 #[.string s] w fun e w' => e = .returned (.tuple #[.int .i64 k, .bool true]) ∧ w = w' :=
  (of_any s w T).mono fun e w' ⟨he, hw⟩ => ⟨by rw [he, h]; rfl, hw⟩
theorem of_none {s : ByteArray} (h : ofP s.toList = none) (w : World) (T : OpTab w) : Calls Tryd.prog 11 #[.string s] w fun e w' => e = .returned (.tuple #[.int .i64 0, .bool false]) ∧ w = w' :=
  (of_any s w T).mono fun e w' ⟨he, hw⟩ => ⟨by rw [he, h]; rfl, hw⟩
theorem ofP_is {s : ByteArray} {k : Nat} (h : ofP s.toList = some k) : k < 38 ∧ ((opNm k).toList == s.toList) = true := by
  unfold ofP at h
  rw [List.find?_range_eq_some] at h
  exact ⟨List.mem_range.1 h.2.1, h.1⟩
theorem ofP_no {s : ByteArray} (h : ofP s.toList = none) (k : Nat) (hk : k < 38) : ((opNm k).toList == s.toList) = false := by
  unfold ofP at h
  rw [List.find?_range_eq_none] at h
  simpa using h k hk
theorem ofP_eq {s : ByteArray} {j : Nat} (hj : j < 38) (h : ((opNm j).toList == s.toList) = true) : ofP s.toList = some j := by
  have e : (opNm j).toList = s.toList := by simpa using h
  refine ofP_hit s j hj (fun i hi => ?_) h
  rw [← e]
  exact nm_other i (by omega) j hj (by omega)
end Go.Proofs.YtkolfalfpfnakaaDoor
