/-
  'Regions' of an arena: a new row of pairs.
  Conditions: as stated.
-/
import Derived.Test.YtnjpjhlodamanaaArena
namespace Go.Proofs.Ytnjpjhlodamanaa
open Go.ChangeShapes Go.WideShapes Go.ChangeAt Go.RowKit
set_option linter.unusedVariables false
set_option linter.unusedSimpArgs false

def pairs (rs : List (Nat × Nat)) : List Value := rs.flatMap fun r => [.int .i64 r.1, .int .i64 r.2]
theorem length_pairs : ∀ rs : List (Nat × Nat), (pairs rs).length = rs.length * 2
  | [] => rfl
  | r :: rs => by
    have := length_pairs rs
    simp only [pairs, List.flatMap_cons, List.length_append, List.length_cons, List.length_nil] at this ⊢
    omega
theorem pairs_snoc (rs : List (Nat × Nat)) (r : Nat × Nat) : pairs (rs ++ [r]) = pairs rs ++ [.int .i64 r.1, .int .i64 r.2] := by simp [pairs]

theorem info_pair : (Try.prog.info? 94).map (fun i => (i.zero, i.size, i.bytes)) = some (some (.agg #[.int .i64 0, .int .i64 0]), 2, 16) := by kernel_rfl
theorem under_pairs : Try.prog.underlying 88 = some (.slice 94) := by kernel_rfl

theorem made_pairs (n : Nat) : (madeCells #[Value.int .i64 0, Value.int .i64 0] (n * 2)).toList = List.replicate (n * 2) (.int .i64 0) := by
  simp only [madeCells]
  apply List.ext_getElem
  · simp
  · intro i h1 h2
    simp only [Array.toList_map, List.getElem_map, List.getElem_replicate]
    have : (Array.range (n * 2)).toList[i]'(by simpa using h1) = i := by simp
    rw [this]
    have h3 : i % 2 = 0 ∨ i % 2 = 1 := by omega
    have h4 : (#[Value.int .i64 0, Value.int .i64 0] : Array Value).size = 2 := rfl
    rw [h4]
    rcases h3 with h3 | h3 <;> rw [h3] <;> rfl

end Go.Proofs.Ytnjpjhlodamanaa
