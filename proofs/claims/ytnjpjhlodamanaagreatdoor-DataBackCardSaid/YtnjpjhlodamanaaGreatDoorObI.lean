/-
  Where a heap's objects stand ('places').
  Conditions: as each states.
-/
import Derived.Test.YtnjpjhlodamanaaGreatDoorObH
namespace Go.Proofs.YtnjpjhlodamanaaGreatDoor
open Go.ChangeShapes Go.WideShapes Go.ChangeAt Go.RowKit
set_option linter.unusedVariables false
set_option linter.unusedSimpArgs false
set_option maxRecDepth 100000

def markedI (first : Int) : Nat → List Bool → List Int
  | _, [] => []
  | i, b :: r => if b then (first + i) :: markedI first (i + 1) r else markedI first (i + 1) r
theorem markedI_snoc (first : Int) : ∀ (l : List Bool) (i : Nat) (b : Bool), markedI first i (l ++ [b]) = markedI first i l ++ if b then [first + ((i + l.length : Nat) : Int)] else []
  | [], i, b => by cases b <;> simp [markedI]
  | c :: l, i, b => by
    have ih := markedI_snoc first l (i + 1) b
    have e : i + 1 + l.length = i + (c :: l).length := by simp only [List.length_cons]; omega
    rw [e] at ih
    simp only [List.cons_append, markedI, ih]
    cases c <;> simp
theorem markedI_length (first : Int) : ∀ (l : List Bool) (i : Nat), (markedI first i l).length ≤ l.length
  | [], _ => Nat.le_refl _
  | b :: r, i => by
    have := markedI_length first r (i + 1)
    unfold markedI
    split <;> simp <;> omega
theorem markedI_false (first : Int) : ∀ (n i : Nat) (r : List Bool), markedI first i (List.replicate n false ++ r) = markedI first (i + n) r
  | 0, i, r => by simp
  | n + 1, i, r => by
    rw [List.replicate_succ, List.cons_append, markedI, if_neg (by decide), markedI_false first n (i + 1) r]
    congr 1
    omega
theorem markedI_marks (first : Int) : ∀ (obs : List Ob) (i : Nat), markedI first i (marks obs) = (starts i obs).map fun (j : Nat) => first + (j : Int)
  | [], _ => rfl
  | o :: os, i => by
    have ih := markedI_marks first os (i + o.words)
    have e : i + 1 + o.long = i + o.words := by unfold Ob.words; omega
    rw [marks, markedI, if_pos rfl, markedI_false, e, ih]
    rfl

theorem info_int' : (Tryz.prog.info? 3).map (fun i => (i.zero, i.size, i.bytes)) = some (some (.int .i64 0), 1, 8) := by kernel_rfl
theorem under_ints : Tryz.prog.underlying 55 = some (.slice 3) := by kernel_rfl

end Go.Proofs.YtnjpjhlodamanaaGreatDoor
