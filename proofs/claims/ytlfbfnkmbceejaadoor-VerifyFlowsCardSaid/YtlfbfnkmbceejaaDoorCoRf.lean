/-
  The document's answer for package code: whether forms may be.
  Conditions: as each states.
-/
import Derived.Test.YtlfbfnkmbceejaaDoorCoJ
namespace Go.Proofs.YtlfbfnkmbceejaaDoor
open Go.ChangeShapes Go.WideShapes Go.ChangeAt Go.RowKit
set_option linter.unusedVariables false
set_option linter.unusedSimpArgs false
set_option maxRecDepth 100000

def rfmsG (l : List PFm) : Bool := decide (l.length ≤ 40) && fmsG l
theorem rf_true {l : List PFm} (h : ∀ j m, j < l.length → l[j]? = some m → fmG l.length m = true) : rfmsG l = decide (l.length ≤ 40) := by
  unfold rfmsG
  rw [show fmsG l = true from allI_true h, Bool.and_true]
theorem rf_false {l : List PFm} {j : Nat} {m : PFm} (hj : l[j]? = some m) (h : fmG l.length m = false) : rfmsG l = false := by
  unfold rfmsG
  rw [show fmsG l = false from allI_false hj h, Bool.and_false]

def conR (n : Nat) (c : Int) : Bool := decide (-1 ≤ c ∧ c < n)
theorem conR_eq (n : Nat) (c : Int) : conG n c = conR n c := by
  unfold conG conR belowB
  by_cases h1 : c = -1
  · rw [decide_eq_true h1, show decide (-1 ≤ c ∧ c < (n : Int)) = true from decide_eq_true (by omega)]; rfl
  · rw [decide_eq_false h1, Bool.false_or]
    by_cases h2 : 0 ≤ c ∧ c < n
    · rw [decide_eq_true h2, show decide (-1 ≤ c ∧ c < (n : Int)) = true from decide_eq_true (by omega)]
    · rw [decide_eq_false h2, show decide (-1 ≤ c ∧ c < (n : Int)) = false from decide_eq_false (by omega)]

/-- What the loop over constructors has found: from b0 on, ahead of place k. -/
def consTo (n : Nat) (l : List Int) (b0 : Bool) (k : Nat) : Bool := b0 && (l.take k).all (conR n)
theorem consTo_0 (n : Nat) (l : List Int) (b0 : Bool) : consTo n l b0 0 = b0 := by unfold consTo; simp
theorem consTo_s (n : Nat) (l : List Int) (b0 : Bool) {k : Nat} (h : k < l.length) : consTo n l b0 (k + 1) = (consTo n l b0 k && conR n l[k]) := by
  unfold consTo
  rw [List.take_succ_eq_append_getElem h, List.all_append]
  simp [Bool.and_assoc]
theorem consTo_all (n : Nat) (l : List Int) (b0 : Bool) : consTo n l b0 l.length = (b0 && allI (fun _ c => conG n c) 0 l) := by
  unfold consTo
  rw [List.take_length]
  congr 1
  rw [Bool.eq_iff_iff, List.all_eq_true, allI_iff]
  constructor
  · intro h j x hj; rw [conR_eq]; exact h x (List.mem_of_getElem? hj)
  · intro h x hx
    obtain ⟨j, hj, e⟩ := List.getElem_of_mem hx
    have := h j x (by rw [List.getElem?_eq_getElem hj, e])
    rwa [conR_eq] at this
end Go.Proofs.YtlfbfnkmbceejaaDoor
