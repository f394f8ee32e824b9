/-
  The document's answers for package op: Name, Good, Of, Ends.
  Conditions: as each states.
-/
import Derived.Test.YtjkneniakeffnaaDoorOpA
namespace Go.Proofs.YtjkneniakeffnaaDoor
open Go.ChangeShapes Go.WideShapes Go.ChangeAt Go.RowKit
set_option linter.unusedVariables false
set_option linter.unusedSimpArgs false
set_option maxRecDepth 100000

def inB (v lo hi : Int) : Bool := decide (lo ≤ v ∧ v ≤ hi)
theorem inB_eq (v lo hi : Int) : inB v lo hi = (decide (lo ≤ v) && decide (v ≤ hi)) := by unfold inB; by_cases h : lo ≤ v <;> by_cases k : v ≤ hi <;> simp [h, k]

theorem host_good (a b : Int) : opGood 36 a b = (inB a 0 3 && (inB b 0 0 || (decide (a = 3) && inB b 0 39))) := by
  have e : opGood 36 a b = (inB a 0 3 && inB b (spL (hoT.getD a.toNat rowZ).2.2.1) (spH (hoT.getD a.toNat rowZ).2.2.1)) := rfl
  rw [e]
  by_cases h : 0 ≤ a ∧ a ≤ 3
  · obtain rfl | rfl | rfl | rfl : a = 0 ∨ a = 1 ∨ a = 2 ∨ a = 3 := by omega
    · rw [Bool.eq_iff_iff]; simp [hoT, spT, spL, spH, inB]
    · rw [Bool.eq_iff_iff]; simp [hoT, spT, spL, spH, inB]
    · rw [Bool.eq_iff_iff]; simp [hoT, spT, spL, spH, inB]
    · rw [Bool.eq_iff_iff]; simp [hoT, spT, spL, spH, inB]; omega
  · have : inB a 0 3 = false := decide_eq_false h
    rw [this]; rfl

def plainOp (o : Int) : Bool := (o != 0) && (o != 1) && (o != 2) && (o != 3) && (o != 4) && (o != 6) && (o != 10) && (o != 11) && (o != 19) && (o != 20) && (o != 21) && (o != 22) && (o != 33) && (o != 36)
theorem plain_good (o a b : Int) (h0 : 0 ≤ o) (h1 : o < 38) (h : plainOp o = true) : opGood o a b = (inB a 0 0 && inB b 0 0) := by
  obtain ⟨k, rfl⟩ := Int.eq_ofNat_of_zero_le h0
  have hk : k < 38 := by omega
  clear h0 h1
  have hall : ∀ k : Nat, k < 38 → plainOp k = true → opA k = 0 ∧ opB k = 0 ∧ ((k : Int) = 36) = False := by decide
  obtain ⟨e1, e2, e3⟩ := hall k hk h
  have e4 : (rowAtP (k : Int) a).2.2.1 = 0 := by
    unfold rowAtP
    rw [if_neg (by rw [e3]; exact id)]
    exact e2
  unfold opGood
  rw [e4]
  have : decide (0 ≤ (k : Int) ∧ (k : Int) < 38) = true := decide_eq_true ⟨by omega, by omega⟩
  rw [this, Bool.true_and, show opA (k : Int).toNat = 0 from e1]
  rfl
theorem plain_out (o a b : Int) (h : o < 0 ∨ 38 ≤ o) : opGood o a b = false := by
  unfold opGood
  rw [show decide (0 ≤ o ∧ o < 38) = false from decide_eq_false (by omega)]
  rfl
theorem nm_toList (k : Nat) (h : k < 38) : ¬ (opNm k).toList = [] := by
  have hall : ∀ k : Nat, k < 38 → (opT.getD k ([], 0, 0, 0, 0)).1 ≠ [] := by decide
  intro e
  apply hall k h
  rw [ByteArray.toList_eq] at e
  exact e

def opEnds (o : Int) : Bool := o == 8 || o == 9 || o == 10 || o == 35
end Go.Proofs.YtjkneniakeffnaaDoor
