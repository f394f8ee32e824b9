/-
  Package lex in plain words: a text's token, how long, where it begins and ends.
  Conditions: as each states.
-/
import Derived.Test.YtlidegofnkmenaaDoorLxK
namespace Go.Proofs.YtlidegofnkmenaaDoor
open Go.ChangeShapes Go.WideShapes Go.ChangeAt Go.RowKit
set_option linter.unusedVariables false
set_option linter.unusedSimpArgs false
set_option maxRecDepth 100000

def spO (d : Nat) : Nat := if d = 10 ∨ d = 34 ∨ d = 92 then 1 else 0
def spN (l : List UInt8) : Nat := (l.map fun c => spO c.toNat).sum
theorem spN_snoc (l : List UInt8) (b : UInt8) : spN (l ++ [b]) = spN l + spO b.toNat := by simp [spN]
theorem spN_le (l : List UInt8) : spN l ≤ l.length := by
  induction l with
  | nil => exact Nat.le_refl _
  | cons c r ih =>
    unfold spN at ih ⊢
    rw [List.map_cons, List.sum_cons, List.length_cons]
    have : spO c.toNat ≤ 1 := by unfold spO; split <;> omega
    omega
theorem qB_length (c : UInt8) : (qB c).length = 1 + spO c.toNat := by
  unfold qB spO
  by_cases h1 : c.toNat = 10
  · rw [if_pos h1, if_pos (.inl h1)]; rfl
  · rw [if_neg h1]
    by_cases h2 : c.toNat = 34 ∨ c.toNat = 92
    · rw [if_pos h2, if_pos (.inr h2)]; rfl
    · rw [if_neg h2, if_neg (by omega)]; rfl
theorem qBs_length (l : List UInt8) : (l.flatMap qB).length = l.length + spN l := by
  induction l with
  | nil => rfl
  | cons c r ih =>
    unfold spN at ih ⊢
    rw [List.flatMap_cons, List.length_append, qB_length, ih, List.map_cons, List.sum_cons, List.length_cons]
    omega
theorem quP_no {l : List UInt8} (h : quO l = false) : quP l = [] := by
  unfold quO at h
  unfold quP
  by_cases c : 60 < l.length
  · rw [if_pos c]
  · rw [if_neg c]
    rw [decide_eq_true (by omega), Bool.true_and] at h
    rw [if_neg (by rw [h]; decide)]
theorem quP_yes {l : List UInt8} (h : quO l = true) : quP l = 34 :: (l.flatMap qB ++ [34]) := by
  unfold quO at h
  simp only [Bool.and_eq_true, decide_eq_true_eq] at h
  unfold quP
  rw [if_neg (by omega), if_pos h.2]
theorem quP_len {l : List UInt8} (h : quO l = true) : (quP l).length = 2 + l.length + spN l := by
  rw [quP_yes h, List.length_cons, List.length_append, qBs_length, List.length_singleton]; omega
theorem quP_ends {l : List UInt8} (h : quO l = true) : byN (quP l) 0 = 34 ∧ byN (quP l) ((quP l).length - 1) = 34 := by
  rw [quP_yes h]
  refine ⟨rfl, ?_⟩
  unfold byN
  rw [List.length_cons, List.length_append, List.length_singleton]
  rw [show (l.flatMap qB).length + 1 + 1 - 1 = (l.flatMap qB).length + 1 by omega, List.getD_eq_getElem?_getD, List.getElem?_cons_succ, List.getElem?_append_right (Nat.le_refl _), Nat.sub_self]
  rfl
end Go.Proofs.YtlidegofnkmenaaDoor
