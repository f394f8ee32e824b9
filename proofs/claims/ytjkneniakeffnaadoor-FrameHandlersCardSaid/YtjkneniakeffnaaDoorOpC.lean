/-
  The document's answer on what an instruction takes and leaves.
  Conditions: as each states.
-/
import Derived.Test.YtjkneniakeffnaaDoorOpB
namespace Go.Proofs.YtjkneniakeffnaaDoor
open Go.ChangeShapes Go.WideShapes Go.ChangeAt Go.RowKit
set_option linter.unusedVariables false
set_option linter.unusedSimpArgs false
set_option maxRecDepth 100000

def tkP (o a b : Int) : Int := if (rowAtP o a).2.2.2.1 = -1 then b else (rowAtP o a).2.2.2.1
def lvP (o a : Int) : Int := (rowAtP o a).2.2.2.2
def OfPost (o a b : Int) (w : World) (e : Ending) (w' : World) : Prop :=
  ∃ x y : Int, e = .returned (.agg #[.int .i64 x, .int .i64 y]) ∧ (opGood o a b = true → x = tkP o a b ∧ y = lvP o a) ∧ Below w.heap.size w w'

def twoOp (k : Nat) : Bool := [7, 12, 13, 14, 15, 16, 17, 18, 23, 24, 25, 28, 30, 32].contains k
theorem two_op : ∀ k : Nat, k < 38 → twoOp k = true → opTk k = 2 ∧ opLv k = 1 ∧ k ≠ 36 := by decide
theorem two_all : ∀ k : Nat, k < 38 → twoOp k = true ∨ [0, 1, 2, 3, 4, 5, 6, 8, 9, 10, 11, 19, 20, 21, 22, 26, 27, 29, 31, 33, 34, 35, 36, 37].contains k = true := by decide

theorem two_of (o a b : Int) (hn : ∀ k ∈ [0, 1, 2, 3, 4, 5, 6, 8, 9, 10, 11, 19, 20, 21, 22, 26, 27, 29, 31, 33, 34, 35, 36, 37], (o == Int.ofNat k) = false) (h : opGood o a b = true) : (2 : Int) = tkP o a b ∧ (1 : Int) = lvP o a := by
  have hr : 0 ≤ o ∧ o < 38 := by
    unfold opGood at h
    simp only [Bool.and_eq_true, decide_eq_true_eq] at h
    exact h.1.1
  obtain ⟨k, rfl⟩ := Int.eq_ofNat_of_zero_le hr.1
  have hk : k < 38 := by omega
  rcases two_all k hk with t | t
  · obtain ⟨e1, e2, e3⟩ := two_op k hk t
    have e4 : rowAtP (k : Int) a = opT.getD k rowZ := by
      unfold rowAtP
      rw [if_neg (by omega)]
      rfl
    unfold tkP lvP
    rw [e4, show (opT.getD k rowZ).2.2.2.1 = 2 from e1, show (opT.getD k rowZ).2.2.2.2 = 1 from e2]
    exact ⟨rfl, rfl⟩
  · have := hn k (List.contains_iff_mem.1 t)
    simp at this

theorem host_of (a b : Int) (h2 : ¬ a = 2) (h3 : ¬ a = 3) (h : opGood 36 a b = true) : (1 : Int) = tkP 36 a b ∧ (1 : Int) = lvP 36 a := by
  rw [host_good] at h
  simp only [Bool.and_eq_true, inB, decide_eq_true_eq] at h
  obtain rfl | rfl : a = 0 ∨ a = 1 := by omega
  · exact ⟨rfl, rfl⟩
  · exact ⟨rfl, rfl⟩

end Go.Proofs.YtjkneniakeffnaaDoor
