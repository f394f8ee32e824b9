/-
  The document's answers for package op: Name, Good, Of, Ends.
  Conditions: as each states.
-/
import Derived.Test.YtlfbfnkmbceejaaDoorOpA
namespace Go.Proofs.YtlfbfnkmbceejaaDoor
open Go.ChangeShapes Go.WideShapes Go.ChangeAt Go.RowKit
set_option linter.unusedVariables false
set_option linter.unusedSimpArgs false
set_option maxRecDepth 100000

theorem refName_any (i : Int) (w : World) :
    Calls Tryd.prog 38 #[.int .i64 i] w fun e w' => e = .returned (.string (nmOf i)) ∧ w = w' := by
  go_enter Tryd.func38, Tryd.ntmps38
  go_wp2
  all_goals
    go_ret
    refine ⟨ret_str ?_, rfl⟩
    first
    | (have h := ‹(i == _) = true›; simp only [beq_iff_eq] at h; subst h; rfl)
    | (refine (nmOf_out i ?_).symm; simp only [beq_eq_false_iff_ne, ne_eq] at *; omega)

def inB (v lo hi : Int) : Bool := decide (lo ≤ v ∧ v ≤ hi)
theorem inB_eq (v lo hi : Int) : inB v lo hi = (decide (lo ≤ v) && decide (v ≤ hi)) := by unfold inB; by_cases h : lo ≤ v <;> by_cases k : v ≤ hi <;> simp [h, k]

theorem in_any (v lo hi : Int) (w : World) :
    Calls Tryd.prog 37 #[.int .i64 v, .int .i64 lo, .int .i64 hi] w fun e w' => e = .returned (.bool (inB v lo hi)) ∧ w = w' := by
  have E := Lib.hid (inB_eq v lo hi)
  by_cases c1 : lo ≤ v
  · go_enter Tryd.func37, Tryd.ntmps37
    go_wp2
    go_ret
    exact ⟨ret_bool (by rw [E.out]; simp [c1]), rfl⟩
  · go_enter Tryd.func37, Tryd.ntmps37
    go_wp2
    go_ret
    exact ⟨ret_bool (by rw [E.out]; simp; intro h; omega), rfl⟩

theorem refGood_0 (a b : Int) (w : World) :
    Calls Tryd.prog 24 #[.agg #[.int .i64 0, .int .i64 a, .int .i64 b]] w fun e w' => e = .returned (.bool (opGood 0 a b)) ∧ Below w.heap.size w w' := by
  have E := Lib.hid (show ∀ b, opGood 0 a b = (inB a (-4611686018427387904) 4611686018427387903 && inB b 0 0) from fun b => by kernel_rfl)
  go_enter Tryd.func24, Tryd.ntmps24
  go_wp2_with (first | (go_at_call 37; refine (in_any _ _ _ _).mono ?_; rintro e w' ⟨rfl, rfl⟩) | (go_at_call 38; refine (refName_any _ _).mono ?_; rintro e w' ⟨rfl, rfl⟩))
  all_goals
    go_ret
    refine ⟨ret_bool ?_, (Below.refl _ _).alloc (Nat.le_refl _) _⟩
    rw [E.out, Bool.eq_iff_iff]
    simp only [inB, Bool.and_eq_true, decide_eq_true_eq, beq_iff_eq, Bool.false_eq_true, false_iff, true_iff, iff_true, iff_false] at *
    try omega

theorem refGood_1 (a b : Int) (w : World) :
    Calls Tryd.prog 24 #[.agg #[.int .i64 1, .int .i64 a, .int .i64 b]] w fun e w' => e = .returned (.bool (opGood 1 a b)) ∧ Below w.heap.size w w' := by
  have E := Lib.hid (show ∀ b, opGood 1 a b = (inB a 0 39 && inB b 0 0) from fun b => by kernel_rfl)
  go_enter Tryd.func24, Tryd.ntmps24
  go_wp2_with (first | (go_at_call 37; refine (in_any _ _ _ _).mono ?_; rintro e w' ⟨rfl, rfl⟩) | (go_at_call 38; refine (refName_any _ _).mono ?_; rintro e w' ⟨rfl, rfl⟩))
  all_goals
    go_ret
    refine ⟨ret_bool ?_, (Below.refl _ _).alloc (Nat.le_refl _) _⟩
    rw [E.out, Bool.eq_iff_iff]
    simp only [inB, Bool.and_eq_true, decide_eq_true_eq, beq_iff_eq, Bool.false_eq_true, false_iff, true_iff, iff_true, iff_false] at *
    try omega

theorem refGood_2 (a b : Int) (w : World) :
    Calls Tryd.prog 24 #[.agg #[.int .i64 2, .int .i64 a, .int .i64 b]] w fun e w' => e = .returned (.bool (opGood 2 a b)) ∧ Below w.heap.size w w' := by
  have E := Lib.hid (show ∀ b, opGood 2 a b = (inB a 0 59 && inB b 0 0) from fun b => by kernel_rfl)
  go_enter Tryd.func24, Tryd.ntmps24
  go_wp2_with (first | (go_at_call 37; refine (in_any _ _ _ _).mono ?_; rintro e w' ⟨rfl, rfl⟩) | (go_at_call 38; refine (refName_any _ _).mono ?_; rintro e w' ⟨rfl, rfl⟩))
  all_goals
    go_ret
    refine ⟨ret_bool ?_, (Below.refl _ _).alloc (Nat.le_refl _) _⟩
    rw [E.out, Bool.eq_iff_iff]
    simp only [inB, Bool.and_eq_true, decide_eq_true_eq, beq_iff_eq, Bool.false_eq_true, false_iff, true_iff, iff_true, iff_false] at *
    try omega

theorem refGood_3 (a b : Int) (w : World) :
    Calls Tryd.prog 24 #[.agg #[.int .i64 3, .int .i64 a, .int .i64 b]] w fun e w' => e = .returned (.bool (opGood 3 a b)) ∧ Below w.heap.size w w' := by
  have E := Lib.hid (show ∀ b, opGood 3 a b = (inB a 0 59 && inB b 0 0) from fun b => by kernel_rfl)
  go_enter Tryd.func24, Tryd.ntmps24
  go_wp2_with (first | (go_at_call 37; refine (in_any _ _ _ _).mono ?_; rintro e w' ⟨rfl, rfl⟩) | (go_at_call 38; refine (refName_any _ _).mono ?_; rintro e w' ⟨rfl, rfl⟩))
  all_goals
    go_ret
    refine ⟨ret_bool ?_, (Below.refl _ _).alloc (Nat.le_refl _) _⟩
    rw [E.out, Bool.eq_iff_iff]
    simp only [inB, Bool.and_eq_true, decide_eq_true_eq, beq_iff_eq, Bool.false_eq_true, false_iff, true_iff, iff_true, iff_false] at *
    try omega

theorem refGood_4 (a b : Int) (w : World) :
    Calls Tryd.prog 24 #[.agg #[.int .i64 4, .int .i64 a, .int .i64 b]] w fun e w' => e = .returned (.bool (opGood 4 a b)) ∧ Below w.heap.size w w' := by
  have E := Lib.hid (show ∀ b, opGood 4 a b = (inB a 0 29 && inB b 0 0) from fun b => by kernel_rfl)
  go_enter Tryd.func24, Tryd.ntmps24
  go_wp2_with (first | (go_at_call 37; refine (in_any _ _ _ _).mono ?_; rintro e w' ⟨rfl, rfl⟩) | (go_at_call 38; refine (refName_any _ _).mono ?_; rintro e w' ⟨rfl, rfl⟩))
  all_goals
    go_ret
    refine ⟨ret_bool ?_, (Below.refl _ _).alloc (Nat.le_refl _) _⟩
    rw [E.out, Bool.eq_iff_iff]
    simp only [inB, Bool.and_eq_true, decide_eq_true_eq, beq_iff_eq, Bool.false_eq_true, false_iff, true_iff, iff_true, iff_false] at *
    try omega

theorem refGood_6 (a b : Int) (w : World) :
    Calls Tryd.prog 24 #[.agg #[.int .i64 6, .int .i64 a, .int .i64 b]] w fun e w' => e = .returned (.bool (opGood 6 a b)) ∧ Below w.heap.size w w' := by
  have E := Lib.hid (show ∀ b, opGood 6 a b = (inB a 1 59 && inB b 0 30) from fun b => by kernel_rfl)
  go_enter Tryd.func24, Tryd.ntmps24
  go_wp2_with (first | (go_at_call 37; refine (in_any _ _ _ _).mono ?_; rintro e w' ⟨rfl, rfl⟩) | (go_at_call 38; refine (refName_any _ _).mono ?_; rintro e w' ⟨rfl, rfl⟩))
  all_goals
    go_ret
    refine ⟨ret_bool ?_, (Below.refl _ _).alloc (Nat.le_refl _) _⟩
    rw [E.out, Bool.eq_iff_iff]
    simp only [inB, Bool.and_eq_true, decide_eq_true_eq, beq_iff_eq, Bool.false_eq_true, false_iff, true_iff, iff_true, iff_false] at *
    try omega

theorem refGood_10 (a b : Int) (w : World) :
    Calls Tryd.prog 24 #[.agg #[.int .i64 10, .int .i64 a, .int .i64 b]] w fun e w' => e = .returned (.bool (opGood 10 a b)) ∧ Below w.heap.size w w' := by
  have E := Lib.hid (show ∀ b, opGood 10 a b = (inB a 0 599 && inB b 0 0) from fun b => by kernel_rfl)
  go_enter Tryd.func24, Tryd.ntmps24
  go_wp2_with (first | (go_at_call 37; refine (in_any _ _ _ _).mono ?_; rintro e w' ⟨rfl, rfl⟩) | (go_at_call 38; refine (refName_any _ _).mono ?_; rintro e w' ⟨rfl, rfl⟩))
  all_goals
    go_ret
    refine ⟨ret_bool ?_, (Below.refl _ _).alloc (Nat.le_refl _) _⟩
    rw [E.out, Bool.eq_iff_iff]
    simp only [inB, Bool.and_eq_true, decide_eq_true_eq, beq_iff_eq, Bool.false_eq_true, false_iff, true_iff, iff_true, iff_false] at *
    try omega

theorem refGood_11 (a b : Int) (w : World) :
    Calls Tryd.prog 24 #[.agg #[.int .i64 11, .int .i64 a, .int .i64 b]] w fun e w' => e = .returned (.bool (opGood 11 a b)) ∧ Below w.heap.size w w' := by
  have E := Lib.hid (show ∀ b, opGood 11 a b = (inB a 0 599 && inB b 0 0) from fun b => by kernel_rfl)
  go_enter Tryd.func24, Tryd.ntmps24
  go_wp2_with (first | (go_at_call 37; refine (in_any _ _ _ _).mono ?_; rintro e w' ⟨rfl, rfl⟩) | (go_at_call 38; refine (refName_any _ _).mono ?_; rintro e w' ⟨rfl, rfl⟩))
  all_goals
    go_ret
    refine ⟨ret_bool ?_, (Below.refl _ _).alloc (Nat.le_refl _) _⟩
    rw [E.out, Bool.eq_iff_iff]
    simp only [inB, Bool.and_eq_true, decide_eq_true_eq, beq_iff_eq, Bool.false_eq_true, false_iff, true_iff, iff_true, iff_false] at *
    try omega

theorem refGood_19 (a b : Int) (w : World) :
    Calls Tryd.prog 24 #[.agg #[.int .i64 19, .int .i64 a, .int .i64 b]] w fun e w' => e = .returned (.bool (opGood 19 a b)) ∧ Below w.heap.size w w' := by
  have E := Lib.hid (show ∀ b, opGood 19 a b = (inB a 0 255 && inB b 1 8) from fun b => by kernel_rfl)
  go_enter Tryd.func24, Tryd.ntmps24
  go_wp2_with (first | (go_at_call 37; refine (in_any _ _ _ _).mono ?_; rintro e w' ⟨rfl, rfl⟩) | (go_at_call 38; refine (refName_any _ _).mono ?_; rintro e w' ⟨rfl, rfl⟩))
  all_goals
    go_ret
    refine ⟨ret_bool ?_, (Below.refl _ _).alloc (Nat.le_refl _) _⟩
    rw [E.out, Bool.eq_iff_iff]
    simp only [inB, Bool.and_eq_true, decide_eq_true_eq, beq_iff_eq, Bool.false_eq_true, false_iff, true_iff, iff_true, iff_false] at *
    try omega

theorem refGood_20 (a b : Int) (w : World) :
    Calls Tryd.prog 24 #[.agg #[.int .i64 20, .int .i64 a, .int .i64 b]] w fun e w' => e = .returned (.bool (opGood 20 a b)) ∧ Below w.heap.size w w' := by
  have E := Lib.hid (show ∀ b, opGood 20 a b = (inB a 0 7 && inB b 0 0) from fun b => by kernel_rfl)
  go_enter Tryd.func24, Tryd.ntmps24
  go_wp2_with (first | (go_at_call 37; refine (in_any _ _ _ _).mono ?_; rintro e w' ⟨rfl, rfl⟩) | (go_at_call 38; refine (refName_any _ _).mono ?_; rintro e w' ⟨rfl, rfl⟩))
  all_goals
    go_ret
    refine ⟨ret_bool ?_, (Below.refl _ _).alloc (Nat.le_refl _) _⟩
    rw [E.out, Bool.eq_iff_iff]
    simp only [inB, Bool.and_eq_true, decide_eq_true_eq, beq_iff_eq, Bool.false_eq_true, false_iff, true_iff, iff_true, iff_false] at *
    try omega

theorem refGood_21 (a b : Int) (w : World) :
    Calls Tryd.prog 24 #[.agg #[.int .i64 21, .int .i64 a, .int .i64 b]] w fun e w' => e = .returned (.bool (opGood 21 a b)) ∧ Below w.heap.size w w' := by
  have E := Lib.hid (show ∀ b, opGood 21 a b = (inB a (-4611686018427387904) 4611686018427387903 && inB b 0 0) from fun b => by kernel_rfl)
  go_enter Tryd.func24, Tryd.ntmps24
  go_wp2_with (first | (go_at_call 37; refine (in_any _ _ _ _).mono ?_; rintro e w' ⟨rfl, rfl⟩) | (go_at_call 38; refine (refName_any _ _).mono ?_; rintro e w' ⟨rfl, rfl⟩))
  all_goals
    go_ret
    refine ⟨ret_bool ?_, (Below.refl _ _).alloc (Nat.le_refl _) _⟩
    rw [E.out, Bool.eq_iff_iff]
    simp only [inB, Bool.and_eq_true, decide_eq_true_eq, beq_iff_eq, Bool.false_eq_true, false_iff, true_iff, iff_true, iff_false] at *
    try omega

theorem refGood_22 (a b : Int) (w : World) :
    Calls Tryd.prog 24 #[.agg #[.int .i64 22, .int .i64 a, .int .i64 b]] w fun e w' => e = .returned (.bool (opGood 22 a b)) ∧ Below w.heap.size w w' := by
  have E := Lib.hid (show ∀ b, opGood 22 a b = (inB a 0 255 && inB b 0 0) from fun b => by kernel_rfl)
  go_enter Tryd.func24, Tryd.ntmps24
  go_wp2_with (first | (go_at_call 37; refine (in_any _ _ _ _).mono ?_; rintro e w' ⟨rfl, rfl⟩) | (go_at_call 38; refine (refName_any _ _).mono ?_; rintro e w' ⟨rfl, rfl⟩))
  all_goals
    go_ret
    refine ⟨ret_bool ?_, (Below.refl _ _).alloc (Nat.le_refl _) _⟩
    rw [E.out, Bool.eq_iff_iff]
    simp only [inB, Bool.and_eq_true, decide_eq_true_eq, beq_iff_eq, Bool.false_eq_true, false_iff, true_iff, iff_true, iff_false] at *
    try omega

theorem refGood_33 (a b : Int) (w : World) :
    Calls Tryd.prog 24 #[.agg #[.int .i64 33, .int .i64 a, .int .i64 b]] w fun e w' => e = .returned (.bool (opGood 33 a b)) ∧ Below w.heap.size w w' := by
  have E := Lib.hid (show ∀ b, opGood 33 a b = (inB a 0 599 && inB b 0 0) from fun b => by kernel_rfl)
  go_enter Tryd.func24, Tryd.ntmps24
  go_wp2_with (first | (go_at_call 37; refine (in_any _ _ _ _).mono ?_; rintro e w' ⟨rfl, rfl⟩) | (go_at_call 38; refine (refName_any _ _).mono ?_; rintro e w' ⟨rfl, rfl⟩))
  all_goals
    go_ret
    refine ⟨ret_bool ?_, (Below.refl _ _).alloc (Nat.le_refl _) _⟩
    rw [E.out, Bool.eq_iff_iff]
    simp only [inB, Bool.and_eq_true, decide_eq_true_eq, beq_iff_eq, Bool.false_eq_true, false_iff, true_iff, iff_true, iff_false] at *
    try omega

theorem host_good (a b : Int) : opGood 36 a b = (inB a 0 3 && (inB b 0 0 || (decide (a = 3) && inB b 0 39))) := by
  have e : opGood 36 a b = (inB a 0 3 && inB b (spL (hoT.getD a.toNat rowZ).2.2.1) (spH (hoT.getD a.toNat rowZ).2.2.1)) := rfl
  rw [e]
  by_cases h : 0 ≤ a ∧ a ≤ 3
  · obtain rfl | rfl | rfl | rfl : a = 0 ∨ a = 1 ∨ a = 2 ∨ a = 3 := by omega
    · rw [Bool.eq_iff_iff]; simp [hoT, spT, spL, spH, inB]
    · rw [Bool.eq_iff_iff]; simp [hoT, spT, spL, spH, inB]
    · rw [Bool.eq_iff_iff]; simp [hoT, spT, spL, spH, inB]
    · rw [Bool.eq_iff_iff]; simp [hoT, spT, spL, spH, inB]; omega
  · have : inB a 0 3 = false := decide_eq_false h
    rw [this]; rfl

theorem refGood_36 (a b : Int) (w : World) :
    Calls Tryd.prog 24 #[.agg #[.int .i64 36, .int .i64 a, .int .i64 b]] w fun e w' => e = .returned (.bool (opGood 36 a b)) ∧ Below w.heap.size w w' := by
  have E := Lib.hid (host_good a b)
  go_enter Tryd.func24, Tryd.ntmps24
  go_wp2_with (first | (go_at_call 37; refine (in_any _ _ _ _).mono ?_; rintro e w' ⟨rfl, rfl⟩) | (go_at_call 38; refine (refName_any _ _).mono ?_; rintro e w' ⟨rfl, rfl⟩))
  all_goals
    go_ret
    refine ⟨ret_bool ?_, (Below.refl _ _).alloc (Nat.le_refl _) _⟩
    rw [E.out, Bool.eq_iff_iff]
    simp only [inB, Bool.and_eq_true, Bool.or_eq_true, decide_eq_true_eq, beq_iff_eq, Bool.false_eq_true, false_iff, true_iff, iff_true, iff_false] at *
    try omega

def plainOp (o : Int) : Bool := (o != 0) && (o != 1) && (o != 2) && (o != 3) && (o != 4) && (o != 6) && (o != 10) && (o != 11) && (o != 19) && (o != 20) && (o != 21) && (o != 22) && (o != 33) && (o != 36)
theorem plain_good (o a b : Int) (h0 : 0 ≤ o) (h1 : o < 38) (h : plainOp o = true) : opGood o a b = (inB a 0 0 && inB b 0 0) := by
  obtain ⟨k, rfl⟩ := Int.eq_ofNat_of_zero_le h0
  have hk : k < 38 := by omega
  clear h0 h1
  have hall : ∀ k : Nat, k < 38 → plainOp k = true → opA k = 0 ∧ opB k = 0 ∧ ((k : Int) = 36) = False := by decide
  obtain ⟨e1, e2, e3⟩ := hall k hk h
  have e4 : (rowAtP (k : Int) a).2.2.1 = 0 := by
    unfold rowAtP
    rw [if_neg (by rw [e3]; exact id)]
    exact e2
  unfold opGood
  rw [e4]
  have : decide (0 ≤ (k : Int) ∧ (k : Int) < 38) = true := decide_eq_true ⟨by omega, by omega⟩
  rw [this, Bool.true_and, show opA (k : Int).toNat = 0 from e1]
  rfl
theorem plain_out (o a b : Int) (h : o < 0 ∨ 38 ≤ o) : opGood o a b = false := by
  unfold opGood
  rw [show decide (0 ≤ o ∧ o < 38) = false from decide_eq_false (by omega)]
  rfl
theorem nm_toList (k : Nat) (h : k < 38) : ¬ (opNm k).toList = [] := by
  have hall : ∀ k : Nat, k < 38 → (opT.getD k ([], 0, 0, 0, 0)).1 ≠ [] := by decide
  intro e
  apply hall k h
  rw [ByteArray.toList_eq] at e
  exact e

theorem refGood_plain (o a b : Int) (w : World) (h : plainOp o = true) :
    Calls Tryd.prog 24 #[.agg #[.int .i64 o, .int .i64 a, .int .i64 b]] w fun e w' => e = .returned (.bool (opGood o a b)) ∧ Below w.heap.size w w' := by
  have h' := h
  simp only [plainOp, Bool.and_eq_true, bne_iff_ne, ne_eq] at h'
  obtain ⟨⟨⟨⟨⟨⟨⟨⟨⟨⟨⟨⟨⟨n0, n1⟩, n2⟩, n3⟩, n4⟩, n6⟩, n10⟩, n11⟩, n19⟩, n20⟩, n21⟩, n22⟩, n33⟩, n36⟩ := h'
  by_cases c : 0 ≤ o ∧ o < 38
  · have E := Lib.hid (show ∀ b, opGood o a b = _ from fun b => plain_good o a b c.1 c.2 h)
    have e1 : ¬ (nmOf o).toList = [] := by
      obtain ⟨k, rfl⟩ := Int.eq_ofNat_of_zero_le c.1
      rw [nmOf_in k (by omega)]
      exact nm_toList k (by omega)
    have e2 : (nmOf o).toList.isEmpty = false := by simpa using e1
    clear c h
    go_enter Tryd.func24, Tryd.ntmps24
    go_wp2_with (first | (go_at_call 37; refine (in_any _ _ _ _).mono ?_; rintro e w' ⟨rfl, rfl⟩) | (go_at_call 38; refine (refName_any _ _).mono ?_; rintro e w' ⟨rfl, rfl⟩))
    all_goals
      go_ret
      refine ⟨ret_bool ?_, (Below.refl _ _).alloc (Nat.le_refl _) _⟩
      rw [E.out, Bool.eq_iff_iff]
      simp only [inB, Bool.and_eq_true, decide_eq_true_eq, beq_iff_eq, Bool.false_eq_true, false_iff, true_iff, iff_true, iff_false] at *
      try omega
  · have E := Lib.hid (plain_out o a b (by omega))
    have e1 : (nmOf o).toList = [] := by rw [nmOf_out o (by omega), ByteArray.toList_eq]
    have e2 : (nmOf o).toList.isEmpty = true := by rw [e1]; rfl
    clear c h
    go_enter Tryd.func24, Tryd.ntmps24
    go_wp2_with (first | (go_at_call 37; refine (in_any _ _ _ _).mono ?_; rintro e w' ⟨rfl, rfl⟩) | (go_at_call 38; refine (refName_any _ _).mono ?_; rintro e w' ⟨rfl, rfl⟩))
    go_ret
    exact ⟨ret_bool E.out.symm, (Below.refl _ _).alloc (Nat.le_refl _) _⟩

theorem refGood_any (o a b : Int) (w : World) :
    Calls Tryd.prog 24 #[.agg #[.int .i64 o, .int .i64 a, .int .i64 b]] w fun e w' => e = .returned (.bool (opGood o a b)) ∧ Below w.heap.size w w' := by
  by_cases h0 : o = 0
  · subst h0; exact refGood_0 a b w
  by_cases h1 : o = 1
  · subst h1; exact refGood_1 a b w
  by_cases h2 : o = 2
  · subst h2; exact refGood_2 a b w
  by_cases h3 : o = 3
  · subst h3; exact refGood_3 a b w
  by_cases h4 : o = 4
  · subst h4; exact refGood_4 a b w
  by_cases h6 : o = 6
  · subst h6; exact refGood_6 a b w
  by_cases h10 : o = 10
  · subst h10; exact refGood_10 a b w
  by_cases h11 : o = 11
  · subst h11; exact refGood_11 a b w
  by_cases h19 : o = 19
  · subst h19; exact refGood_19 a b w
  by_cases h20 : o = 20
  · subst h20; exact refGood_20 a b w
  by_cases h21 : o = 21
  · subst h21; exact refGood_21 a b w
  by_cases h22 : o = 22
  · subst h22; exact refGood_22 a b w
  by_cases h33 : o = 33
  · subst h33; exact refGood_33 a b w
  by_cases h36 : o = 36
  · subst h36; exact refGood_36 a b w
  exact refGood_plain o a b w (by simp [plainOp, h0, h1, h2, h3, h4, h6, h10, h11, h19, h20, h21, h22, h33, h36])

def opEnds (o : Int) : Bool := o == 8 || o == 9 || o == 10 || o == 35
theorem refEnds_any (o a b : Int) (w : World) :
    Calls Tryd.prog 26 #[.agg #[.int .i64 o, .int .i64 a, .int .i64 b]] w fun e w' => e = .returned (.bool (opEnds o)) ∧ Below w.heap.size w w' := by
  have E := Lib.hid (show ∀ o : Int, opEnds o = (o == 8 || o == 9 || o == 10 || o == 35) from fun _ => rfl)
  go_enter Tryd.func26, Tryd.ntmps26
  go_wp2
  all_goals
    go_ret
    exact ⟨ret_bool (by rw [E.out]; try simp [*]), (Below.refl _ _).alloc (Nat.le_refl _) _⟩
end Go.Proofs.YtlfbfnkmbceejaaDoor
