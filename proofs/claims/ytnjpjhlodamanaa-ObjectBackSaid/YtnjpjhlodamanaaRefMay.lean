/-
  The document's answers on an object alone (stockpotref03: May, Words).
  Conditions: as each states.
-/
import Derived.Test.YtnjpjhlodamanaaObD
namespace Go.Proofs.Ytnjpjhlodamanaa
open Go.ChangeShapes Go.WideShapes Go.ChangeAt Go.RowKit
set_option linter.unusedVariables false
set_option linter.unusedSimpArgs false
set_option maxRecDepth 100000

theorem text_empty (s : ByteArray) : s.toList.isEmpty = decide (s.size = 0) := by
  rw [Lib.toList_data, Lib.size_eq]
  cases s.data.toList <;> simp

/-- 'headR', read as the document writes it. -/
theorem headR_1 (t : Int) (nf nt : Nat) : headR 1 t nf nt = decide (0 ≤ t ∧ t ≤ 255 ∧ 1 ≤ nf ∧ nf ≤ 8 ∧ nt = 0) := by
  unfold headR hasH sizeH mayH
  rw [if_neg (by decide), if_neg (by decide), Bool.eq_iff_iff, Bool.and_eq_true, decide_eq_true_eq, decide_eq_true_eq, decide_eq_true_eq]
  omega
theorem headR_2 (t : Int) (nf nt : Nat) : headR 2 t nf nt = decide (t = 0 ∧ nf = 0 ∧ nt ≤ 400) := by
  unfold headR hasH sizeH mayH
  rw [if_pos rfl, if_pos rfl, Bool.eq_iff_iff, Bool.and_eq_true, decide_eq_true_eq, decide_eq_true_eq, decide_eq_true_eq]
  omega
theorem headR_3 (t : Int) (nf nt : Nat) : headR 3 t nf nt = decide (t = 0 ∧ nf ≤ 400 ∧ nt = 0) := by
  unfold headR hasH sizeH mayH
  rw [if_neg (by decide), if_neg (by decide), Bool.eq_iff_iff, Bool.and_eq_true, decide_eq_true_eq, decide_eq_true_eq, decide_eq_true_eq]
  omega
theorem headR_4 (t : Int) (nf nt : Nat) : headR 4 t nf nt = decide (0 ≤ t ∧ t < 60 ∧ nf ≤ 30 ∧ nt = 0) := by
  unfold headR hasH sizeH mayH
  rw [if_neg (by decide), if_neg (by decide), Bool.eq_iff_iff, Bool.and_eq_true, decide_eq_true_eq, decide_eq_true_eq, decide_eq_true_eq]
  omega
theorem headR_other (k t : Int) (nf nt : Nat) (h1 : k ≠ 1) (h2 : k ≠ 2) (h3 : k ≠ 3) (h4 : k ≠ 4) : headR k t nf nt = false := by
  cases h : headR k t nf nt with
  | false => rfl
  | true =>
    rcases headR_kind h with e | e | e | e
    · exact absurd e h1
    · exact absurd e h2
    · exact absurd e h3
    · exact absurd e h4

set_option maxHeartbeats 2000000 in
theorem refMay_1 (t : Int) (a : Option Addr) (nf c : Nat) (s : ByteArray) (w : World) :
    Calls Try.prog 10 #[obj 1 t a nf c s] w fun e w' => e = .returned (.bool (headR 1 t nf s.size)) ∧ Below w.heap.size w w' := by
  have HE := Lib.hid (text_empty s)
  have HR := Lib.hid (fun t => headR_1 t nf s.size)
  go_enter Try.func10, Try.ntmps10
  go_wp2
  all_goals
    go_ret
    refine ⟨ret_bool ?_, bl_alloc (Below.refl _ _) _⟩
    rw [HR.out]
    first | (rw [HE.out]; exact decide_eq_decide.2 (by omega)) | (symm; exact decide_eq_false (by omega))
set_option maxHeartbeats 2000000 in
theorem refMay_2 (t : Int) (a : Option Addr) (nf c : Nat) (s : ByteArray) (w : World) :
    Calls Try.prog 10 #[obj 2 t a nf c s] w fun e w' => e = .returned (.bool (headR 2 t nf s.size)) ∧ Below w.heap.size w w' := by
  have HR := Lib.hid (fun t => headR_2 t nf s.size)
  go_enter Try.func10, Try.ntmps10
  go_wp2
  all_goals
    go_ret
    refine ⟨ret_bool ?_, bl_alloc (Below.refl _ _) _⟩
    rw [HR.out]
    first | exact decide_eq_decide.2 (by omega) | (symm; exact decide_eq_false (by omega))
set_option maxHeartbeats 2000000 in
theorem refMay_3 (t : Int) (a : Option Addr) (nf c : Nat) (s : ByteArray) (w : World) :
    Calls Try.prog 10 #[obj 3 t a nf c s] w fun e w' => e = .returned (.bool (headR 3 t nf s.size)) ∧ Below w.heap.size w w' := by
  have HE := Lib.hid (text_empty s)
  have HR := Lib.hid (fun t => headR_3 t nf s.size)
  go_enter Try.func10, Try.ntmps10
  go_wp2
  all_goals
    go_ret
    refine ⟨ret_bool ?_, bl_alloc (Below.refl _ _) _⟩
    rw [HR.out]
    first | (rw [HE.out]; exact decide_eq_decide.2 (by omega)) | (symm; exact decide_eq_false (by omega))
set_option maxHeartbeats 2000000 in
theorem refMay_4 (t : Int) (a : Option Addr) (nf c : Nat) (s : ByteArray) (w : World) :
    Calls Try.prog 10 #[obj 4 t a nf c s] w fun e w' => e = .returned (.bool (headR 4 t nf s.size)) ∧ Below w.heap.size w w' := by
  have HE := Lib.hid (text_empty s)
  have HR := Lib.hid (fun t => headR_4 t nf s.size)
  go_enter Try.func10, Try.ntmps10
  go_wp2
  all_goals
    go_ret
    refine ⟨ret_bool ?_, bl_alloc (Below.refl _ _) _⟩
    rw [HR.out]
    first | (rw [HE.out]; exact decide_eq_decide.2 (by omega)) | (symm; exact decide_eq_false (by omega))
theorem refMay_other (k t : Int) (a : Option Addr) (nf c : Nat) (s : ByteArray) (w : World) (h1 : k ≠ 1) (h2 : k ≠ 2) (h3 : k ≠ 3) (h4 : k ≠ 4) :
    Calls Try.prog 10 #[obj k t a nf c s] w fun e w' => e = .returned (.bool (headR k t nf s.size)) ∧ Below w.heap.size w w' := by
  rw [headR_other k t nf s.size h1 h2 h3 h4]
  have e1 : (k == 1) = false := by simpa using h1
  have e2 : (k == 2) = false := by simpa using h2
  have e3 : (k == 3) = false := by simpa using h3
  have e4 : (k == 4) = false := by simpa using h4
  clear h1 h2 h3 h4
  go_enter Try.func10, Try.ntmps10
  go_wp2
  go_ret
  exact ⟨rfl, bl_alloc (Below.refl _ _) _⟩

theorem refMay_any (k t : Int) (a : Option Addr) (nf c : Nat) (s : ByteArray) (w : World) :
    Calls Try.prog 10 #[obj k t a nf c s] w fun e w' => e = .returned (.bool (headR k t nf s.size)) ∧ Below w.heap.size w w' := by
  by_cases h1 : k = 1
  · subst h1; exact refMay_1 t a nf c s w
  by_cases h2 : k = 2
  · subst h2; exact refMay_2 t a nf c s w
  by_cases h3 : k = 3
  · subst h3; exact refMay_3 t a nf c s w
  by_cases h4 : k = 4
  · subst h4; exact refMay_4 t a nf c s w
  exact refMay_other k t a nf c s w h1 h2 h3 h4
end Go.Proofs.Ytnjpjhlodamanaa
