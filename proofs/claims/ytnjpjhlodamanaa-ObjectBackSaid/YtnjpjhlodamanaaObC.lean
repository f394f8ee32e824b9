/-
  The head of an object that may not be ('headOf').
  Conditions: as each states.
-/
import Derived.Test.YtnjpjhlodamanaaObB
namespace Go.Proofs.Ytnjpjhlodamanaa
open Go.ChangeShapes Go.WideShapes Go.ChangeAt Go.RowKit
set_option linter.unusedVariables false
set_option linter.unusedSimpArgs false
set_option maxRecDepth 100000

theorem headOf_none (k t : Int) (a : Option Addr) (nf c : Nat) (s : ByteArray) (h : kindV k = .nilIface) (w : World) :
    Calls Try.prog 28 #[obj k t a nf c s] w fun e w' => e = .returned (.tuple #[hd 0 0 0, .nilIface, .bool false]) ∧ Below w.heap.size w w' := by
  have H := Lib.hid h
  clear h
  go_enter Try.func28, Try.ntmps28
  go_wp2_with fail
  refine (kindOf_any _ _).mono ?_
  rintro e w1 ⟨rfl, rfl⟩
  rw [H.out]
  go_wp2
  refine bodyPost_ret (v := .tuple #[hd 0 0 0, .nilIface, .bool false]) (by simp [results, Try.results28, go_sem]) rfl ⟨rfl, ?_⟩
  repeat (first | exact Below.refl _ _ | refine bl_alloc ?_ _ | refine bl_drew ?_ | refine bl_set ?_ (by simp) _)

set_option maxHeartbeats 2000000 in
theorem headOf_has (k t : Int) (hk : k = 1 ∨ k = 2 ∨ k = 3 ∨ k = 4) (a : Option Addr) (nf c : Nat) (s : ByteArray) (h1 : hasH k nf s.size = false) (w : World) :
    Calls Try.prog 28 #[obj k t a nf c s] w fun e w' => e = .returned (.tuple #[hd 0 0 0, .nilIface, .bool false]) ∧ Below w.heap.size w w' := by
  rcases hk with rfl | rfl | rfl | rfl
  all_goals
    go_enter Try.func28, Try.ntmps28
    go_wp2_with fail
    refine (kindOf_any _ _).mono ?_
    rintro e w1 ⟨rfl, rfl⟩
    simp only [kindV, if_true, if_false, reduceIte, Int.reduceEq]
    go_wp2_with fail
    first
      | refine (fsize_any _ (by decide) _ _ _ _ _ _).mono ?_
      | refine (ssize_any _ _ _ _ _ _).mono ?_
    rintro e w1 ⟨rfl, b1⟩
    obtain ⟨hc, hf⟩ := bcell b1
    have hz := b1.size
    simp at hz
    have hz0 : w.heap.size < w1.heap.size := by omega
    have hz1 : w.heap.size + 1 < w1.heap.size := by omega
    go_wp2
    refine bodyPost_ret (v := .tuple #[hd 0 0 0, .nilIface, .bool false]) (by simp [results, Try.results28, go_sem, hc, hz0, hz1]) rfl ⟨rfl, ?_⟩
    repeat (first | exact Below.refl _ _ | refine bl_alloc ?_ _ | refine bl_drew ?_ | refine bl_set ?_ (by simp) _ | refine bl_call ?_ b1)

set_option maxHeartbeats 2000000 in
theorem headOf_may (k t : Int) (hk : k = 1 ∨ k = 2 ∨ k = 3 ∨ k = 4) (a : Option Addr) (nf c : Nat) (s : ByteArray) (h1 : hasH k nf s.size = true) (h2 : mayH k t (sizeH k nf s.size) = false) (w : World) :
    Calls Try.prog 28 #[obj k t a nf c s] w fun e w' => e = .returned (.tuple #[hd 0 0 0, .nilIface, .bool false]) ∧ Below w.heap.size w w' := by
  rcases hk with rfl | rfl | rfl | rfl
  all_goals
    unfold sizeH at h2
    simp only [reduceIte, Int.reduceEq] at h2
    go_enter Try.func28, Try.ntmps28
    go_wp2_with fail
    refine (kindOf_any _ _).mono ?_
    rintro e w1 ⟨rfl, rfl⟩
    simp only [kindV, if_true, if_false, reduceIte, Int.reduceEq]
    go_wp2_with fail
    first
      | refine (fsize_any _ (by decide) _ _ _ _ _ _).mono ?_
      | refine (ssize_any _ _ _ _ _ _).mono ?_
    rintro e w1 ⟨rfl, b1⟩
    obtain ⟨hc, hf⟩ := bcell b1
    have hz := b1.size
    simp at hz
    have hz0 : w.heap.size < w1.heap.size := by omega
    have hz1 : w.heap.size + 1 < w1.heap.size := by omega
    go_wp2_with fail
    first
      | refine (may1_any _ _ _).mono ?_
      | refine (may2_any _ _ _).mono ?_
      | refine (may3_any _ _ _).mono ?_
      | refine (may4_any _ _ _).mono ?_
    rintro e w2 ⟨rfl, b2⟩
    obtain ⟨hc2, hf2⟩ := bcell b2
    have hz2 := b2.size
    have hz3 : w.heap.size < w2.heap.size := by omega
    have hz4 : w.heap.size + 1 < w2.heap.size := by omega
    go_wp2
    refine bodyPost_ret (v := .tuple #[hd 0 0 0, .nilIface, .bool false]) (by simp [results, Try.results28, go_sem, hc2, hc, hz0, hz1, hz3, hz4]) rfl ⟨rfl, ?_⟩
    repeat (first | exact Below.refl _ _ | refine bl_alloc ?_ _ | refine bl_drew ?_ | refine bl_set ?_ (by simp) _ | refine bl_call ?_ b2 | refine bl_call ?_ b1)

theorem headOf_no (k t : Int) (a : Option Addr) (nf c : Nat) (s : ByteArray) (h : headR k t nf s.size = false) (w : World) :
    Calls Try.prog 28 #[obj k t a nf c s] w fun e w' => e = .returned (.tuple #[hd 0 0 0, .nilIface, .bool false]) ∧ Below w.heap.size w w' := by
  by_cases hk : k = 1 ∨ k = 2 ∨ k = 3 ∨ k = 4
  · cases h1 : hasH k nf s.size with
    | false => exact headOf_has k t hk a nf c s h1 w
    | true => exact headOf_may k t hk a nf c s h1 (by simpa [headR, h1] using h) w
  · refine headOf_none k t a nf c s ?_ w
    simp only [not_or] at hk
    simp [kindV, hk.1, hk.2.1, hk.2.2.1, hk.2.2.2]

/-- What 'headOf' tells. -/
def headT (k t : Int) (nf nt : Nat) : Value := if headR k t nf nt then .tuple #[hd k t (sizeH k nf nt), kindV k, .bool true] else .tuple #[hd 0 0 0, .nilIface, .bool false]

end Go.Proofs.Ytnjpjhlodamanaa
