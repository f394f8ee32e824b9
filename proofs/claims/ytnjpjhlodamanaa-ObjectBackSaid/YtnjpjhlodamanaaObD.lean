/-
  How many words an object takes ('Words'), its head ('Head').
  Conditions: as each states.
-/
import Derived.Test.YtnjpjhlodamanaaObC
namespace Go.Proofs.Ytnjpjhlodamanaa
open Go.ChangeShapes Go.WideShapes Go.ChangeAt Go.RowKit
set_option linter.unusedVariables false
set_option linter.unusedSimpArgs false
set_option maxRecDepth 100000

def wordsR (k t : Int) (nf nt : Nat) : Nat := if headR k t nf nt then 1 + longH k (sizeH k nf nt) else 0
def headWR (k t : Int) (nf nt : Nat) : Int := if headR k t nf nt then headW k t (sizeH k nf nt) else 0

theorem owords_no (k t : Int) (a : Option Addr) (nf c : Nat) (s : ByteArray) (h : headR k t nf s.size = false) (w : World) :
    Calls Try.prog 13 #[obj k t a nf c s] w fun e w' => e = .returned (.int .i64 0) ∧ Below w.heap.size w w' := by
  go_enter Try.func13, Try.ntmps13
  go_wp2_with fail
  refine (headOf_no k t a nf c s h _).mono ?_
  rintro e w1 ⟨rfl, b1⟩
  go_wp2
  go_ret
  refine ⟨rfl, ?_⟩
  repeat (first | exact Below.refl _ _ | refine bl_alloc ?_ _ | refine bl_drew ?_ | refine bl_set ?_ (by have := b1.size; simp at this ⊢; omega) _ | refine bl_call ?_ b1)

set_option maxHeartbeats 2000000 in
theorem owords_yes (k t : Int) (a : Option Addr) (nf c : Nat) (s : ByteArray) (h : headR k t nf s.size = true) (w : World) :
    Calls Try.prog 13 #[obj k t a nf c s] w fun e w' => e = .returned (.int .i64 ((1 + longH k (sizeH k nf s.size) : Nat) : Int)) ∧ Below w.heap.size w w' := by
  have hk := headR_kind h
  have hb : sizeH k nf s.size ≤ 400 := by
    simp only [headR, Bool.and_eq_true] at h
    have := mayH_bounds h.2
    omega
  rcases hk with rfl | rfl | rfl | rfl
  all_goals
    have HY := Lib.hid (headOf_yes _ t a nf c s h)
    have HB := Lib.hid hb
    generalize hS : sizeH _ nf s.size = S at HY HB ⊢
    have HR : S ≤ 400 := HB.out
    clear hS HB hb h
    go_enter Try.func13, Try.ntmps13
    go_wp2_with fail
    refine (HY.out _).mono ?_
    rintro e w1 ⟨rfl, b1⟩
    simp only [kindV, if_true, if_false, reduceIte, Int.reduceEq]
    have hz := b1.size
    simp at hz
    go_wp2_with fail
    first
      | refine (long_f _ _).mono ?_
      | refine (long_s _ (by omega) _).mono ?_
    rintro e w2 ⟨rfl, b2⟩
    go_wp2
    go_ret
    refine ⟨ret_int (by simp [longH]; try omega), ?_⟩
    repeat (first | exact Below.refl _ _ | refine bl_alloc ?_ _ | refine bl_drew ?_ | refine bl_set ?_ (by simp; omega) _ | refine bl_call ?_ b2 | refine bl_call ?_ b1)

theorem owords_any (k t : Int) (a : Option Addr) (nf c : Nat) (s : ByteArray) (w : World) :
    Calls Try.prog 13 #[obj k t a nf c s] w fun e w' => e = .returned (.int .i64 (wordsR k t nf s.size : Nat)) ∧ Below w.heap.size w w' := by
  cases h : headR k t nf s.size with
  | true => exact (owords_yes k t a nf c s h w).mono fun e w' ⟨he, hb⟩ => ⟨by rw [he, wordsR, if_pos h], hb⟩
  | false => exact (owords_no k t a nf c s h w).mono fun e w' ⟨he, hb⟩ => ⟨by rw [he, wordsR, if_neg (by rw [h]; decide)]; rfl, hb⟩

theorem ohead_any (k t : Int) (a : Option Addr) (nf c : Nat) (s : ByteArray) (w : World) :
    Calls Try.prog 25 #[obj k t a nf c s] w fun e w' => e = .returned (.tuple #[.int .u64 (headWR k t nf s.size), .bool (headR k t nf s.size)]) ∧ Below w.heap.size w w' := by
  cases h : headR k t nf s.size with
  | true =>
    have h' := h
    simp only [headR, Bool.and_eq_true] at h'
    have hb := mayH_bounds h'.2
    have e : headWR k t nf s.size = headW k t (sizeH k nf s.size) := by rw [headWR, if_pos h]
    rw [e]
    have HY := Lib.hid (headOf_yes _ t a nf c s h)
    have HW := Lib.hid (word_any' k t (sizeH k nf s.size) (by omega) (by omega) (by omega))
    clear e h' hb h
    go_enter Try.func25, Try.ntmps25
    go_wp2_with fail
    refine (HY.out _).mono ?_
    rintro e w1 ⟨rfl, b1⟩
    have hz := b1.size
    simp at hz
    go_wp2_with fail
    refine (HW.out _).mono ?_
    rintro e w2 ⟨rfl, b2⟩
    go_wp2
    go_ret2
    refine ⟨rfl, ?_⟩
    repeat (first | exact Below.refl _ _ | refine bl_alloc ?_ _ | refine bl_drew ?_ | refine bl_set ?_ (by simp; omega) _ | refine bl_call ?_ b2 | refine bl_call ?_ b1)
  | false =>
    have e : headWR k t nf s.size = headW 0 0 0 := by rw [headWR, if_neg (by rw [h]; decide)]; rfl
    rw [e]
    have HY := Lib.hid (headOf_no _ t a nf c s h)
    have HW := Lib.hid (word_any' 0 0 0 (by omega) (by omega) (by omega))
    clear e h
    go_enter Try.func25, Try.ntmps25
    go_wp2_with fail
    refine (HY.out _).mono ?_
    rintro e w1 ⟨rfl, b1⟩
    have hz := b1.size
    simp at hz
    go_wp2_with fail
    refine (HW.out _).mono ?_
    rintro e w2 ⟨rfl, b2⟩
    go_wp2
    go_ret2
    refine ⟨rfl, ?_⟩
    repeat (first | exact Below.refl _ _ | refine bl_alloc ?_ _ | refine bl_drew ?_ | refine bl_set ?_ (by simp; omega) _ | refine bl_call ?_ b2 | refine bl_call ?_ b1)

end Go.Proofs.Ytnjpjhlodamanaa
