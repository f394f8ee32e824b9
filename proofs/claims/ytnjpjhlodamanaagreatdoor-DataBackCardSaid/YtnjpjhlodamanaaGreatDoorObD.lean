/-
  How many words an object takes ('Words'), its head ('Head').
  Conditions: as each states.
-/
import Derived.Test.YtnjpjhlodamanaaGreatDoorObC
namespace Go.Proofs.YtnjpjhlodamanaaGreatDoor
open Go.ChangeShapes Go.WideShapes Go.ChangeAt Go.RowKit
set_option linter.unusedVariables false
set_option linter.unusedSimpArgs false
set_option maxRecDepth 100000

def wordsR (k t : Int) (nf nt : Nat) : Nat := if headR k t nf nt then 1 + longH k (sizeH k nf nt) else 0
def headWR (k t : Int) (nf nt : Nat) : Int := if headR k t nf nt then headW k t (sizeH k nf nt) else 0

theorem owords_no (k t : Int) (a : Option Addr) (nf c : Nat) (s : ByteArray) (h : headR k t nf s.size = false) (w : World) :
    Calls Tryz.prog 37 #[obj k t a nf c s] w fun e w' => e = .returned (.int .i64 0) ∧ Below w.heap.size w w' := by
  go_enter Tryz.func37, Tryz.ntmps37
  go_wp2_with fail
  refine (headOf_no k t a nf c s h _).mono ?_
  rintro e w1 ⟨rfl, b1⟩
  go_wp2
  go_ret
  refine ⟨rfl, ?_⟩
  repeat (first | exact Below.refl _ _ | refine bl_alloc ?_ _ | refine bl_drew ?_ | refine bl_set ?_ (by have := b1.size; simp at this ⊢; omega) _ | refine bl_call ?_ b1)

set_option maxHeartbeats 2000000 in
theorem owords_yes (k t : Int) (a : Option Addr) (nf c : Nat) (s : ByteArray) (h : headR k t nf s.size = true) (w : World) :
    Calls Tryz.prog 37 #[obj k t a nf c s] w fun e w' => e = .returned (.int .i64 ((1 + longH k (sizeH k nf s.size) : Nat) : Int)) ∧ Below w.heap.size w w' := by
  have hk := headR_kind h
  have hb : sizeH k nf s.size ≤ 400 := by
    simp only [headR, Bool.and_eq_true] at h
    have := mayH_bounds h.2
    omega
  rcases hk with rfl | rfl | rfl | rfl
  all_goals
    have HY := Lib.hid (headOf_yes _ t a nf c s h)
    have HB := Lib.hid hb
    generalize hS : sizeH _ nf s.size = S at HY HB ⊢
    have HR : S ≤ 400 := HB.out
    clear hS HB hb h
    go_enter Tryz.func37, Tryz.ntmps37
    go_wp2_with fail
    refine (HY.out _).mono ?_
    rintro e w1 ⟨rfl, b1⟩
    simp only [kindV, if_true, if_false, reduceIte, Int.reduceEq]
    have hz := b1.size
    simp at hz
    go_wp2_with fail
    first
      | refine (long_f _ _).mono ?_
      | refine (long_s _ (by omega) _).mono ?_
    rintro e w2 ⟨rfl, b2⟩
    go_wp2
    go_ret
    refine ⟨ret_int (by simp [longH]; try omega), ?_⟩
    repeat (first | exact Below.refl _ _ | refine bl_alloc ?_ _ | refine bl_drew ?_ | refine bl_set ?_ (by simp; omega) _ | refine bl_call ?_ b2 | refine bl_call ?_ b1)

theorem owords_any (k t : Int) (a : Option Addr) (nf c : Nat) (s : ByteArray) (w : World) :
    Calls Tryz.prog 37 #[obj k t a nf c s] w fun e w' => e = .returned (.int .i64 (wordsR k t nf s.size : Nat)) ∧ Below w.heap.size w w' := by
  cases h : headR k t nf s.size with
  | true => exact (owords_yes k t a nf c s h w).mono fun e w' ⟨he, hb⟩ => ⟨by rw [he, wordsR, if_pos h], hb⟩
  | false => exact (owords_no k t a nf c s h w).mono fun e w' ⟨he, hb⟩ => ⟨by rw [he, wordsR, if_neg (by rw [h]; decide)]; rfl, hb⟩

end Go.Proofs.YtnjpjhlodamanaaGreatDoor
