/-
  Whether a heap's numbers and its region are as they may be ('lies').
  Conditions: as each states.
-/
import Derived.Test.YtnjpjhlodamanaaHeld
import Derived.Test.YtnjpjhlodamanaaObA
namespace Go.Proofs.Ytnjpjhlodamanaa
open Go.ChangeShapes Go.WideShapes Go.ChangeAt Go.RowKit
set_option linter.unusedVariables false
set_option linter.unusedSimpArgs false
set_option maxRecDepth 100000

abbrev heapV (base half space top : Int) : Value := .agg #[.int .i64 base, .int .i64 half, .int .i64 space, .int .i64 top]
def numsB (half space top : Int) : Bool := decide (8 ≤ half ∧ half ≤ 2000 ∧ 0 ≤ space ∧ space ≤ 1 ∧ 0 ≤ top ∧ top ≤ half)
def Ar.liesB (A : Ar) (base half space top : Int) : Bool := numsB half space top && A.inB base (2 * half - 1) && !A.inB base (2 * half)

theorem lies_out (pv : Value) (base half space top : Int) (h : numsB half space top = false) (w : World) (pa : Option Addr) (hp : pv = .pointer pa) :
    Calls Try.prog 45 #[pv, heapV base half space top] w fun e w' => e = .returned (.bool false) ∧ Below w.heap.size w w' := by
  subst hp
  have h' : half < 8 ∨ 2000 < half ∨ space < 0 ∨ 1 < space ∨ top < 0 ∨ half < top := by
    unfold numsB at h
    have := of_decide_eq_false h
    omega
  clear h
  by_cases c1 : half < 8
  · go_enter Try.func45, Try.ntmps45
    go_wp2
    go_ret
    exact ⟨rfl, bl_alloc (Below.refl _ _) _⟩
  have d1 : 8 ≤ half := by omega
  clear c1
  by_cases c2 : 2000 < half
  · clear h'
    go_enter Try.func45, Try.ntmps45
    go_wp2
    go_ret
    exact ⟨rfl, bl_alloc (Below.refl _ _) _⟩
  have d2 : half ≤ 2000 := by omega
  clear c2
  by_cases c3 : space < 0
  · clear h'
    go_enter Try.func45, Try.ntmps45
    go_wp2
    go_ret
    exact ⟨rfl, bl_alloc (Below.refl _ _) _⟩
  have d3 : 0 ≤ space := by omega
  clear c3
  by_cases c4 : 1 < space
  · clear h'
    go_enter Try.func45, Try.ntmps45
    go_wp2
    go_ret
    exact ⟨rfl, bl_alloc (Below.refl _ _) _⟩
  have d4 : space ≤ 1 := by omega
  clear c4
  by_cases c5 : top < 0
  · clear h'
    go_enter Try.func45, Try.ntmps45
    go_wp2
    go_ret
    exact ⟨rfl, bl_alloc (Below.refl _ _) _⟩
  have d5 : 0 ≤ top := by omega
  clear c5
  have d6 : half < top := by omega
  clear h'
  go_enter Try.func45, Try.ntmps45
  go_wp2
  go_ret
  exact ⟨rfl, bl_alloc (Below.refl _ _) _⟩

theorem word_nil (w : World) (k i : Int) :
    Calls Try.prog 41 #[.pointer none, .int .i64 k, .int .i64 i] w fun e w' => e = .returned (.pointer none) ∧ w = w' := by
  by_cases h0 : i < 0
  · go_enter Try.func41, Try.ntmps41
    go_wp2_with (go_at_call 55; refine (region_nil _ _).mono ?_; rintro e w' ⟨rfl, rfl⟩)
    go_ret
    exact ⟨rfl, rfl⟩
  · have h1 : 0 ≤ i := by omega
    clear h0
    go_enter Try.func41, Try.ntmps41
    go_wp2_with (go_at_call 55; refine (region_nil _ _).mono ?_; rintro e w' ⟨rfl, rfl⟩)
    go_ret
    exact ⟨rfl, rfl⟩
theorem get_nil (w : World) (k i : Int) :
    Calls Try.prog 46 #[.pointer none, .int .i64 k, .int .i64 i] w fun e w' => e = .returned (.tuple #[.int .u64 0, .bool false]) ∧ w = w' := by
  go_enter Try.func46, Try.ntmps46
  go_wp2_with (go_at_call 41; refine (word_nil _ _ _).mono ?_; rintro e w' ⟨rfl, rfl⟩)
  go_ret2
  exact ⟨rfl, rfl⟩

theorem lies_nil (base half space top : Int) (w : World) :
    Calls Try.prog 45 #[.pointer none, heapV base half space top] w fun e w' => e = .returned (.bool false) ∧ Below w.heap.size w w' := by
  cases h : numsB half space top with
  | false => exact lies_out _ base half space top h w none rfl
  | true =>
    have h' := of_decide_eq_true h
    obtain ⟨d1, d2, d3, d4, d5, d6⟩ := h'
    clear h
    go_enter Try.func45, Try.ntmps45
    go_wp2_with fail
    refine (get_nil _ _ _).mono ?_
    rintro e w1 ⟨rfl, rfl⟩
    go_wp2_with fail
    refine (get_nil _ _ _).mono ?_
    rintro e w1 ⟨rfl, rfl⟩
    go_wp2
    go_ret
    exact ⟨rfl, bl_alloc (Below.refl _ _) _⟩

theorem lies_any {w : World} {p : Nat} {F : Nat → Prop} {A : Ar} (hA : Held w p F A) (base half space top : Int) :
    Calls Try.prog 45 #[.pointer (some ⟨p, 0, none⟩), heapV base half space top] w fun e w' => e = .returned (.bool (A.liesB base half space top)) ∧ Below w.heap.size w w' := by
  cases h : numsB half space top with
  | false =>
    have e : A.liesB base half space top = false := by simp [Ar.liesB, h]
    rw [e]
    exact lies_out _ base half space top h w _ rfl
  | true =>
    have h' := of_decide_eq_true h
    have e : A.liesB base half space top = (A.inB base (2 * half - 1) && !A.inB base (2 * half)) := by simp [Ar.liesB, h]
    rw [e]
    obtain ⟨d1, d2, d3, d4, d5, d6⟩ := h'
    clear h e
    have HA := Lib.hid (hA.below (w' := w.alloc (.cells #[.int .i64 base, .int .i64 half, .int .i64 space, .int .i64 top] 33)) (bl_alloc (Below.refl _ _) _))
    clear hA
    cases h1 : A.inB base (2 * half - 1) with
    | false =>
      have H1 := Lib.hid h1
      clear h1
      go_enter Try.func45, Try.ntmps45
      go_wp2_with fail
      refine (get_h HA.out base (2 * half - 1)).mono ?_
      rintro e w1 ⟨rfl, rfl⟩
      rw [H1.out]
      go_wp2_with fail
      refine (get_h HA.out base (2 * half)).mono ?_
      rintro e w1 ⟨rfl, rfl⟩
      go_wp2
      go_ret
      exact ⟨rfl, bl_alloc (Below.refl _ _) _⟩
    | true =>
      have H1 := Lib.hid h1
      clear h1
      go_enter Try.func45, Try.ntmps45
      go_wp2_with fail
      refine (get_h HA.out base (2 * half - 1)).mono ?_
      rintro e w1 ⟨rfl, rfl⟩
      rw [H1.out]
      go_wp2_with fail
      refine (get_h HA.out base (2 * half)).mono ?_
      rintro e w1 ⟨rfl, rfl⟩
      go_wp2
      go_ret
      exact ⟨rfl, bl_alloc (Below.refl _ _) _⟩
end Go.Proofs.Ytnjpjhlodamanaa
