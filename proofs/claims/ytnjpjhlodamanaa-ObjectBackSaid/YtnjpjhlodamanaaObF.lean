/-
  Which object stands first in a row of words ('whole').
  Conditions: as each states.
-/
import Derived.Test.YtnjpjhlodamanaaObD
import Derived.Test.YtnjpjhlodamanaaObE
namespace Go.Proofs.Ytnjpjhlodamanaa
open Go.ChangeShapes Go.WideShapes Go.ChangeAt Go.RowKit
set_option linter.unusedVariables false
set_option linter.unusedSimpArgs false
set_option maxRecDepth 100000

theorem sound_f (v : Value) (s : Nat) (a : Option Addr) (n c : Nat) (hv : v = .slice a n c) (w : World) :
    Calls Try.prog 81 #[.agg #[], v, .int .i64 s] w fun e w' => e = .returned (.bool true) ∧ Below w.heap.size w w' := by
  subst hv
  go_enter Try.func81, Try.ntmps81
  go_wp2
  go_ret
  exact ⟨rfl, bl_alloc (Below.refl _ _) _⟩

theorem whole_none (x : Int) (hx : fitW x) (b o n c : Nat) (hn : 0 < n) (h : kindV (hK x) = .nilIface) (w : World) (hr : w.cell? ⟨b, o, none⟩ = some (.int .u64 x)) :
    Calls Try.prog 47 #[.slice (some ⟨b, o, none⟩) n c] w fun e w' => e = .returned (.tuple #[.int .i64 0, .bool false]) ∧ Below w.heap.size w w' := by
  have H := Lib.hid h
  have HA := Lib.hid (apart_any x hx)
  clear h hx
  go_enter Try.func47, Try.ntmps47
  go_wp2_with fail
  refine (HA.out _).mono ?_
  rintro e w1 ⟨rfl, b1⟩
  go_wp2_with fail
  refine (kindOf_any _ _).mono ?_
  rintro e w2 ⟨rfl, rfl⟩
  rw [H.out]
  go_wp2
  go_ret2
  exact ⟨rfl, by repeat (first | exact Below.refl _ _ | refine bl_alloc ?_ _ | refine bl_drew ?_ | refine bl_set ?_ (by have := b1.size; simp at this ⊢; omega) _ | refine bl_call ?_ b1)⟩

set_option maxHeartbeats 2000000 in
theorem whole_may (x : Int) (hx : fitW x) (b o n c : Nat) (hn : 0 < n) (hk : hK x = 1 ∨ hK x = 2 ∨ hK x = 3 ∨ hK x = 4) (h2 : mayH (hK x) (hT x) (hS x) = false) (w : World) (hr : w.cell? ⟨b, o, none⟩ = some (.int .u64 x)) :
    Calls Try.prog 47 #[.slice (some ⟨b, o, none⟩) n c] w fun e w' => e = .returned (.tuple #[.int .i64 0, .bool false]) ∧ Below w.heap.size w w' := by
  have ha := apart_any x hx
  generalize hT x = T at *
  generalize hS x = S at *
  clear hx
  rcases hk with e | e | e | e
  all_goals
    rw [e] at ha h2
    have HA := Lib.hid ha
    clear ha e
    go_enter Try.func47, Try.ntmps47
    go_wp2_with fail
    refine (HA.out _).mono ?_
    rintro e w1 ⟨rfl, b1⟩
    have hz := b1.size
    go_wp2_with fail
    refine (kindOf_any _ _).mono ?_
    rintro e w2 ⟨rfl, rfl⟩
    simp only [kindV, if_true, if_false, reduceIte, Int.reduceEq]
    go_wp2_with fail
    first
      | refine (may1_any _ _ _).mono ?_
      | refine (may2_any _ _ _).mono ?_
      | refine (may3_any _ _ _).mono ?_
      | refine (may4_any _ _ _).mono ?_
    rintro e w2 ⟨rfl, b2⟩
    go_wp2
    go_ret2
    exact ⟨rfl, by repeat (first | exact Below.refl _ _ | refine bl_alloc ?_ _ | refine bl_drew ?_ | refine bl_set ?_ (by have := b1.size; simp at this ⊢; omega) _ | refine bl_call ?_ b2 | refine bl_call ?_ b1)⟩

set_option maxHeartbeats 2000000 in
theorem whole_short (x : Int) (hx : fitW x) (b o n c : Nat) (hn : 0 < n) (h2 : mayH (hK x) (hT x) (hS x) = true) (hl : n ≤ longH (hK x) (hS x)) (hm : n ≤ 100000) (w : World) (hr : w.cell? ⟨b, o, none⟩ = some (.int .u64 x)) :
    Calls Try.prog 47 #[.slice (some ⟨b, o, none⟩) n c] w fun e w' => e = .returned (.tuple #[.int .i64 0, .bool false]) ∧ Below w.heap.size w w' := by
  have ha := apart_any x hx
  have hbd := mayH_bounds h2
  have hk : hK x = 1 ∨ hK x = 2 ∨ hK x = 3 ∨ hK x = 4 := by omega
  have hS4 : hS x ≤ 400 := by omega
  generalize hT x = T at *
  generalize hS x = S at *
  clear hx hbd
  rcases hk with e | e | e | e
  all_goals
    rw [e] at ha h2 hl
    simp only [longH, reduceIte, Int.reduceEq] at hl
    have HA := Lib.hid ha
    clear ha e
    go_enter Try.func47, Try.ntmps47
    go_wp2_with fail
    refine (HA.out _).mono ?_
    rintro e w1 ⟨rfl, b1⟩
    have hz := b1.size
    go_wp2_with fail
    refine (kindOf_any _ _).mono ?_
    rintro e w2 ⟨rfl, rfl⟩
    simp only [kindV, if_true, if_false, reduceIte, Int.reduceEq]
    go_wp2_with fail
    first
      | refine (may1_any _ _ _).mono ?_
      | refine (may2_any _ _ _).mono ?_
      | refine (may3_any _ _ _).mono ?_
      | refine (may4_any _ _ _).mono ?_
    rintro e w2 ⟨rfl, b2⟩
    obtain ⟨hc2, hf2⟩ := bcell b2
    have hz2 := b2.size
    simp at hz2
    have hz3 : w1.heap.size < w2.heap.size := by omega
    go_wp2_with fail
    first
      | refine (long_f _ _).mono ?_
      | refine (long_s _ (by omega) _).mono ?_
    rintro e w3 ⟨rfl, b3⟩
    have hLb : (S + 7) / 8 ≤ 60 := by omega
    try generalize (S + 7) / 8 = L at *
    first
      | (have hg : decide ((n : Int) < 1 + (L : Int)) = true := decide_eq_true (by omega); have hg1 : (n : Int) < 1 + (L : Int) := by omega)
      | (have hg : decide ((n : Int) < 1 + (S : Int)) = true := decide_eq_true (by omega); have hg1 : (n : Int) < 1 + (S : Int) := by omega)
    go_wp2
    go_quiet (fail)
    go_wp2
    go_ret2
    exact ⟨rfl, by repeat (first | exact Below.refl _ _ | refine bl_alloc ?_ _ | refine bl_drewN ?_ _ | refine bl_drew ?_ | refine bl_set ?_ (by have := b1.size; simp at this ⊢; omega) _ | refine bl_call ?_ b3 | refine bl_call ?_ b2 | refine bl_call ?_ b1)⟩


end Go.Proofs.Ytnjpjhlodamanaa
