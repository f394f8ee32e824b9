/-
  An object's head ('headOf', 'Head'), how many words it takes ('Words').
  Conditions: as each states.
-/
import Derived.Test.YtejbblhlbilpnaaZObA
namespace Go.Proofs.Ytejbblhlbilpnaa
set_option linter.unusedSimpArgs false
open Go.ChangeShapes Go.WideShapes Go.ChangeAt Go.RowKit
set_option maxRecDepth 100000

/-- May an object with so many fields, so many bytes of text be? -/
def headR (k t : Int) (nf nt : Nat) : Bool := hasH k nf nt && mayH k t (sizeH k nf nt)
theorem Ob.may_eq (o : Ob) : o.may = headR o.kind o.tag o.fs.length o.tx.length := rfl
abbrev obj (k t : Int) (a : Option Addr) (nf c : Nat) (s : ByteArray) : Value := .agg #[.int .i64 k, .int .i64 t, .slice a nf c, .string s]
abbrev hd (k t : Int) (s : Nat) : Value := .agg #[.int .i64 k, .int .i64 t, .int .i64 s]

theorem headR_kind {k t : Int} {nf nt : Nat} (h : headR k t nf nt = true) : k = 1 ∨ k = 2 ∨ k = 3 ∨ k = 4 := by
  simp only [headR, Bool.and_eq_true] at h
  have := mayH_bounds h.2
  omega

set_option maxHeartbeats 2000000 in
theorem headOf_yes (k t : Int) (a : Option Addr) (nf c : Nat) (s : ByteArray) (h : headR k t nf s.size = true) (w : World) :
    Calls Try.prog 40 #[obj k t a nf c s] w fun e w' => e = .returned (.tuple #[hd k t (sizeH k nf s.size), kindV k, .bool true]) ∧ Below w.heap.size w w' := by
  have hk := headR_kind h
  simp only [headR, Bool.and_eq_true] at h
  obtain ⟨h1, h2⟩ := h
  rcases hk with rfl | rfl | rfl | rfl
  all_goals
    go_enter Try.func40, Try.ntmps40
    go_wp2_with fail
    refine (kindOf_any _ _).mono ?_
    rintro e w1 ⟨rfl, rfl⟩
    simp only [kindV, if_true, if_false, reduceIte, Int.reduceEq]
    go_wp2_with fail
    first
      | refine (fsize_any _ (by decide) _ _ _ _ _ _).mono ?_
      | refine (ssize_any _ _ _ _ _ _).mono ?_
    rintro e w1 ⟨rfl, b1⟩
    obtain ⟨hc, hf⟩ := bcell b1
    have hz := b1.size
    simp at hz
    have hz0 : w.heap.size < w1.heap.size := by omega
    have hz1 : w.heap.size + 1 < w1.heap.size := by omega
    have h2' := h2
    unfold sizeH at h2
    simp only [reduceIte, Int.reduceEq] at h2
    go_wp2_with fail
    first
      | refine (may1_any _ _ _).mono ?_
      | refine (may2_any _ _ _).mono ?_
      | refine (may3_any _ _ _).mono ?_
      | refine (may4_any _ _ _).mono ?_
    rintro e w2 ⟨rfl, b2⟩
    obtain ⟨hc2, hf2⟩ := bcell b2
    have hz2 := b2.size
    have hz3 : w.heap.size < w2.heap.size := by omega
    have hz4 : w.heap.size + 1 < w2.heap.size := by omega
    go_wp2
    first
      | refine bodyPost_ret (v := .tuple #[hd 1 t nf, kindV 1, .bool true]) (by simp [results, Try.results40, go_sem, kindV, hc2, hc, hz0, hz1, hz3, hz4]) rfl ⟨rfl, ?_⟩
      | refine bodyPost_ret (v := .tuple #[hd 2 t s.size, kindV 2, .bool true]) (by simp [results, Try.results40, go_sem, kindV, hc2, hc, hz0, hz1, hz3, hz4]) rfl ⟨rfl, ?_⟩
      | refine bodyPost_ret (v := .tuple #[hd 3 t nf, kindV 3, .bool true]) (by simp [results, Try.results40, go_sem, kindV, hc2, hc, hz0, hz1, hz3, hz4]) rfl ⟨rfl, ?_⟩
      | refine bodyPost_ret (v := .tuple #[hd 4 t nf, kindV 4, .bool true]) (by simp [results, Try.results40, go_sem, kindV, hc2, hc, hz0, hz1, hz3, hz4]) rfl ⟨rfl, ?_⟩
    repeat (first | exact Below.refl _ _ | refine bl_alloc ?_ _ | refine bl_drew ?_ | refine bl_set ?_ (by simp) _ | refine bl_call ?_ b2 | refine bl_call ?_ b1)

end Go.Proofs.Ytejbblhlbilpnaa

/-
  The head of an object that may not be ('headOf').
  Conditions: as each states.
-/
namespace Go.Proofs.Ytejbblhlbilpnaa
set_option linter.unusedSimpArgs false
open Go.ChangeShapes Go.WideShapes Go.ChangeAt Go.RowKit
set_option maxRecDepth 100000

theorem headOf_none (k t : Int) (a : Option Addr) (nf c : Nat) (s : ByteArray) (h : kindV k = .nilIface) (w : World) :
    Calls Try.prog 40 #[obj k t a nf c s] w fun e w' => e = .returned (.tuple #[hd 0 0 0, .nilIface, .bool false]) ∧ Below w.heap.size w w' := by
  have H := Lib.hid h
  clear h
  go_enter Try.func40, Try.ntmps40
  go_wp2_with fail
  refine (kindOf_any _ _).mono ?_
  rintro e w1 ⟨rfl, rfl⟩
  rw [H.out]
  go_wp2
  refine bodyPost_ret (v := .tuple #[hd 0 0 0, .nilIface, .bool false]) (by simp [results, Try.results40, go_sem]) rfl ⟨rfl, ?_⟩
  repeat (first | exact Below.refl _ _ | refine bl_alloc ?_ _ | refine bl_drew ?_ | refine bl_set ?_ (by simp) _)

set_option maxHeartbeats 2000000 in
theorem headOf_has (k t : Int) (hk : k = 1 ∨ k = 2 ∨ k = 3 ∨ k = 4) (a : Option Addr) (nf c : Nat) (s : ByteArray) (h1 : hasH k nf s.size = false) (w : World) :
    Calls Try.prog 40 #[obj k t a nf c s] w fun e w' => e = .returned (.tuple #[hd 0 0 0, .nilIface, .bool false]) ∧ Below w.heap.size w w' := by
  rcases hk with rfl | rfl | rfl | rfl
  all_goals
    go_enter Try.func40, Try.ntmps40
    go_wp2_with fail
    refine (kindOf_any _ _).mono ?_
    rintro e w1 ⟨rfl, rfl⟩
    simp only [kindV, if_true, if_false, reduceIte, Int.reduceEq]
    go_wp2_with fail
    first
      | refine (fsize_any _ (by decide) _ _ _ _ _ _).mono ?_
      | refine (ssize_any _ _ _ _ _ _).mono ?_
    rintro e w1 ⟨rfl, b1⟩
    obtain ⟨hc, hf⟩ := bcell b1
    have hz := b1.size
    simp at hz
    have hz0 : w.heap.size < w1.heap.size := by omega
    have hz1 : w.heap.size + 1 < w1.heap.size := by omega
    go_wp2
    refine bodyPost_ret (v := .tuple #[hd 0 0 0, .nilIface, .bool false]) (by simp [results, Try.results40, go_sem, hc, hz0, hz1]) rfl ⟨rfl, ?_⟩
    repeat (first | exact Below.refl _ _ | refine bl_alloc ?_ _ | refine bl_drew ?_ | refine bl_set ?_ (by simp) _ | refine bl_call ?_ b1)

set_option maxHeartbeats 2000000 in
theorem headOf_may (k t : Int) (hk : k = 1 ∨ k = 2 ∨ k = 3 ∨ k = 4) (a : Option Addr) (nf c : Nat) (s : ByteArray) (h1 : hasH k nf s.size = true) (h2 : mayH k t (sizeH k nf s.size) = false) (w : World) :
    Calls Try.prog 40 #[obj k t a nf c s] w fun e w' => e = .returned (.tuple #[hd 0 0 0, .nilIface, .bool false]) ∧ Below w.heap.size w w' := by
  rcases hk with rfl | rfl | rfl | rfl
  all_goals
    unfold sizeH at h2
    simp only [reduceIte, Int.reduceEq] at h2
    go_enter Try.func40, Try.ntmps40
    go_wp2_with fail
    refine (kindOf_any _ _).mono ?_
    rintro e w1 ⟨rfl, rfl⟩
    simp only [kindV, if_true, if_false, reduceIte, Int.reduceEq]
    go_wp2_with fail
    first
      | refine (fsize_any _ (by decide) _ _ _ _ _ _).mono ?_
      | refine (ssize_any _ _ _ _ _ _).mono ?_
    rintro e w1 ⟨rfl, b1⟩
    obtain ⟨hc, hf⟩ := bcell b1
    have hz := b1.size
    simp at hz
    have hz0 : w.heap.size < w1.heap.size := by omega
    have hz1 : w.heap.size + 1 < w1.heap.size := by omega
    go_wp2_with fail
    first
      | refine (may1_any _ _ _).mono ?_
      | refine (may2_any _ _ _).mono ?_
      | refine (may3_any _ _ _).mono ?_
      | refine (may4_any _ _ _).mono ?_
    rintro e w2 ⟨rfl, b2⟩
    obtain ⟨hc2, hf2⟩ := bcell b2
    have hz2 := b2.size
    have hz3 : w.heap.size < w2.heap.size := by omega
    have hz4 : w.heap.size + 1 < w2.heap.size := by omega
    go_wp2
    refine bodyPost_ret (v := .tuple #[hd 0 0 0, .nilIface, .bool false]) (by simp [results, Try.results40, go_sem, hc2, hc, hz0, hz1, hz3, hz4]) rfl ⟨rfl, ?_⟩
    repeat (first | exact Below.refl _ _ | refine bl_alloc ?_ _ | refine bl_drew ?_ | refine bl_set ?_ (by simp) _ | refine bl_call ?_ b2 | refine bl_call ?_ b1)

theorem headOf_no (k t : Int) (a : Option Addr) (nf c : Nat) (s : ByteArray) (h : headR k t nf s.size = false) (w : World) :
    Calls Try.prog 40 #[obj k t a nf c s] w fun e w' => e = .returned (.tuple #[hd 0 0 0, .nilIface, .bool false]) ∧ Below w.heap.size w w' := by
  by_cases hk : k = 1 ∨ k = 2 ∨ k = 3 ∨ k = 4
  · cases h1 : hasH k nf s.size with
    | false => exact headOf_has k t hk a nf c s h1 w
    | true => exact headOf_may k t hk a nf c s h1 (by simpa [headR, h1] using h) w
  · refine headOf_none k t a nf c s ?_ w
    simp only [not_or] at hk
    simp [kindV, hk.1, hk.2.1, hk.2.2.1, hk.2.2.2]

/-- What 'headOf' tells. -/
def headT (k t : Int) (nf nt : Nat) : Value := if headR k t nf nt then .tuple #[hd k t (sizeH k nf nt), kindV k, .bool true] else .tuple #[hd 0 0 0, .nilIface, .bool false]

end Go.Proofs.Ytejbblhlbilpnaa

/-
  How many words an object takes ('Words'), its head ('Head').
  Conditions: as each states.
-/
namespace Go.Proofs.Ytejbblhlbilpnaa
set_option linter.unusedSimpArgs false
open Go.ChangeShapes Go.WideShapes Go.ChangeAt Go.RowKit
set_option maxRecDepth 100000

def wordsR (k t : Int) (nf nt : Nat) : Nat := if headR k t nf nt then 1 + longH k (sizeH k nf nt) else 0
def headWR (k t : Int) (nf nt : Nat) : Int := if headR k t nf nt then headW k t (sizeH k nf nt) else 0

theorem owords_no (k t : Int) (a : Option Addr) (nf c : Nat) (s : ByteArray) (h : headR k t nf s.size = false) (w : World) :
    Calls Try.prog 20 #[obj k t a nf c s] w fun e w' => e = .returned (.int .i64 0) ∧ Below w.heap.size w w' := by
  go_enter Try.func20, Try.ntmps20
  go_wp2_with fail
  refine (headOf_no k t a nf c s h _).mono ?_
  rintro e w1 ⟨rfl, b1⟩
  go_wp2
  go_ret
  refine ⟨rfl, ?_⟩
  repeat (first | exact Below.refl _ _ | refine bl_alloc ?_ _ | refine bl_drew ?_ | refine bl_set ?_ (by have := b1.size; simp at this ⊢; omega) _ | refine bl_call ?_ b1)

set_option maxHeartbeats 2000000 in
theorem owords_yes (k t : Int) (a : Option Addr) (nf c : Nat) (s : ByteArray) (h : headR k t nf s.size = true) (w : World) :
    Calls Try.prog 20 #[obj k t a nf c s] w fun e w' => e = .returned (.int .i64 ((1 + longH k (sizeH k nf s.size) : Nat) : Int)) ∧ Below w.heap.size w w' := by
  have hk := headR_kind h
  have hb : sizeH k nf s.size ≤ 400 := by
    simp only [headR, Bool.and_eq_true] at h
    have := mayH_bounds h.2
    omega
  rcases hk with rfl | rfl | rfl | rfl
  all_goals
    have HY := Lib.hid (headOf_yes _ t a nf c s h)
    have HB := Lib.hid hb
    generalize hS : sizeH _ nf s.size = S at HY HB ⊢
    have HR : S ≤ 400 := HB.out
    clear hS HB hb h
    go_enter Try.func20, Try.ntmps20
    go_wp2_with fail
    refine (HY.out _).mono ?_
    rintro e w1 ⟨rfl, b1⟩
    simp only [kindV, if_true, if_false, reduceIte, Int.reduceEq]
    have hz := b1.size
    simp at hz
    go_wp2_with fail
    first
      | refine (long_f _ _).mono ?_
      | refine (long_s _ (by omega) _).mono ?_
    rintro e w2 ⟨rfl, b2⟩
    go_wp2
    go_ret
    refine ⟨ret_int (by simp [longH]; try omega), ?_⟩
    repeat (first | exact Below.refl _ _ | refine bl_alloc ?_ _ | refine bl_drew ?_ | refine bl_set ?_ (by simp; omega) _ | refine bl_call ?_ b2 | refine bl_call ?_ b1)

theorem owords_any (k t : Int) (a : Option Addr) (nf c : Nat) (s : ByteArray) (w : World) :
    Calls Try.prog 20 #[obj k t a nf c s] w fun e w' => e = .returned (.int .i64 (wordsR k t nf s.size : Nat)) ∧ Below w.heap.size w w' := by
  cases h : headR k t nf s.size with
  | true => exact (owords_yes k t a nf c s h w).mono fun e w' ⟨he, hb⟩ => ⟨by rw [he, wordsR, if_pos h], hb⟩
  | false => exact (owords_no k t a nf c s h w).mono fun e w' ⟨he, hb⟩ => ⟨by rw [he, wordsR, if_neg (by rw [h]; decide)]; rfl, hb⟩

theorem ohead_any (k t : Int) (a : Option Addr) (nf c : Nat) (s : ByteArray) (w : World) :
    Calls Try.prog 13 #[obj k t a nf c s] w fun e w' => e = .returned (.tuple #[.int .u64 (headWR k t nf s.size), .bool (headR k t nf s.size)]) ∧ Below w.heap.size w w' := by
  cases h : headR k t nf s.size with
  | true =>
    have h' := h
    simp only [headR, Bool.and_eq_true] at h'
    have hb := mayH_bounds h'.2
    have e : headWR k t nf s.size = headW k t (sizeH k nf s.size) := by rw [headWR, if_pos h]
    rw [e]
    have HY := Lib.hid (headOf_yes _ t a nf c s h)
    have HW := Lib.hid (word_any' k t (sizeH k nf s.size) (by omega) (by omega) (by omega))
    clear e h' hb h
    go_enter Try.func13, Try.ntmps13
    go_wp2_with fail
    refine (HY.out _).mono ?_
    rintro e w1 ⟨rfl, b1⟩
    have hz := b1.size
    simp at hz
    go_wp2_with fail
    refine (HW.out _).mono ?_
    rintro e w2 ⟨rfl, b2⟩
    go_wp2
    go_ret2
    refine ⟨rfl, ?_⟩
    repeat (first | exact Below.refl _ _ | refine bl_alloc ?_ _ | refine bl_drew ?_ | refine bl_set ?_ (by simp; omega) _ | refine bl_call ?_ b2 | refine bl_call ?_ b1)
  | false =>
    have e : headWR k t nf s.size = headW 0 0 0 := by rw [headWR, if_neg (by rw [h]; decide)]; rfl
    rw [e]
    have HY := Lib.hid (headOf_no _ t a nf c s h)
    have HW := Lib.hid (word_any' 0 0 0 (by omega) (by omega) (by omega))
    clear e h
    go_enter Try.func13, Try.ntmps13
    go_wp2_with fail
    refine (HY.out _).mono ?_
    rintro e w1 ⟨rfl, b1⟩
    have hz := b1.size
    simp at hz
    go_wp2_with fail
    refine (HW.out _).mono ?_
    rintro e w2 ⟨rfl, b2⟩
    go_wp2
    go_ret2
    refine ⟨rfl, ?_⟩
    repeat (first | exact Below.refl _ _ | refine bl_alloc ?_ _ | refine bl_drew ?_ | refine bl_set ?_ (by simp; omega) _ | refine bl_call ?_ b2 | refine bl_call ?_ b1)

end Go.Proofs.Ytejbblhlbilpnaa
