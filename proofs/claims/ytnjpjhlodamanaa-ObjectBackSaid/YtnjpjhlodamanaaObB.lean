/-
  An object's head ('headOf', 'Head'), how many words it takes ('Words').
  Conditions: as each states.
-/
import Derived.Test.YtnjpjhlodamanaaObA
namespace Go.Proofs.Ytnjpjhlodamanaa
open Go.ChangeShapes Go.WideShapes Go.ChangeAt Go.RowKit
set_option linter.unusedVariables false
set_option linter.unusedSimpArgs false
set_option maxRecDepth 100000

/-- May an object with so many fields, so many bytes of text be? -/
def headR (k t : Int) (nf nt : Nat) : Bool := hasH k nf nt && mayH k t (sizeH k nf nt)
theorem Ob.may_eq (o : Ob) : o.may = headR o.kind o.tag o.fs.length o.tx.length := rfl
abbrev obj (k t : Int) (a : Option Addr) (nf c : Nat) (s : ByteArray) : Value := .agg #[.int .i64 k, .int .i64 t, .slice a nf c, .string s]
abbrev hd (k t : Int) (s : Nat) : Value := .agg #[.int .i64 k, .int .i64 t, .int .i64 s]

theorem headR_kind {k t : Int} {nf nt : Nat} (h : headR k t nf nt = true) : k = 1 ∨ k = 2 ∨ k = 3 ∨ k = 4 := by
  simp only [headR, Bool.and_eq_true] at h
  have := mayH_bounds h.2
  omega

set_option maxHeartbeats 2000000 in
theorem headOf_yes (k t : Int) (a : Option Addr) (nf c : Nat) (s : ByteArray) (h : headR k t nf s.size = true) (w : World) :
    Calls Try.prog 28 #[obj k t a nf c s] w fun e w' => e = .returned (.tuple #[hd k t (sizeH k nf s.size), kindV k, .bool true]) ∧ Below w.heap.size w w' := by
  have hk := headR_kind h
  simp only [headR, Bool.and_eq_true] at h
  obtain ⟨h1, h2⟩ := h
  rcases hk with rfl | rfl | rfl | rfl
  all_goals
    go_enter Try.func28, Try.ntmps28
    go_wp2_with fail
    refine (kindOf_any _ _).mono ?_
    rintro e w1 ⟨rfl, rfl⟩
    simp only [kindV, if_true, if_false, reduceIte, Int.reduceEq]
    go_wp2_with fail
    first
      | refine (fsize_any _ (by decide) _ _ _ _ _ _).mono ?_
      | refine (ssize_any _ _ _ _ _ _).mono ?_
    rintro e w1 ⟨rfl, b1⟩
    obtain ⟨hc, hf⟩ := bcell b1
    have hz := b1.size
    simp at hz
    have hz0 : w.heap.size < w1.heap.size := by omega
    have hz1 : w.heap.size + 1 < w1.heap.size := by omega
    have h2' := h2
    unfold sizeH at h2
    simp only [reduceIte, Int.reduceEq] at h2
    go_wp2_with fail
    first
      | refine (may1_any _ _ _).mono ?_
      | refine (may2_any _ _ _).mono ?_
      | refine (may3_any _ _ _).mono ?_
      | refine (may4_any _ _ _).mono ?_
    rintro e w2 ⟨rfl, b2⟩
    obtain ⟨hc2, hf2⟩ := bcell b2
    have hz2 := b2.size
    have hz3 : w.heap.size < w2.heap.size := by omega
    have hz4 : w.heap.size + 1 < w2.heap.size := by omega
    go_wp2
    first
      | refine bodyPost_ret (v := .tuple #[hd 1 t nf, kindV 1, .bool true]) (by simp [results, Try.results28, go_sem, kindV, hc2, hc, hz0, hz1, hz3, hz4]) rfl ⟨rfl, ?_⟩
      | refine bodyPost_ret (v := .tuple #[hd 2 t s.size, kindV 2, .bool true]) (by simp [results, Try.results28, go_sem, kindV, hc2, hc, hz0, hz1, hz3, hz4]) rfl ⟨rfl, ?_⟩
      | refine bodyPost_ret (v := .tuple #[hd 3 t nf, kindV 3, .bool true]) (by simp [results, Try.results28, go_sem, kindV, hc2, hc, hz0, hz1, hz3, hz4]) rfl ⟨rfl, ?_⟩
      | refine bodyPost_ret (v := .tuple #[hd 4 t nf, kindV 4, .bool true]) (by simp [results, Try.results28, go_sem, kindV, hc2, hc, hz0, hz1, hz3, hz4]) rfl ⟨rfl, ?_⟩
    repeat (first | exact Below.refl _ _ | refine bl_alloc ?_ _ | refine bl_drew ?_ | refine bl_set ?_ (by simp) _ | refine bl_call ?_ b2 | refine bl_call ?_ b1)

end Go.Proofs.Ytnjpjhlodamanaa
