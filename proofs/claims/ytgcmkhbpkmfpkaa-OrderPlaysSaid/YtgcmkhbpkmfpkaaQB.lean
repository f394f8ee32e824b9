/-
  'compare' of two entries: it makes blocks of its own alone.
  Conditions: as stated.
-/
import Derived.Test.YtgcmkhbpkmfpkaaQA
import Derived.Test.YtgcmkhbpkmfpkaaKeep
namespace Go.Proofs.Ytgcmkhbpkmfpkaa
open Go.ChangeShapes Go.WideShapes Go.ChangeAt Go.RowKit
set_option linter.unusedVariables false
set_option linter.unusedSimpArgs false
open Go.Sort (grow alloc_eq_grow grow_grow)
set_option maxRecDepth 100000

def encE (x : En) : List Value := [.int .i64 x.1, .int .i64 x.2]

theorem compare_any (e f : En) (w : World) :
    Calls Try.prog 45 #[.agg #[.int .i64 e.1, .int .i64 e.2], .agg #[.int .i64 f.1, .int .i64 f.2]] w fun x w' => x = .returned (.int .i64 (cmpE e f)) ∧ ∃ q os', w' = grow (w.drewN q) os' := by
  obtain ⟨k1, r1⟩ := e
  obtain ⟨k2, r2⟩ := f
  have hr : cmpE (k1, r1) (k2, r2) = orI (cmpI r1 r2) (cmpI k1 k2) := rfl
  rw [hr]
  clear hr
  show Calls _ _ #[.agg #[.int .i64 k1, .int .i64 r1], .agg #[.int .i64 k2, .int .i64 r2]] _ _
  obtain ⟨x, hx⟩ : ∃ x, x = cmpI r1 r2 := ⟨_, rfl⟩
  obtain ⟨y, hy⟩ : ∃ y, y = cmpI k1 k2 := ⟨_, rfl⟩
  have C1 : ∀ w, Calls Try.prog 49 #[.int .i64 r1, .int .i64 r2] w fun e w' => e = .returned (.int .i64 x) ∧ w' = w := fun w => (compareInt_any r1 r2 w).mono fun _ _ h => ⟨by rw [hx]; exact h.1, h.2.symm⟩
  have C2 : ∀ w, Calls Try.prog 49 #[.int .i64 k1, .int .i64 k2] w fun e w' => e = .returned (.int .i64 y) ∧ w' = w := fun w => (compareInt_any k1 k2 w).mono fun _ _ h => ⟨by rw [hy]; exact h.1, h.2.symm⟩
  rw [← hx, ← hy]
  have H1 := Lib.hid C1
  have H2 := Lib.hid C2
  clear hx hy C1 C2
  go_enter Try.func45, Try.ntmps45
  go_wp2_with fail
  obtain ⟨W, hW⟩ : ∃ W, (w.alloc (.cells #[.int .i64 k1, .int .i64 r1] 59)).alloc (.cells #[.int .i64 k2, .int .i64 r2] 59) = W := ⟨_, rfl⟩
  have a1 : W.cell? ⟨w.heap.size, 0, none⟩ = some (.int .i64 k1) := by rw [← hW]; simp [go_sem]
  have a2 : W.cell? ⟨w.heap.size, 1, none⟩ = some (.int .i64 r1) := by rw [← hW]; simp [go_sem]
  have a3 : W.cell? ⟨w.heap.size + 1, 0, none⟩ = some (.int .i64 k2) := by rw [← hW]; simp [go_sem]
  have a4 : W.cell? ⟨w.heap.size + 1, 1, none⟩ = some (.int .i64 r2) := by rw [← hW]; simp [go_sem]
  rw [hW]
  have HW := Lib.hid hW
  clear hW
  refine wp_region_still_tail 10 (by kernel_rfl) (by kernel_rfl) ?_
  simp only [List.take_succ_cons, List.take_zero, List.drop_succ_cons, List.drop_zero]
  iterate 4 still_step
  still_call (H1.out _)
  iterate 4 still_step
  still_call (H2.out _)
  refine wpStill_nil ?_
  change wpList _ _ _ _ _ W.drew
  go_wp2_with fail
  refine (or_two (b := W.heap.size) (x := x) (y := y) ?_ ?_).mono ?_
  · simp [go_sem]
  · simp [go_sem]
  rintro e w' ⟨rfl, rfl⟩
  go_wp2
  go_ret
  refine ⟨rfl, 1, #[.cells #[.int .i64 k1, .int .i64 r1] 59] ++ (#[.cells #[.int .i64 k2, .int .i64 r2] 59] ++ #[.cells #[.int .i64 x, .int .i64 y] 3]), ?_⟩
  rw [← HW.out, alloc_eq_grow, alloc_eq_grow, alloc_eq_grow, grow_grow, grow_grow]
  rfl

theorem below_grow {W w' : World} {q : Nat} {os' : Array Obj} (h : w' = grow (W.drewN q) os') : Below W.heap.size W w' := by
  subst h
  refine ⟨rfl, rfl, rfl, by simp [grow, World.drewN], fun k hk => ?_⟩
  show (W.heap ++ os')[k]? = W.heap[k]?
  rw [Array.getElem?_append_left hk]

end Go.Proofs.Ytgcmkhbpkmfpkaa
