/-
  Package op: the row of an instruction, whether it may be, what it takes and leaves, whether it ends.
  Conditions: as each states.
-/
import Derived.Test.YtjkneniakeffnaaDoorOpB
namespace Go.Proofs.YtjkneniakeffnaaDoor
open Go.ChangeShapes Go.WideShapes Go.ChangeAt Go.RowKit
set_option linter.unusedVariables false
set_option linter.unusedSimpArgs false
set_option maxRecDepth 100000

def RowPost (o a b : Int) (w : World) (e : Ending) (w' : World) : Prop := e = .returned (.tuple #[rowV (rowP o a b), .bool (opGood o a b)]) ∧ Below w.heap.size w w'

theorem row_no {o a b : Int} {w w' : World} (h : opGood o a b = false) (hb : Below w.heap.size w w') :
    RowPost o a b w (.returned (.tuple #[.agg #[.string ⟨#[]⟩, .int .i64 0, .int .i64 0, .int .i64 0, .int .i64 0], .bool false])) w' := by
  refine ⟨?_, hb⟩
  rw [show rowP o a b = rowZ by unfold rowP; rw [h]; rfl, h]
  rfl
theorem row_yes {o a b : Int} {w w' : World} {r : RowV} (h : opGood o a b = true) (hr : rowAtP o a = r) (hb : Below w.heap.size w w') :
    RowPost o a b w (.returned (.tuple #[rowV r, .bool true])) w' := by
  refine ⟨?_, hb⟩
  rw [show rowP o a b = r by unfold rowP; rw [h, if_pos rfl, hr], h]

set_option maxHeartbeats 1000000 in
theorem rowOf_any (o a b : Int) (w : World) (T : OpTab w) :
    Calls Tryd.prog 34 #[.agg #[.int .i64 o, .int .i64 a, .int .i64 b]] w (RowPost o a b w) := by
  by_cases c1 : 0 ≤ o
  · by_cases c2 : o < 38
    · obtain ⟨k, rfl⟩ := Int.eq_ofNat_of_zero_le c1
      have hk : k < 38 := by omega
      have l0 := T.nm k hk
      have l1 := T.a k hk
      have l2 := T.b k hk
      have l3 := T.tk k hk
      have l4 := T.lv k hk
      have hA : opA k < 13 := by
        have : ∀ k : Nat, k < 38 → opA k < 13 := by decide
        exact this k hk
      have hB : opB k < 13 := by
        have : ∀ k : Nat, k < 38 → opB k < 13 := by decide
        exact this k hk
      have hsz := T.size
      have hy0 : 0 < w.heap.size := by omega
      have hy1 : 0 < w.heap.size + 1 := by omega
      have hy2 : 0 < w.heap.size + 1 + 1 := by omega
      have hy3 : 1 < w.heap.size := by omega
      have hy4 : 1 < w.heap.size + 1 := by omega
      have hy5 : 1 < w.heap.size + 1 + 1 := by omega
      have hy6 : 2 < w.heap.size := by omega
      have hy7 : 2 < w.heap.size + 1 := by omega
      have hy8 : 2 < w.heap.size + 1 + 1 := by omega
      have G := good_at k a b hk
      by_cases g1 : opHas (opA k) a = true
      · rw [g1, Bool.true_and] at G
        by_cases g3 : (k : Int) = 36
        · obtain rfl : k = 36 := by omega
          have ha : 0 ≤ a ∧ a ≤ 3 := by simpa [opHas, opA, spL, spH, opT, spT] using g1
          obtain ⟨i, rfl⟩ := Int.eq_ofNat_of_zero_le ha.1
          have hi : i < 4 := by omega
          have m0 := T.hnm i hi
          have m1 := T.ha i hi
          have m2 := T.hb i hi
          have m3 := T.htk i hi
          have m4 := T.hlv i hi
          have hB' : hoB i < 13 := by
            have : ∀ k : Nat, k < 4 → hoB k < 13 := by decide
            exact this i hi
          have R : rowAtP ((36 : Nat) : Int) (i : Int) = ([], 0, hoB i, hoTk i, 1) := by
            have : ∀ i : Nat, i < 4 → hoT.getD i rowZ = ([], 0, hoB i, hoTk i, 1) := by decide
            exact this i hi
          rw [R] at G
          have RR := Lib.hid R
          clear R ha
          by_cases g4 : opHas (hoB i) b = true
          · rw [g4] at G
            have GG := Lib.hid G
            clear G
            go_enter Tryd.func34, Tryd.ntmps34
            go_wp2_with fail
            refine (has_any _ _ _ (T.below (by repeat (first | exact Below.refl _ _ | refine down_alloc ?_ _ | refine down_drew ?_ | refine down_set ?_ (by simp) _))) hA).mono ?_
            rintro e w' ⟨rfl, rfl⟩
            go_wp2_with fail
            refine (has_any _ _ _ (T.below (by repeat (first | exact Below.refl _ _ | refine down_alloc ?_ _ | refine down_drew ?_ | refine down_set ?_ (by simp) _))) hB').mono ?_
            rintro e w' ⟨rfl, rfl⟩
            go_wp2_with fail
            exact bodyPost_ret (v := .tuple #[rowV ([], 0, hoB i, hoTk i, 1), .bool true]) (by simp [results, Tryd.results34, go_sem, rowV, hy0, hy1, hy2, hy3, hy4, hy5, hy6, hy7, hy8]) rfl (row_yes GG.out RR.out (by repeat (first | exact Below.refl _ _ | refine down_alloc ?_ _ | refine down_drew ?_ | refine down_set ?_ (by simp) _)))
          · have g4' : opHas (hoB i) b = false := by simpa using g4
            rw [g4'] at G
            have GG := Lib.hid G
            clear G g4
            go_enter Tryd.func34, Tryd.ntmps34
            go_wp2_with fail
            refine (has_any _ _ _ (T.below (by repeat (first | exact Below.refl _ _ | refine down_alloc ?_ _ | refine down_drew ?_ | refine down_set ?_ (by simp) _))) hA).mono ?_
            rintro e w' ⟨rfl, rfl⟩
            go_wp2_with fail
            refine (has_any _ _ _ (T.below (by repeat (first | exact Below.refl _ _ | refine down_alloc ?_ _ | refine down_drew ?_ | refine down_set ?_ (by simp) _))) hB').mono ?_
            rintro e w' ⟨rfl, rfl⟩
            go_wp2_with fail
            exact bodyPost_ret (v := .tuple #[.agg #[.string ⟨#[]⟩, .int .i64 0, .int .i64 0, .int .i64 0, .int .i64 0], .bool false]) (by simp [results, Tryd.results34, go_sem, hy0, hy1, hy2, hy3, hy4, hy5, hy6, hy7, hy8]) rfl (row_no GG.out (by repeat (first | exact Below.refl _ _ | refine down_alloc ?_ _ | refine down_drew ?_ | refine down_set ?_ (by simp) _)))
        · have R := row_plain k a g3
          have R2 : opT.getD k rowZ = ((opT.getD k rowZ).1, opA k, opB k, opTk k, opLv k) := rfl
          rw [R2] at R
          rw [R] at G
          have RR := Lib.hid R
          clear R R2
          by_cases g4 : opHas (opB k) b = true
          · rw [g4] at G
            have GG := Lib.hid G
            clear G
            go_enter Tryd.func34, Tryd.ntmps34
            go_wp2_with fail
            refine (has_any _ _ _ (T.below (by repeat (first | exact Below.refl _ _ | refine down_alloc ?_ _ | refine down_drew ?_ | refine down_set ?_ (by simp) _))) hA).mono ?_
            rintro e w' ⟨rfl, rfl⟩
            go_wp2_with fail
            refine (has_any _ _ _ (T.below (by repeat (first | exact Below.refl _ _ | refine down_alloc ?_ _ | refine down_drew ?_ | refine down_set ?_ (by simp) _))) hB).mono ?_
            rintro e w' ⟨rfl, rfl⟩
            go_wp2_with fail
            exact bodyPost_ret (v := .tuple #[rowV ((opT.getD k rowZ).1, opA k, opB k, opTk k, opLv k), .bool true]) (by simp [results, Tryd.results34, go_sem, rowV, opNm, rowZ, hy0, hy1, hy2, hy3, hy4, hy5, hy6, hy7, hy8]) rfl (row_yes GG.out RR.out (by repeat (first | exact Below.refl _ _ | refine down_alloc ?_ _ | refine down_drew ?_ | refine down_set ?_ (by simp) _)))
          · have g4' : opHas (opB k) b = false := by simpa using g4
            rw [g4'] at G
            have GG := Lib.hid G
            clear G g4
            go_enter Tryd.func34, Tryd.ntmps34
            go_wp2_with fail
            refine (has_any _ _ _ (T.below (by repeat (first | exact Below.refl _ _ | refine down_alloc ?_ _ | refine down_drew ?_ | refine down_set ?_ (by simp) _))) hA).mono ?_
            rintro e w' ⟨rfl, rfl⟩
            go_wp2_with fail
            refine (has_any _ _ _ (T.below (by repeat (first | exact Below.refl _ _ | refine down_alloc ?_ _ | refine down_drew ?_ | refine down_set ?_ (by simp) _))) hB).mono ?_
            rintro e w' ⟨rfl, rfl⟩
            go_wp2_with fail
            exact bodyPost_ret (v := .tuple #[.agg #[.string ⟨#[]⟩, .int .i64 0, .int .i64 0, .int .i64 0, .int .i64 0], .bool false]) (by simp [results, Tryd.results34, go_sem, hy0, hy1, hy2, hy3, hy4, hy5, hy6, hy7, hy8]) rfl (row_no GG.out (by repeat (first | exact Below.refl _ _ | refine down_alloc ?_ _ | refine down_drew ?_ | refine down_set ?_ (by simp) _)))
      · have g1' : opHas (opA k) a = false := by simpa using g1
        rw [g1', Bool.false_and] at G
        have GG := Lib.hid G
        clear G g1
        go_enter Tryd.func34, Tryd.ntmps34
        go_wp2_with fail
        refine (has_any _ _ _ (T.below (by repeat (first | exact Below.refl _ _ | refine down_alloc ?_ _ | refine down_drew ?_ | refine down_set ?_ (by simp) _))) hA).mono ?_
        rintro e w' ⟨rfl, rfl⟩
        go_wp2_with fail
        exact bodyPost_ret (v := .tuple #[.agg #[.string ⟨#[]⟩, .int .i64 0, .int .i64 0, .int .i64 0, .int .i64 0], .bool false]) (by simp [results, Tryd.results34, go_sem]) rfl (row_no GG.out (by repeat (first | exact Below.refl _ _ | refine down_alloc ?_ _ | refine down_drew ?_ | refine down_set ?_ (by simp) _)))
    · have GG := Lib.hid (good_out o a b (by omega)).1
      go_enter Tryd.func34, Tryd.ntmps34
      go_wp2_with fail
      exact bodyPost_ret (v := .tuple #[.agg #[.string ⟨#[]⟩, .int .i64 0, .int .i64 0, .int .i64 0, .int .i64 0], .bool false]) (by simp [results, Tryd.results34, go_sem]) rfl (row_no GG.out (by repeat (first | exact Below.refl _ _ | refine down_alloc ?_ _ | refine down_drew ?_ | refine down_set ?_ (by simp) _)))
  · have GG := Lib.hid (good_out o a b (by omega)).1
    go_enter Tryd.func34, Tryd.ntmps34
    go_wp2_with fail
    exact bodyPost_ret (v := .tuple #[.agg #[.string ⟨#[]⟩, .int .i64 0, .int .i64 0, .int .i64 0, .int .i64 0], .bool false]) (by simp [results, Tryd.results34, go_sem]) rfl (row_no GG.out (by repeat (first | exact Below.refl _ _ | refine down_alloc ?_ _ | refine down_drew ?_ | refine down_set ?_ (by simp) _)))
end Go.Proofs.YtjkneniakeffnaaDoor
