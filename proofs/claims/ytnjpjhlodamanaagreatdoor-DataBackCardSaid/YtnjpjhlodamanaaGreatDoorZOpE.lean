/-
  The document's answers for package op: Name, Good, Of, Ends.
  Conditions: as each states.
-/
import Derived.Test.YtnjpjhlodamanaaGreatDoorZOpA
namespace Go.Proofs.YtnjpjhlodamanaaGreatDoor
set_option linter.unusedVariables false
set_option linter.unusedSimpArgs false
open Go.ChangeShapes Go.WideShapes Go.ChangeAt Go.RowKit
set_option maxRecDepth 100000

def inB (v lo hi : Int) : Bool := decide (lo ≤ v ∧ v ≤ hi)
theorem inB_eq (v lo hi : Int) : inB v lo hi = (decide (lo ≤ v) && decide (v ≤ hi)) := by unfold inB; by_cases h : lo ≤ v <;> by_cases k : v ≤ hi <;> simp [h, k]

theorem host_good (a b : Int) : opGood 36 a b = (inB a 0 3 && (inB b 0 0 || (decide (a = 3) && inB b 0 39))) := by
  have e : opGood 36 a b = (inB a 0 3 && inB b (spL (hoT.getD a.toNat rowZ).2.2.1) (spH (hoT.getD a.toNat rowZ).2.2.1)) := rfl
  rw [e]
  by_cases h : 0 ≤ a ∧ a ≤ 3
  · obtain rfl | rfl | rfl | rfl : a = 0 ∨ a = 1 ∨ a = 2 ∨ a = 3 := by omega
    · rw [Bool.eq_iff_iff]; simp [hoT, spT, spL, spH, inB]
    · rw [Bool.eq_iff_iff]; simp [hoT, spT, spL, spH, inB]
    · rw [Bool.eq_iff_iff]; simp [hoT, spT, spL, spH, inB]
    · rw [Bool.eq_iff_iff]; simp [hoT, spT, spL, spH, inB]; omega
  · have : inB a 0 3 = false := decide_eq_false h
    rw [this]; rfl

def plainOp (o : Int) : Bool := (o != 0) && (o != 1) && (o != 2) && (o != 3) && (o != 4) && (o != 6) && (o != 10) && (o != 11) && (o != 19) && (o != 20) && (o != 21) && (o != 22) && (o != 33) && (o != 36)
theorem plain_good (o a b : Int) (h0 : 0 ≤ o) (h1 : o < 38) (h : plainOp o = true) : opGood o a b = (inB a 0 0 && inB b 0 0) := by
  obtain ⟨k, rfl⟩ := Int.eq_ofNat_of_zero_le h0
  have hk : k < 38 := by omega
  clear h0 h1
  have hall : ∀ k : Nat, k < 38 → plainOp k = true → opA k = 0 ∧ opB k = 0 ∧ ((k : Int) = 36) = False := by decide
  obtain ⟨e1, e2, e3⟩ := hall k hk h
  have e4 : (rowAtP (k : Int) a).2.2.1 = 0 := by
    unfold rowAtP
    rw [if_neg (by rw [e3]; exact id)]
    exact e2
  unfold opGood
  rw [e4]
  have : decide (0 ≤ (k : Int) ∧ (k : Int) < 38) = true := decide_eq_true ⟨by omega, by omega⟩
  rw [this, Bool.true_and, show opA (k : Int).toNat = 0 from e1]
  rfl
theorem plain_out (o a b : Int) (h : o < 0 ∨ 38 ≤ o) : opGood o a b = false := by
  unfold opGood
  rw [show decide (0 ≤ o ∧ o < 38) = false from decide_eq_false (by omega)]
  rfl
theorem nm_toList (k : Nat) (h : k < 38) : ¬ (opNm k).toList = [] := by
  have hall : ∀ k : Nat, k < 38 → (opT.getD k ([], 0, 0, 0, 0)).1 ≠ [] := by decide
  intro e
  apply hall k h
  rw [ByteArray.toList_eq] at e
  exact e

def opEnds (o : Int) : Bool := o == 8 || o == 9 || o == 10 || o == 35
end Go.Proofs.YtnjpjhlodamanaaGreatDoor

/-
  The document's answer on what an instruction takes and leaves.
  Conditions: as each states.
-/
namespace Go.Proofs.YtnjpjhlodamanaaGreatDoor
set_option linter.unusedVariables false
set_option linter.unusedSimpArgs false
open Go.ChangeShapes Go.WideShapes Go.ChangeAt Go.RowKit
set_option maxRecDepth 100000

def tkP (o a b : Int) : Int := if (rowAtP o a).2.2.2.1 = -1 then b else (rowAtP o a).2.2.2.1
def lvP (o a : Int) : Int := (rowAtP o a).2.2.2.2
def OfPost (o a b : Int) (w : World) (e : Ending) (w' : World) : Prop :=
  ∃ x y : Int, e = .returned (.agg #[.int .i64 x, .int .i64 y]) ∧ (opGood o a b = true → x = tkP o a b ∧ y = lvP o a) ∧ Below w.heap.size w w'

def twoOp (k : Nat) : Bool := [7, 12, 13, 14, 15, 16, 17, 18, 23, 24, 25, 28, 30, 32].contains k
theorem two_op : ∀ k : Nat, k < 38 → twoOp k = true → opTk k = 2 ∧ opLv k = 1 ∧ k ≠ 36 := by decide
theorem two_all : ∀ k : Nat, k < 38 → twoOp k = true ∨ [0, 1, 2, 3, 4, 5, 6, 8, 9, 10, 11, 19, 20, 21, 22, 26, 27, 29, 31, 33, 34, 35, 36, 37].contains k = true := by decide

theorem two_of (o a b : Int) (hn : ∀ k ∈ [0, 1, 2, 3, 4, 5, 6, 8, 9, 10, 11, 19, 20, 21, 22, 26, 27, 29, 31, 33, 34, 35, 36, 37], (o == Int.ofNat k) = false) (h : opGood o a b = true) : (2 : Int) = tkP o a b ∧ (1 : Int) = lvP o a := by
  have hr : 0 ≤ o ∧ o < 38 := by
    unfold opGood at h
    simp only [Bool.and_eq_true, decide_eq_true_eq] at h
    exact h.1.1
  obtain ⟨k, rfl⟩ := Int.eq_ofNat_of_zero_le hr.1
  have hk : k < 38 := by omega
  rcases two_all k hk with t | t
  · obtain ⟨e1, e2, e3⟩ := two_op k hk t
    have e4 : rowAtP (k : Int) a = opT.getD k rowZ := by
      unfold rowAtP
      rw [if_neg (by omega)]
      rfl
    unfold tkP lvP
    rw [e4, show (opT.getD k rowZ).2.2.2.1 = 2 from e1, show (opT.getD k rowZ).2.2.2.2 = 1 from e2]
    exact ⟨rfl, rfl⟩
  · have := hn k (List.contains_iff_mem.1 t)
    simp at this

theorem host_of (a b : Int) (h2 : ¬ a = 2) (h3 : ¬ a = 3) (h : opGood 36 a b = true) : (1 : Int) = tkP 36 a b ∧ (1 : Int) = lvP 36 a := by
  rw [host_good] at h
  simp only [Bool.and_eq_true, inB, decide_eq_true_eq] at h
  obtain rfl | rfl : a = 0 ∨ a = 1 := by omega
  · exact ⟨rfl, rfl⟩
  · exact ⟨rfl, rfl⟩

end Go.Proofs.YtnjpjhlodamanaaGreatDoor

/-
  Package op: the row of an instruction, whether it may be, what it takes and leaves, whether it ends.
  Conditions: as each states.
-/
namespace Go.Proofs.YtnjpjhlodamanaaGreatDoor
set_option linter.unusedVariables false
set_option linter.unusedSimpArgs false
open Go.ChangeShapes Go.WideShapes Go.ChangeAt Go.RowKit
set_option maxRecDepth 100000

def RowPost (o a b : Int) (w : World) (e : Ending) (w' : World) : Prop := e = .returned (.tuple #[rowV (rowP o a b), .bool (opGood o a b)]) ∧ Below w.heap.size w w'

theorem row_no {o a b : Int} {w w' : World} (h : opGood o a b = false) (hb : Below w.heap.size w w') :
    RowPost o a b w (.returned (.tuple #[.agg #[.string ⟨#[]⟩, .int .i64 0, .int .i64 0, .int .i64 0, .int .i64 0], .bool false])) w' := by
  refine ⟨?_, hb⟩
  rw [show rowP o a b = rowZ by unfold rowP; rw [h]; rfl, h]
  rfl
theorem row_yes {o a b : Int} {w w' : World} {r : RowV} (h : opGood o a b = true) (hr : rowAtP o a = r) (hb : Below w.heap.size w w') :
    RowPost o a b w (.returned (.tuple #[rowV r, .bool true])) w' := by
  refine ⟨?_, hb⟩
  rw [show rowP o a b = r by unfold rowP; rw [h, if_pos rfl, hr], h]

set_option maxHeartbeats 1000000 in
theorem rowOf_any (o a b : Int) (w : World) (T : OpTab w) :
    Calls Tryz.prog 93 #[.agg #[.int .i64 o, .int .i64 a, .int .i64 b]] w (RowPost o a b w) := by
  by_cases c1 : 0 ≤ o
  · by_cases c2 : o < 38
    · obtain ⟨k, rfl⟩ := Int.eq_ofNat_of_zero_le c1
      have hk : k < 38 := by omega
      have l0 := T.nm k hk
      have l1 := T.a k hk
      have l2 := T.b k hk
      have l3 := T.tk k hk
      have l4 := T.lv k hk
      have hA : opA k < 13 := by
        have : ∀ k : Nat, k < 38 → opA k < 13 := by decide
        exact this k hk
      have hB : opB k < 13 := by
        have : ∀ k : Nat, k < 38 → opB k < 13 := by decide
        exact this k hk
      have hsz := T.size
      have hy0 : 0 < w.heap.size := by omega
      have hy1 : 0 < w.heap.size + 1 := by omega
      have hy2 : 0 < w.heap.size + 1 + 1 := by omega
      have hy3 : 1 < w.heap.size := by omega
      have hy4 : 1 < w.heap.size + 1 := by omega
      have hy5 : 1 < w.heap.size + 1 + 1 := by omega
      have hy6 : 2 < w.heap.size := by omega
      have hy7 : 2 < w.heap.size + 1 := by omega
      have hy8 : 2 < w.heap.size + 1 + 1 := by omega
      have G := good_at k a b hk
      by_cases g1 : opHas (opA k) a = true
      · rw [g1, Bool.true_and] at G
        by_cases g3 : (k : Int) = 36
        · obtain rfl : k = 36 := by omega
          have ha : 0 ≤ a ∧ a ≤ 3 := by simpa [opHas, opA, spL, spH, opT, spT] using g1
          obtain ⟨i, rfl⟩ := Int.eq_ofNat_of_zero_le ha.1
          have hi : i < 4 := by omega
          have m0 := T.hnm i hi
          have m1 := T.ha i hi
          have m2 := T.hb i hi
          have m3 := T.htk i hi
          have m4 := T.hlv i hi
          have hB' : hoB i < 13 := by
            have : ∀ k : Nat, k < 4 → hoB k < 13 := by decide
            exact this i hi
          have R : rowAtP ((36 : Nat) : Int) (i : Int) = ([], 0, hoB i, hoTk i, 1) := by
            have : ∀ i : Nat, i < 4 → hoT.getD i rowZ = ([], 0, hoB i, hoTk i, 1) := by decide
            exact this i hi
          rw [R] at G
          have RR := Lib.hid R
          clear R ha
          by_cases g4 : opHas (hoB i) b = true
          · rw [g4] at G
            have GG := Lib.hid G
            clear G
            go_enter Tryz.func93, Tryz.ntmps93
            go_wp2_with fail
            refine (has_any _ _ _ (T.below (by repeat (first | exact Below.refl _ _ | refine down_alloc ?_ _ | refine down_drew ?_ | refine down_set ?_ (by simp) _))) hA).mono ?_
            rintro e w' ⟨rfl, rfl⟩
            go_wp2_with fail
            refine (has_any _ _ _ (T.below (by repeat (first | exact Below.refl _ _ | refine down_alloc ?_ _ | refine down_drew ?_ | refine down_set ?_ (by simp) _))) hB').mono ?_
            rintro e w' ⟨rfl, rfl⟩
            go_wp2_with fail
            exact bodyPost_ret (v := .tuple #[rowV ([], 0, hoB i, hoTk i, 1), .bool true]) (by simp [results, Tryz.results93, go_sem, rowV, hy0, hy1, hy2, hy3, hy4, hy5, hy6, hy7, hy8]) rfl (row_yes GG.out RR.out (by repeat (first | exact Below.refl _ _ | refine down_alloc ?_ _ | refine down_drew ?_ | refine down_set ?_ (by simp) _)))
          · have g4' : opHas (hoB i) b = false := by simpa using g4
            rw [g4'] at G
            have GG := Lib.hid G
            clear G g4
            go_enter Tryz.func93, Tryz.ntmps93
            go_wp2_with fail
            refine (has_any _ _ _ (T.below (by repeat (first | exact Below.refl _ _ | refine down_alloc ?_ _ | refine down_drew ?_ | refine down_set ?_ (by simp) _))) hA).mono ?_
            rintro e w' ⟨rfl, rfl⟩
            go_wp2_with fail
            refine (has_any _ _ _ (T.below (by repeat (first | exact Below.refl _ _ | refine down_alloc ?_ _ | refine down_drew ?_ | refine down_set ?_ (by simp) _))) hB').mono ?_
            rintro e w' ⟨rfl, rfl⟩
            go_wp2_with fail
            exact bodyPost_ret (v := .tuple #[.agg #[.string ⟨#[]⟩, .int .i64 0, .int .i64 0, .int .i64 0, .int .i64 0], .bool false]) (by simp [results, Tryz.results93, go_sem, hy0, hy1, hy2, hy3, hy4, hy5, hy6, hy7, hy8]) rfl (row_no GG.out (by repeat (first | exact Below.refl _ _ | refine down_alloc ?_ _ | refine down_drew ?_ | refine down_set ?_ (by simp) _)))
        · have R := row_plain k a g3
          have R2 : opT.getD k rowZ = ((opT.getD k rowZ).1, opA k, opB k, opTk k, opLv k) := rfl
          rw [R2] at R
          rw [R] at G
          have RR := Lib.hid R
          clear R R2
          by_cases g4 : opHas (opB k) b = true
          · rw [g4] at G
            have GG := Lib.hid G
            clear G
            go_enter Tryz.func93, Tryz.ntmps93
            go_wp2_with fail
            refine (has_any _ _ _ (T.below (by repeat (first | exact Below.refl _ _ | refine down_alloc ?_ _ | refine down_drew ?_ | refine down_set ?_ (by simp) _))) hA).mono ?_
            rintro e w' ⟨rfl, rfl⟩
            go_wp2_with fail
            refine (has_any _ _ _ (T.below (by repeat (first | exact Below.refl _ _ | refine down_alloc ?_ _ | refine down_drew ?_ | refine down_set ?_ (by simp) _))) hB).mono ?_
            rintro e w' ⟨rfl, rfl⟩
            go_wp2_with fail
            exact bodyPost_ret (v := .tuple #[rowV ((opT.getD k rowZ).1, opA k, opB k, opTk k, opLv k), .bool true]) (by simp [results, Tryz.results93, go_sem, rowV, opNm, rowZ, hy0, hy1, hy2, hy3, hy4, hy5, hy6, hy7, hy8]) rfl (row_yes GG.out RR.out (by repeat (first | exact Below.refl _ _ | refine down_alloc ?_ _ | refine down_drew ?_ | refine down_set ?_ (by simp) _)))
          · have g4' : opHas (opB k) b = false := by simpa using g4
            rw [g4'] at G
            have GG := Lib.hid G
            clear G g4
            go_enter Tryz.func93, Tryz.ntmps93
            go_wp2_with fail
            refine (has_any _ _ _ (T.below (by repeat (first | exact Below.refl _ _ | refine down_alloc ?_ _ | refine down_drew ?_ | refine down_set ?_ (by simp) _))) hA).mono ?_
            rintro e w' ⟨rfl, rfl⟩
            go_wp2_with fail
            refine (has_any _ _ _ (T.below (by repeat (first | exact Below.refl _ _ | refine down_alloc ?_ _ | refine down_drew ?_ | refine down_set ?_ (by simp) _))) hB).mono ?_
            rintro e w' ⟨rfl, rfl⟩
            go_wp2_with fail
            exact bodyPost_ret (v := .tuple #[.agg #[.string ⟨#[]⟩, .int .i64 0, .int .i64 0, .int .i64 0, .int .i64 0], .bool false]) (by simp [results, Tryz.results93, go_sem, hy0, hy1, hy2, hy3, hy4, hy5, hy6, hy7, hy8]) rfl (row_no GG.out (by repeat (first | exact Below.refl _ _ | refine down_alloc ?_ _ | refine down_drew ?_ | refine down_set ?_ (by simp) _)))
      · have g1' : opHas (opA k) a = false := by simpa using g1
        rw [g1', Bool.false_and] at G
        have GG := Lib.hid G
        clear G g1
        go_enter Tryz.func93, Tryz.ntmps93
        go_wp2_with fail
        refine (has_any _ _ _ (T.below (by repeat (first | exact Below.refl _ _ | refine down_alloc ?_ _ | refine down_drew ?_ | refine down_set ?_ (by simp) _))) hA).mono ?_
        rintro e w' ⟨rfl, rfl⟩
        go_wp2_with fail
        exact bodyPost_ret (v := .tuple #[.agg #[.string ⟨#[]⟩, .int .i64 0, .int .i64 0, .int .i64 0, .int .i64 0], .bool false]) (by simp [results, Tryz.results93, go_sem]) rfl (row_no GG.out (by repeat (first | exact Below.refl _ _ | refine down_alloc ?_ _ | refine down_drew ?_ | refine down_set ?_ (by simp) _)))
    · have GG := Lib.hid (good_out o a b (by omega)).1
      go_enter Tryz.func93, Tryz.ntmps93
      go_wp2_with fail
      exact bodyPost_ret (v := .tuple #[.agg #[.string ⟨#[]⟩, .int .i64 0, .int .i64 0, .int .i64 0, .int .i64 0], .bool false]) (by simp [results, Tryz.results93, go_sem]) rfl (row_no GG.out (by repeat (first | exact Below.refl _ _ | refine down_alloc ?_ _ | refine down_drew ?_ | refine down_set ?_ (by simp) _)))
  · have GG := Lib.hid (good_out o a b (by omega)).1
    go_enter Tryz.func93, Tryz.ntmps93
    go_wp2_with fail
    exact bodyPost_ret (v := .tuple #[.agg #[.string ⟨#[]⟩, .int .i64 0, .int .i64 0, .int .i64 0, .int .i64 0], .bool false]) (by simp [results, Tryz.results93, go_sem]) rfl (row_no GG.out (by repeat (first | exact Below.refl _ _ | refine down_alloc ?_ _ | refine down_drew ?_ | refine down_set ?_ (by simp) _)))
end Go.Proofs.YtnjpjhlodamanaaGreatDoor

/-
  Package op: whether an instruction may be, what it takes and leaves, the op of a name.
  Conditions: as each states.
-/
namespace Go.Proofs.YtnjpjhlodamanaaGreatDoor
set_option linter.unusedVariables false
set_option linter.unusedSimpArgs false
open Go.ChangeShapes Go.WideShapes Go.ChangeAt Go.RowKit
set_option maxRecDepth 100000

theorem opGood_any (o a b : Int) (w : World) (T : OpTab w) :
    Calls Tryz.prog 91 #[.agg #[.int .i64 o, .int .i64 a, .int .i64 b]] w fun e w' => e = .returned (.bool (opGood o a b)) ∧ Below w.heap.size w w' := by
  go_enter Tryz.func91, Tryz.ntmps91
  go_wp2_with fail
  refine (rowOf_any _ _ _ _ (T.below (by repeat (first | exact Below.refl _ _ | refine down_alloc ?_ _)))).mono ?_
  rintro e w' ⟨rfl, hb⟩
  unfold rowV
  go_wp2_with fail
  go_ret
  exact ⟨rfl, by refine down_alloc (down_call ?_ hb) _; repeat (first | exact Below.refl _ _ | refine down_alloc ?_ _)⟩

def effT (o a b : Int) : Int := if opGood o a b = true then tkP o a b else 0
def effL (o a b : Int) : Int := if opGood o a b = true then lvP o a else 0
def EffPost (o a b : Int) (w : World) (e : Ending) (w' : World) : Prop := e = .returned (.tuple #[.int .i64 (effT o a b), .int .i64 (effL o a b), .bool (opGood o a b)]) ∧ Below w.heap.size w w'

theorem eff_row (o a b : Int) : effT o a b = (if (rowP o a b).2.2.2.1 = -1 then b else (rowP o a b).2.2.2.1) ∧ effL o a b = (rowP o a b).2.2.2.2 := by
  unfold effT effL rowP tkP lvP
  cases h : opGood o a b
  · exact ⟨rfl, rfl⟩
  · exact ⟨rfl, rfl⟩

def ofP (l : List UInt8) : Option Nat := (List.range 38).find? fun k => (opNm k).toList == l
def OfNm (s : ByteArray) (w : World) (e : Ending) (w' : World) : Prop := e = .returned (.tuple #[.int .i64 ((ofP s.toList).getD 0 : Nat), .bool (ofP s.toList).isSome]) ∧ w = w'

theorem ofP_hit (s : ByteArray) (j : Nat) (hj : j < 38) (hn : ∀ i, i < j → ((opNm i).toList == s.toList) = false) (h : ((opNm j).toList == s.toList) = true) : ofP s.toList = some j := by
  unfold ofP
  rw [List.find?_range_eq_some]
  exact ⟨h, List.mem_range.2 hj, fun i hi => by rw [hn i hi]; rfl⟩
theorem ofP_miss (s : ByteArray) (hn : ∀ i, i < 38 → ((opNm i).toList == s.toList) = false) : ofP s.toList = none := by
  unfold ofP
  rw [List.find?_range_eq_none]
  exact fun i hi => by rw [hn i hi]; rfl

theorem of_hit {s : ByteArray} {w : World} {j : Nat} (h : ofP s.toList = some j) : OfNm s w (.returned (.tuple #[.int .i64 (j : Nat), .bool true])) w := by
  refine ⟨?_, rfl⟩
  rw [h]; rfl
theorem of_miss {s : ByteArray} {w : World} (h : ofP s.toList = none) : OfNm s w (.returned (.tuple #[.int .i64 0, .bool false])) w := by
  refine ⟨?_, rfl⟩
  rw [h]; rfl

end Go.Proofs.YtnjpjhlodamanaaGreatDoor
