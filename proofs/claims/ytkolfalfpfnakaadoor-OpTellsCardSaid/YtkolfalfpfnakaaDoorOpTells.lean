/-
  For every instruction and name the law OpTells returns true, and its arguments read as they did. Condition: the three tables of package op read when the call begins as the program's text lays them (the card ties them).
-/
import Derived.Test.YtkolfalfpfnakaaDoorOpN
import Derived.Test.YtkolfalfpfnakaaDoorArgsI
import Derived.Test.YtkolfalfpfnakaaDoorTie
import Derived.Test.YtkolfalfpfnakaaDoorCards
import Derived.SevenTiedAt
import Derived.LaidMore
import Derived.Stop.Joined
import Derived.Deep.RegionHeld3
namespace Go.Proofs.YtkolfalfpfnakaaDoor.opTells
open Go.ChangeShapes Go.WideShapes Go.ChangeAt Go.RowKit
set_option linter.unusedVariables false
set_option linter.unusedSimpArgs false
set_option linter.unusedVariables false
set_option maxRecDepth 100000

theorem own : ownKnob Tryd.prog.godebug = none := by kernel_rfl
theorem laidOut : laidOutB Tryd.prog = true := by kernel_rfl

/-- What the loop over the names has found, ahead of place j. -/
def wantTo (s : ByteArray) (j : Nat) : Int := match ofP s.toList with | some k => if k < j then (k : Int) else -1 | none => -1
theorem want_zero (s : ByteArray) : wantTo s 0 = -1 := by unfold wantTo; cases ofP s.toList <;> rfl
theorem want_hit {s : ByteArray} {j : Nat} (hj : j < 38) (h : ((opNm j).toList == s.toList) = true) : wantTo s (j + 1) = (j : Int) := by
  unfold wantTo; rw [ofP_eq hj h]; simp
theorem want_miss {s : ByteArray} {j : Nat} (h : ((opNm j).toList == s.toList) = false) : wantTo s (j + 1) = wantTo s j := by
  unfold wantTo
  cases e : ofP s.toList with
  | none => rfl
  | some k =>
    have := (ofP_is e).2
    by_cases hk : k = j
    · subst hk; rw [h] at this; cases this
    · show (if k < j + 1 then (k : Int) else -1) = if k < j then (k : Int) else -1
      by_cases h1 : k < j
      · rw [if_pos h1, if_pos (by omega)]
      · rw [if_neg h1, if_neg (by omega)]
theorem want_all {s : ByteArray} {k : Nat} (h : ofP s.toList = some k) : wantTo s 38 = (k : Int) := by
  unfold wantTo; rw [h]; simp [(ofP_is h).1]
theorem want_none {s : ByteArray} (h : ofP s.toList = none) : wantTo s 38 = -1 := by
  unfold wantTo; rw [h]

theorem of_int {s : ByteArray} {k : Nat} {kk : Int} (h : ofP s.toList = some k ∧ kk = (k : Int)) (w : World) (T : OpTab w) : Calls Tryd.prog 11 #[.string s] w fun e w' => e = .returned (.tuple #[.int .i64 kk, .bool true]) ∧ w = w' := by
  obtain ⟨h1, rfl⟩ := h
  exact of_some h1 w T
theorem refName_in (i : Nat) (hi : i < 38) (w : World) : Calls Tryd.prog 10 #[.int .i64 i] w fun e w' => e = .returned (.string (opNm i)) ∧ w = w' :=
  (refName_any i w).mono fun e w' ⟨he, hw⟩ => ⟨by rw [he, nmOf_in i hi], hw⟩

theorem refOf_good {o a b : Int} (g : opGood o a b = true) (w : World) : Calls Tryd.prog 8 #[.agg #[.int .i64 o, .int .i64 a, .int .i64 b]] w fun e w' => e = .returned (.agg #[.int .i64 (effT o a b), .int .i64 (effL o a b)]) ∧ Below w.heap.size w w' :=
  (refOf_any o a b w).mono fun e w' ⟨x, y, he, hxy, hb⟩ => by
    obtain ⟨rfl, rfl⟩ := hxy g
    unfold effT effL
    rw [if_pos g, if_pos g]
    exact ⟨he, hb⟩
theorem eff_bad {o a b : Int} (g : opGood o a b = false) : effT o a b = 0 ∧ effL o a b = 0 := by
  unfold effT effL; rw [g]; exact ⟨rfl, rfl⟩
theorem effect_bad {o a b : Int} (g : opGood o a b = false) (w : World) (T : OpTab w) : Calls Tryd.prog 7 #[.agg #[.int .i64 o, .int .i64 a, .int .i64 b]] w fun e w' => e = .returned (.tuple #[.int .i64 0, .int .i64 0, .bool false]) ∧ Below w.heap.size w w' :=
  (effect_any o a b w T).mono fun e w' ⟨he, hb⟩ => ⟨by rw [he, (eff_bad g).1, (eff_bad g).2, g], hb⟩
theorem effect_good {o a b : Int} (g : opGood o a b = true) (w : World) (T : OpTab w) : Calls Tryd.prog 7 #[.agg #[.int .i64 o, .int .i64 a, .int .i64 b]] w fun e w' => e = .returned (.tuple #[.int .i64 (effT o a b), .int .i64 (effL o a b), .bool true]) ∧ Below w.heap.size w w' :=
  (effect_any o a b w T).mono fun e w' ⟨he, hb⟩ => ⟨by rw [he, g], hb⟩
theorem refGood_is {o a b : Int} {g : Bool} (h : opGood o a b = g) (w : World) : Calls Tryd.prog 9 #[.agg #[.int .i64 o, .int .i64 a, .int .i64 b]] w fun e w' => e = .returned (.bool g) ∧ Below w.heap.size w w' :=
  (refGood_any o a b w).mono fun e w' ⟨he, hb⟩ => ⟨by rw [he, h], hb⟩
theorem good_is {o a b : Int} {g : Bool} (h : opGood o a b = g) (w : World) (T : OpTab w) : Calls Tryd.prog 13 #[.agg #[.int .i64 o, .int .i64 a, .int .i64 b]] w fun e w' => e = .returned (.bool g) ∧ Below w.heap.size w w' :=
  (good_any o a b w T).mono fun e w' ⟨he, hb⟩ => ⟨by rw [he, h], hb⟩

def Sx (n0 n : Nat) (w : World) (o a b x y : Int) (W : World) : Prop :=
  W.cell? ⟨n0, 0, none⟩ = some (.int .i64 o) ∧ W.cell? ⟨n0, 1, none⟩ = some (.int .i64 a) ∧ W.cell? ⟨n0, 2, none⟩ = some (.int .i64 b) ∧ W.cell? ⟨n, 0, none⟩ = some (.int .i64 x) ∧ W.cell? ⟨n, 1, none⟩ = some (.int .i64 y) ∧ OpTab W ∧ Hid (Below w.heap.size w W) ∧ n0 < W.heap.size ∧ n < W.heap.size
theorem sx_carry {n0 n : Nat} {w W W' : World} {o a b x y : Int} (hb : Below W.heap.size W W') (h : Sx n0 n w o a b x y W) : Sx n0 n w o a b x y W' := by
  obtain ⟨h0, h1, h2, h3, h4, T, B, z0, z⟩ := h
  obtain ⟨c, -⟩ := down_cell hb
  exact ⟨by rw [c _ _ z0]; exact h0, by rw [c _ _ z0]; exact h1, by rw [c _ _ z0]; exact h2, by rw [c _ _ z]; exact h3, by rw [c _ _ z]; exact h4, T.below hb, Lib.hid (down_call B.out hb), Nat.lt_of_lt_of_le z0 hb.size, Nat.lt_of_lt_of_le z hb.size⟩
theorem sx_drew {n0 n : Nat} {w W : World} {o a b x y : Int} (h : Sx n0 n w o a b x y W) : Sx n0 n w o a b x y W.drew := by
  obtain ⟨h0, h1, h2, h3, h4, T, B, z0, z⟩ := h
  exact ⟨h0, h1, h2, h3, h4, T.below (down_drew (Below.refl _ _)), Lib.hid (down_drew B.out), z0, z⟩

set_option maxHeartbeats 4000000 in
theorem walk (o0 a0 b0 : Int) (s1 : ByteArray) (wo0 : (Lit.int .i64 o0).wf = true) (wa0 : (Lit.int .i64 a0).wf = true) (wb0 : (Lit.int .i64 b0).wf = true) (w1 : s1.size ≤ maxLen) (w : World) (T : OpTab w) :
    Calls Tryd.prog 3 #[.agg #[.int .i64 o0, .int .i64 a0, .int .i64 b0], .string s1] w fun e w' => e = .returned (.bool true) ∧ Below w.heap.size w w' := by
  clear wo0 wa0 wb0 w1
  cases g : opGood o0 a0 b0
  · have G := Lib.hid g
    clear g
    go_enter Tryd.func3, Tryd.ntmps3
    go_wp2_with fail
    refine (effect_bad G.out _ (T.below (down_alloc (Below.refl _ _) _))).mono ?_
    rintro e w1 ⟨rfl, b1⟩
    have B1 := Lib.hid (down_call (down_alloc (Below.refl _ _) _) b1)
    obtain ⟨c1, -⟩ := down_cell b1
    have z1' : w.heap.size < w1.heap.size := by have z1 := b1.size; simp at z1; omega
    have q0 : w1.cell? ⟨w.heap.size, 0, none⟩ = some (.int .i64 o0) := by rw [c1 _ _ (by simp)]; simp [go_sem]
    have q1 : w1.cell? ⟨w.heap.size, 1, none⟩ = some (.int .i64 a0) := by rw [c1 _ _ (by simp)]; simp [go_sem]
    have q2 : w1.cell? ⟨w.heap.size, 2, none⟩ = some (.int .i64 b0) := by rw [c1 _ _ (by simp)]; simp [go_sem]
    clear c1
    go_wp2_with fail
    refine (refOf_any _ _ _ _).mono ?_
    rintro e w2 ⟨ux, uy, rfl, -, b2⟩
    have B2 := Lib.hid (down_call B1.out b2)
    obtain ⟨c2, -⟩ := down_cell b2
    have z2 : w.heap.size < w2.heap.size := Nat.lt_of_lt_of_le z1' b2.size
    have r0 : w2.cell? ⟨w.heap.size, 0, none⟩ = some (.int .i64 o0) := by rw [c2 _ _ z1']; exact q0
    have r1 : w2.cell? ⟨w.heap.size, 1, none⟩ = some (.int .i64 a0) := by rw [c2 _ _ z1']; exact q1
    have r2 : w2.cell? ⟨w.heap.size, 2, none⟩ = some (.int .i64 b0) := by rw [c2 _ _ z1']; exact q2
    clear c2 q0 q1 q2
    go_wp2_with fail
    refine (refGood_is G.out _).mono ?_
    rintro e w3 ⟨rfl, b3⟩
    have z3 : w2.heap.size < w3.heap.size := by have := b3.size; simp at this; omega
    have z3' : w.heap.size < w3.heap.size := by omega
    obtain ⟨c3, f3⟩ := down_cell b3
    have f0 : w3.frozen? ⟨w2.heap.size, 0, none⟩ = false := by rw [f3 _ _ (by simp)]; simp [go_sem]
    have f1 : w3.frozen? ⟨w2.heap.size, 1, none⟩ = false := by rw [f3 _ _ (by simp)]; simp [go_sem]
    have x0 : w3.cell? ⟨w.heap.size, 0, none⟩ = some (.int .i64 o0) := by rw [c3 _ _ (by simp; omega)]; simpa [go_sem, z2] using r0
    have x1 : w3.cell? ⟨w.heap.size, 1, none⟩ = some (.int .i64 a0) := by rw [c3 _ _ (by simp; omega)]; simpa [go_sem, z2] using r1
    have x2 : w3.cell? ⟨w.heap.size, 2, none⟩ = some (.int .i64 b0) := by rw [c3 _ _ (by simp; omega)]; simpa [go_sem, z2] using r2
    have x3 : w3.cell? ⟨w2.heap.size, 0, none⟩ = some (.int .i64 ux) := by rw [c3 _ _ (by simp)]; simp [go_sem]
    have x4 : w3.cell? ⟨w2.heap.size, 1, none⟩ = some (.int .i64 uy) := by rw [c3 _ _ (by simp)]; simp [go_sem]
    have HB := Lib.hid (down_call (down_alloc B2.out _) b3)
    have hT3 := T.below HB.out
    clear c3 f3 r0 r1 r2
    go_wp2_with fail
    obtain ⟨w4, hw4⟩ : ∃ w4 : World, w4 = ((w3.setCell ⟨w2.heap.size, 0, none⟩ (.int .i64 0)).setCell ⟨w2.heap.size, 1, none⟩ (.int .i64 0)) := ⟨_, rfl⟩
    rw [← hw4]
    have X0 : w4.cell? ⟨w.heap.size, 0, none⟩ = some (.int .i64 o0) := by rw [hw4]; simpa [go_sem, Nat.ne_of_lt z2] using x0
    have X1 : w4.cell? ⟨w.heap.size, 1, none⟩ = some (.int .i64 a0) := by rw [hw4]; simpa [go_sem, Nat.ne_of_lt z2] using x1
    have X2 : w4.cell? ⟨w.heap.size, 2, none⟩ = some (.int .i64 b0) := by rw [hw4]; simpa [go_sem, Nat.ne_of_lt z2] using x2
    have X3 : w4.cell? ⟨w2.heap.size, 0, none⟩ = some (.int .i64 0) := by rw [hw4]; simp [go_sem, x3]
    have X4 : w4.cell? ⟨w2.heap.size, 1, none⟩ = some (.int .i64 0) := by rw [hw4]; simp [go_sem, x4]
    have HB4 : Hid (Below w.heap.size w w4) := Lib.hid (by rw [hw4]; exact down_set (down_set HB.out (Nat.le_of_lt z2) _) (Nat.le_of_lt z2) _)
    have Z3 : w2.heap.size < w4.heap.size := by rw [hw4]; simpa [go_sem] using z3
    have Z3' : w.heap.size < w4.heap.size := by omega
    clear hw4 x0 x1 x2 x3 x4 hT3 HB z3 z3' f0 f1
    have x0 := X0; have x1 := X1; have x2 := X2; have x3 := X3; have x4 := X4; have HB := HB4; have z3 := Z3; have z3' := Z3'
    clear X0 X1 X2 X3 X4 HB4 Z3 Z3'
    have hT3 := T.below HB.out
    go_loop [9, 10] (fun v i => ∃ j : Nat, j ≤ 38 ∧ v = .int .i64 (wantTo s1 j) ∧ i = .int .i64 j) (fun _ i => 38 - (intOf i).toNat)
    case atStart => exact ⟨0, Nat.zero_le _, by rw [want_zero], rfl⟩
    case round =>
      obtain ⟨j, hj, rfl, rfl⟩ := hrel
      by_cases hj' : j < 38
      · cases he : ((opNm j).toList == s1.toList)
        · have WM := Lib.hid (want_miss he)
          go_wp2_with (go_at_call 10; refine (refName_in j hj' _).mono ?_; rintro e w' ⟨rfl, rfl⟩)
          exact ⟨⟨j + 1, by omega, by rw [WM.out], by go_num⟩, by simp [intOf]; omega⟩
        · have WM := Lib.hid (want_hit hj' he)
          go_wp2_with (go_at_call 10; refine (refName_in j hj' _).mono ?_; rintro e w' ⟨rfl, rfl⟩)
          exact ⟨⟨j + 1, by omega, by rw [WM.out], by go_num⟩, by simp [intOf]; omega⟩
      · obtain rfl : j = 38 := by omega
        cases hP : ofP s1.toList
        · have P := Lib.hid hP
          rw [want_none hP]
          clear hP
          go_wp2_with (go_at_call 11; refine (of_none P.out _ hT3).mono ?_; rintro e w' ⟨rfl, rfl⟩)
          obtain ⟨y0, y1, y2, y3, y4, yT, yB, yz0, yz⟩ := sx_drew (⟨x0, x1, x2, x3, x4, hT3, HB, z3', z3⟩ : Sx w.heap.size w2.heap.size w o0 a0 b0 0 0 _)
          go_region_held3 (fun w' => w'.cell? ⟨w.heap.size, 0, none⟩ = some (.int .i64 o0) ∧ w'.cell? ⟨w.heap.size, 1, none⟩ = some (.int .i64 a0) ∧ w'.cell? ⟨w.heap.size, 2, none⟩ = some (.int .i64 b0) ∧ w'.cell? ⟨w2.heap.size, 0, none⟩ = some (.int .i64 0) ∧ w'.cell? ⟨w2.heap.size, 1, none⟩ = some (.int .i64 0) ∧ OpTab w' ∧ Hid (Below w.heap.size w w') ∧ w.heap.size < w'.heap.size ∧ w2.heap.size < w'.heap.size) (exact ⟨y0, y1, y2, y3, y4, yT, yB, yz0, yz⟩) (first
            | (go_at_call 12; ((with_reducible refine (name_any _ _ yT).mono ?_); rintro e w' ⟨rfl, rfl⟩))
            | (go_at_call 10; ((with_reducible refine (refName_any _ _).mono ?_); rintro e w' ⟨rfl, rfl⟩))
            | (go_at_call 13; ((with_reducible refine (good_is G.out _ yT).mono ?_); rintro e w' ⟨rfl, hb⟩; obtain ⟨y0, y1, y2, y3, y4, yT, yB, yz0, yz⟩ := sx_carry hb ⟨y0, y1, y2, y3, y4, yT, yB, yz0, yz⟩))
            | (go_at_call 9; ((with_reducible refine (refGood_is G.out _).mono ?_); rintro e w' ⟨rfl, hb⟩; obtain ⟨y0, y1, y2, y3, y4, yT, yB, yz0, yz⟩ := sx_carry hb ⟨y0, y1, y2, y3, y4, yT, yB, yz0, yz⟩))
            | (go_at_call 14; ((with_reducible refine (ends_any _ _ _ _).mono ?_); rintro e w' ⟨rfl, hb⟩; obtain ⟨y0, y1, y2, y3, y4, yT, yB, yz0, yz⟩ := sx_carry hb ⟨y0, y1, y2, y3, y4, yT, yB, yz0, yz⟩))
            | (go_at_call 15; ((with_reducible refine (refEnds_any _ _ _ _).mono ?_); rintro e w' ⟨rfl, hb⟩; obtain ⟨y0, y1, y2, y3, y4, yT, yB, yz0, yz⟩ := sx_carry hb ⟨y0, y1, y2, y3, y4, yT, yB, yz0, yz⟩))
            | (go_at_call 16; ((with_reducible refine (wakes_any _ yT).mono ?_); rintro e w' ⟨rfl, hb⟩; obtain ⟨y0, y1, y2, y3, y4, yT, yB, yz0, yz⟩ := sx_carry hb ⟨y0, y1, y2, y3, y4, yT, yB, yz0, yz⟩)))
          all_goals
            go_wp2_with fail
            go_ret
            exact ⟨rfl, yB.out⟩
        · rename_i k
          have P := Lib.hid hP
          rw [want_all hP]
          obtain ⟨kk, ek⟩ : ∃ kk : Int, kk = (k : Int) := ⟨_, rfl⟩
          rw [← ek]
          have hk : (0 : Int) ≤ kk := by omega
          have hmx : (if 0 < kk then kk else 0) = kk := by split <;> omega
          have P' := Lib.hid (And.intro P.out ek)
          clear hP ek P
          go_wp2_with (go_at_call 11; refine (of_int P'.out _ hT3).mono ?_; rintro e w' ⟨rfl, rfl⟩)
          obtain ⟨y0, y1, y2, y3, y4, yT, yB, yz0, yz⟩ := sx_drew (⟨x0, x1, x2, x3, x4, hT3, HB, z3', z3⟩ : Sx w.heap.size w2.heap.size w o0 a0 b0 0 0 _)
          go_region_held3 (fun w' => w'.cell? ⟨w.heap.size, 0, none⟩ = some (.int .i64 o0) ∧ w'.cell? ⟨w.heap.size, 1, none⟩ = some (.int .i64 a0) ∧ w'.cell? ⟨w.heap.size, 2, none⟩ = some (.int .i64 b0) ∧ w'.cell? ⟨w2.heap.size, 0, none⟩ = some (.int .i64 0) ∧ w'.cell? ⟨w2.heap.size, 1, none⟩ = some (.int .i64 0) ∧ OpTab w' ∧ Hid (Below w.heap.size w w') ∧ w.heap.size < w'.heap.size ∧ w2.heap.size < w'.heap.size) (exact ⟨y0, y1, y2, y3, y4, yT, yB, yz0, yz⟩) (first
            | (go_at_call 12; ((with_reducible refine (name_any _ _ yT).mono ?_); rintro e w' ⟨rfl, rfl⟩))
            | (go_at_call 10; ((with_reducible refine (refName_any _ _).mono ?_); rintro e w' ⟨rfl, rfl⟩))
            | (go_at_call 13; ((with_reducible refine (good_is G.out _ yT).mono ?_); rintro e w' ⟨rfl, hb⟩; obtain ⟨y0, y1, y2, y3, y4, yT, yB, yz0, yz⟩ := sx_carry hb ⟨y0, y1, y2, y3, y4, yT, yB, yz0, yz⟩))
            | (go_at_call 9; ((with_reducible refine (refGood_is G.out _).mono ?_); rintro e w' ⟨rfl, hb⟩; obtain ⟨y0, y1, y2, y3, y4, yT, yB, yz0, yz⟩ := sx_carry hb ⟨y0, y1, y2, y3, y4, yT, yB, yz0, yz⟩))
            | (go_at_call 14; ((with_reducible refine (ends_any _ _ _ _).mono ?_); rintro e w' ⟨rfl, hb⟩; obtain ⟨y0, y1, y2, y3, y4, yT, yB, yz0, yz⟩ := sx_carry hb ⟨y0, y1, y2, y3, y4, yT, yB, yz0, yz⟩))
            | (go_at_call 15; ((with_reducible refine (refEnds_any _ _ _ _).mono ?_); rintro e w' ⟨rfl, hb⟩; obtain ⟨y0, y1, y2, y3, y4, yT, yB, yz0, yz⟩ := sx_carry hb ⟨y0, y1, y2, y3, y4, yT, yB, yz0, yz⟩))
            | (go_at_call 16; ((with_reducible refine (wakes_any _ yT).mono ?_); rintro e w' ⟨rfl, hb⟩; obtain ⟨y0, y1, y2, y3, y4, yT, yB, yz0, yz⟩ := sx_carry hb ⟨y0, y1, y2, y3, y4, yT, yB, yz0, yz⟩)))
          all_goals
            go_wp2_with fail
            go_ret
            exact ⟨rfl, yB.out⟩
  · have G := Lib.hid g
    clear g
    go_enter Tryd.func3, Tryd.ntmps3
    go_wp2_with fail
    refine (effect_good G.out _ (T.below (down_alloc (Below.refl _ _) _))).mono ?_
    rintro e w1 ⟨rfl, b1⟩
    have B1 := Lib.hid (down_call (down_alloc (Below.refl _ _) _) b1)
    obtain ⟨c1, -⟩ := down_cell b1
    have z1' : w.heap.size < w1.heap.size := by have z1 := b1.size; simp at z1; omega
    have q0 : w1.cell? ⟨w.heap.size, 0, none⟩ = some (.int .i64 o0) := by rw [c1 _ _ (by simp)]; simp [go_sem]
    have q1 : w1.cell? ⟨w.heap.size, 1, none⟩ = some (.int .i64 a0) := by rw [c1 _ _ (by simp)]; simp [go_sem]
    have q2 : w1.cell? ⟨w.heap.size, 2, none⟩ = some (.int .i64 b0) := by rw [c1 _ _ (by simp)]; simp [go_sem]
    clear c1
    go_wp2_with fail
    refine (refOf_good G.out _).mono ?_
    rintro e w2 ⟨rfl, b2⟩
    have B2 := Lib.hid (down_call B1.out b2)
    obtain ⟨c2, -⟩ := down_cell b2
    have z2 : w.heap.size < w2.heap.size := Nat.lt_of_lt_of_le z1' b2.size
    have r0 : w2.cell? ⟨w.heap.size, 0, none⟩ = some (.int .i64 o0) := by rw [c2 _ _ z1']; exact q0
    have r1 : w2.cell? ⟨w.heap.size, 1, none⟩ = some (.int .i64 a0) := by rw [c2 _ _ z1']; exact q1
    have r2 : w2.cell? ⟨w.heap.size, 2, none⟩ = some (.int .i64 b0) := by rw [c2 _ _ z1']; exact q2
    clear c2 q0 q1 q2
    go_wp2_with fail
    refine (refGood_is G.out _).mono ?_
    rintro e w3 ⟨rfl, b3⟩
    have z3 : w2.heap.size < w3.heap.size := by have := b3.size; simp at this; omega
    have z3' : w.heap.size < w3.heap.size := by omega
    obtain ⟨c3, f3⟩ := down_cell b3
    have f0 : w3.frozen? ⟨w2.heap.size, 0, none⟩ = false := by rw [f3 _ _ (by simp)]; simp [go_sem]
    have f1 : w3.frozen? ⟨w2.heap.size, 1, none⟩ = false := by rw [f3 _ _ (by simp)]; simp [go_sem]
    have x0 : w3.cell? ⟨w.heap.size, 0, none⟩ = some (.int .i64 o0) := by rw [c3 _ _ (by simp; omega)]; simpa [go_sem, z2] using r0
    have x1 : w3.cell? ⟨w.heap.size, 1, none⟩ = some (.int .i64 a0) := by rw [c3 _ _ (by simp; omega)]; simpa [go_sem, z2] using r1
    have x2 : w3.cell? ⟨w.heap.size, 2, none⟩ = some (.int .i64 b0) := by rw [c3 _ _ (by simp; omega)]; simpa [go_sem, z2] using r2
    have x3 : w3.cell? ⟨w2.heap.size, 0, none⟩ = some (.int .i64 (effT o0 a0 b0)) := by rw [c3 _ _ (by simp)]; simp [go_sem]
    have x4 : w3.cell? ⟨w2.heap.size, 1, none⟩ = some (.int .i64 (effL o0 a0 b0)) := by rw [c3 _ _ (by simp)]; simp [go_sem]
    have HB := Lib.hid (down_call (down_alloc B2.out _) b3)
    have hT3 := T.below HB.out
    clear c3 f3 r0 r1 r2
    go_wp2_with fail
    go_loop [9, 10] (fun v i => ∃ j : Nat, j ≤ 38 ∧ v = .int .i64 (wantTo s1 j) ∧ i = .int .i64 j) (fun _ i => 38 - (intOf i).toNat)
    case atStart => exact ⟨0, Nat.zero_le _, by rw [want_zero], rfl⟩
    case round =>
      obtain ⟨j, hj, rfl, rfl⟩ := hrel
      by_cases hj' : j < 38
      · cases he : ((opNm j).toList == s1.toList)
        · have WM := Lib.hid (want_miss he)
          go_wp2_with (go_at_call 10; refine (refName_in j hj' _).mono ?_; rintro e w' ⟨rfl, rfl⟩)
          exact ⟨⟨j + 1, by omega, by rw [WM.out], by go_num⟩, by simp [intOf]; omega⟩
        · have WM := Lib.hid (want_hit hj' he)
          go_wp2_with (go_at_call 10; refine (refName_in j hj' _).mono ?_; rintro e w' ⟨rfl, rfl⟩)
          exact ⟨⟨j + 1, by omega, by rw [WM.out], by go_num⟩, by simp [intOf]; omega⟩
      · obtain rfl : j = 38 := by omega
        cases hP : ofP s1.toList
        · have P := Lib.hid hP
          rw [want_none hP]
          clear hP
          go_wp2_with (go_at_call 11; refine (of_none P.out _ hT3).mono ?_; rintro e w' ⟨rfl, rfl⟩)
          obtain ⟨y0, y1, y2, y3, y4, yT, yB, yz0, yz⟩ := sx_drew (⟨x0, x1, x2, x3, x4, hT3, HB, z3', z3⟩ : Sx w.heap.size w2.heap.size w o0 a0 b0 (effT o0 a0 b0) (effL o0 a0 b0) _)
          go_region_held3 (fun w' => w'.cell? ⟨w.heap.size, 0, none⟩ = some (.int .i64 o0) ∧ w'.cell? ⟨w.heap.size, 1, none⟩ = some (.int .i64 a0) ∧ w'.cell? ⟨w.heap.size, 2, none⟩ = some (.int .i64 b0) ∧ w'.cell? ⟨w2.heap.size, 0, none⟩ = some (.int .i64 (effT o0 a0 b0)) ∧ w'.cell? ⟨w2.heap.size, 1, none⟩ = some (.int .i64 (effL o0 a0 b0)) ∧ OpTab w' ∧ Hid (Below w.heap.size w w') ∧ w.heap.size < w'.heap.size ∧ w2.heap.size < w'.heap.size) (exact ⟨y0, y1, y2, y3, y4, yT, yB, yz0, yz⟩) (first
            | (go_at_call 12; ((with_reducible refine (name_any _ _ yT).mono ?_); rintro e w' ⟨rfl, rfl⟩))
            | (go_at_call 10; ((with_reducible refine (refName_any _ _).mono ?_); rintro e w' ⟨rfl, rfl⟩))
            | (go_at_call 13; ((with_reducible refine (good_is G.out _ yT).mono ?_); rintro e w' ⟨rfl, hb⟩; obtain ⟨y0, y1, y2, y3, y4, yT, yB, yz0, yz⟩ := sx_carry hb ⟨y0, y1, y2, y3, y4, yT, yB, yz0, yz⟩))
            | (go_at_call 9; ((with_reducible refine (refGood_is G.out _).mono ?_); rintro e w' ⟨rfl, hb⟩; obtain ⟨y0, y1, y2, y3, y4, yT, yB, yz0, yz⟩ := sx_carry hb ⟨y0, y1, y2, y3, y4, yT, yB, yz0, yz⟩))
            | (go_at_call 14; ((with_reducible refine (ends_any _ _ _ _).mono ?_); rintro e w' ⟨rfl, hb⟩; obtain ⟨y0, y1, y2, y3, y4, yT, yB, yz0, yz⟩ := sx_carry hb ⟨y0, y1, y2, y3, y4, yT, yB, yz0, yz⟩))
            | (go_at_call 15; ((with_reducible refine (refEnds_any _ _ _ _).mono ?_); rintro e w' ⟨rfl, hb⟩; obtain ⟨y0, y1, y2, y3, y4, yT, yB, yz0, yz⟩ := sx_carry hb ⟨y0, y1, y2, y3, y4, yT, yB, yz0, yz⟩))
            | (go_at_call 16; ((with_reducible refine (wakes_any _ yT).mono ?_); rintro e w' ⟨rfl, hb⟩; obtain ⟨y0, y1, y2, y3, y4, yT, yB, yz0, yz⟩ := sx_carry hb ⟨y0, y1, y2, y3, y4, yT, yB, yz0, yz⟩)))
          all_goals
            go_wp2_with fail
            go_ret
            exact ⟨rfl, yB.out⟩
        · rename_i k
          have P := Lib.hid hP
          rw [want_all hP]
          obtain ⟨kk, ek⟩ : ∃ kk : Int, kk = (k : Int) := ⟨_, rfl⟩
          rw [← ek]
          have hk : (0 : Int) ≤ kk := by omega
          have hmx : (if 0 < kk then kk else 0) = kk := by split <;> omega
          have P' := Lib.hid (And.intro P.out ek)
          clear hP ek P
          go_wp2_with (go_at_call 11; refine (of_int P'.out _ hT3).mono ?_; rintro e w' ⟨rfl, rfl⟩)
          obtain ⟨y0, y1, y2, y3, y4, yT, yB, yz0, yz⟩ := sx_drew (⟨x0, x1, x2, x3, x4, hT3, HB, z3', z3⟩ : Sx w.heap.size w2.heap.size w o0 a0 b0 (effT o0 a0 b0) (effL o0 a0 b0) _)
          go_region_held3 (fun w' => w'.cell? ⟨w.heap.size, 0, none⟩ = some (.int .i64 o0) ∧ w'.cell? ⟨w.heap.size, 1, none⟩ = some (.int .i64 a0) ∧ w'.cell? ⟨w.heap.size, 2, none⟩ = some (.int .i64 b0) ∧ w'.cell? ⟨w2.heap.size, 0, none⟩ = some (.int .i64 (effT o0 a0 b0)) ∧ w'.cell? ⟨w2.heap.size, 1, none⟩ = some (.int .i64 (effL o0 a0 b0)) ∧ OpTab w' ∧ Hid (Below w.heap.size w w') ∧ w.heap.size < w'.heap.size ∧ w2.heap.size < w'.heap.size) (exact ⟨y0, y1, y2, y3, y4, yT, yB, yz0, yz⟩) (first
            | (go_at_call 12; ((with_reducible refine (name_any _ _ yT).mono ?_); rintro e w' ⟨rfl, rfl⟩))
            | (go_at_call 10; ((with_reducible refine (refName_any _ _).mono ?_); rintro e w' ⟨rfl, rfl⟩))
            | (go_at_call 13; ((with_reducible refine (good_is G.out _ yT).mono ?_); rintro e w' ⟨rfl, hb⟩; obtain ⟨y0, y1, y2, y3, y4, yT, yB, yz0, yz⟩ := sx_carry hb ⟨y0, y1, y2, y3, y4, yT, yB, yz0, yz⟩))
            | (go_at_call 9; ((with_reducible refine (refGood_is G.out _).mono ?_); rintro e w' ⟨rfl, hb⟩; obtain ⟨y0, y1, y2, y3, y4, yT, yB, yz0, yz⟩ := sx_carry hb ⟨y0, y1, y2, y3, y4, yT, yB, yz0, yz⟩))
            | (go_at_call 14; ((with_reducible refine (ends_any _ _ _ _).mono ?_); rintro e w' ⟨rfl, hb⟩; obtain ⟨y0, y1, y2, y3, y4, yT, yB, yz0, yz⟩ := sx_carry hb ⟨y0, y1, y2, y3, y4, yT, yB, yz0, yz⟩))
            | (go_at_call 15; ((with_reducible refine (refEnds_any _ _ _ _).mono ?_); rintro e w' ⟨rfl, hb⟩; obtain ⟨y0, y1, y2, y3, y4, yT, yB, yz0, yz⟩ := sx_carry hb ⟨y0, y1, y2, y3, y4, yT, yB, yz0, yz⟩))
            | (go_at_call 16; ((with_reducible refine (wakes_any _ yT).mono ?_); rintro e w' ⟨rfl, hb⟩; obtain ⟨y0, y1, y2, y3, y4, yT, yB, yz0, yz⟩ := sx_carry hb ⟨y0, y1, y2, y3, y4, yT, yB, yz0, yz⟩)))
          all_goals
            go_wp2_with fail
            go_ret
            exact ⟨rfl, yB.out⟩

theorem contract (H : Type) (enc : TypeId × Value → H) (W : World) (base : Nat) (args : Array Value) (ds gs : List (DataW H)) (before : List MemPlace)
    (hval0 : ∀ (j : Nat) t v, Tryd.f3.params[j]? = some t → args[j]? = some v → Value.okWide Tryd.prog W .any base t v)
    (hW : DataW.Whole enc Tryd.prog Tryd.f3.params.toList Rows.opTellsSpec.vars false W args.toList ds gs before)
    (T : OpTab W) :
    Calls Tryd.prog 3 args W fun e W' => ∃ v, e = .returned v ∧ Rows.opTellsSpec.post enc Tryd.prog Tryd.f3 false true false false W args v W' := by
  have hW' := hW
  have hval := hval0
  obtain ⟨p, q, hA0, hV, rfl, hfz, hnd⟩ := hW
  have hA : DataW.TrodAll enc Tryd.prog W 0 (fun _ => true) true Tryd.f3.params.toList args.toList ds p := hA0
  rw [Tryd.params3] at hA hval
  obtain ⟨rfl, rfl⟩ := trodVars_none hV
  obtain ⟨v0, vs0, d0, ds0, p0, q0, hargs, rfl, rfl, h0, r0⟩ := trodAll_cons hA
  obtain ⟨v1, vs1, d1, ds1, p1, q1, rfl, rfl, rfl, h1, r1⟩ := trodAll_cons r0
  obtain ⟨rfl, rfl, rfl⟩ := trodAll_nil r1
  obtain rfl : args = #[v0, v1] := by cases args; simp_all
  obtain ⟨o0, a0, b0, rfl, wo0, wa0, wb0⟩ := open_ins (hval 0 23 v0 rfl rfl) h0
  obtain ⟨s1, rfl, rfl, rfl, w1⟩ := ChangeMaps.open_string Tryd.underlying9 (hval 1 9 v1 rfl rfl) h1
  refine (walk o0 a0 b0 s1 wo0 wa0 wb0 w1 W T).mono fun e W' ⟨he, hb⟩ => ?_
  subst he
  exact ⟨_, rfl, law_post laidOut (by kernel_rfl) rfl (by kernel_rfl) Tryd.underlying4 hW' rfl rfl rfl hb⟩

theorem door_met (os : Os) (args : Array Value) : laidMetH Tryd.prog Rows.opTellsRow.laid ((World.doorLaid Tryd.prog 79 os).forCall (fun _ _ => 0) ⟨#[], args, []⟩).memory :=
  laidMetH_of_parts3 (fuel := 8) (laidMet_of_run' 8 (by kernel_rfl) (by kernel_rfl)) (by kernel_rfl) (by kernel_rfl)

set_option maxRecDepth 100000 in
theorem lifted (os : Os) (started : os.Started) (H : Type) (enc : TypeId × Value → H) :
    ReturnsInHanded {} Tryd.checked os 3 .any (fun w args => (Rows.opTellsSpec.pre enc Tryd.prog Tryd.f3 [] false w args ∧ laidMetH Tryd.prog Rows.opTellsRow.laid w) ∧ sizedMet enc Tryd.prog Tryd.f3 (OpenSpec.ofChange Rows.opTellsSpec) false w args)
      (Rows.opTellsSpec.post enc Tryd.prog Tryd.f3 false true false false) := by
  refine returnsInHanded_of_change_and (C := Tryd.checked) (X := fun w _ => laidMetH Tryd.prog Rows.opTellsRow.laid w) (fun _ _ _ hh h => h.of_heap hh) own started (by kernel_rfl) Tryd.func3
    (ChangeSpec.witness_shaped (enc := enc) (C := Tryd.checked) (os := os) (X := fun w _ => laidMetH Tryd.prog Rows.opTellsRow.laid w) false (World.doorLaid Tryd.prog 79 os) #[.agg #[.int .i64 0, .int .i64 0, .int .i64 0], .string ⟨#[]⟩] 8 rfl (World.shaped_of_RefB (by kernel_rfl) (by kernel_rfl)) (by kernel_rfl) (by kernel_rfl) (by kernel_rfl) (door_met os _)) ?_
  intro W base args ds gs before hval hW _ _ hL _
  exact contract H enc W base args ds gs before hval hW (optab_of (laid_lies (by kernel_rfl) hL _ _ (List.Mem.head _)) (laid_lies (by kernel_rfl) hL _ _ (List.Mem.tail _ (List.Mem.head _))) (laid_lies (by kernel_rfl) hL _ _ (List.Mem.tail _ (List.Mem.tail _ (List.Mem.head _)))))

theorem over : Rows.opTellsRow.holds Tryd.pinned (OpenSpec.ofChange Rows.opTellsSpec) :=
  OpenClaim.holds_of_wide 3 Tryd.f3 rfl rfl rfl rfl rfl rfl rfl ⟨rfl, rfl, rfl, rfl, rfl⟩ rfl rfl rfl rfl rfl (by kernel_rfl) Tryd.func3 (by kernel_rfl)
    (of_decide_eq_true (by kernel_rfl)) (by unfold Func.isWrapper; first | (rw [if_pos (by decide +kernel)]; kernel_rfl) | (rw [if_neg (by decide +kernel)]; exact ⟨rfl, rfl⟩))
    (fun os started H enc _ => lifted os started H enc)

theorem proved : Rows.OpTellsCardSaid :=
  Claim7.holds_tied_plain_at .later [] [.data, .data, .data] true _ false
    over (fun _ h => by cases h) (by kernel_rfl) (fun _ h => by cases h) opTells_row_tie rfl ⟨rfl, rfl⟩ (by kernel_rfl) rfl
    (fun f fn hf hfn => by
      obtain rfl : f = 3 := Option.some.inj ((show Tryd.prog.funcNamed "stockpot/stockpotlaw06.OpTells" = some 3 by kernel_rfl).symm.trans hf) |>.symm
      obtain rfl : fn = Tryd.f3 := (Option.some.inj (Tryd.func3.symm.trans hfn)).symm
      exact ⟨by kernel_rfl, fun j t ht => by
        have hall : (Tryd.f3.params.toList.all fun u => !Tryd.prog.wantsStandIn u) = true := by kernel_rfl
        exact (show Tryd.prog.wantsStandIn t = false by simpa using List.all_eq_true.1 hall t (by simpa using Array.mem_of_getElem? ht))⟩)
    (by kernel_rfl)
#print axioms proved
end Go.Proofs.YtkolfalfpfnakaaDoor.opTells
