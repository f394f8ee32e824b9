/-
  What instructions take and leave, by the table; the law on it, case by case.
  Conditions: as each states.
-/
import Derived.Test.YtkolfalfpfnakaaDoorOpN
import Derived.Deep.RegionHeld3
namespace Go.Proofs.YtkolfalfpfnakaaDoor
open Go.ChangeShapes Go.WideShapes Go.ChangeAt Go.RowKit
set_option linter.unusedVariables false
set_option linter.unusedSimpArgs false
set_option maxRecDepth 100000

theorem effect_let {o a b t l : Int} {g : Bool} (h : effT o a b = t ∧ effL o a b = l ∧ opGood o a b = g) (w : World) (T : OpTab w) : Calls Tryd.prog 7 #[.agg #[.int .i64 o, .int .i64 a, .int .i64 b]] w fun e w' => e = .returned (.tuple #[.int .i64 t, .int .i64 l, .bool g]) ∧ Below w.heap.size w w' := by
  obtain ⟨rfl, rfl, rfl⟩ := h
  exact effect_any o a b w T
theorem refGood_let {o a b t l : Int} {g : Bool} (h : effT o a b = t ∧ effL o a b = l ∧ opGood o a b = g) (w : World) : Calls Tryd.prog 9 #[.agg #[.int .i64 o, .int .i64 a, .int .i64 b]] w fun e w' => e = .returned (.bool g) ∧ Below w.heap.size w w' :=
  (refGood_any o a b w).mono fun e w' ⟨he, hb⟩ => ⟨by rw [he, h.2.2], hb⟩

def Pair (n0 n1 : Nat) (w : World) (o a b o' a' b' : Int) (W : World) : Prop :=
  W.cell? ⟨n0, 0, none⟩ = some (.int .i64 o) ∧ W.cell? ⟨n0, 1, none⟩ = some (.int .i64 a) ∧ W.cell? ⟨n0, 2, none⟩ = some (.int .i64 b) ∧ W.cell? ⟨n1, 0, none⟩ = some (.int .i64 o') ∧ W.cell? ⟨n1, 1, none⟩ = some (.int .i64 a') ∧ W.cell? ⟨n1, 2, none⟩ = some (.int .i64 b') ∧ OpTab W ∧ Hid (Below w.heap.size w W) ∧ n0 < W.heap.size ∧ n1 < W.heap.size
theorem pair_carry {n0 n1 : Nat} {w W W' : World} {o a b o' a' b' : Int} (hb : Below W.heap.size W W') (h : Pair n0 n1 w o a b o' a' b' W) : Pair n0 n1 w o a b o' a' b' W' := by
  obtain ⟨h0, h1, h2, h3, h4, h5, T, B, z0, z1⟩ := h
  obtain ⟨c, -⟩ := down_cell hb
  exact ⟨by rw [c _ _ z0]; exact h0, by rw [c _ _ z0]; exact h1, by rw [c _ _ z0]; exact h2, by rw [c _ _ z1]; exact h3, by rw [c _ _ z1]; exact h4, by rw [c _ _ z1]; exact h5, T.below hb, Lib.hid (down_call B.out hb), Nat.lt_of_lt_of_le z0 hb.size, Nat.lt_of_lt_of_le z1 hb.size⟩
theorem pair_drew {n0 n1 : Nat} {w W : World} {o a b o' a' b' : Int} (h : Pair n0 n1 w o a b o' a' b' W) : Pair n0 n1 w o a b o' a' b' W.drew := by
  obtain ⟨h0, h1, h2, h3, h4, h5, T, B, z0, z1⟩ := h
  exact ⟨h0, h1, h2, h3, h4, h5, T.below (down_drew (Below.refl _ _)), Lib.hid (down_drew B.out), z0, z1⟩
theorem pair_start {w : World} (T : OpTab w) (o a b o' a' b' : Int) (t : TypeId) : Pair w.heap.size (w.heap.size + 1) w o a b o' a' b' ((w.alloc (.cells #[.int .i64 o, .int .i64 a, .int .i64 b] t)).alloc (.cells #[.int .i64 o', .int .i64 a', .int .i64 b'] t)) := by
  have B : Below w.heap.size w ((w.alloc (.cells #[.int .i64 o, .int .i64 a, .int .i64 b] t)).alloc (.cells #[.int .i64 o', .int .i64 a', .int .i64 b'] t)) := down_alloc (down_alloc (Below.refl _ _) _) _
  refine ⟨by simp [go_sem], by simp [go_sem], by simp [go_sem], by simp [go_sem], by simp [go_sem], by simp [go_sem], T.below B, Lib.hid B, by simp; omega, by simp⟩

theorem tk_table : ∀ k : Nat, k < 38 → k ≠ 36 → (opTk k = -1 ↔ (k = 6 ∨ k = 19)) ∧ -1 ≤ opTk k ∧ opTk k ≤ 3 ∧ 0 ≤ opLv k ∧ opLv k ≤ 1 := by decide
theorem good_in {o a b : Int} (g : opGood o a b = true) : ∃ k : Nat, o = k ∧ k < 38 ∧ opHas (rowAtP k a).2.2.1 b = true := by
  unfold opGood at g
  simp only [Bool.and_eq_true, decide_eq_true_eq] at g
  obtain ⟨k, rfl⟩ := Int.eq_ofNat_of_zero_le g.1.1.1
  exact ⟨k, rfl, by omega, g.2⟩
theorem eff_host {a b : Int} (g : opGood 36 a b = true) : effT 36 a b = (hoT.getD a.toNat rowZ).2.2.2.1 ∧ effL 36 a b = 1 ∧ 0 ≤ effT 36 a b ∧ effT 36 a b ≤ 2 := by
  have h := g
  rw [host_good] at h
  simp only [Bool.and_eq_true, inB, decide_eq_true_eq] at h
  unfold effT effL
  rw [if_pos g, if_pos g]
  obtain rfl | rfl | rfl | rfl : a = 0 ∨ a = 1 ∨ a = 2 ∨ a = 3 := by omega
  · exact ⟨rfl, rfl, show (0 : Int) ≤ 1 by decide, show (1 : Int) ≤ 2 by decide⟩
  · exact ⟨rfl, rfl, show (0 : Int) ≤ 1 by decide, show (1 : Int) ≤ 2 by decide⟩
  · exact ⟨rfl, rfl, show (0 : Int) ≤ 2 by decide, show (2 : Int) ≤ 2 by decide⟩
  · exact ⟨rfl, rfl, show (0 : Int) ≤ 0 by decide, show (0 : Int) ≤ 2 by decide⟩
theorem eff_plain {k : Nat} {a b : Int} (hk : k < 38) (h : k ≠ 36) (g : opGood k a b = true) : effT k a b = (if opTk k = -1 then b else opTk k) ∧ effL k a b = opLv k := by
  unfold effT effL tkP lvP
  rw [if_pos g, if_pos g, row_plain k a (by omega)]
  exact ⟨rfl, rfl⟩
theorem eff_bounds {o a b : Int} (g : opGood o a b = true) : 0 ≤ effT o a b ∧ effT o a b ≤ 30 ∧ 0 ≤ effL o a b ∧ effL o a b ≤ 1 := by
  obtain ⟨k, rfl, hk, hb⟩ := good_in g
  by_cases h : k = 36
  · subst h
    obtain ⟨_, h1, h2, h3⟩ := eff_host g
    have h1' : effL ((36 : Nat) : Int) a b = 1 := h1
    have h2' : 0 ≤ effT ((36 : Nat) : Int) a b := h2
    have h3' : effT ((36 : Nat) : Int) a b ≤ 2 := h3
    omega
  · obtain ⟨e1, e2⟩ := eff_plain hk h g
    obtain ⟨t1, t2, t3, t4, t5⟩ := tk_table k hk h
    rw [e1, e2]
    refine ⟨?_, ?_, t4, t5⟩
    all_goals
      split
      · rename_i ht
        rcases t1.1 ht with rfl | rfl
        · have hb' : (0 : Int) ≤ b ∧ b ≤ 30 := by have := of_decide_eq_true hb; exact this
          omega
        · have hb' : (1 : Int) ≤ b ∧ b ≤ 8 := by have := of_decide_eq_true hb; exact this
          omega
      · rename_i ht
        omega
theorem eff_asB {k : Nat} {a b : Int} (hk : k = 6 ∨ k = 19) (g : opGood k a b = true) : effT k a b = b ∧ effL k a b = 1 := by
  rcases hk with rfl | rfl
  · exact eff_plain (by decide) (by decide) g
  · exact eff_plain (by decide) (by decide) g
theorem eff_same {o a b a' b' : Int} (g : opGood o a b = true) (g' : opGood o a' b' = true) (h6 : o ≠ 6) (h19 : o ≠ 19) (h36 : o ≠ 36) : effT o a b = effT o a' b' ∧ effL o a b = effL o a' b' := by
  obtain ⟨k, rfl, hk, -⟩ := good_in g
  have hn : ¬ opTk k = -1 := fun h => by rcases (tk_table k hk (by omega)).1.1 h with h | h <;> omega
  obtain ⟨e1, e2⟩ := eff_plain hk (by omega) g
  obtain ⟨e3, e4⟩ := eff_plain hk (by omega) g'
  rw [e1, e2, e3, e4, if_neg hn, if_neg hn]
  exact ⟨rfl, rfl⟩

set_option maxHeartbeats 4000000 in
theorem walk_ff (o a b o' a' b' ta la tc lc : Int) (H1 : Hid (effT o a b = ta ∧ effL o a b = la ∧ opGood o a b = false)) (H2 : Hid (effT o' a' b' = tc ∧ effL o' a' b' = lc ∧ opGood o' a' b' = false))  (w : World) (T : OpTab w) :
    Calls Tryd.prog 5 #[.agg #[.int .i64 o, .int .i64 a, .int .i64 b], .agg #[.int .i64 o', .int .i64 a', .int .i64 b']] w fun e w' => e = .returned (.bool true) ∧ Below w.heap.size w w' := by
  go_enter Tryd.func5, Tryd.ntmps5
  go_wp2_with fail
  obtain ⟨y0, y1, y2, y3, y4, y5, yT, yB, yz0, yz1⟩ := pair_start T o a b o' a' b' 23
  refine (effect_let H1.out _ yT).mono ?_
  rintro e w1 ⟨rfl, hb⟩
  obtain ⟨y0, y1, y2, y3, y4, y5, yT, yB, yz0, yz1⟩ := pair_carry hb ⟨y0, y1, y2, y3, y4, y5, yT, yB, yz0, yz1⟩
  go_wp2_with fail
  refine (effect_let H2.out _ yT).mono ?_
  rintro e w2 ⟨rfl, hb⟩
  obtain ⟨y0, y1, y2, y3, y4, y5, yT, yB, yz0, yz1⟩ := pair_carry hb ⟨y0, y1, y2, y3, y4, y5, yT, yB, yz0, yz1⟩
  go_wp2_with (first
    | (go_at_call 9; ((with_reducible refine (refGood_let H1.out _).mono ?_); rintro e w' ⟨rfl, hb⟩; obtain ⟨y0, y1, y2, y3, y4, y5, yT, yB, yz0, yz1⟩ := pair_carry hb ⟨y0, y1, y2, y3, y4, y5, yT, yB, yz0, yz1⟩))
    | (go_at_call 9; ((with_reducible refine (refGood_let H2.out _).mono ?_); rintro e w' ⟨rfl, hb⟩; obtain ⟨y0, y1, y2, y3, y4, y5, yT, yB, yz0, yz1⟩ := pair_carry hb ⟨y0, y1, y2, y3, y4, y5, yT, yB, yz0, yz1⟩))
    | (go_at_call 14; ((with_reducible refine (ends_any _ _ _ _).mono ?_); rintro e w' ⟨rfl, hb⟩; obtain ⟨y0, y1, y2, y3, y4, y5, yT, yB, yz0, yz1⟩ := pair_carry hb ⟨y0, y1, y2, y3, y4, y5, yT, yB, yz0, yz1⟩))
    | (go_at_call 16; ((with_reducible refine (wakes_any _ yT).mono ?_); rintro e w' ⟨rfl, hb⟩; obtain ⟨y0, y1, y2, y3, y4, y5, yT, yB, yz0, yz1⟩ := pair_carry hb ⟨y0, y1, y2, y3, y4, y5, yT, yB, yz0, yz1⟩)))
  all_goals
    go_ret
    exact ⟨rfl, yB.out⟩

set_option maxHeartbeats 4000000 in
theorem walk_ft (o a b o' a' b' ta la tc lc : Int) (H1 : Hid (effT o a b = ta ∧ effL o a b = la ∧ opGood o a b = false)) (H2 : Hid (effT o' a' b' = tc ∧ effL o' a' b' = lc ∧ opGood o' a' b' = true))  (w : World) (T : OpTab w) :
    Calls Tryd.prog 5 #[.agg #[.int .i64 o, .int .i64 a, .int .i64 b], .agg #[.int .i64 o', .int .i64 a', .int .i64 b']] w fun e w' => e = .returned (.bool true) ∧ Below w.heap.size w w' := by
  go_enter Tryd.func5, Tryd.ntmps5
  go_wp2_with fail
  obtain ⟨y0, y1, y2, y3, y4, y5, yT, yB, yz0, yz1⟩ := pair_start T o a b o' a' b' 23
  refine (effect_let H1.out _ yT).mono ?_
  rintro e w1 ⟨rfl, hb⟩
  obtain ⟨y0, y1, y2, y3, y4, y5, yT, yB, yz0, yz1⟩ := pair_carry hb ⟨y0, y1, y2, y3, y4, y5, yT, yB, yz0, yz1⟩
  go_wp2_with fail
  refine (effect_let H2.out _ yT).mono ?_
  rintro e w2 ⟨rfl, hb⟩
  obtain ⟨y0, y1, y2, y3, y4, y5, yT, yB, yz0, yz1⟩ := pair_carry hb ⟨y0, y1, y2, y3, y4, y5, yT, yB, yz0, yz1⟩
  go_wp2_with (first
    | (go_at_call 9; ((with_reducible refine (refGood_let H1.out _).mono ?_); rintro e w' ⟨rfl, hb⟩; obtain ⟨y0, y1, y2, y3, y4, y5, yT, yB, yz0, yz1⟩ := pair_carry hb ⟨y0, y1, y2, y3, y4, y5, yT, yB, yz0, yz1⟩))
    | (go_at_call 9; ((with_reducible refine (refGood_let H2.out _).mono ?_); rintro e w' ⟨rfl, hb⟩; obtain ⟨y0, y1, y2, y3, y4, y5, yT, yB, yz0, yz1⟩ := pair_carry hb ⟨y0, y1, y2, y3, y4, y5, yT, yB, yz0, yz1⟩))
    | (go_at_call 14; ((with_reducible refine (ends_any _ _ _ _).mono ?_); rintro e w' ⟨rfl, hb⟩; obtain ⟨y0, y1, y2, y3, y4, y5, yT, yB, yz0, yz1⟩ := pair_carry hb ⟨y0, y1, y2, y3, y4, y5, yT, yB, yz0, yz1⟩))
    | (go_at_call 16; ((with_reducible refine (wakes_any _ yT).mono ?_); rintro e w' ⟨rfl, hb⟩; obtain ⟨y0, y1, y2, y3, y4, y5, yT, yB, yz0, yz1⟩ := pair_carry hb ⟨y0, y1, y2, y3, y4, y5, yT, yB, yz0, yz1⟩)))
  all_goals
    go_ret
    exact ⟨rfl, yB.out⟩

set_option maxHeartbeats 4000000 in
theorem walk_tf (o a b o' a' b' ta la tc lc : Int) (H1 : Hid (effT o a b = ta ∧ effL o a b = la ∧ opGood o a b = true)) (H2 : Hid (effT o' a' b' = tc ∧ effL o' a' b' = lc ∧ opGood o' a' b' = false))  (w : World) (T : OpTab w) :
    Calls Tryd.prog 5 #[.agg #[.int .i64 o, .int .i64 a, .int .i64 b], .agg #[.int .i64 o', .int .i64 a', .int .i64 b']] w fun e w' => e = .returned (.bool true) ∧ Below w.heap.size w w' := by
  go_enter Tryd.func5, Tryd.ntmps5
  go_wp2_with fail
  obtain ⟨y0, y1, y2, y3, y4, y5, yT, yB, yz0, yz1⟩ := pair_start T o a b o' a' b' 23
  refine (effect_let H1.out _ yT).mono ?_
  rintro e w1 ⟨rfl, hb⟩
  obtain ⟨y0, y1, y2, y3, y4, y5, yT, yB, yz0, yz1⟩ := pair_carry hb ⟨y0, y1, y2, y3, y4, y5, yT, yB, yz0, yz1⟩
  go_wp2_with fail
  refine (effect_let H2.out _ yT).mono ?_
  rintro e w2 ⟨rfl, hb⟩
  obtain ⟨y0, y1, y2, y3, y4, y5, yT, yB, yz0, yz1⟩ := pair_carry hb ⟨y0, y1, y2, y3, y4, y5, yT, yB, yz0, yz1⟩
  go_wp2_with (first
    | (go_at_call 9; ((with_reducible refine (refGood_let H1.out _).mono ?_); rintro e w' ⟨rfl, hb⟩; obtain ⟨y0, y1, y2, y3, y4, y5, yT, yB, yz0, yz1⟩ := pair_carry hb ⟨y0, y1, y2, y3, y4, y5, yT, yB, yz0, yz1⟩))
    | (go_at_call 9; ((with_reducible refine (refGood_let H2.out _).mono ?_); rintro e w' ⟨rfl, hb⟩; obtain ⟨y0, y1, y2, y3, y4, y5, yT, yB, yz0, yz1⟩ := pair_carry hb ⟨y0, y1, y2, y3, y4, y5, yT, yB, yz0, yz1⟩))
    | (go_at_call 14; ((with_reducible refine (ends_any _ _ _ _).mono ?_); rintro e w' ⟨rfl, hb⟩; obtain ⟨y0, y1, y2, y3, y4, y5, yT, yB, yz0, yz1⟩ := pair_carry hb ⟨y0, y1, y2, y3, y4, y5, yT, yB, yz0, yz1⟩))
    | (go_at_call 16; ((with_reducible refine (wakes_any _ yT).mono ?_); rintro e w' ⟨rfl, hb⟩; obtain ⟨y0, y1, y2, y3, y4, y5, yT, yB, yz0, yz1⟩ := pair_carry hb ⟨y0, y1, y2, y3, y4, y5, yT, yB, yz0, yz1⟩)))
  all_goals
    go_ret
    exact ⟨rfl, yB.out⟩

set_option maxHeartbeats 4000000 in
theorem walk_ne (o a b o' a' b' ta la tc lc : Int) (H1 : Hid (effT o a b = ta ∧ effL o a b = la ∧ opGood o a b = true)) (H2 : Hid (effT o' a' b' = tc ∧ effL o' a' b' = lc ∧ opGood o' a' b' = true)) (h0 : 0 ≤ la) (h1 : la ≤ 1) (h2 : 0 ≤ ta) (h3 : ta ≤ 30) (hn : ¬ o = o') (hn' : (o != o') = true) (w : World) (T : OpTab w) :
    Calls Tryd.prog 5 #[.agg #[.int .i64 o, .int .i64 a, .int .i64 b], .agg #[.int .i64 o', .int .i64 a', .int .i64 b']] w fun e w' => e = .returned (.bool true) ∧ Below w.heap.size w w' := by
  go_enter Tryd.func5, Tryd.ntmps5
  go_wp2_with fail
  obtain ⟨y0, y1, y2, y3, y4, y5, yT, yB, yz0, yz1⟩ := pair_start T o a b o' a' b' 23
  refine (effect_let H1.out _ yT).mono ?_
  rintro e w1 ⟨rfl, hb⟩
  obtain ⟨y0, y1, y2, y3, y4, y5, yT, yB, yz0, yz1⟩ := pair_carry hb ⟨y0, y1, y2, y3, y4, y5, yT, yB, yz0, yz1⟩
  go_wp2_with fail
  refine (effect_let H2.out _ yT).mono ?_
  rintro e w2 ⟨rfl, hb⟩
  obtain ⟨y0, y1, y2, y3, y4, y5, yT, yB, yz0, yz1⟩ := pair_carry hb ⟨y0, y1, y2, y3, y4, y5, yT, yB, yz0, yz1⟩
  go_wp2_with (first
    | (go_at_call 9; ((with_reducible refine (refGood_let H1.out _).mono ?_); rintro e w' ⟨rfl, hb⟩; obtain ⟨y0, y1, y2, y3, y4, y5, yT, yB, yz0, yz1⟩ := pair_carry hb ⟨y0, y1, y2, y3, y4, y5, yT, yB, yz0, yz1⟩))
    | (go_at_call 9; ((with_reducible refine (refGood_let H2.out _).mono ?_); rintro e w' ⟨rfl, hb⟩; obtain ⟨y0, y1, y2, y3, y4, y5, yT, yB, yz0, yz1⟩ := pair_carry hb ⟨y0, y1, y2, y3, y4, y5, yT, yB, yz0, yz1⟩))
    | (go_at_call 14; ((with_reducible refine (ends_any _ _ _ _).mono ?_); rintro e w' ⟨rfl, hb⟩; obtain ⟨y0, y1, y2, y3, y4, y5, yT, yB, yz0, yz1⟩ := pair_carry hb ⟨y0, y1, y2, y3, y4, y5, yT, yB, yz0, yz1⟩))
    | (go_at_call 16; ((with_reducible refine (wakes_any _ yT).mono ?_); rintro e w' ⟨rfl, hb⟩; obtain ⟨y0, y1, y2, y3, y4, y5, yT, yB, yz0, yz1⟩ := pair_carry hb ⟨y0, y1, y2, y3, y4, y5, yT, yB, yz0, yz1⟩)))
  all_goals
    go_ret
    exact ⟨rfl, yB.out⟩

set_option maxHeartbeats 4000000 in
theorem walk_b6 (a b a' b' : Int) (H1 : Hid (effT 6 a b = b ∧ effL 6 a b = 1 ∧ opGood 6 a b = true)) (H2 : Hid (effT 6 a' b' = b' ∧ effL 6 a' b' = 1 ∧ opGood 6 a' b' = true)) (h2 : 0 ≤ b) (h3 : b ≤ 30) (w : World) (T : OpTab w) :
    Calls Tryd.prog 5 #[.agg #[.int .i64 6, .int .i64 a, .int .i64 b], .agg #[.int .i64 6, .int .i64 a', .int .i64 b']] w fun e w' => e = .returned (.bool true) ∧ Below w.heap.size w w' := by
  go_enter Tryd.func5, Tryd.ntmps5
  go_wp2_with fail
  obtain ⟨y0, y1, y2, y3, y4, y5, yT, yB, yz0, yz1⟩ := pair_start T 6 a b 6 a' b' 23
  refine (effect_let H1.out _ yT).mono ?_
  rintro e w1 ⟨rfl, hb⟩
  obtain ⟨y0, y1, y2, y3, y4, y5, yT, yB, yz0, yz1⟩ := pair_carry hb ⟨y0, y1, y2, y3, y4, y5, yT, yB, yz0, yz1⟩
  go_wp2_with fail
  refine (effect_let H2.out _ yT).mono ?_
  rintro e w2 ⟨rfl, hb⟩
  obtain ⟨y0, y1, y2, y3, y4, y5, yT, yB, yz0, yz1⟩ := pair_carry hb ⟨y0, y1, y2, y3, y4, y5, yT, yB, yz0, yz1⟩
  go_wp2_with (first
    | (go_at_call 9; ((with_reducible refine (refGood_let H1.out _).mono ?_); rintro e w' ⟨rfl, hb⟩; obtain ⟨y0, y1, y2, y3, y4, y5, yT, yB, yz0, yz1⟩ := pair_carry hb ⟨y0, y1, y2, y3, y4, y5, yT, yB, yz0, yz1⟩))
    | (go_at_call 9; ((with_reducible refine (refGood_let H2.out _).mono ?_); rintro e w' ⟨rfl, hb⟩; obtain ⟨y0, y1, y2, y3, y4, y5, yT, yB, yz0, yz1⟩ := pair_carry hb ⟨y0, y1, y2, y3, y4, y5, yT, yB, yz0, yz1⟩))
    | (go_at_call 14; ((with_reducible refine (ends_any _ _ _ _).mono ?_); rintro e w' ⟨rfl, hb⟩; obtain ⟨y0, y1, y2, y3, y4, y5, yT, yB, yz0, yz1⟩ := pair_carry hb ⟨y0, y1, y2, y3, y4, y5, yT, yB, yz0, yz1⟩))
    | (go_at_call 16; ((with_reducible refine (wakes_any _ yT).mono ?_); rintro e w' ⟨rfl, hb⟩; obtain ⟨y0, y1, y2, y3, y4, y5, yT, yB, yz0, yz1⟩ := pair_carry hb ⟨y0, y1, y2, y3, y4, y5, yT, yB, yz0, yz1⟩)))
  all_goals
    go_ret
    exact ⟨rfl, yB.out⟩

set_option maxHeartbeats 4000000 in
theorem walk_b19 (a b a' b' : Int) (H1 : Hid (effT 19 a b = b ∧ effL 19 a b = 1 ∧ opGood 19 a b = true)) (H2 : Hid (effT 19 a' b' = b' ∧ effL 19 a' b' = 1 ∧ opGood 19 a' b' = true)) (h2 : 0 ≤ b) (h3 : b ≤ 30) (w : World) (T : OpTab w) :
    Calls Tryd.prog 5 #[.agg #[.int .i64 19, .int .i64 a, .int .i64 b], .agg #[.int .i64 19, .int .i64 a', .int .i64 b']] w fun e w' => e = .returned (.bool true) ∧ Below w.heap.size w w' := by
  go_enter Tryd.func5, Tryd.ntmps5
  go_wp2_with fail
  obtain ⟨y0, y1, y2, y3, y4, y5, yT, yB, yz0, yz1⟩ := pair_start T 19 a b 19 a' b' 23
  refine (effect_let H1.out _ yT).mono ?_
  rintro e w1 ⟨rfl, hb⟩
  obtain ⟨y0, y1, y2, y3, y4, y5, yT, yB, yz0, yz1⟩ := pair_carry hb ⟨y0, y1, y2, y3, y4, y5, yT, yB, yz0, yz1⟩
  go_wp2_with fail
  refine (effect_let H2.out _ yT).mono ?_
  rintro e w2 ⟨rfl, hb⟩
  obtain ⟨y0, y1, y2, y3, y4, y5, yT, yB, yz0, yz1⟩ := pair_carry hb ⟨y0, y1, y2, y3, y4, y5, yT, yB, yz0, yz1⟩
  go_wp2_with (first
    | (go_at_call 9; ((with_reducible refine (refGood_let H1.out _).mono ?_); rintro e w' ⟨rfl, hb⟩; obtain ⟨y0, y1, y2, y3, y4, y5, yT, yB, yz0, yz1⟩ := pair_carry hb ⟨y0, y1, y2, y3, y4, y5, yT, yB, yz0, yz1⟩))
    | (go_at_call 9; ((with_reducible refine (refGood_let H2.out _).mono ?_); rintro e w' ⟨rfl, hb⟩; obtain ⟨y0, y1, y2, y3, y4, y5, yT, yB, yz0, yz1⟩ := pair_carry hb ⟨y0, y1, y2, y3, y4, y5, yT, yB, yz0, yz1⟩))
    | (go_at_call 14; ((with_reducible refine (ends_any _ _ _ _).mono ?_); rintro e w' ⟨rfl, hb⟩; obtain ⟨y0, y1, y2, y3, y4, y5, yT, yB, yz0, yz1⟩ := pair_carry hb ⟨y0, y1, y2, y3, y4, y5, yT, yB, yz0, yz1⟩))
    | (go_at_call 16; ((with_reducible refine (wakes_any _ yT).mono ?_); rintro e w' ⟨rfl, hb⟩; obtain ⟨y0, y1, y2, y3, y4, y5, yT, yB, yz0, yz1⟩ := pair_carry hb ⟨y0, y1, y2, y3, y4, y5, yT, yB, yz0, yz1⟩)))
  all_goals
    go_ret
    exact ⟨rfl, yB.out⟩

set_option maxHeartbeats 4000000 in
theorem walk_hs (a b b' ta : Int) (H1 : Hid (effT 36 a b = ta ∧ effL 36 a b = 1 ∧ opGood 36 a b = true)) (H2 : Hid (effT 36 a b' = ta ∧ effL 36 a b' = 1 ∧ opGood 36 a b' = true)) (h2 : 0 ≤ ta) (h3 : ta ≤ 30) (w : World) (T : OpTab w) :
    Calls Tryd.prog 5 #[.agg #[.int .i64 36, .int .i64 a, .int .i64 b], .agg #[.int .i64 36, .int .i64 a, .int .i64 b']] w fun e w' => e = .returned (.bool true) ∧ Below w.heap.size w w' := by
  go_enter Tryd.func5, Tryd.ntmps5
  go_wp2_with fail
  obtain ⟨y0, y1, y2, y3, y4, y5, yT, yB, yz0, yz1⟩ := pair_start T 36 a b 36 a b' 23
  refine (effect_let H1.out _ yT).mono ?_
  rintro e w1 ⟨rfl, hb⟩
  obtain ⟨y0, y1, y2, y3, y4, y5, yT, yB, yz0, yz1⟩ := pair_carry hb ⟨y0, y1, y2, y3, y4, y5, yT, yB, yz0, yz1⟩
  go_wp2_with fail
  refine (effect_let H2.out _ yT).mono ?_
  rintro e w2 ⟨rfl, hb⟩
  obtain ⟨y0, y1, y2, y3, y4, y5, yT, yB, yz0, yz1⟩ := pair_carry hb ⟨y0, y1, y2, y3, y4, y5, yT, yB, yz0, yz1⟩
  go_wp2_with (first
    | (go_at_call 9; ((with_reducible refine (refGood_let H1.out _).mono ?_); rintro e w' ⟨rfl, hb⟩; obtain ⟨y0, y1, y2, y3, y4, y5, yT, yB, yz0, yz1⟩ := pair_carry hb ⟨y0, y1, y2, y3, y4, y5, yT, yB, yz0, yz1⟩))
    | (go_at_call 9; ((with_reducible refine (refGood_let H2.out _).mono ?_); rintro e w' ⟨rfl, hb⟩; obtain ⟨y0, y1, y2, y3, y4, y5, yT, yB, yz0, yz1⟩ := pair_carry hb ⟨y0, y1, y2, y3, y4, y5, yT, yB, yz0, yz1⟩))
    | (go_at_call 14; ((with_reducible refine (ends_any _ _ _ _).mono ?_); rintro e w' ⟨rfl, hb⟩; obtain ⟨y0, y1, y2, y3, y4, y5, yT, yB, yz0, yz1⟩ := pair_carry hb ⟨y0, y1, y2, y3, y4, y5, yT, yB, yz0, yz1⟩))
    | (go_at_call 16; ((with_reducible refine (wakes_any _ yT).mono ?_); rintro e w' ⟨rfl, hb⟩; obtain ⟨y0, y1, y2, y3, y4, y5, yT, yB, yz0, yz1⟩ := pair_carry hb ⟨y0, y1, y2, y3, y4, y5, yT, yB, yz0, yz1⟩)))
  all_goals
    go_ret
    exact ⟨rfl, yB.out⟩

set_option maxHeartbeats 4000000 in
theorem walk_hn (a b a' b' ta tc : Int) (H1 : Hid (effT 36 a b = ta ∧ effL 36 a b = 1 ∧ opGood 36 a b = true)) (H2 : Hid (effT 36 a' b' = tc ∧ effL 36 a' b' = 1 ∧ opGood 36 a' b' = true)) (h2 : 0 ≤ ta) (h3 : ta ≤ 30) (hn : ¬ a = a') (hn' : (a != a') = true) (w : World) (T : OpTab w) :
    Calls Tryd.prog 5 #[.agg #[.int .i64 36, .int .i64 a, .int .i64 b], .agg #[.int .i64 36, .int .i64 a', .int .i64 b']] w fun e w' => e = .returned (.bool true) ∧ Below w.heap.size w w' := by
  go_enter Tryd.func5, Tryd.ntmps5
  go_wp2_with fail
  obtain ⟨y0, y1, y2, y3, y4, y5, yT, yB, yz0, yz1⟩ := pair_start T 36 a b 36 a' b' 23
  refine (effect_let H1.out _ yT).mono ?_
  rintro e w1 ⟨rfl, hb⟩
  obtain ⟨y0, y1, y2, y3, y4, y5, yT, yB, yz0, yz1⟩ := pair_carry hb ⟨y0, y1, y2, y3, y4, y5, yT, yB, yz0, yz1⟩
  go_wp2_with fail
  refine (effect_let H2.out _ yT).mono ?_
  rintro e w2 ⟨rfl, hb⟩
  obtain ⟨y0, y1, y2, y3, y4, y5, yT, yB, yz0, yz1⟩ := pair_carry hb ⟨y0, y1, y2, y3, y4, y5, yT, yB, yz0, yz1⟩
  go_wp2_with (first
    | (go_at_call 9; ((with_reducible refine (refGood_let H1.out _).mono ?_); rintro e w' ⟨rfl, hb⟩; obtain ⟨y0, y1, y2, y3, y4, y5, yT, yB, yz0, yz1⟩ := pair_carry hb ⟨y0, y1, y2, y3, y4, y5, yT, yB, yz0, yz1⟩))
    | (go_at_call 9; ((with_reducible refine (refGood_let H2.out _).mono ?_); rintro e w' ⟨rfl, hb⟩; obtain ⟨y0, y1, y2, y3, y4, y5, yT, yB, yz0, yz1⟩ := pair_carry hb ⟨y0, y1, y2, y3, y4, y5, yT, yB, yz0, yz1⟩))
    | (go_at_call 14; ((with_reducible refine (ends_any _ _ _ _).mono ?_); rintro e w' ⟨rfl, hb⟩; obtain ⟨y0, y1, y2, y3, y4, y5, yT, yB, yz0, yz1⟩ := pair_carry hb ⟨y0, y1, y2, y3, y4, y5, yT, yB, yz0, yz1⟩))
    | (go_at_call 16; ((with_reducible refine (wakes_any _ yT).mono ?_); rintro e w' ⟨rfl, hb⟩; obtain ⟨y0, y1, y2, y3, y4, y5, yT, yB, yz0, yz1⟩ := pair_carry hb ⟨y0, y1, y2, y3, y4, y5, yT, yB, yz0, yz1⟩)))
  all_goals
    go_ret
    exact ⟨rfl, yB.out⟩

set_option maxHeartbeats 4000000 in
theorem walk_eq (o a b a' b' ta la : Int) (H1 : Hid (effT o a b = ta ∧ effL o a b = la ∧ opGood o a b = true)) (H2 : Hid (effT o a' b' = ta ∧ effL o a' b' = la ∧ opGood o a' b' = true)) (h0 : 0 ≤ la) (h1 : la ≤ 1) (h2 : 0 ≤ ta) (h3 : ta ≤ 30) (n6 : (o == 6) = false) (n19 : (o == 19) = false) (n36 : (o == 36) = false) (w : World) (T : OpTab w) :
    Calls Tryd.prog 5 #[.agg #[.int .i64 o, .int .i64 a, .int .i64 b], .agg #[.int .i64 o, .int .i64 a', .int .i64 b']] w fun e w' => e = .returned (.bool true) ∧ Below w.heap.size w w' := by
  go_enter Tryd.func5, Tryd.ntmps5
  go_wp2_with fail
  obtain ⟨y0, y1, y2, y3, y4, y5, yT, yB, yz0, yz1⟩ := pair_start T o a b o a' b' 23
  refine (effect_let H1.out _ yT).mono ?_
  rintro e w1 ⟨rfl, hb⟩
  obtain ⟨y0, y1, y2, y3, y4, y5, yT, yB, yz0, yz1⟩ := pair_carry hb ⟨y0, y1, y2, y3, y4, y5, yT, yB, yz0, yz1⟩
  go_wp2_with fail
  refine (effect_let H2.out _ yT).mono ?_
  rintro e w2 ⟨rfl, hb⟩
  obtain ⟨y0, y1, y2, y3, y4, y5, yT, yB, yz0, yz1⟩ := pair_carry hb ⟨y0, y1, y2, y3, y4, y5, yT, yB, yz0, yz1⟩
  go_wp2_with fail
  obtain ⟨y0, y1, y2, y3, y4, y5, yT, yB, yz0, yz1⟩ := pair_drew ⟨y0, y1, y2, y3, y4, y5, yT, yB, yz0, yz1⟩
  go_region_held3 (fun w' => w'.cell? ⟨w.heap.size, 0, none⟩ = some (.int .i64 o) ∧ w'.cell? ⟨w.heap.size, 1, none⟩ = some (.int .i64 a) ∧ w'.cell? ⟨w.heap.size, 2, none⟩ = some (.int .i64 b) ∧ w'.cell? ⟨w.heap.size + 1, 0, none⟩ = some (.int .i64 o) ∧ w'.cell? ⟨w.heap.size + 1, 1, none⟩ = some (.int .i64 a') ∧ w'.cell? ⟨w.heap.size + 1, 2, none⟩ = some (.int .i64 b') ∧ OpTab w' ∧ Hid (Below w.heap.size w w') ∧ w.heap.size < w'.heap.size ∧ w.heap.size + 1 < w'.heap.size) (exact ⟨y0, y1, y2, y3, y4, y5, yT, yB, yz0, yz1⟩) (first
    | (go_at_call 9; ((with_reducible refine (refGood_let H1.out _).mono ?_); rintro e w' ⟨rfl, hb⟩; obtain ⟨y0, y1, y2, y3, y4, y5, yT, yB, yz0, yz1⟩ := pair_carry hb ⟨y0, y1, y2, y3, y4, y5, yT, yB, yz0, yz1⟩))
    | (go_at_call 9; ((with_reducible refine (refGood_let H2.out _).mono ?_); rintro e w' ⟨rfl, hb⟩; obtain ⟨y0, y1, y2, y3, y4, y5, yT, yB, yz0, yz1⟩ := pair_carry hb ⟨y0, y1, y2, y3, y4, y5, yT, yB, yz0, yz1⟩))
    | (go_at_call 14; ((with_reducible refine (ends_any _ _ _ _).mono ?_); rintro e w' ⟨rfl, hb⟩; obtain ⟨y0, y1, y2, y3, y4, y5, yT, yB, yz0, yz1⟩ := pair_carry hb ⟨y0, y1, y2, y3, y4, y5, yT, yB, yz0, yz1⟩))
    | (go_at_call 16; ((with_reducible refine (wakes_any _ yT).mono ?_); rintro e w' ⟨rfl, hb⟩; obtain ⟨y0, y1, y2, y3, y4, y5, yT, yB, yz0, yz1⟩ := pair_carry hb ⟨y0, y1, y2, y3, y4, y5, yT, yB, yz0, yz1⟩)))
  all_goals
    go_wp2_with fail
    go_ret
    exact ⟨rfl, yB.out⟩

end Go.Proofs.YtkolfalfpfnakaaDoor
