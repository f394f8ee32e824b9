/-
  The law on strange names, case by case.
  Conditions: as each states.
-/
import Derived.Test.YtkolfalfpfnakaaDoorOpSt
namespace Go.Proofs.YtkolfalfpfnakaaDoor
open Go.ChangeShapes Go.WideShapes Go.ChangeAt Go.RowKit
set_option linter.unusedVariables false
set_option linter.unusedSimpArgs false
attribute [local irreducible] wpStill
set_option maxRecDepth 100000

set_option maxHeartbeats 4000000 in
theorem walk_non (a0 : Int) (i : Nat) (hi : i < 38) (p1 : 0 ≤ a0) (p2 : a0 ≤ 255) (ei : a0 % 38 = (i : Int)) (s : ByteArray) (hs : (s.size : Int) ≤ 30) (hs' : s.size ≤ 30) (Z1 : Hid ((ofP (opNm i ++ s).toList).getD 0 = 0 ∧ (ofP (opNm i ++ s).toList).isSome = false)) (s0 : ¬ s.toList = []) (s1 : s.toList.isEmpty = false) (Z2 : Hid ((ofP ((opNm i).extract 0 ((opNm i).size - 1)).toList).getD 0 = 0 ∧ (ofP ((opNm i).extract 0 ((opNm i).size - 1)).toList).isSome = false)) (w : World) (T : OpTab w) :
    Calls Tryd.prog 6 #[.int .u8 a0, .string s] w fun e w' => e = .returned (.bool true) ∧ Below w.heap.size w w' := by
  obtain ⟨n1, n2⟩ := nm_sizes i hi
  have n3 : ((opNm i).size : Int) ≤ 5 := by omega
  have e1 : ¬ (opNm i).toList = [] := nm_toList i hi
  have e2 : (opNm i).toList.isEmpty = false := by simpa using e1
  go_enter Tryd.func6, Tryd.ntmps6
  go_wp2_with fail
  refine (name_in i hi _ T).mono ?_
  rintro e w' ⟨rfl, rfl⟩
  go_wp2_with fail
  refine (of_let Z1.out _ T).mono ?_
  rintro e w' ⟨rfl, rfl⟩
  go_wp2_with fail
  refine (of_let Z2.out _ T).mono ?_
  rintro e w' ⟨rfl, rfl⟩
  go_wp2_with fail
  have TD : OpTab w.drew := T.below (down_drew (Below.refl _ _))
  refine wp_region_still_tail 20 (by kernel_rfl) (by kernel_rfl) ?_
  simp only [List.take_succ_cons, List.take_zero, List.drop_succ_cons, List.drop_zero]
  refine @wpStill_step _ _ _ _ _ _ _ (fun K hK => ?_)
  go_simp
  refine hK _ ?_
  clear hK K
  refine @wpStill_step _ _ _ _ _ _ _ (fun K hK => ?_)
  go_simp
  refine hK _ ?_
  clear hK K
  refine @wpStill_step _ _ _ _ _ _ _ (fun K hK => ?_)
  go_simp
  refine hK _ ?_
  clear hK K
  refine @wpStill_step _ _ _ _ _ _ _ (fun K hK => ?_)
  go_simp
  refine hK _ ?_
  clear hK K
  refine @wpStill_step _ _ _ _ _ _ _ (fun K hK => ?_)
  go_simp
  refine hK _ ?_
  clear hK K
  refine @wpStill_step _ _ _ _ _ _ _ (fun K hK => ?_)
  go_simp
  refine hK _ ?_
  clear hK K
  refine @wpStill_step _ _ _ _ _ _ _ (fun K hK => ?_)
  go_simp
  refine hK _ ?_
  clear hK K
  refine @wpStill_skip _ _ _ _ _ _ _ (by kernel_rfl) (fun K hK => ?_)
  go_simp
  refine hK _ ?_
  clear hK K
  refine @wpStill_skip _ _ _ _ _ _ _ (by kernel_rfl) (fun K hK => ?_)
  go_simp
  refine hK _ ?_
  clear hK K
  refine @wpStill_skip _ _ _ _ _ _ _ (by kernel_rfl) (fun K hK => ?_)
  go_simp
  refine hK _ ?_
  clear hK K
  refine @wpStill_skip _ _ _ _ _ _ _ (by kernel_rfl) (fun K hK => ?_)
  go_simp
  refine hK _ ?_
  clear hK K
  refine @wpStill_skip _ _ _ _ _ _ _ (by kernel_rfl) (fun K hK => ?_)
  go_simp
  refine hK _ ?_
  clear hK K
  refine @wpStill_skip _ _ _ _ _ _ _ (by kernel_rfl) (fun K hK => ?_)
  go_simp
  refine hK _ ?_
  clear hK K
  refine @wpStill_skip _ _ _ _ _ _ _ (by kernel_rfl) (fun K hK => ?_)
  go_simp
  refine hK _ ?_
  clear hK K
  refine @wpStill_skip _ _ _ _ _ _ _ (by kernel_rfl) (fun K hK => ?_)
  go_simp
  refine hK _ ?_
  clear hK K
  refine @wpStill_skip _ _ _ _ _ _ _ (by kernel_rfl) (fun K hK => ?_)
  go_simp
  refine hK _ ?_
  clear hK K
  refine @wpStill_skip _ _ _ _ _ _ _ (by kernel_rfl) (fun K hK => ?_)
  go_simp
  refine hK _ ?_
  clear hK K
  refine @wpStill_skip _ _ _ _ _ _ _ (by kernel_rfl) (fun K hK => ?_)
  go_simp
  refine hK _ ?_
  clear hK K
  refine @wpStill_step _ _ _ _ _ _ _ (fun K hK => ?_)
  go_simp
  refine hK _ ?_
  clear hK K
  refine @wpStill_step _ _ _ _ _ _ _ (fun K hK => ?_)
  go_simp
  refine hK _ ?_
  clear hK K
  refine wpStill_nil ?_
  change wpList _ _ _ _ _ w.drew
  go_wp2_with (go_at_call 16; ((with_reducible refine (wakes_any _ TD).mono ?_); rintro e w' ⟨rfl, hb⟩))
  go_ret
  exact ⟨rfl, down_call (down_drew (Below.refl _ _)) hb⟩

set_option maxHeartbeats 4000000 in
theorem walk_yesn (a0 : Int) (i : Nat) (hi : i < 38) (p1 : 0 ≤ a0) (p2 : a0 ≤ 255) (ei : a0 % 38 = (i : Int)) (s : ByteArray) (hs : (s.size : Int) ≤ 30) (hs' : s.size ≤ 30) (k : Nat) (hk : k < 38) (Z1 : Hid ((ofP (opNm i ++ s).toList).getD 0 = k ∧ (ofP (opNm i ++ s).toList).isSome = true)) (kq : ((opNm k).toList == (opNm i ++ s).toList) = true) (s0 : ¬ s.toList = []) (s1 : s.toList.isEmpty = false) (Z2 : Hid ((ofP ((opNm i).extract 0 ((opNm i).size - 1)).toList).getD 0 = 0 ∧ (ofP ((opNm i).extract 0 ((opNm i).size - 1)).toList).isSome = false)) (w : World) (T : OpTab w) :
    Calls Tryd.prog 6 #[.int .u8 a0, .string s] w fun e w' => e = .returned (.bool true) ∧ Below w.heap.size w w' := by
  obtain ⟨n1, n2⟩ := nm_sizes i hi
  have n3 : ((opNm i).size : Int) ≤ 5 := by omega
  have e1 : ¬ (opNm i).toList = [] := nm_toList i hi
  have e2 : (opNm i).toList.isEmpty = false := by simpa using e1
  go_enter Tryd.func6, Tryd.ntmps6
  go_wp2_with fail
  refine (name_in i hi _ T).mono ?_
  rintro e w' ⟨rfl, rfl⟩
  go_wp2_with fail
  refine (of_let Z1.out _ T).mono ?_
  rintro e w' ⟨rfl, rfl⟩
  go_wp2_with fail
  refine (name_in k hk _ T).mono ?_
  rintro e w' ⟨rfl, rfl⟩
  go_wp2_with fail
  refine (of_let Z2.out _ T).mono ?_
  rintro e w' ⟨rfl, rfl⟩
  go_wp2_with fail
  have TD : OpTab w.drew := T.below (down_drew (Below.refl _ _))
  refine wp_region_still_tail 20 (by kernel_rfl) (by kernel_rfl) ?_
  simp only [List.take_succ_cons, List.take_zero, List.drop_succ_cons, List.drop_zero]
  refine @wpStill_step _ _ _ _ _ _ _ (fun K hK => ?_)
  go_simp
  refine hK _ ?_
  clear hK K
  refine @wpStill_step _ _ _ _ _ _ _ (fun K hK => ?_)
  go_simp
  refine hK _ ?_
  clear hK K
  refine @wpStill_step _ _ _ _ _ _ _ (fun K hK => ?_)
  go_simp
  refine hK _ ?_
  clear hK K
  refine @wpStill_step _ _ _ _ _ _ _ (fun K hK => ?_)
  go_simp
  refine hK _ ?_
  clear hK K
  refine @wpStill_step _ _ _ _ _ _ _ (fun K hK => ?_)
  go_simp
  refine hK _ ?_
  clear hK K
  refine @wpStill_step _ _ _ _ _ _ _ (fun K hK => ?_)
  go_simp
  refine hK _ ?_
  clear hK K
  refine @wpStill_step _ _ _ _ _ _ _ (fun K hK => ?_)
  go_simp
  refine hK _ ?_
  clear hK K
  refine @wpStill_skip _ _ _ _ _ _ _ (by kernel_rfl) (fun K hK => ?_)
  go_simp
  refine hK _ ?_
  clear hK K
  refine @wpStill_skip _ _ _ _ _ _ _ (by kernel_rfl) (fun K hK => ?_)
  go_simp
  refine hK _ ?_
  clear hK K
  refine @wpStill_skip _ _ _ _ _ _ _ (by kernel_rfl) (fun K hK => ?_)
  go_simp
  refine hK _ ?_
  clear hK K
  refine @wpStill_skip _ _ _ _ _ _ _ (by kernel_rfl) (fun K hK => ?_)
  go_simp
  refine hK _ ?_
  clear hK K
  refine @wpStill_skip _ _ _ _ _ _ _ (by kernel_rfl) (fun K hK => ?_)
  go_simp
  refine hK _ ?_
  clear hK K
  refine @wpStill_skip _ _ _ _ _ _ _ (by kernel_rfl) (fun K hK => ?_)
  go_simp
  refine hK _ ?_
  clear hK K
  refine @wpStill_skip _ _ _ _ _ _ _ (by kernel_rfl) (fun K hK => ?_)
  go_simp
  refine hK _ ?_
  clear hK K
  refine @wpStill_skip _ _ _ _ _ _ _ (by kernel_rfl) (fun K hK => ?_)
  go_simp
  refine hK _ ?_
  clear hK K
  refine @wpStill_skip _ _ _ _ _ _ _ (by kernel_rfl) (fun K hK => ?_)
  go_simp
  refine hK _ ?_
  clear hK K
  refine @wpStill_skip _ _ _ _ _ _ _ (by kernel_rfl) (fun K hK => ?_)
  go_simp
  refine hK _ ?_
  clear hK K
  refine @wpStill_skip _ _ _ _ _ _ _ (by kernel_rfl) (fun K hK => ?_)
  go_simp
  refine hK _ ?_
  clear hK K
  refine @wpStill_step _ _ _ _ _ _ _ (fun K hK => ?_)
  go_simp
  refine hK _ ?_
  clear hK K
  refine @wpStill_step _ _ _ _ _ _ _ (fun K hK => ?_)
  go_simp
  refine hK _ ?_
  clear hK K
  refine wpStill_nil ?_
  change wpList _ _ _ _ _ w.drew
  go_wp2_with (go_at_call 16; ((with_reducible refine (wakes_any _ TD).mono ?_); rintro e w' ⟨rfl, hb⟩))
  go_ret
  exact ⟨rfl, down_call (down_drew (Below.refl _ _)) hb⟩

set_option maxHeartbeats 4000000 in
theorem walk_samen (a0 : Int) (i : Nat) (hi : i < 38) (p1 : 0 ≤ a0) (p2 : a0 ≤ 255) (ei : a0 % 38 = (i : Int)) (s : ByteArray) (hs : (s.size : Int) ≤ 30) (hs' : s.size ≤ 30) (Z1 : Hid ((ofP (opNm i ++ s).toList).getD 0 = i ∧ (ofP (opNm i ++ s).toList).isSome = true)) (kq : ((opNm i).toList == (opNm i ++ s).toList) = true) (s0 : s.toList = []) (s1 : s.toList.isEmpty = true) (Z2 : Hid ((ofP ((opNm i).extract 0 ((opNm i).size - 1)).toList).getD 0 = 0 ∧ (ofP ((opNm i).extract 0 ((opNm i).size - 1)).toList).isSome = false)) (w : World) (T : OpTab w) :
    Calls Tryd.prog 6 #[.int .u8 a0, .string s] w fun e w' => e = .returned (.bool true) ∧ Below w.heap.size w w' := by
  obtain ⟨n1, n2⟩ := nm_sizes i hi
  have n3 : ((opNm i).size : Int) ≤ 5 := by omega
  have e1 : ¬ (opNm i).toList = [] := nm_toList i hi
  have e2 : (opNm i).toList.isEmpty = false := by simpa using e1
  go_enter Tryd.func6, Tryd.ntmps6
  go_wp2_with fail
  refine (name_in i hi _ T).mono ?_
  rintro e w' ⟨rfl, rfl⟩
  go_wp2_with fail
  refine (of_let Z1.out _ T).mono ?_
  rintro e w' ⟨rfl, rfl⟩
  go_wp2_with fail
  refine (name_in i hi _ T).mono ?_
  rintro e w' ⟨rfl, rfl⟩
  go_wp2_with fail
  refine (of_let Z2.out _ T).mono ?_
  rintro e w' ⟨rfl, rfl⟩
  go_wp2_with fail
  have TD : OpTab w.drew := T.below (down_drew (Below.refl _ _))
  refine wp_region_still_tail 20 (by kernel_rfl) (by kernel_rfl) ?_
  simp only [List.take_succ_cons, List.take_zero, List.drop_succ_cons, List.drop_zero]
  refine @wpStill_step _ _ _ _ _ _ _ (fun K hK => ?_)
  go_simp
  refine hK _ ?_
  clear hK K
  refine @wpStill_step _ _ _ _ _ _ _ (fun K hK => ?_)
  go_simp
  refine hK _ ?_
  clear hK K
  refine @wpStill_step _ _ _ _ _ _ _ (fun K hK => ?_)
  go_simp
  refine hK _ ?_
  clear hK K
  refine @wpStill_step _ _ _ _ _ _ _ (fun K hK => ?_)
  go_simp
  refine hK _ ?_
  clear hK K
  refine @wpStill_step _ _ _ _ _ _ _ (fun K hK => ?_)
  go_simp
  refine hK _ ?_
  clear hK K
  refine @wpStill_step _ _ _ _ _ _ _ (fun K hK => ?_)
  go_simp
  refine hK _ ?_
  clear hK K
  refine @wpStill_step _ _ _ _ _ _ _ (fun K hK => ?_)
  go_simp
  refine hK _ ?_
  clear hK K
  refine @wpStill_skip _ _ _ _ _ _ _ (by kernel_rfl) (fun K hK => ?_)
  go_simp
  refine hK _ ?_
  clear hK K
  refine @wpStill_skip _ _ _ _ _ _ _ (by kernel_rfl) (fun K hK => ?_)
  go_simp
  refine hK _ ?_
  clear hK K
  refine @wpStill_skip _ _ _ _ _ _ _ (by kernel_rfl) (fun K hK => ?_)
  go_simp
  refine hK _ ?_
  clear hK K
  refine @wpStill_skip _ _ _ _ _ _ _ (by kernel_rfl) (fun K hK => ?_)
  go_simp
  refine hK _ ?_
  clear hK K
  refine @wpStill_skip _ _ _ _ _ _ _ (by kernel_rfl) (fun K hK => ?_)
  go_simp
  refine hK _ ?_
  clear hK K
  refine @wpStill_skip _ _ _ _ _ _ _ (by kernel_rfl) (fun K hK => ?_)
  go_simp
  refine hK _ ?_
  clear hK K
  refine @wpStill_skip _ _ _ _ _ _ _ (by kernel_rfl) (fun K hK => ?_)
  go_simp
  refine hK _ ?_
  clear hK K
  refine @wpStill_skip _ _ _ _ _ _ _ (by kernel_rfl) (fun K hK => ?_)
  go_simp
  refine hK _ ?_
  clear hK K
  refine @wpStill_skip _ _ _ _ _ _ _ (by kernel_rfl) (fun K hK => ?_)
  go_simp
  refine hK _ ?_
  clear hK K
  refine @wpStill_skip _ _ _ _ _ _ _ (by kernel_rfl) (fun K hK => ?_)
  go_simp
  refine hK _ ?_
  clear hK K
  refine @wpStill_skip _ _ _ _ _ _ _ (by kernel_rfl) (fun K hK => ?_)
  go_simp
  refine hK _ ?_
  clear hK K
  refine @wpStill_step _ _ _ _ _ _ _ (fun K hK => ?_)
  go_simp
  refine hK _ ?_
  clear hK K
  refine @wpStill_step _ _ _ _ _ _ _ (fun K hK => ?_)
  go_simp
  refine hK _ ?_
  clear hK K
  refine wpStill_nil ?_
  change wpList _ _ _ _ _ w.drew
  go_wp2_with (go_at_call 16; ((with_reducible refine (wakes_any _ TD).mono ?_); rintro e w' ⟨rfl, hb⟩))
  go_ret
  exact ⟨rfl, down_call (down_drew (Below.refl _ _)) hb⟩

set_option maxHeartbeats 4000000 in
theorem walk_noy (a0 : Int) (i : Nat) (hi : i < 38) (p1 : 0 ≤ a0) (p2 : a0 ≤ 255) (ei : a0 % 38 = (i : Int)) (s : ByteArray) (hs : (s.size : Int) ≤ 30) (hs' : s.size ≤ 30) (Z1 : Hid ((ofP (opNm i ++ s).toList).getD 0 = 0 ∧ (ofP (opNm i ++ s).toList).isSome = false)) (s0 : ¬ s.toList = []) (s1 : s.toList.isEmpty = false) (j : Nat) (hj : j < 38) (Z2 : Hid ((ofP ((opNm i).extract 0 ((opNm i).size - 1)).toList).getD 0 = j ∧ (ofP ((opNm i).extract 0 ((opNm i).size - 1)).toList).isSome = true)) (jq : ((opNm j).toList == ((opNm i).extract 0 ((opNm i).size - 1)).toList) = true) (w : World) (T : OpTab w) :
    Calls Tryd.prog 6 #[.int .u8 a0, .string s] w fun e w' => e = .returned (.bool true) ∧ Below w.heap.size w w' := by
  obtain ⟨n1, n2⟩ := nm_sizes i hi
  have n3 : ((opNm i).size : Int) ≤ 5 := by omega
  have e1 : ¬ (opNm i).toList = [] := nm_toList i hi
  have e2 : (opNm i).toList.isEmpty = false := by simpa using e1
  go_enter Tryd.func6, Tryd.ntmps6
  go_wp2_with fail
  refine (name_in i hi _ T).mono ?_
  rintro e w' ⟨rfl, rfl⟩
  go_wp2_with fail
  refine (of_let Z1.out _ T).mono ?_
  rintro e w' ⟨rfl, rfl⟩
  go_wp2_with fail
  refine (of_let Z2.out _ T).mono ?_
  rintro e w' ⟨rfl, rfl⟩
  go_wp2_with fail
  have TD : OpTab w.drew := T.below (down_drew (Below.refl _ _))
  refine wp_region_still_tail 20 (by kernel_rfl) (by kernel_rfl) ?_
  simp only [List.take_succ_cons, List.take_zero, List.drop_succ_cons, List.drop_zero]
  have q1 : IntKind.i64.wrap (((opNm i).size : Int) - 1) = ((opNm i).size : Int) - 1 := by rw [IntKind.wrap_i64]; omega
  have q2 : (0 : Int) ≤ ((opNm i).size : Int) - 1 := by omega
  have q3 : ((opNm i).size : Int) - 1 ≤ ((opNm i).size : Int) := by omega
  have q5 : (1 : Int) ≤ ((opNm i).size : Int) := by omega
  have q4 : (((opNm i).size : Int) - 1).toNat = (opNm i).size - 1 := by omega
  refine @wpStill_step _ _ _ _ _ _ _ (fun K hK => ?_)
  go_simp
  refine hK _ ?_
  clear hK K
  refine @wpStill_step _ _ _ _ _ _ _ (fun K hK => ?_)
  go_simp
  refine hK _ ?_
  clear hK K
  refine @wpStill_step _ _ _ _ _ _ _ (fun K hK => ?_)
  go_simp
  refine hK _ ?_
  clear hK K
  refine @wpStill_skip _ _ _ _ _ _ _ (by kernel_rfl) (fun K hK => ?_)
  go_simp
  refine hK _ ?_
  clear hK K
  refine @wpStill_skip _ _ _ _ _ _ _ (by kernel_rfl) (fun K hK => ?_)
  go_simp
  refine hK _ ?_
  clear hK K
  refine @wpStill_step _ _ _ _ _ _ _ (fun K hK => ?_)
  go_simp
  refine hK _ ?_
  clear hK K
  refine @wpStill_step _ _ _ _ _ _ _ (fun K hK => ?_)
  go_simp
  refine hK _ ?_
  clear hK K
  refine @wpStill_step _ _ _ _ _ _ _ (fun K hK => ?_)
  go_simp
  refine hK _ ?_
  clear hK K
  refine @wpStill_step _ _ _ _ _ _ _ (fun K hK => ?_)
  go_simp
  refine hK _ ?_
  clear hK K
  refine @wpStill_step _ _ _ _ _ _ _ (fun K hK => ?_)
  go_simp
  refine hK _ ?_
  clear hK K
  still_call ((name_in j hj _ TD).mono fun _ _ h => ⟨h.1, h.2.symm⟩)
  refine @wpStill_step _ _ _ _ _ _ _ (fun K hK => ?_)
  go_simp
  refine hK _ ?_
  clear hK K
  refine @wpStill_step _ _ _ _ _ _ _ (fun K hK => ?_)
  go_simp
  refine hK _ ?_
  clear hK K
  refine @wpStill_step _ _ _ _ _ _ _ (fun K hK => ?_)
  go_simp
  refine hK _ ?_
  clear hK K
  refine @wpStill_step _ _ _ _ _ _ _ (fun K hK => ?_)
  go_simp
  refine hK _ ?_
  clear hK K
  refine @wpStill_step _ _ _ _ _ _ _ (fun K hK => ?_)
  go_simp
  refine hK _ ?_
  clear hK K
  refine @wpStill_step _ _ _ _ _ _ _ (fun K hK => ?_)
  go_simp
  refine hK _ ?_
  clear hK K
  refine @wpStill_step _ _ _ _ _ _ _ (fun K hK => ?_)
  go_simp
  refine hK _ ?_
  clear hK K
  refine @wpStill_step _ _ _ _ _ _ _ (fun K hK => ?_)
  go_simp
  refine hK _ ?_
  clear hK K
  refine @wpStill_step _ _ _ _ _ _ _ (fun K hK => ?_)
  go_simp
  refine hK _ ?_
  clear hK K
  refine wpStill_nil ?_
  change wpList _ _ _ _ _ w.drew
  go_wp2_with (go_at_call 16; ((with_reducible refine (wakes_any _ TD).mono ?_); rintro e w' ⟨rfl, hb⟩))
  go_ret
  exact ⟨rfl, down_call (down_drew (Below.refl _ _)) hb⟩

set_option maxHeartbeats 4000000 in
theorem walk_yesy (a0 : Int) (i : Nat) (hi : i < 38) (p1 : 0 ≤ a0) (p2 : a0 ≤ 255) (ei : a0 % 38 = (i : Int)) (s : ByteArray) (hs : (s.size : Int) ≤ 30) (hs' : s.size ≤ 30) (k : Nat) (hk : k < 38) (Z1 : Hid ((ofP (opNm i ++ s).toList).getD 0 = k ∧ (ofP (opNm i ++ s).toList).isSome = true)) (kq : ((opNm k).toList == (opNm i ++ s).toList) = true) (s0 : ¬ s.toList = []) (s1 : s.toList.isEmpty = false) (j : Nat) (hj : j < 38) (Z2 : Hid ((ofP ((opNm i).extract 0 ((opNm i).size - 1)).toList).getD 0 = j ∧ (ofP ((opNm i).extract 0 ((opNm i).size - 1)).toList).isSome = true)) (jq : ((opNm j).toList == ((opNm i).extract 0 ((opNm i).size - 1)).toList) = true) (w : World) (T : OpTab w) :
    Calls Tryd.prog 6 #[.int .u8 a0, .string s] w fun e w' => e = .returned (.bool true) ∧ Below w.heap.size w w' := by
  obtain ⟨n1, n2⟩ := nm_sizes i hi
  have n3 : ((opNm i).size : Int) ≤ 5 := by omega
  have e1 : ¬ (opNm i).toList = [] := nm_toList i hi
  have e2 : (opNm i).toList.isEmpty = false := by simpa using e1
  go_enter Tryd.func6, Tryd.ntmps6
  go_wp2_with fail
  refine (name_in i hi _ T).mono ?_
  rintro e w' ⟨rfl, rfl⟩
  go_wp2_with fail
  refine (of_let Z1.out _ T).mono ?_
  rintro e w' ⟨rfl, rfl⟩
  go_wp2_with fail
  refine (name_in k hk _ T).mono ?_
  rintro e w' ⟨rfl, rfl⟩
  go_wp2_with fail
  refine (of_let Z2.out _ T).mono ?_
  rintro e w' ⟨rfl, rfl⟩
  go_wp2_with fail
  have TD : OpTab w.drew := T.below (down_drew (Below.refl _ _))
  refine wp_region_still_tail 20 (by kernel_rfl) (by kernel_rfl) ?_
  simp only [List.take_succ_cons, List.take_zero, List.drop_succ_cons, List.drop_zero]
  have q1 : IntKind.i64.wrap (((opNm i).size : Int) - 1) = ((opNm i).size : Int) - 1 := by rw [IntKind.wrap_i64]; omega
  have q2 : (0 : Int) ≤ ((opNm i).size : Int) - 1 := by omega
  have q3 : ((opNm i).size : Int) - 1 ≤ ((opNm i).size : Int) := by omega
  have q5 : (1 : Int) ≤ ((opNm i).size : Int) := by omega
  have q4 : (((opNm i).size : Int) - 1).toNat = (opNm i).size - 1 := by omega
  refine @wpStill_step _ _ _ _ _ _ _ (fun K hK => ?_)
  go_simp
  refine hK _ ?_
  clear hK K
  refine @wpStill_step _ _ _ _ _ _ _ (fun K hK => ?_)
  go_simp
  refine hK _ ?_
  clear hK K
  refine @wpStill_step _ _ _ _ _ _ _ (fun K hK => ?_)
  go_simp
  refine hK _ ?_
  clear hK K
  refine @wpStill_skip _ _ _ _ _ _ _ (by kernel_rfl) (fun K hK => ?_)
  go_simp
  refine hK _ ?_
  clear hK K
  refine @wpStill_skip _ _ _ _ _ _ _ (by kernel_rfl) (fun K hK => ?_)
  go_simp
  refine hK _ ?_
  clear hK K
  refine @wpStill_step _ _ _ _ _ _ _ (fun K hK => ?_)
  go_simp
  refine hK _ ?_
  clear hK K
  refine @wpStill_step _ _ _ _ _ _ _ (fun K hK => ?_)
  go_simp
  refine hK _ ?_
  clear hK K
  refine @wpStill_step _ _ _ _ _ _ _ (fun K hK => ?_)
  go_simp
  refine hK _ ?_
  clear hK K
  refine @wpStill_step _ _ _ _ _ _ _ (fun K hK => ?_)
  go_simp
  refine hK _ ?_
  clear hK K
  refine @wpStill_step _ _ _ _ _ _ _ (fun K hK => ?_)
  go_simp
  refine hK _ ?_
  clear hK K
  still_call ((name_in j hj _ TD).mono fun _ _ h => ⟨h.1, h.2.symm⟩)
  refine @wpStill_step _ _ _ _ _ _ _ (fun K hK => ?_)
  go_simp
  refine hK _ ?_
  clear hK K
  refine @wpStill_step _ _ _ _ _ _ _ (fun K hK => ?_)
  go_simp
  refine hK _ ?_
  clear hK K
  refine @wpStill_step _ _ _ _ _ _ _ (fun K hK => ?_)
  go_simp
  refine hK _ ?_
  clear hK K
  refine @wpStill_step _ _ _ _ _ _ _ (fun K hK => ?_)
  go_simp
  refine hK _ ?_
  clear hK K
  refine @wpStill_step _ _ _ _ _ _ _ (fun K hK => ?_)
  go_simp
  refine hK _ ?_
  clear hK K
  refine @wpStill_step _ _ _ _ _ _ _ (fun K hK => ?_)
  go_simp
  refine hK _ ?_
  clear hK K
  refine @wpStill_step _ _ _ _ _ _ _ (fun K hK => ?_)
  go_simp
  refine hK _ ?_
  clear hK K
  refine @wpStill_step _ _ _ _ _ _ _ (fun K hK => ?_)
  go_simp
  refine hK _ ?_
  clear hK K
  refine @wpStill_step _ _ _ _ _ _ _ (fun K hK => ?_)
  go_simp
  refine hK _ ?_
  clear hK K
  refine wpStill_nil ?_
  change wpList _ _ _ _ _ w.drew
  go_wp2_with (go_at_call 16; ((with_reducible refine (wakes_any _ TD).mono ?_); rintro e w' ⟨rfl, hb⟩))
  go_ret
  exact ⟨rfl, down_call (down_drew (Below.refl _ _)) hb⟩

set_option maxHeartbeats 4000000 in
theorem walk_samey (a0 : Int) (i : Nat) (hi : i < 38) (p1 : 0 ≤ a0) (p2 : a0 ≤ 255) (ei : a0 % 38 = (i : Int)) (s : ByteArray) (hs : (s.size : Int) ≤ 30) (hs' : s.size ≤ 30) (Z1 : Hid ((ofP (opNm i ++ s).toList).getD 0 = i ∧ (ofP (opNm i ++ s).toList).isSome = true)) (kq : ((opNm i).toList == (opNm i ++ s).toList) = true) (s0 : s.toList = []) (s1 : s.toList.isEmpty = true) (j : Nat) (hj : j < 38) (Z2 : Hid ((ofP ((opNm i).extract 0 ((opNm i).size - 1)).toList).getD 0 = j ∧ (ofP ((opNm i).extract 0 ((opNm i).size - 1)).toList).isSome = true)) (jq : ((opNm j).toList == ((opNm i).extract 0 ((opNm i).size - 1)).toList) = true) (w : World) (T : OpTab w) :
    Calls Tryd.prog 6 #[.int .u8 a0, .string s] w fun e w' => e = .returned (.bool true) ∧ Below w.heap.size w w' := by
  obtain ⟨n1, n2⟩ := nm_sizes i hi
  have n3 : ((opNm i).size : Int) ≤ 5 := by omega
  have e1 : ¬ (opNm i).toList = [] := nm_toList i hi
  have e2 : (opNm i).toList.isEmpty = false := by simpa using e1
  go_enter Tryd.func6, Tryd.ntmps6
  go_wp2_with fail
  refine (name_in i hi _ T).mono ?_
  rintro e w' ⟨rfl, rfl⟩
  go_wp2_with fail
  refine (of_let Z1.out _ T).mono ?_
  rintro e w' ⟨rfl, rfl⟩
  go_wp2_with fail
  refine (name_in i hi _ T).mono ?_
  rintro e w' ⟨rfl, rfl⟩
  go_wp2_with fail
  refine (of_let Z2.out _ T).mono ?_
  rintro e w' ⟨rfl, rfl⟩
  go_wp2_with fail
  have TD : OpTab w.drew := T.below (down_drew (Below.refl _ _))
  refine wp_region_still_tail 20 (by kernel_rfl) (by kernel_rfl) ?_
  simp only [List.take_succ_cons, List.take_zero, List.drop_succ_cons, List.drop_zero]
  have q1 : IntKind.i64.wrap (((opNm i).size : Int) - 1) = ((opNm i).size : Int) - 1 := by rw [IntKind.wrap_i64]; omega
  have q2 : (0 : Int) ≤ ((opNm i).size : Int) - 1 := by omega
  have q3 : ((opNm i).size : Int) - 1 ≤ ((opNm i).size : Int) := by omega
  have q5 : (1 : Int) ≤ ((opNm i).size : Int) := by omega
  have q4 : (((opNm i).size : Int) - 1).toNat = (opNm i).size - 1 := by omega
  refine @wpStill_step _ _ _ _ _ _ _ (fun K hK => ?_)
  go_simp
  refine hK _ ?_
  clear hK K
  refine @wpStill_step _ _ _ _ _ _ _ (fun K hK => ?_)
  go_simp
  refine hK _ ?_
  clear hK K
  refine @wpStill_step _ _ _ _ _ _ _ (fun K hK => ?_)
  go_simp
  refine hK _ ?_
  clear hK K
  refine @wpStill_skip _ _ _ _ _ _ _ (by kernel_rfl) (fun K hK => ?_)
  go_simp
  refine hK _ ?_
  clear hK K
  refine @wpStill_skip _ _ _ _ _ _ _ (by kernel_rfl) (fun K hK => ?_)
  go_simp
  refine hK _ ?_
  clear hK K
  refine @wpStill_step _ _ _ _ _ _ _ (fun K hK => ?_)
  go_simp
  refine hK _ ?_
  clear hK K
  refine @wpStill_step _ _ _ _ _ _ _ (fun K hK => ?_)
  go_simp
  refine hK _ ?_
  clear hK K
  refine @wpStill_step _ _ _ _ _ _ _ (fun K hK => ?_)
  go_simp
  refine hK _ ?_
  clear hK K
  refine @wpStill_step _ _ _ _ _ _ _ (fun K hK => ?_)
  go_simp
  refine hK _ ?_
  clear hK K
  refine @wpStill_step _ _ _ _ _ _ _ (fun K hK => ?_)
  go_simp
  refine hK _ ?_
  clear hK K
  still_call ((name_in j hj _ TD).mono fun _ _ h => ⟨h.1, h.2.symm⟩)
  refine @wpStill_step _ _ _ _ _ _ _ (fun K hK => ?_)
  go_simp
  refine hK _ ?_
  clear hK K
  refine @wpStill_step _ _ _ _ _ _ _ (fun K hK => ?_)
  go_simp
  refine hK _ ?_
  clear hK K
  refine @wpStill_step _ _ _ _ _ _ _ (fun K hK => ?_)
  go_simp
  refine hK _ ?_
  clear hK K
  refine @wpStill_step _ _ _ _ _ _ _ (fun K hK => ?_)
  go_simp
  refine hK _ ?_
  clear hK K
  refine @wpStill_step _ _ _ _ _ _ _ (fun K hK => ?_)
  go_simp
  refine hK _ ?_
  clear hK K
  refine @wpStill_step _ _ _ _ _ _ _ (fun K hK => ?_)
  go_simp
  refine hK _ ?_
  clear hK K
  refine @wpStill_step _ _ _ _ _ _ _ (fun K hK => ?_)
  go_simp
  refine hK _ ?_
  clear hK K
  refine @wpStill_step _ _ _ _ _ _ _ (fun K hK => ?_)
  go_simp
  refine hK _ ?_
  clear hK K
  refine @wpStill_step _ _ _ _ _ _ _ (fun K hK => ?_)
  go_simp
  refine hK _ ?_
  clear hK K
  refine wpStill_nil ?_
  change wpList _ _ _ _ _ w.drew
  go_wp2_with (go_at_call 16; ((with_reducible refine (wakes_any _ TD).mono ?_); rintro e w' ⟨rfl, hb⟩))
  go_ret
  exact ⟨rfl, down_call (down_drew (Below.refl _ _)) hb⟩

theorem walk_long (a0 : Int) (s : ByteArray) (hs : 30 < (s.size : Int)) (w : World) (T : OpTab w) :
    Calls Tryd.prog 6 #[.int .u8 a0, .string s] w fun e w' => e = .returned (.bool true) ∧ Below w.heap.size w w' := by
  go_enter Tryd.func6, Tryd.ntmps6
  go_wp2_with (go_at_call 16; ((with_reducible refine (wakes_any _ T).mono ?_); rintro e w' ⟨rfl, hb⟩))
  go_ret
  exact ⟨rfl, hb⟩

end Go.Proofs.YtkolfalfpfnakaaDoor
