/-
  Which object stands first in a row of words: the last ways of 'whole'.
  Conditions: as each states.
-/
import Derived.Test.YtnjpjhlodamanaaObF
namespace Go.Proofs.Ytnjpjhlodamanaa
open Go.ChangeShapes Go.WideShapes Go.ChangeAt Go.RowKit
set_option linter.unusedVariables false
set_option linter.unusedSimpArgs false
set_option maxRecDepth 100000

theorem ahead1 (f : Nat) (w : World) : (nilAhead (f + 1) 111 (.agg #[]) "stockpot/object.sound").run Try.prog w = .ok (some false) w := by kernel_rfl
theorem ahead2 (f : Nat) (w : World) : (nilAhead (f + 1) 112 (.agg #[]) "stockpot/object.sound").run Try.prog w = .ok (some false) w := by kernel_rfl
theorem ahead3 (f : Nat) (w : World) : (nilAhead (f + 1) 113 (.agg #[]) "stockpot/object.sound").run Try.prog w = .ok (some false) w := by kernel_rfl
theorem ahead4 (f : Nat) (w : World) : (nilAhead (f + 1) 114 (.agg #[]) "stockpot/object.sound").run Try.prog w = .ok (some false) w := by kernel_rfl
/-- The words behind the head. -/
def tailA (b o c : Nat) : Option Addr := if c = 1 then some ⟨b, o, none⟩ else some ⟨b, o + 1, none⟩


theorem sound_tail (s b o c : Nat) (body : List Int) (hn : body.length = (s + 7) / 8) (hc : body.length + 1 ≤ c) (w : World) (hs : s ≤ 100000) (hx : ∀ x ∈ body, fitW x) (hr : ∀ j u, (body.map (Value.int .u64))[j]? = some u → w.cell? ⟨b, o + 1 + j, none⟩ = some u) :
    Calls Try.prog 89 #[.agg #[], .slice (tailA b o c) body.length (c - 1), .int .i64 s] w fun e w' => e = .returned (.bool (soundH 2 body s)) ∧ Below w.heap.size w w' := by
  by_cases h0 : s % 8 = 0
  · have hr : soundH 2 body s = true := by simp [soundH, h0]
    rw [hr]
    exact sound_str0 s _ _ _ w hs h0
  · have e : tailA b o c = some ⟨b, o + 1, none⟩ := by unfold tailA; rw [if_neg (by omega)]
    rw [e]
    exact sound_str s b (o + 1) (c - 1) body hn w hs hx hr

set_option maxHeartbeats 2000000 in
theorem whole_f (x : Int) (hx : fitW x) (b o n c : Nat) (h2 : mayH (hK x) (hT x) (hS x) = true) (hl : longH (hK x) (hS x) < n) (hm : n ≤ 100000) (hnc : n ≤ c) (hk2 : hK x ≠ 2) (w : World) (hr : w.cell? ⟨b, o, none⟩ = some (.int .u64 x)) :
    Calls Try.prog 47 #[.slice (some ⟨b, o, none⟩) n c] w fun e w' => e = .returned (.tuple #[.int .i64 ((1 + longH (hK x) (hS x) : Nat) : Int), .bool true]) ∧ Below w.heap.size w w' := by
  have ha := apart_any x hx
  have hbd := mayH_bounds h2
  have hk : hK x = 1 ∨ hK x = 3 ∨ hK x = 4 := by omega
  have hS4 : hS x ≤ 400 := by omega
  generalize hT x = T at *
  generalize hS x = S at *
  clear hx hbd
  rcases hk with e | e | e
  all_goals
    rw [e] at ha h2 hl ⊢
    clear hk2
    simp only [longH, reduceIte, Int.reduceEq] at hl ⊢
    have HA := Lib.hid ha
    clear ha e
    go_enter Try.func47, Try.ntmps47
    go_wp2_with fail
    refine (HA.out _).mono ?_
    rintro e w1 ⟨rfl, b1⟩
    have hz := b1.size
    go_wp2_with fail
    refine (kindOf_any _ _).mono ?_
    rintro e w2 ⟨rfl, rfl⟩
    simp only [kindV, if_true, if_false, reduceIte, Int.reduceEq]
    go_wp2_with fail
    first
      | refine (may1_any _ _ _).mono ?_
      | refine (may2_any _ _ _).mono ?_
      | refine (may3_any _ _ _).mono ?_
      | refine (may4_any _ _ _).mono ?_
    rintro e w2 ⟨rfl, b2⟩
    obtain ⟨hc2, hf2⟩ := bcell b2
    have hz2 := b2.size
    simp at hz2
    have hz3 : w1.heap.size < w2.heap.size := by omega
    go_wp2_with fail
    first
      | refine (long_f _ _).mono ?_
      | refine (long_s _ (by omega) _).mono ?_
    rintro e w3 ⟨rfl, b3⟩
    obtain ⟨hc3, hf3⟩ := bcell b3
    have hLb : (S + 7) / 8 ≤ 60 := by omega
    try generalize (S + 7) / 8 = L at *
    first
      | (
          have hg : decide ((n : Int) < 1 + (L : Int)) = false := decide_eq_false (by omega)
          have g0 : (0 : Int) ≤ 1 + (L : Int) := by omega
          have g1 : 1 + (L : Int) ≤ (c : Int) := by omega
          have g2 : (1 : Int) ≤ 1 + (L : Int) := by omega
          have g3 : (1 + (L : Int)).toNat = 1 + L := by omega)
      | (
          have hg : decide ((n : Int) < 1 + (S : Int)) = false := decide_eq_false (by omega)
          have g0 : (0 : Int) ≤ 1 + (S : Int) := by omega
          have g1 : 1 + (S : Int) ≤ (c : Int) := by omega
          have g2 : (1 : Int) ≤ 1 + (S : Int) := by omega
          have g3 : (1 + (S : Int)).toNat = 1 + S := by omega)
    have hn1 := ahead1
    have hn2 := ahead2
    have hn3 := ahead3
    have hn4 := ahead4
    have ht : (if c = 1 then some (⟨b, o, none⟩ : Addr) else some ⟨b, o + 1, none⟩) = tailA b o c := rfl
    go_wp2
    refine wp_region_still_tail 14 (by kernel_rfl) (by kernel_rfl) ?_
    simp only [List.take_succ_cons, List.take_zero, List.drop_succ_cons, List.drop_zero]
    iterate 14 still_step
    refine wpStill_nil ?_
    change wpList _ _ _ _ _ w3.drew
    go_wp2_with fail
    refine (sound_f _ _ _ _ _ rfl _).mono ?_
    rintro e w4 ⟨rfl, b4⟩
    go_wp2
    go_ret2
    exact ⟨rfl, by repeat (first | exact Below.refl _ _ | refine bl_alloc ?_ _ | refine bl_drewN ?_ _ | refine bl_drew ?_ | refine bl_set ?_ (by have := b1.size; simp at this ⊢; omega) _ | refine bl_call ?_ b4 | refine bl_call ?_ b3 | refine bl_call ?_ b2 | refine bl_call ?_ b1)⟩
set_option maxHeartbeats 2000000 in
theorem whole_s (x : Int) (hx : fitW x) (b o n c : Nat) (h2 : mayH (hK x) (hT x) (hS x) = true) (hl : longH (hK x) (hS x) < n) (hm : n ≤ 100000) (hnc : n ≤ c) (hk2 : hK x = 2) (w : World) (body : List Int) (hbl : body.length = longH (hK x) (hS x)) (hfx : ∀ x ∈ body, fitW x) (hsd : soundH (hK x) body (hS x) = true) (hrd : ∀ j u, (body.map (Value.int .u64))[j]? = some u → w.cell? ⟨b, o + 1 + j, none⟩ = some u) (hr : w.cell? ⟨b, o, none⟩ = some (.int .u64 x)) :
    Calls Try.prog 47 #[.slice (some ⟨b, o, none⟩) n c] w fun e w' => e = .returned (.tuple #[.int .i64 ((1 + longH (hK x) (hS x) : Nat) : Int), .bool true]) ∧ Below w.heap.size w w' := by
  have ha := apart_any x hx
  have hbd := mayH_bounds h2
  have hk : hK x = 2 := by omega
  have hS4 : hS x ≤ 400 := by omega
  generalize hT x = T at *
  generalize hS x = S at *
  clear hx hbd
  have e := hk
  all_goals
    rw [e] at ha h2 hl hbl hsd ⊢
    clear hk2
    simp only [longH, reduceIte, Int.reduceEq] at hl hbl ⊢
    have HBL : Hid (body.length = (S + 7) / 8 ∧ body.length + 1 ≤ c) := ⟨hbl, by omega⟩
    have HFX : Hid (∀ x ∈ body, fitW x) := hfx
    have HRD : Hid (∀ j u, (body.map (Value.int .u64))[j]? = some u → w.cell? ⟨b, o + 1 + j, none⟩ = some u) := hrd
    have HSD := Lib.hid hsd
    clear hbl hfx hrd hsd
    have HA := Lib.hid ha
    clear ha e
    go_enter Try.func47, Try.ntmps47
    go_wp2_with fail
    refine (HA.out _).mono ?_
    rintro e w1 ⟨rfl, b1⟩
    have hz := b1.size
    go_wp2_with fail
    refine (kindOf_any _ _).mono ?_
    rintro e w2 ⟨rfl, rfl⟩
    simp only [kindV, if_true, if_false, reduceIte, Int.reduceEq]
    go_wp2_with fail
    first
      | refine (may1_any _ _ _).mono ?_
      | refine (may2_any _ _ _).mono ?_
      | refine (may3_any _ _ _).mono ?_
      | refine (may4_any _ _ _).mono ?_
    rintro e w2 ⟨rfl, b2⟩
    obtain ⟨hc2, hf2⟩ := bcell b2
    have hz2 := b2.size
    simp at hz2
    have hz3 : w1.heap.size < w2.heap.size := by omega
    go_wp2_with fail
    first
      | refine (long_f _ _).mono ?_
      | refine (long_s _ (by omega) _).mono ?_
    rintro e w3 ⟨rfl, b3⟩
    obtain ⟨hc3, hf3⟩ := bcell b3
    have hLb : (S + 7) / 8 ≤ 60 := by omega
    have HB3 : Hid (Below w.heap.size w w3.drew) := by
      show Below _ _ _
      repeat (first | exact Below.refl _ _ | refine bl_alloc ?_ _ | refine bl_drewN ?_ _ | refine bl_drew ?_ | refine bl_set ?_ (by have := b1.size; simp at this ⊢; omega) _ | refine bl_call ?_ b3 | refine bl_call ?_ b2 | refine bl_call ?_ b1)
    have hrd : ∀ j u, (body.map (Value.int .u64))[j]? = some u → w3.drew.cell? ⟨b, o + 1 + j, none⟩ = some u := fun j u hu => (HB3.out.cell (p := ⟨b, o + 1 + j, none⟩) (World.block_lt_of_cell? w _ (HRD.out j u hu))).trans (HRD.out j u hu)
    have hst := sound_tail S b o c body HBL.out.1 HBL.out.2 w3.drew (by omega) HFX.out hrd
    rw [HBL.out.1, HSD.out] at hst
    have HST := Lib.hid hst
    clear hst hrd HBL
    generalize hL : (S + 7) / 8 = L at *
    have HLL := Lib.hid hL
    clear hL
    first
      | (
          have hg : decide ((n : Int) < 1 + (L : Int)) = false := decide_eq_false (by omega)
          have g0 : (0 : Int) ≤ 1 + (L : Int) := by omega
          have g1 : 1 + (L : Int) ≤ (c : Int) := by omega
          have g2 : (1 : Int) ≤ 1 + (L : Int) := by omega
          have g3 : (1 + (L : Int)).toNat = 1 + L := by omega)
      | (
          have hg : decide ((n : Int) < 1 + (S : Int)) = false := decide_eq_false (by omega)
          have g0 : (0 : Int) ≤ 1 + (S : Int) := by omega
          have g1 : 1 + (S : Int) ≤ (c : Int) := by omega
          have g2 : (1 : Int) ≤ 1 + (S : Int) := by omega
          have g3 : (1 + (S : Int)).toNat = 1 + S := by omega)
    have hn1 := ahead1
    have hn2 := ahead2
    have hn3 := ahead3
    have hn4 := ahead4
    have ht : (if c = 1 then some (⟨b, o, none⟩ : Addr) else some ⟨b, o + 1, none⟩) = tailA b o c := rfl
    go_wp2
    refine wp_region_still_tail 14 (by kernel_rfl) (by kernel_rfl) ?_
    simp only [List.take_succ_cons, List.take_zero, List.drop_succ_cons, List.drop_zero]
    iterate 14 still_step
    refine wpStill_nil ?_
    change wpList _ _ _ _ _ w3.drew
    go_wp2_with fail
    refine HST.out.mono ?_
    rintro e w4 ⟨rfl, b4⟩
    go_wp2
    go_ret2
    exact ⟨by have h := HLL.out; subst h; rfl, by repeat (first | exact Below.refl _ _ | refine bl_alloc ?_ _ | refine bl_drewN ?_ _ | refine bl_drew ?_ | refine bl_set ?_ (by have := b1.size; simp at this ⊢; omega) _ | refine bl_call ?_ b4 | refine bl_call ?_ b3 | refine bl_call ?_ b2 | refine bl_call ?_ b1)⟩
set_option maxHeartbeats 2000000 in
theorem whole_u (x : Int) (hx : fitW x) (b o n c : Nat) (h2 : mayH (hK x) (hT x) (hS x) = true) (hl : longH (hK x) (hS x) < n) (hm : n ≤ 100000) (hnc : n ≤ c) (hk2 : hK x = 2) (w : World) (body : List Int) (hbl : body.length = longH (hK x) (hS x)) (hfx : ∀ x ∈ body, fitW x) (hsd : soundH (hK x) body (hS x) = false) (hrd : ∀ j u, (body.map (Value.int .u64))[j]? = some u → w.cell? ⟨b, o + 1 + j, none⟩ = some u) (hr : w.cell? ⟨b, o, none⟩ = some (.int .u64 x)) :
    Calls Try.prog 47 #[.slice (some ⟨b, o, none⟩) n c] w fun e w' => e = .returned (.tuple #[.int .i64 0, .bool false]) ∧ Below w.heap.size w w' := by
  have ha := apart_any x hx
  have hbd := mayH_bounds h2
  have hk : hK x = 2 := by omega
  have hS4 : hS x ≤ 400 := by omega
  generalize hT x = T at *
  generalize hS x = S at *
  clear hx hbd
  have e := hk
  all_goals
    rw [e] at ha h2 hl hbl hsd
    clear hk2
    simp only [longH, reduceIte, Int.reduceEq] at hl hbl
    have HBL : Hid (body.length = (S + 7) / 8 ∧ body.length + 1 ≤ c) := ⟨hbl, by omega⟩
    have HFX : Hid (∀ x ∈ body, fitW x) := hfx
    have HRD : Hid (∀ j u, (body.map (Value.int .u64))[j]? = some u → w.cell? ⟨b, o + 1 + j, none⟩ = some u) := hrd
    have HSD := Lib.hid hsd
    clear hbl hfx hrd hsd
    have HA := Lib.hid ha
    clear ha e
    go_enter Try.func47, Try.ntmps47
    go_wp2_with fail
    refine (HA.out _).mono ?_
    rintro e w1 ⟨rfl, b1⟩
    have hz := b1.size
    go_wp2_with fail
    refine (kindOf_any _ _).mono ?_
    rintro e w2 ⟨rfl, rfl⟩
    simp only [kindV, if_true, if_false, reduceIte, Int.reduceEq]
    go_wp2_with fail
    first
      | refine (may1_any _ _ _).mono ?_
      | refine (may2_any _ _ _).mono ?_
      | refine (may3_any _ _ _).mono ?_
      | refine (may4_any _ _ _).mono ?_
    rintro e w2 ⟨rfl, b2⟩
    obtain ⟨hc2, hf2⟩ := bcell b2
    have hz2 := b2.size
    simp at hz2
    have hz3 : w1.heap.size < w2.heap.size := by omega
    go_wp2_with fail
    first
      | refine (long_f _ _).mono ?_
      | refine (long_s _ (by omega) _).mono ?_
    rintro e w3 ⟨rfl, b3⟩
    obtain ⟨hc3, hf3⟩ := bcell b3
    have hLb : (S + 7) / 8 ≤ 60 := by omega
    have HB3 : Hid (Below w.heap.size w w3.drew) := by
      show Below _ _ _
      repeat (first | exact Below.refl _ _ | refine bl_alloc ?_ _ | refine bl_drewN ?_ _ | refine bl_drew ?_ | refine bl_set ?_ (by have := b1.size; simp at this ⊢; omega) _ | refine bl_call ?_ b3 | refine bl_call ?_ b2 | refine bl_call ?_ b1)
    have hrd : ∀ j u, (body.map (Value.int .u64))[j]? = some u → w3.drew.cell? ⟨b, o + 1 + j, none⟩ = some u := fun j u hu => (HB3.out.cell (p := ⟨b, o + 1 + j, none⟩) (World.block_lt_of_cell? w _ (HRD.out j u hu))).trans (HRD.out j u hu)
    have hst := sound_tail S b o c body HBL.out.1 HBL.out.2 w3.drew (by omega) HFX.out hrd
    rw [HBL.out.1, HSD.out] at hst
    have HST := Lib.hid hst
    clear hst hrd HBL
    generalize hL : (S + 7) / 8 = L at *
    have HLL := Lib.hid hL
    clear hL
    first
      | (
          have hg : decide ((n : Int) < 1 + (L : Int)) = false := decide_eq_false (by omega)
          have g0 : (0 : Int) ≤ 1 + (L : Int) := by omega
          have g1 : 1 + (L : Int) ≤ (c : Int) := by omega
          have g2 : (1 : Int) ≤ 1 + (L : Int) := by omega
          have g3 : (1 + (L : Int)).toNat = 1 + L := by omega)
      | (
          have hg : decide ((n : Int) < 1 + (S : Int)) = false := decide_eq_false (by omega)
          have g0 : (0 : Int) ≤ 1 + (S : Int) := by omega
          have g1 : 1 + (S : Int) ≤ (c : Int) := by omega
          have g2 : (1 : Int) ≤ 1 + (S : Int) := by omega
          have g3 : (1 + (S : Int)).toNat = 1 + S := by omega)
    have hn1 := ahead1
    have hn2 := ahead2
    have hn3 := ahead3
    have hn4 := ahead4
    have ht : (if c = 1 then some (⟨b, o, none⟩ : Addr) else some ⟨b, o + 1, none⟩) = tailA b o c := rfl
    go_wp2
    refine wp_region_still_tail 14 (by kernel_rfl) (by kernel_rfl) ?_
    simp only [List.take_succ_cons, List.take_zero, List.drop_succ_cons, List.drop_zero]
    iterate 14 still_step
    refine wpStill_nil ?_
    change wpList _ _ _ _ _ w3.drew
    go_wp2_with fail
    refine HST.out.mono ?_
    rintro e w4 ⟨rfl, b4⟩
    go_wp2
    go_ret2
    exact ⟨by have h := HLL.out; subst h; rfl, by repeat (first | exact Below.refl _ _ | refine bl_alloc ?_ _ | refine bl_drewN ?_ _ | refine bl_drew ?_ | refine bl_set ?_ (by have := b1.size; simp at this ⊢; omega) _ | refine bl_call ?_ b4 | refine bl_call ?_ b3 | refine bl_call ?_ b2 | refine bl_call ?_ b1)⟩

end Go.Proofs.Ytnjpjhlodamanaa
