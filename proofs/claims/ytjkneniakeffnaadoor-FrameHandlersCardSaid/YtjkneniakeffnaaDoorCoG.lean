/-
  Package code: whether texts, constructors, forms may be.
  Conditions: as each states.
-/
import Derived.Test.YtjkneniakeffnaaDoorCoM
import Derived.Test.YtjkneniakeffnaaDoorOpE
namespace Go.Proofs.YtjkneniakeffnaaDoor
open Go.ChangeShapes Go.WideShapes Go.ChangeAt Go.RowKit
set_option linter.unusedVariables false
set_option linter.unusedSimpArgs false
set_option maxRecDepth 100000

theorem below_any (n m : Int) (w : World) : Calls Tryd.prog 31 #[.int .i64 n, .int .i64 m] w fun e w' => e = .returned (.bool (belowB n m)) ∧ w = w' := by
  by_cases c1 : 0 ≤ n
  · by_cases c2 : n < m
    · have E := Lib.hid (show belowB n m = true from decide_eq_true ⟨c1, c2⟩)
      go_enter Tryd.func31, Tryd.ntmps31
      go_wp2
      go_ret
      exact ⟨ret_bool E.out.symm, rfl⟩
    · have E := Lib.hid (show belowB n m = false from decide_eq_false fun h => c2 h.2)
      go_enter Tryd.func31, Tryd.ntmps31
      go_wp2
      go_ret
      exact ⟨ret_bool E.out.symm, rfl⟩
  · have E := Lib.hid (show belowB n m = false from decide_eq_false fun h => c1 h.1)
    go_enter Tryd.func31, Tryd.ntmps31
    go_wp2
    go_ret
    exact ⟨ret_bool E.out.symm, rfl⟩

theorem below_is {n m : Int} {b : Bool} (h : belowB n m = b) (w : World) : Calls Tryd.prog 31 #[.int .i64 n, .int .i64 m] w fun e w' => e = .returned (.bool b) ∧ w = w' :=
  (below_any n m w).mono fun e w' ⟨he, hw⟩ => ⟨by rw [he, h], hw⟩

theorem goodStrs_any {S : Nat → Prop} (v : Value) (l : List ByteArray) (w : World) (h : rdAt S w v l.length (strL l)) (hl : l.length ≤ maxLen) :
    Calls Tryd.prog 24 #[v] w fun e w' => e = .returned (.bool (strsG l)) ∧ w = w' := by
  obtain ⟨a, c, rfl, h⟩ := h
  unfold maxLen at hl
  rcases h with h0 | ⟨b, o, rfl, -, -, hc⟩
  · have E := Lib.hid (show strsG l = true by rw [List.length_eq_zero_iff.1 h0]; rfl)
    rw [h0]
    clear h0 hl
    go_enter Tryd.func24, Tryd.ntmps24
    go_wp2
    go_rounds 1
    go_ret
    exact ⟨ret_bool E.out.symm, rfl⟩
  · have HC := Lib.hid hc
    clear hc
    go_enter Tryd.func24, Tryd.ntmps24
    go_wp2
    go_loop [7] (fun i => ∃ k : Nat, k ≤ l.length ∧ i = .int .i64 k ∧ Hid (∀ j s, j < k → l[j]? = some s → strG s = true)) (fun i => l.length - (intOf i).toNat)
    case atStart => exact ⟨0, Nat.zero_le _, rfl, Lib.hid fun j s hj => absurd hj (by omega)⟩
    case round =>
      obtain ⟨k, hk, rfl, H⟩ := hrel
      by_cases hlt : k < l.length
      · have e1 : w.cell? ⟨b, o + k, none⟩ = some (.string l[k]) := HC.out k _ (by simp [hlt])
        have hx := Lib.hid (List.getElem?_eq_getElem hlt)
        generalize l[k] = s at *
        by_cases hs : 60 < s.size
        · have E := Lib.hid (show strsG l = false from allI_false hx.out (by unfold strG; exact decide_eq_false (by omega)))
          go_wp2
          go_ret
          exact ⟨ret_bool E.out.symm, rfl⟩
        · have E := Lib.hid (show strG s = true by unfold strG; exact decide_eq_true (by omega))
          go_wp2
          go_round
          case rel => 
            refine ⟨k + 1, by omega, by go_num, Lib.hid fun j t hj ht => ?_⟩
            rcases Nat.lt_or_ge j k with h | h
            · exact H.out j t h ht
            · obtain rfl : j = k := by omega
              rw [hx.out] at ht; cases ht; exact E.out
          case measure => simp [intOf]; omega
      · obtain rfl : k = l.length := by omega
        have E := Lib.hid (show strsG l = true from allI_true fun j x hj hx => H.out j x hj hx)
        go_wp2
        go_ret
        exact ⟨ret_bool E.out.symm, rfl⟩

theorem con_eq (n : Nat) (c : Int) : conG n c = (decide (c = -1) || belowB c n) := rfl

theorem goodCons_any {S : Nat → Prop} (v : Value) (l : List Int) (n : Nat) (w : World) (h : rdAt S w v l.length (l.map (Value.int .i64))) (hl : l.length ≤ maxLen) :
    Calls Tryd.prog 33 #[v, .int .i64 n] w fun e w' => e = .returned (.bool (consG n l)) ∧ w = w' := by
  obtain ⟨a, c, rfl, h⟩ := h
  unfold maxLen at hl
  by_cases hb : 0 < l.length ∧ l.length ≤ 20
  · rcases h with h0 | ⟨b, o, rfl, -, -, hc⟩
    · omega
    · have HC := Lib.hid hc
      have E0 := Lib.hid (show consG n l = allI (fun _ c => conG n c) 0 l by unfold consG; rw [show decide (0 < l.length ∧ l.length ≤ 20) = true from decide_eq_true hb, Bool.true_and])
      obtain ⟨hb1, hb2⟩ := hb
      have hb3 : ¬ l.length = 0 := by omega
      have hb4 : ((l.length : Int) == 0) = false := by rw [beq_eq_false_iff_ne]; omega
      clear hc
      go_enter Tryd.func33, Tryd.ntmps33
      go_wp2
      go_loop [17] (fun i => ∃ k : Nat, k ≤ l.length ∧ i = .int .i64 k ∧ Hid (∀ j s, j < k → l[j]? = some s → conG n s = true)) (fun i => l.length - (intOf i).toNat)
      case atStart => exact ⟨0, Nat.zero_le _, rfl, Lib.hid fun j s hj => absurd hj (by omega)⟩
      case round =>
        obtain ⟨k, hk, rfl, H⟩ := hrel
        by_cases hlt : k < l.length
        · have e1 : w.cell? ⟨b, o + k, none⟩ = some (.int .i64 l[k]) := HC.out k _ (by simp [hlt])
          have hx := Lib.hid (List.getElem?_eq_getElem hlt)
          generalize l[k] = s at *
          cases hs : belowB s n
          · by_cases h1 : s = -1
            · have E := Lib.hid (show conG n s = true by rw [con_eq, h1]; rfl)
              have t1 : (s != -1) = false := by simpa using h1
              clear h1
              go_wp2_with (go_at_call 31; refine (below_is hs _).mono ?_; rintro e w' ⟨rfl, rfl⟩)
              go_round
              case rel => 
                refine ⟨k + 1, by omega, by go_num, Lib.hid fun j t hj ht => ?_⟩
                rcases Nat.lt_or_ge j k with h | h
                · exact H.out j t h ht
                · obtain rfl : j = k := by omega
                  rw [hx.out] at ht; cases ht; exact E.out
              case measure => simp [intOf]; omega
            · have E := Lib.hid (show consG n l = false by rw [E0.out]; exact allI_false hx.out (by rw [con_eq, hs, decide_eq_false h1]; rfl))
              have t1 : (s != -1) = true := by simpa using h1
              clear h1
              go_wp2_with (go_at_call 31; refine (below_is hs _).mono ?_; rintro e w' ⟨rfl, rfl⟩)
              go_ret
              exact ⟨ret_bool E.out.symm, rfl⟩
          · have E := Lib.hid (show conG n s = true by rw [con_eq, hs, Bool.or_true])
            by_cases h1 : s = -1
            · have t1 : (s != -1) = false := by simpa using h1
              clear h1
              go_wp2_with (go_at_call 31; refine (below_is hs _).mono ?_; rintro e w' ⟨rfl, rfl⟩)
              go_round
              case rel => 
                refine ⟨k + 1, by omega, by go_num, Lib.hid fun j t hj ht => ?_⟩
                rcases Nat.lt_or_ge j k with h | h
                · exact H.out j t h ht
                · obtain rfl : j = k := by omega
                  rw [hx.out] at ht; cases ht; exact E.out
              case measure => simp [intOf]; omega
            · have t1 : (s != -1) = true := by simpa using h1
              clear h1
              go_wp2_with (go_at_call 31; refine (below_is hs _).mono ?_; rintro e w' ⟨rfl, rfl⟩)
              go_round
              case rel => 
                refine ⟨k + 1, by omega, by go_num, Lib.hid fun j t hj ht => ?_⟩
                rcases Nat.lt_or_ge j k with h | h
                · exact H.out j t h ht
                · obtain rfl : j = k := by omega
                  rw [hx.out] at ht; cases ht; exact E.out
              case measure => simp [intOf]; omega
        · obtain rfl : k = l.length := by omega
          have E := Lib.hid (show consG n l = true by rw [E0.out]; exact allI_true fun j x hj hx => H.out j x hj hx)
          go_wp2
          go_ret
          exact ⟨ret_bool E.out.symm, rfl⟩
  · have E := Lib.hid (show consG n l = false by unfold consG; rw [show decide (0 < l.length ∧ l.length ≤ 20) = false from decide_eq_false hb, Bool.false_and])
    clear h
    by_cases h1 : l.length = 0
    · rw [h1]
      clear hb hl
      go_enter Tryd.func33, Tryd.ntmps33
      go_wp2
      go_ret
      exact ⟨ret_bool E.out.symm, rfl⟩
    · have h2 : 20 < l.length := by omega
      have hb4 : ((l.length : Int) == 0) = false := by rw [beq_eq_false_iff_ne]; omega
      clear hb h1
      go_enter Tryd.func33, Tryd.ntmps33
      go_wp2
      go_ret
      exact ⟨ret_bool E.out.symm, rfl⟩
theorem goodCons_is {S : Nat → Prop} {v : Value} {l : List Int} {n : Nat} {b : Bool} (hb : consG n l = b) (w : World) (h : rdAt S w v l.length (l.map (Value.int .i64))) (hl : l.length ≤ maxLen) :
    Calls Tryd.prog 33 #[v, .int .i64 n] w fun e w' => e = .returned (.bool b) ∧ w = w' :=
  (goodCons_any v l n w h hl).mono fun e w' ⟨he, hw⟩ => ⟨by rw [he, hb], hw⟩
end Go.Proofs.YtjkneniakeffnaaDoor
