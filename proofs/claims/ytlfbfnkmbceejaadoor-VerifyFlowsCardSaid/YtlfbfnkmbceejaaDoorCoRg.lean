/-
  The document's answer for package code: whether forms may be: the walk.
  Conditions: as each states.
-/
import Derived.Test.YtlfbfnkmbceejaaDoorCoRf
import Derived.RegionTactic
import Derived.BigRegion
import Derived.Outline
import Derived.Laws.StructEq
namespace Go.Proofs.YtlfbfnkmbceejaaDoor
open Go.ChangeShapes Go.WideShapes Go.ChangeAt Go.RowKit
set_option linter.unusedVariables false
set_option linter.unusedSimpArgs false
set_option maxRecDepth 100000

theorem fm1 (n : Nat) (k a b : Int) (l : List Int) (h : k = 1 ∨ k = 2 ∨ k = 3 ∨ k = 4) : fmG n (k, a, b, l) = (decide (a = 0) && (decide (b = 0) && decide (l.length = 0))) := by
  rw [fmG_1 n k a b l h]
  unfold belowB
  congr 1
  · exact decide_eq_decide.2 (by omega)
  · congr 1
    exact decide_eq_decide.2 (by omega)
theorem fm5 (n : Nat) (a b : Int) (l : List Int) : fmG n (5, a, b, l) = (decide (0 ≤ a ∧ a < n) && (decide (0 ≤ b ∧ b < n) && decide (l.length = 0))) := rfl
theorem fm6 (n : Nat) (a b : Int) (l : List Int) : fmG n (6, a, b, l) = (decide (0 ≤ a ∧ a < n) && (decide (b = 0) && decide (l.length = 0))) := by
  rw [fmG_6]
  unfold belowB
  congr 1
  congr 1
  exact decide_eq_decide.2 (by omega)
def FmStep (l : List PFm) (w : World) (k : Nat) (wr : World) : Prop := (∀ j m, j < k → l[j]? = some m → fmG l.length m = true) ∧ Below w.heap.size w wr
theorem fm_more {l : List PFm} {w wr wr' : World} {k : Nat} {m : PFm} (h : FmStep l w k wr) (hx : l[k]? = some m) (hm : fmG l.length m = true) (hb : Below wr.heap.size wr wr') : FmStep l w (k + 1) wr' :=
  ⟨fun j g hj hg => by
    rcases Nat.lt_or_ge j k with h' | h'
    · exact h.1 j g h' hg
    · obtain rfl : j = k := by omega
      rw [hx] at hg; cases hg; exact hm, down_call h.2 hb⟩

set_option maxHeartbeats 32000000 in
theorem rforms_any {S : Nat → Prop} (v : Value) (l : List PFm) (w : World) (h : fmsAt S w v l) (hl : l.length ≤ maxLen) (hm : ∀ m ∈ l, m.2.2.2.length ≤ maxLen) :
    Calls Tryd.prog 23 #[v] w fun e w' => e = .returned (.bool (rfmsG l)) ∧ Below w.heap.size w w' := by
  obtain ⟨sa0, sc0, rfl, h⟩ := h
  unfold maxLen at hl
  have PF := Lib.hid h
  have HM := Lib.hid hm
  clear h hm
  go_enter Tryd.func23, Tryd.ntmps23
  go_wp2_with fail
  go_loopw [4] (fun i wr => ∃ k : Nat, i = .int .i64 k ∧ k ≤ l.length ∧ Hid (FmStep l w k wr)) (fun i _ => l.length - (intOf i).toNat)
  case atStart => exact ⟨0, rfl, Nat.zero_le _, Lib.hid ⟨fun j m hj => absurd hj (by omega), Below.refl _ _⟩⟩
  case round =>
    obtain ⟨k, rfl, hk, HE⟩ := hrel
    by_cases hlt : k < l.length
    · have hx := Lib.hid (List.getElem?_eq_getElem hlt)
      have hcl := HM.out l[k] (List.getElem_mem hlt)
      unfold maxLen at hcl
      generalize l[k] = m at *
      rcases PF.out with hz | ⟨rb, ro, rfl, hSb, hrb, hc⟩
      · omega
      · obtain ⟨e0, e1, e2, sv, e3, hsv⟩ := (hc k m hx.out).upon (upon_of_below HE.out.2) (fun _ _ t => t.elim) hrb (fun t => t)
        obtain ⟨sa, sc, rfl⟩ := hsv.slice
        obtain ⟨kd, a, b, cs⟩ := m
        simp only at e0 e1 e2 e3 hsv hcl
        have SV := Lib.hid hsv
        have NO := Lib.hid (show fmG l.length (kd, a, b, cs) = false → rfmsG l = false from fun e => rf_false hx.out e)
        have GO := Lib.hid (show ∀ wr', fmG l.length (kd, a, b, cs) = true → Below wr.heap.size wr wr' → FmStep l w (k + 1) wr' from fun wr' e hb => fm_more HE.out hx.out e hb)
        have hkI : (k : Int) < l.length := by omega
        obtain ⟨W, hW⟩ : ∃ W, wr.alloc (.cells #[.int .i64 kd, .int .i64 a, .int .i64 b, .slice sa cs.length sc] 56) = W := ⟨_, rfl⟩
        have BW := Lib.hid (show Below wr.heap.size wr W by rw [← hW]; exact down_alloc (Below.refl _ _) _)
        have rW : rowAt W wr.heap.size 56 [.int .i64 kd, .int .i64 a, .int .i64 b, .slice sa cs.length sc] := by rw [← hW]; exact rowAt.made _ _ _
        have c0 : W.cell? ⟨wr.heap.size, 0, none⟩ = some (.int .i64 kd) := (rW.cell 0).trans rfl
        have c1 : W.cell? ⟨wr.heap.size, 1, none⟩ = some (.int .i64 a) := (rW.cell 1).trans rfl
        have c2 : W.cell? ⟨wr.heap.size, 2, none⟩ = some (.int .i64 b) := (rW.cell 2).trans rfl
        have c3 : W.cell? ⟨wr.heap.size, 3, none⟩ = some (.slice sa cs.length sc) := (rW.cell 3).trans rfl
        clear hc hSb hsv
        go_wp2_with fail
        clear hW e0 e1 e2 e3
        go_quiet (fail)
        obtain ⟨V, hV⟩ : ∃ V, W.drewN nq = V := ⟨_, rfl⟩
        have BV := Lib.hid (show Below wr.heap.size wr V by rw [← hV]; exact below_draws BW.out _)
        replace c0 : V.cell? ⟨wr.heap.size, 0, none⟩ = some (.int .i64 kd) := by rw [← hV]; exact c0
        replace c1 : V.cell? ⟨wr.heap.size, 1, none⟩ = some (.int .i64 a) := by rw [← hV]; exact c1
        replace c2 : V.cell? ⟨wr.heap.size, 2, none⟩ = some (.int .i64 b) := by rw [← hV]; exact c2
        replace c3 : V.cell? ⟨wr.heap.size, 3, none⟩ = some (.slice sa cs.length sc) := by rw [← hV]; exact c3
        have rV := Lib.hid (show rdAt S V (Value.slice sa cs.length sc) cs.length (cs.map (Value.int .i64)) from SV.out.below BV.out)
        rw [hV]
        clear hV rW
        by_cases hk1 : kd = 1
        · subst hk1
          by_cases hA : a = 0
          · by_cases hB : b = 0
            · by_cases hC : cs.length = 0
              · have t1 : (a == 0) = true := by rw [beq_iff_eq]; exact hA
                have t2 : (b == 0) = true := by rw [beq_iff_eq]; exact hB
                have t3 : ((cs.length : Int) == 0) = true := by rw [beq_iff_eq]; omega
                have E := Lib.hid (show fmG l.length (1, a, b, cs) = true by rw [fm1 _ _ _ _ _ (by decide), decide_eq_true hA, decide_eq_true hB, decide_eq_true hC]; rfl)
                go_wp2_with fail
                go_roundw
                case rel => exact ⟨k + 1, by go_num, by omega, Lib.hid (GO.out _ E.out (by first | exact BV.out | exact below_draws BV.out _))⟩
                case measure => simp [intOf]; omega
              · have t1 : (a == 0) = true := by rw [beq_iff_eq]; exact hA
                have t2 : (b == 0) = true := by rw [beq_iff_eq]; exact hB
                have t3 : ((cs.length : Int) == 0) = false := by rw [beq_eq_false_iff_ne]; omega
                have E := Lib.hid (NO.out (by rw [fm1 _ _ _ _ _ (by decide), decide_eq_false hC, Bool.and_false, Bool.and_false]))
                clear hA hB hC
                go_wp2_with fail
                go_ret
                exact ⟨ret_bool E.out.symm, down_call HE.out.2 (by first | exact BV.out | exact below_draws BV.out _)⟩
            · have t1 : (a == 0) = true := by rw [beq_iff_eq]; exact hA
              have t2 : (b == 0) = false := by rw [beq_eq_false_iff_ne]; exact hB
              have E := Lib.hid (NO.out (by rw [fm1 _ _ _ _ _ (by decide), decide_eq_false hB, Bool.false_and, Bool.and_false]))
              clear hA hB
              go_wp2_with fail
              go_ret
              exact ⟨ret_bool E.out.symm, down_call HE.out.2 (by first | exact BV.out | exact below_draws BV.out _)⟩
          · have t1 : (a == 0) = false := by rw [beq_eq_false_iff_ne]; exact hA
            have E := Lib.hid (NO.out (by rw [fm1 _ _ _ _ _ (by decide), decide_eq_false hA, Bool.false_and]))
            clear hA
            go_wp2_with fail
            go_ret
            exact ⟨ret_bool E.out.symm, down_call HE.out.2 (by first | exact BV.out | exact below_draws BV.out _)⟩
        · skip
          by_cases hk2 : kd = 2
          · subst hk2
            by_cases hA : a = 0
            · by_cases hB : b = 0
              · by_cases hC : cs.length = 0
                · have t1 : (a == 0) = true := by rw [beq_iff_eq]; exact hA
                  have t2 : (b == 0) = true := by rw [beq_iff_eq]; exact hB
                  have t3 : ((cs.length : Int) == 0) = true := by rw [beq_iff_eq]; omega
                  have E := Lib.hid (show fmG l.length (2, a, b, cs) = true by rw [fm1 _ _ _ _ _ (by decide), decide_eq_true hA, decide_eq_true hB, decide_eq_true hC]; rfl)
                  go_wp2_with fail
                  go_roundw
                  case rel => exact ⟨k + 1, by go_num, by omega, Lib.hid (GO.out _ E.out (by first | exact BV.out | exact below_draws BV.out _))⟩
                  case measure => simp [intOf]; omega
                · have t1 : (a == 0) = true := by rw [beq_iff_eq]; exact hA
                  have t2 : (b == 0) = true := by rw [beq_iff_eq]; exact hB
                  have t3 : ((cs.length : Int) == 0) = false := by rw [beq_eq_false_iff_ne]; omega
                  have E := Lib.hid (NO.out (by rw [fm1 _ _ _ _ _ (by decide), decide_eq_false hC, Bool.and_false, Bool.and_false]))
                  clear hA hB hC
                  go_wp2_with fail
                  go_ret
                  exact ⟨ret_bool E.out.symm, down_call HE.out.2 (by first | exact BV.out | exact below_draws BV.out _)⟩
              · have t1 : (a == 0) = true := by rw [beq_iff_eq]; exact hA
                have t2 : (b == 0) = false := by rw [beq_eq_false_iff_ne]; exact hB
                have E := Lib.hid (NO.out (by rw [fm1 _ _ _ _ _ (by decide), decide_eq_false hB, Bool.false_and, Bool.and_false]))
                clear hA hB
                go_wp2_with fail
                go_ret
                exact ⟨ret_bool E.out.symm, down_call HE.out.2 (by first | exact BV.out | exact below_draws BV.out _)⟩
            · have t1 : (a == 0) = false := by rw [beq_eq_false_iff_ne]; exact hA
              have E := Lib.hid (NO.out (by rw [fm1 _ _ _ _ _ (by decide), decide_eq_false hA, Bool.false_and]))
              clear hA
              go_wp2_with fail
              go_ret
              exact ⟨ret_bool E.out.symm, down_call HE.out.2 (by first | exact BV.out | exact below_draws BV.out _)⟩
          · skip
            by_cases hk3 : kd = 3
            · subst hk3
              by_cases hA : a = 0
              · by_cases hB : b = 0
                · by_cases hC : cs.length = 0
                  · have t1 : (a == 0) = true := by rw [beq_iff_eq]; exact hA
                    have t2 : (b == 0) = true := by rw [beq_iff_eq]; exact hB
                    have t3 : ((cs.length : Int) == 0) = true := by rw [beq_iff_eq]; omega
                    have E := Lib.hid (show fmG l.length (3, a, b, cs) = true by rw [fm1 _ _ _ _ _ (by decide), decide_eq_true hA, decide_eq_true hB, decide_eq_true hC]; rfl)
                    go_wp2_with fail
                    go_roundw
                    case rel => exact ⟨k + 1, by go_num, by omega, Lib.hid (GO.out _ E.out (by first | exact BV.out | exact below_draws BV.out _))⟩
                    case measure => simp [intOf]; omega
                  · have t1 : (a == 0) = true := by rw [beq_iff_eq]; exact hA
                    have t2 : (b == 0) = true := by rw [beq_iff_eq]; exact hB
                    have t3 : ((cs.length : Int) == 0) = false := by rw [beq_eq_false_iff_ne]; omega
                    have E := Lib.hid (NO.out (by rw [fm1 _ _ _ _ _ (by decide), decide_eq_false hC, Bool.and_false, Bool.and_false]))
                    clear hA hB hC
                    go_wp2_with fail
                    go_ret
                    exact ⟨ret_bool E.out.symm, down_call HE.out.2 (by first | exact BV.out | exact below_draws BV.out _)⟩
                · have t1 : (a == 0) = true := by rw [beq_iff_eq]; exact hA
                  have t2 : (b == 0) = false := by rw [beq_eq_false_iff_ne]; exact hB
                  have E := Lib.hid (NO.out (by rw [fm1 _ _ _ _ _ (by decide), decide_eq_false hB, Bool.false_and, Bool.and_false]))
                  clear hA hB
                  go_wp2_with fail
                  go_ret
                  exact ⟨ret_bool E.out.symm, down_call HE.out.2 (by first | exact BV.out | exact below_draws BV.out _)⟩
              · have t1 : (a == 0) = false := by rw [beq_eq_false_iff_ne]; exact hA
                have E := Lib.hid (NO.out (by rw [fm1 _ _ _ _ _ (by decide), decide_eq_false hA, Bool.false_and]))
                clear hA
                go_wp2_with fail
                go_ret
                exact ⟨ret_bool E.out.symm, down_call HE.out.2 (by first | exact BV.out | exact below_draws BV.out _)⟩
            · skip
              by_cases hk4 : kd = 4
              · subst hk4
                by_cases hA : a = 0
                · by_cases hB : b = 0
                  · by_cases hC : cs.length = 0
                    · have t1 : (a == 0) = true := by rw [beq_iff_eq]; exact hA
                      have t2 : (b == 0) = true := by rw [beq_iff_eq]; exact hB
                      have t3 : ((cs.length : Int) == 0) = true := by rw [beq_iff_eq]; omega
                      have E := Lib.hid (show fmG l.length (4, a, b, cs) = true by rw [fm1 _ _ _ _ _ (by decide), decide_eq_true hA, decide_eq_true hB, decide_eq_true hC]; rfl)
                      go_wp2_with fail
                      go_roundw
                      case rel => exact ⟨k + 1, by go_num, by omega, Lib.hid (GO.out _ E.out (by first | exact BV.out | exact below_draws BV.out _))⟩
                      case measure => simp [intOf]; omega
                    · have t1 : (a == 0) = true := by rw [beq_iff_eq]; exact hA
                      have t2 : (b == 0) = true := by rw [beq_iff_eq]; exact hB
                      have t3 : ((cs.length : Int) == 0) = false := by rw [beq_eq_false_iff_ne]; omega
                      have E := Lib.hid (NO.out (by rw [fm1 _ _ _ _ _ (by decide), decide_eq_false hC, Bool.and_false, Bool.and_false]))
                      clear hA hB hC
                      go_wp2_with fail
                      go_ret
                      exact ⟨ret_bool E.out.symm, down_call HE.out.2 (by first | exact BV.out | exact below_draws BV.out _)⟩
                  · have t1 : (a == 0) = true := by rw [beq_iff_eq]; exact hA
                    have t2 : (b == 0) = false := by rw [beq_eq_false_iff_ne]; exact hB
                    have E := Lib.hid (NO.out (by rw [fm1 _ _ _ _ _ (by decide), decide_eq_false hB, Bool.false_and, Bool.and_false]))
                    clear hA hB
                    go_wp2_with fail
                    go_ret
                    exact ⟨ret_bool E.out.symm, down_call HE.out.2 (by first | exact BV.out | exact below_draws BV.out _)⟩
                · have t1 : (a == 0) = false := by rw [beq_eq_false_iff_ne]; exact hA
                  have E := Lib.hid (NO.out (by rw [fm1 _ _ _ _ _ (by decide), decide_eq_false hA, Bool.false_and]))
                  clear hA
                  go_wp2_with fail
                  go_ret
                  exact ⟨ret_bool E.out.symm, down_call HE.out.2 (by first | exact BV.out | exact below_draws BV.out _)⟩
              · skip
                by_cases hk5 : kd = 5
                · subst hk5
                  rcases Int.lt_or_le a 0 with ha | ha
                  · rcases Int.lt_or_le b 0 with hb | hb
                    · have d1 : decide (0 ≤ a) = false := decide_eq_false (by omega)
                      have d3 : decide (0 ≤ b) = false := decide_eq_false (by omega)
                      have E := Lib.hid (NO.out (by rw [fm5, decide_eq_false (by omega : ¬ (0 ≤ a ∧ a < (l.length : Int))), Bool.false_and]))
                      go_wp2_with fail
                      go_quiet (fail)
                      go_wp2_with fail
                      go_ret
                      exact ⟨ret_bool E.out.symm, down_call HE.out.2 (by first | exact BV.out | exact below_draws BV.out _)⟩
                    by_cases hb2 : (l.length : Int) ≤ b
                    · have d1 : decide (0 ≤ a) = false := decide_eq_false (by omega)
                      have d3 : decide (0 ≤ b) = true := decide_eq_true (by omega)
                      have d4 : decide (b < (l.length : Int)) = false := decide_eq_false (by omega)
                      have E := Lib.hid (NO.out (by rw [fm5, decide_eq_false (by omega : ¬ (0 ≤ a ∧ a < (l.length : Int))), Bool.false_and]))
                      go_wp2_with fail
                      go_quiet (fail)
                      go_wp2_with fail
                      go_ret
                      exact ⟨ret_bool E.out.symm, down_call HE.out.2 (by first | exact BV.out | exact below_draws BV.out _)⟩
                    have d1 : decide (0 ≤ a) = false := decide_eq_false (by omega)
                    have d3 : decide (0 ≤ b) = true := decide_eq_true (by omega)
                    have d4 : decide (b < (l.length : Int)) = true := decide_eq_true (by omega)
                    have E := Lib.hid (NO.out (by rw [fm5, decide_eq_false (by omega : ¬ (0 ≤ a ∧ a < (l.length : Int))), Bool.false_and]))
                    go_wp2_with fail
                    go_quiet (fail)
                    go_wp2_with fail
                    go_ret
                    exact ⟨ret_bool E.out.symm, down_call HE.out.2 (by first | exact BV.out | exact below_draws BV.out _)⟩
                  by_cases ha2 : (l.length : Int) ≤ a
                  · rcases Int.lt_or_le b 0 with hb | hb
                    · have d1 : decide (0 ≤ a) = true := decide_eq_true (by omega)
                      have d2 : decide (a < (l.length : Int)) = false := decide_eq_false (by omega)
                      have d3 : decide (0 ≤ b) = false := decide_eq_false (by omega)
                      have E := Lib.hid (NO.out (by rw [fm5, decide_eq_false (by omega : ¬ (0 ≤ a ∧ a < (l.length : Int))), Bool.false_and]))
                      go_wp2_with fail
                      go_quiet (fail)
                      go_wp2_with fail
                      go_ret
                      exact ⟨ret_bool E.out.symm, down_call HE.out.2 (by first | exact BV.out | exact below_draws BV.out _)⟩
                    by_cases hb2 : (l.length : Int) ≤ b
                    · have d1 : decide (0 ≤ a) = true := decide_eq_true (by omega)
                      have d2 : decide (a < (l.length : Int)) = false := decide_eq_false (by omega)
                      have d3 : decide (0 ≤ b) = true := decide_eq_true (by omega)
                      have d4 : decide (b < (l.length : Int)) = false := decide_eq_false (by omega)
                      have E := Lib.hid (NO.out (by rw [fm5, decide_eq_false (by omega : ¬ (0 ≤ a ∧ a < (l.length : Int))), Bool.false_and]))
                      go_wp2_with fail
                      go_quiet (fail)
                      go_wp2_with fail
                      go_ret
                      exact ⟨ret_bool E.out.symm, down_call HE.out.2 (by first | exact BV.out | exact below_draws BV.out _)⟩
                    have d1 : decide (0 ≤ a) = true := decide_eq_true (by omega)
                    have d2 : decide (a < (l.length : Int)) = false := decide_eq_false (by omega)
                    have d3 : decide (0 ≤ b) = true := decide_eq_true (by omega)
                    have d4 : decide (b < (l.length : Int)) = true := decide_eq_true (by omega)
                    have E := Lib.hid (NO.out (by rw [fm5, decide_eq_false (by omega : ¬ (0 ≤ a ∧ a < (l.length : Int))), Bool.false_and]))
                    go_wp2_with fail
                    go_quiet (fail)
                    go_wp2_with fail
                    go_ret
                    exact ⟨ret_bool E.out.symm, down_call HE.out.2 (by first | exact BV.out | exact below_draws BV.out _)⟩
                  rcases Int.lt_or_le b 0 with hb | hb
                  · have d1 : decide (0 ≤ a) = true := decide_eq_true (by omega)
                    have d2 : decide (a < (l.length : Int)) = true := decide_eq_true (by omega)
                    have d3 : decide (0 ≤ b) = false := decide_eq_false (by omega)
                    have E := Lib.hid (NO.out (by rw [fm5, decide_eq_false (by omega : ¬ (0 ≤ b ∧ b < (l.length : Int))), Bool.false_and, Bool.and_false]))
                    go_wp2_with fail
                    go_quiet (fail)
                    go_wp2_with fail
                    go_ret
                    exact ⟨ret_bool E.out.symm, down_call HE.out.2 (by first | exact BV.out | exact below_draws BV.out _)⟩
                  by_cases hb2 : (l.length : Int) ≤ b
                  · have d1 : decide (0 ≤ a) = true := decide_eq_true (by omega)
                    have d2 : decide (a < (l.length : Int)) = true := decide_eq_true (by omega)
                    have d3 : decide (0 ≤ b) = true := decide_eq_true (by omega)
                    have d4 : decide (b < (l.length : Int)) = false := decide_eq_false (by omega)
                    have E := Lib.hid (NO.out (by rw [fm5, decide_eq_false (by omega : ¬ (0 ≤ b ∧ b < (l.length : Int))), Bool.false_and, Bool.and_false]))
                    go_wp2_with fail
                    go_quiet (fail)
                    go_wp2_with fail
                    go_ret
                    exact ⟨ret_bool E.out.symm, down_call HE.out.2 (by first | exact BV.out | exact below_draws BV.out _)⟩
                  have d1 : decide (0 ≤ a) = true := decide_eq_true (by omega)
                  have d2 : decide (a < (l.length : Int)) = true := decide_eq_true (by omega)
                  have d3 : decide (0 ≤ b) = true := decide_eq_true (by omega)
                  have d4 : decide (b < (l.length : Int)) = true := decide_eq_true (by omega)
                  have hA : 0 ≤ a ∧ a < (l.length : Int) := by omega
                  have hB : 0 ≤ b ∧ b < (l.length : Int) := by omega
                  by_cases hC : cs.length = 0
                  · have t3 : ((cs.length : Int) == 0) = true := by rw [beq_iff_eq]; omega
                    have E := Lib.hid (show fmG l.length (5, a, b, cs) = true by rw [fm5, decide_eq_true hA, decide_eq_true hB, decide_eq_true hC]; rfl)
                    go_wp2_with fail
                    go_quiet (fail)
                    go_wp2_with fail
                    go_roundw
                    case rel => exact ⟨k + 1, by go_num, by omega, Lib.hid (GO.out _ E.out (by first | exact BV.out | exact below_draws BV.out _))⟩
                    case measure => simp [intOf]; omega
                  · have t3 : ((cs.length : Int) == 0) = false := by rw [beq_eq_false_iff_ne]; omega
                    have E := Lib.hid (NO.out (by rw [fm5, decide_eq_false hC, Bool.and_false, Bool.and_false]))
                    clear hA hB hC
                    go_wp2_with fail
                    go_quiet (fail)
                    go_wp2_with fail
                    go_ret
                    exact ⟨ret_bool E.out.symm, down_call HE.out.2 (by first | exact BV.out | exact below_draws BV.out _)⟩
                · skip
                  by_cases hk6 : kd = 6
                  · subst hk6
                    rcases Int.lt_or_le a 0 with ha | ha
                    · have d1 : decide (0 ≤ a) = false := decide_eq_false (by omega)
                      have hA : ¬ (0 ≤ a ∧ a < (l.length : Int)) := by omega
                      have E := Lib.hid (NO.out (by rw [fm6, decide_eq_false hA, Bool.false_and]))
                      clear hA
                      go_wp2_with fail
                      go_ret
                      exact ⟨ret_bool E.out.symm, down_call HE.out.2 (by first | exact BV.out | exact below_draws BV.out _)⟩
                    by_cases ha2 : (l.length : Int) ≤ a
                    · have d1 : decide (0 ≤ a) = true := decide_eq_true (by omega)
                      have d2 : decide (a < (l.length : Int)) = false := decide_eq_false (by omega)
                      have hA : ¬ (0 ≤ a ∧ a < (l.length : Int)) := by omega
                      have E := Lib.hid (NO.out (by rw [fm6, decide_eq_false hA, Bool.false_and]))
                      clear hA
                      go_wp2_with fail
                      go_ret
                      exact ⟨ret_bool E.out.symm, down_call HE.out.2 (by first | exact BV.out | exact below_draws BV.out _)⟩
                    have d1 : decide (0 ≤ a) = true := decide_eq_true (by omega)
                    have d2 : decide (a < (l.length : Int)) = true := decide_eq_true (by omega)
                    have hA : 0 ≤ a ∧ a < (l.length : Int) := by omega
                    by_cases hB : ¬ b = 0
                    · have t2 : (b == 0) = false := by rw [beq_eq_false_iff_ne]; exact hB
                      have E := Lib.hid (NO.out (by rw [fm6, decide_eq_false hB, Bool.false_and, Bool.and_false]))
                      clear hA hB
                      go_wp2_with fail
                      go_ret
                      exact ⟨ret_bool E.out.symm, down_call HE.out.2 (by first | exact BV.out | exact below_draws BV.out _)⟩
                    replace hB : b = 0 := by omega
                    have t2 : (b == 0) = true := by rw [beq_iff_eq]; exact hB
                    by_cases hC : cs.length = 0
                    · have t3 : ((cs.length : Int) == 0) = true := by rw [beq_iff_eq]; omega
                      have E := Lib.hid (show fmG l.length (6, a, b, cs) = true by rw [fm6, decide_eq_true hA, decide_eq_true hB, decide_eq_true hC]; rfl)
                      go_wp2_with fail
                      go_roundw
                      case rel => exact ⟨k + 1, by go_num, by omega, Lib.hid (GO.out _ E.out (by first | exact BV.out | exact below_draws BV.out _))⟩
                      case measure => simp [intOf]; omega
                    · have t3 : ((cs.length : Int) == 0) = false := by rw [beq_eq_false_iff_ne]; omega
                      have E := Lib.hid (NO.out (by rw [fm6, decide_eq_false hC, Bool.and_false, Bool.and_false]))
                      clear hA hB hC
                      go_wp2_with fail
                      go_ret
                      exact ⟨ret_bool E.out.symm, down_call HE.out.2 (by first | exact BV.out | exact below_draws BV.out _)⟩
                  · skip
                    by_cases hk7 : kd = 7
                    · subst hk7
                      rcases Nat.eq_zero_or_pos cs.length with hL | hL
                      · skip
                        have d5 : decide ((1 : Int) ≤ cs.length) = false := decide_eq_false (by omega)
                        have HB := Lib.hid (show decide (0 < cs.length ∧ cs.length ≤ 20) = false from decide_eq_false (by omega))
                        go_wp2_with fail
                        obtain ⟨wo, hwo⟩ : ∃ wo : World, wo = wr := ⟨_, rfl⟩
                        subst hwo
                        go_loopw [8, 9] (fun cv kv wi => ∃ kk : Nat, cv = .bool (consTo l.length cs false kk) ∧ kv = .int .i64 kk ∧ kk ≤ cs.length ∧ V = wi) (fun _ kv _ => cs.length - (intOf kv).toNat)
                        case atStart => exact ⟨0, by rw [consTo_0], rfl, Nat.zero_le _, rfl⟩
                        case round =>
                          obtain ⟨kk, rfl, rfl, hkk, rfl⟩ := hrel
                          have g1 : V.cell? ⟨wo.heap.size, 1, none⟩ = some (.int .i64 a) := c1
                          have g2 : V.cell? ⟨wo.heap.size, 2, none⟩ = some (.int .i64 b) := c2
                          have g3 : V.cell? ⟨wo.heap.size, 3, none⟩ = some (.slice sa cs.length sc) := c3
                          by_cases hlt2 : kk < cs.length
                          · exact absurd hlt2 (by omega)
                          · obtain rfl : kk = cs.length := by omega
                            have EG := Lib.hid (show fmG l.length (7, a, b, cs) = (decide (a = 0) && (decide (b = 0) && consTo l.length cs false cs.length)) by
                              rw [fmG_7, consTo_all]; unfold consG; rw [HB.out])
                            by_cases hA : ¬ a = 0
                            · have t1 : (a == 0) = false := by rw [beq_eq_false_iff_ne]; exact hA
                              have E := Lib.hid (NO.out (by rw [EG.out, decide_eq_false hA, Bool.false_and]))
                              clear EG hA
                              go_wp2_with fail
                              go_ret
                              exact ⟨ret_bool E.out.symm, down_call HE.out.2 (by first | exact BV.out | exact below_draws BV.out _)⟩
                            replace hA : a = 0 := by omega
                            have t1 : (a == 0) = true := by rw [beq_iff_eq]; exact hA
                            by_cases hB : ¬ b = 0
                            · have t2 : (b == 0) = false := by rw [beq_eq_false_iff_ne]; exact hB
                              have E := Lib.hid (NO.out (by rw [EG.out, decide_eq_false hB, Bool.false_and, Bool.and_false]))
                              clear EG hA hB
                              go_wp2_with fail
                              go_ret
                              exact ⟨ret_bool E.out.symm, down_call HE.out.2 (by first | exact BV.out | exact below_draws BV.out _)⟩
                            replace hB : b = 0 := by omega
                            have t2 : (b == 0) = true := by rw [beq_iff_eq]; exact hB
                            cases hT : consTo l.length cs false cs.length
                            · rw [hT] at EG
                              have E := Lib.hid (NO.out (by rw [EG.out, Bool.and_false, Bool.and_false]))
                              clear EG hA hB
                              go_wp2_with fail
                              go_ret
                              exact ⟨ret_bool E.out.symm, down_call HE.out.2 (by first | exact BV.out | exact below_draws BV.out _)⟩
                            · rw [hT] at EG
                              have E := Lib.hid (show fmG l.length (7, a, b, cs) = true by rw [EG.out, decide_eq_true hA, decide_eq_true hB]; rfl)
                              go_wp2_with fail
                              go_roundw
                              case rel => exact ⟨k + 1, by go_num, by omega, Lib.hid (GO.out _ E.out (by first | exact BV.out | exact below_draws BV.out _))⟩
                              case measure => simp [intOf]; omega
                      by_cases hL2 : cs.length ≤ 20
                      · skip
                        have d5 : decide ((1 : Int) ≤ cs.length) = true := decide_eq_true (by omega)
                        have d6 : decide ((cs.length : Int) ≤ 20) = true := decide_eq_true (by omega)
                        have HB := Lib.hid (show decide (0 < cs.length ∧ cs.length ≤ 20) = true from decide_eq_true (by omega))
                        go_wp2_with fail
                        obtain ⟨wo, hwo⟩ : ∃ wo : World, wo = wr := ⟨_, rfl⟩
                        subst hwo
                        go_loopw [8, 9] (fun cv kv wi => ∃ kk : Nat, cv = .bool (consTo l.length cs true kk) ∧ kv = .int .i64 kk ∧ kk ≤ cs.length ∧ V = wi) (fun _ kv _ => cs.length - (intOf kv).toNat)
                        case atStart => exact ⟨0, by rw [consTo_0], rfl, Nat.zero_le _, rfl⟩
                        case round =>
                          obtain ⟨kk, rfl, rfl, hkk, rfl⟩ := hrel
                          have g1 : V.cell? ⟨wo.heap.size, 1, none⟩ = some (.int .i64 a) := c1
                          have g2 : V.cell? ⟨wo.heap.size, 2, none⟩ = some (.int .i64 b) := c2
                          have g3 : V.cell? ⟨wo.heap.size, 3, none⟩ = some (.slice sa cs.length sc) := c3
                          by_cases hlt2 : kk < cs.length
                          · have hkJ : (kk : Int) < cs.length := by omega
                            obtain ⟨xb, xo, rfl, g4⟩ : ∃ xb xo, sa = some ⟨xb, xo, none⟩ ∧ V.cell? ⟨xb, xo + kk, none⟩ = some (.int .i64 cs[kk]) := by
                              obtain ⟨a', c', e, h⟩ := rV.out
                              cases e
                              rcases h with h0 | ⟨xb, xo, rfl, -, -, hc⟩
                              · omega
                              · exact ⟨xb, xo, rfl, hc kk _ (by simp [hlt2])⟩
                            have hs := Lib.hid (consTo_s l.length cs true hlt2)
                            generalize cs[kk] = c at *
                            cases hT : consTo l.length cs true kk
                            · rw [hT] at hs
                              clear hT

                              have e2 := Lib.hid (show consTo l.length cs true (kk + 1) = false from by rw [hs.out]; rfl)
                              go_wp2_with fail
                              go_roundw
                              case rel => exact ⟨kk + 1, by rw [e2.out], by go_num, by omega, by trivial⟩
                              case measure => simp [intOf]; omega
                            · rw [hT] at hs
                              clear hT
                              rcases Int.lt_or_le c (-1) with hc1 | hc1
                              · skip
                                have d7 : decide ((-1 : Int) ≤ c) = false := decide_eq_false (by omega)
                                have hr : conR l.length c = false := decide_eq_false (by omega)
                                have e2 := Lib.hid (show consTo l.length cs true (kk + 1) = false from by rw [hs.out]; rw [hr]; rfl)
                                clear hr
                                go_wp2_with fail
                                go_roundw
                                case rel => exact ⟨kk + 1, by rw [e2.out], by go_num, by omega, by trivial⟩
                                case measure => simp [intOf]; omega
                              by_cases hc2 : (l.length : Int) ≤ c
                              · skip
                                have d7 : decide ((-1 : Int) ≤ c) = true := decide_eq_true (by omega)
                                have d8 : decide (c < (l.length : Int)) = false := decide_eq_false (by omega)
                                have hr : conR l.length c = false := decide_eq_false (by omega)
                                have e2 := Lib.hid (show consTo l.length cs true (kk + 1) = false from by rw [hs.out]; rw [hr]; rfl)
                                clear hr
                                go_wp2_with fail
                                go_roundw
                                case rel => exact ⟨kk + 1, by rw [e2.out], by go_num, by omega, by trivial⟩
                                case measure => simp [intOf]; omega
                              have d7 : decide ((-1 : Int) ≤ c) = true := decide_eq_true (by omega)
                              have d8 : decide (c < (l.length : Int)) = true := decide_eq_true (by omega)
                              have hr : conR l.length c = true := decide_eq_true (by omega)
                              have e2 := Lib.hid (show consTo l.length cs true (kk + 1) = true from by rw [hs.out]; rw [hr]; rfl)
                              clear hr
                              go_wp2_with fail
                              go_roundw
                              case rel => exact ⟨kk + 1, by rw [e2.out], by go_num, by omega, by trivial⟩
                              case measure => simp [intOf]; omega
                          · obtain rfl : kk = cs.length := by omega
                            have EG := Lib.hid (show fmG l.length (7, a, b, cs) = (decide (a = 0) && (decide (b = 0) && consTo l.length cs true cs.length)) by
                              rw [fmG_7, consTo_all]; unfold consG; rw [HB.out])
                            by_cases hA : ¬ a = 0
                            · have t1 : (a == 0) = false := by rw [beq_eq_false_iff_ne]; exact hA
                              have E := Lib.hid (NO.out (by rw [EG.out, decide_eq_false hA, Bool.false_and]))
                              clear EG hA
                              go_wp2_with fail
                              go_ret
                              exact ⟨ret_bool E.out.symm, down_call HE.out.2 (by first | exact BV.out | exact below_draws BV.out _)⟩
                            replace hA : a = 0 := by omega
                            have t1 : (a == 0) = true := by rw [beq_iff_eq]; exact hA
                            by_cases hB : ¬ b = 0
                            · have t2 : (b == 0) = false := by rw [beq_eq_false_iff_ne]; exact hB
                              have E := Lib.hid (NO.out (by rw [EG.out, decide_eq_false hB, Bool.false_and, Bool.and_false]))
                              clear EG hA hB
                              go_wp2_with fail
                              go_ret
                              exact ⟨ret_bool E.out.symm, down_call HE.out.2 (by first | exact BV.out | exact below_draws BV.out _)⟩
                            replace hB : b = 0 := by omega
                            have t2 : (b == 0) = true := by rw [beq_iff_eq]; exact hB
                            cases hT : consTo l.length cs true cs.length
                            · rw [hT] at EG
                              have E := Lib.hid (NO.out (by rw [EG.out, Bool.and_false, Bool.and_false]))
                              clear EG hA hB
                              go_wp2_with fail
                              go_ret
                              exact ⟨ret_bool E.out.symm, down_call HE.out.2 (by first | exact BV.out | exact below_draws BV.out _)⟩
                            · rw [hT] at EG
                              have E := Lib.hid (show fmG l.length (7, a, b, cs) = true by rw [EG.out, decide_eq_true hA, decide_eq_true hB]; rfl)
                              go_wp2_with fail
                              go_roundw
                              case rel => exact ⟨k + 1, by go_num, by omega, Lib.hid (GO.out _ E.out (by first | exact BV.out | exact below_draws BV.out _))⟩
                              case measure => simp [intOf]; omega
                      have d5 : decide ((1 : Int) ≤ cs.length) = true := decide_eq_true (by omega)
                      have d6 : decide ((cs.length : Int) ≤ 20) = false := decide_eq_false (by omega)
                      have HB := Lib.hid (show decide (0 < cs.length ∧ cs.length ≤ 20) = false from decide_eq_false (by omega))
                      go_wp2_with fail
                      obtain ⟨wo, hwo⟩ : ∃ wo : World, wo = wr := ⟨_, rfl⟩
                      subst hwo
                      go_loopw [8, 9] (fun cv kv wi => ∃ kk : Nat, cv = .bool (consTo l.length cs false kk) ∧ kv = .int .i64 kk ∧ kk ≤ cs.length ∧ V = wi) (fun _ kv _ => cs.length - (intOf kv).toNat)
                      case atStart => exact ⟨0, by rw [consTo_0], rfl, Nat.zero_le _, rfl⟩
                      case round =>
                        obtain ⟨kk, rfl, rfl, hkk, rfl⟩ := hrel
                        have g1 : V.cell? ⟨wo.heap.size, 1, none⟩ = some (.int .i64 a) := c1
                        have g2 : V.cell? ⟨wo.heap.size, 2, none⟩ = some (.int .i64 b) := c2
                        have g3 : V.cell? ⟨wo.heap.size, 3, none⟩ = some (.slice sa cs.length sc) := c3
                        by_cases hlt2 : kk < cs.length
                        · have hkJ : (kk : Int) < cs.length := by omega
                          obtain ⟨xb, xo, rfl, g4⟩ : ∃ xb xo, sa = some ⟨xb, xo, none⟩ ∧ V.cell? ⟨xb, xo + kk, none⟩ = some (.int .i64 cs[kk]) := by
                            obtain ⟨a', c', e, h⟩ := rV.out
                            cases e
                            rcases h with h0 | ⟨xb, xo, rfl, -, -, hc⟩
                            · omega
                            · exact ⟨xb, xo, rfl, hc kk _ (by simp [hlt2])⟩
                          have hs := Lib.hid (consTo_s l.length cs false hlt2)
                          generalize cs[kk] = c at *
                          cases hT : consTo l.length cs false kk
                          · rw [hT] at hs
                            clear hT

                            have e2 := Lib.hid (show consTo l.length cs false (kk + 1) = false from by rw [hs.out]; rfl)
                            go_wp2_with fail
                            go_roundw
                            case rel => exact ⟨kk + 1, by rw [e2.out], by go_num, by omega, by trivial⟩
                            case measure => simp [intOf]; omega
                          · rw [hT] at hs
                            clear hT
                            rcases Int.lt_or_le c (-1) with hc1 | hc1
                            · skip
                              have d7 : decide ((-1 : Int) ≤ c) = false := decide_eq_false (by omega)
                              have hr : conR l.length c = false := decide_eq_false (by omega)
                              have e2 := Lib.hid (show consTo l.length cs false (kk + 1) = false from by rw [hs.out]; rw [hr]; rfl)
                              clear hr
                              go_wp2_with fail
                              go_roundw
                              case rel => exact ⟨kk + 1, by rw [e2.out], by go_num, by omega, by trivial⟩
                              case measure => simp [intOf]; omega
                            by_cases hc2 : (l.length : Int) ≤ c
                            · skip
                              have d7 : decide ((-1 : Int) ≤ c) = true := decide_eq_true (by omega)
                              have d8 : decide (c < (l.length : Int)) = false := decide_eq_false (by omega)
                              have hr : conR l.length c = false := decide_eq_false (by omega)
                              have e2 := Lib.hid (show consTo l.length cs false (kk + 1) = false from by rw [hs.out]; rw [hr]; rfl)
                              clear hr
                              go_wp2_with fail
                              go_roundw
                              case rel => exact ⟨kk + 1, by rw [e2.out], by go_num, by omega, by trivial⟩
                              case measure => simp [intOf]; omega
                            have d7 : decide ((-1 : Int) ≤ c) = true := decide_eq_true (by omega)
                            have d8 : decide (c < (l.length : Int)) = true := decide_eq_true (by omega)
                            have hr : conR l.length c = true := decide_eq_true (by omega)
                            have e2 := Lib.hid (show consTo l.length cs false (kk + 1) = true from by rw [hs.out]; rw [hr]; rfl)
                            clear hr
                            go_wp2_with fail
                            go_roundw
                            case rel => exact ⟨kk + 1, by rw [e2.out], by go_num, by omega, by trivial⟩
                            case measure => simp [intOf]; omega
                        · obtain rfl : kk = cs.length := by omega
                          have EG := Lib.hid (show fmG l.length (7, a, b, cs) = (decide (a = 0) && (decide (b = 0) && consTo l.length cs false cs.length)) by
                            rw [fmG_7, consTo_all]; unfold consG; rw [HB.out])
                          by_cases hA : ¬ a = 0
                          · have t1 : (a == 0) = false := by rw [beq_eq_false_iff_ne]; exact hA
                            have E := Lib.hid (NO.out (by rw [EG.out, decide_eq_false hA, Bool.false_and]))
                            clear EG hA
                            go_wp2_with fail
                            go_ret
                            exact ⟨ret_bool E.out.symm, down_call HE.out.2 (by first | exact BV.out | exact below_draws BV.out _)⟩
                          replace hA : a = 0 := by omega
                          have t1 : (a == 0) = true := by rw [beq_iff_eq]; exact hA
                          by_cases hB : ¬ b = 0
                          · have t2 : (b == 0) = false := by rw [beq_eq_false_iff_ne]; exact hB
                            have E := Lib.hid (NO.out (by rw [EG.out, decide_eq_false hB, Bool.false_and, Bool.and_false]))
                            clear EG hA hB
                            go_wp2_with fail
                            go_ret
                            exact ⟨ret_bool E.out.symm, down_call HE.out.2 (by first | exact BV.out | exact below_draws BV.out _)⟩
                          replace hB : b = 0 := by omega
                          have t2 : (b == 0) = true := by rw [beq_iff_eq]; exact hB
                          cases hT : consTo l.length cs false cs.length
                          · rw [hT] at EG
                            have E := Lib.hid (NO.out (by rw [EG.out, Bool.and_false, Bool.and_false]))
                            clear EG hA hB
                            go_wp2_with fail
                            go_ret
                            exact ⟨ret_bool E.out.symm, down_call HE.out.2 (by first | exact BV.out | exact below_draws BV.out _)⟩
                          · rw [hT] at EG
                            have E := Lib.hid (show fmG l.length (7, a, b, cs) = true by rw [EG.out, decide_eq_true hA, decide_eq_true hB]; rfl)
                            go_wp2_with fail
                            go_roundw
                            case rel => exact ⟨k + 1, by go_num, by omega, Lib.hid (GO.out _ E.out (by first | exact BV.out | exact below_draws BV.out _))⟩
                            case measure => simp [intOf]; omega
                    · have E := Lib.hid (NO.out (fmG_0 _ _ _ _ _ (by omega)))
                      go_wp2_with fail
                      go_ret
                      exact ⟨ret_bool E.out.symm, down_call HE.out.2 (by first | exact BV.out | exact below_draws BV.out _)⟩

    · obtain rfl : k = l.length := by omega
      have E := Lib.hid (show rfmsG l = decide (l.length ≤ 40) from rf_true (fun j m hj hx => HE.out.1 j m hj hx))
      go_wp2_with fail
      go_ret
      exact ⟨ret_bool (by rw [E.out]; exact decide_eq_decide.2 (by omega)), HE.out.2⟩
end Go.Proofs.YtlfbfnkmbceejaaDoor
