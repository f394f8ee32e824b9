/-
  The document's answer for package code: whether forms may be: the walk.
  Conditions: as each states.
-/
import Derived.Test.YtajkkinolpkfmaaGreatDoorYCoRf
import Derived.RegionTactic
import Derived.BigRegion
import Derived.Outline
import Derived.Laws.StructEq
namespace Go.Proofs.YtajkkinolpkfmaaGreatDoor
set_option linter.unusedVariables false
set_option linter.unusedSimpArgs false
open Go.ChangeShapes Go.WideShapes Go.ChangeAt Go.RowKit
set_option maxRecDepth 100000

theorem fm1 (n : Nat) (k a b : Int) (l : List Int) (h : k = 1 ∨ k = 2 ∨ k = 3 ∨ k = 4) : fmG n (k, a, b, l) = (decide (a = 0) && (decide (b = 0) && decide (l.length = 0))) := by
  rw [fmG_1 n k a b l h]
  unfold belowB
  congr 1
  · exact decide_eq_decide.2 (by omega)
  · congr 1
    exact decide_eq_decide.2 (by omega)
theorem fm5 (n : Nat) (a b : Int) (l : List Int) : fmG n (5, a, b, l) = (decide (0 ≤ a ∧ a < n) && (decide (0 ≤ b ∧ b < n) && decide (l.length = 0))) := rfl
theorem fm6 (n : Nat) (a b : Int) (l : List Int) : fmG n (6, a, b, l) = (decide (0 ≤ a ∧ a < n) && (decide (b = 0) && decide (l.length = 0))) := by
  rw [fmG_6]
  unfold belowB
  congr 1
  congr 1
  exact decide_eq_decide.2 (by omega)
def FmStep (l : List PFm) (w : World) (k : Nat) (wr : World) : Prop := (∀ j m, j < k → l[j]? = some m → fmG l.length m = true) ∧ Below w.heap.size w wr
theorem fm_more {l : List PFm} {w wr wr' : World} {k : Nat} {m : PFm} (h : FmStep l w k wr) (hx : l[k]? = some m) (hm : fmG l.length m = true) (hb : Below wr.heap.size wr wr') : FmStep l w (k + 1) wr' :=
  ⟨fun j g hj hg => by
    rcases Nat.lt_or_ge j k with h' | h'
    · exact h.1 j g h' hg
    · obtain rfl : j = k := by omega
      rw [hx] at hg; cases hg; exact hm, down_call h.2 hb⟩

set_option maxHeartbeats 32000000 in
theorem rforms_any {S : Nat → Prop} (v : Value) (l : List PFm) (w : World) (h : fmsAt S w v l) (hl : l.length ≤ maxLen) (hm : ∀ m ∈ l, m.2.2.2.length ≤ maxLen) :
    Calls Tryz.prog 6 #[v] w fun e w' => e = .returned (.bool (rfmsG l)) ∧ Below w.heap.size w w' := by
  obtain ⟨sa0, sc0, rfl, h⟩ := h
  unfold maxLen at hl
  have PF := Lib.hid h
  have HM := Lib.hid hm
  clear h hm
  go_enter Tryz.func6, Tryz.ntmps6
  go_wp2_with fail
  go_loopw [4] (fun i wr => ∃ k : Nat, i = .int .i64 k ∧ k ≤ l.length ∧ Hid (FmStep l w k wr)) (fun i _ => l.length - (intOf i).toNat)
  case atStart => exact ⟨0, rfl, Nat.zero_le _, Lib.hid ⟨fun j m hj => absurd hj (by omega), Below.refl _ _⟩⟩
  case round =>
    obtain ⟨k, rfl, hk, HE⟩ := hrel
    by_cases hlt : k < l.length
    · have hx := Lib.hid (List.getElem?_eq_getElem hlt)
      have hcl := HM.out l[k] (List.getElem_mem hlt)
      unfold maxLen at hcl
      generalize l[k] = m at *
      rcases PF.out with hz | ⟨rb, ro, rfl, hSb, hrb, hc⟩
      · omega
      · obtain ⟨e0, e1, e2, sv, e3, hsv⟩ := (hc k m hx.out).upon (upon_of_below HE.out.2) (fun _ _ t => t.elim) hrb (fun t => t)
        obtain ⟨sa, sc, rfl⟩ := hsv.slice
        obtain ⟨kd, a, b, cs⟩ := m
        simp only at e0 e1 e2 e3 hsv hcl
        have SV := Lib.hid hsv
        have NO := Lib.hid (show fmG l.length (kd, a, b, cs) = false → rfmsG l = false from fun e => rf_false hx.out e)
        have GO := Lib.hid (show ∀ wr', fmG l.length (kd, a, b, cs) = true → Below wr.heap.size wr wr' → FmStep l w (k + 1) wr' from fun wr' e hb => fm_more HE.out hx.out e hb)
        have hkI : (k : Int) < l.length := by omega
        obtain ⟨W, hW⟩ : ∃ W, wr.alloc (.cells #[.int .i64 kd, .int .i64 a, .int .i64 b, .slice sa cs.length sc] 30) = W := ⟨_, rfl⟩
        have BW := Lib.hid (show Below wr.heap.size wr W by rw [← hW]; exact down_alloc (Below.refl _ _) _)
        have rW : rowAt W wr.heap.size 30 [.int .i64 kd, .int .i64 a, .int .i64 b, .slice sa cs.length sc] := by rw [← hW]; exact rowAt.made _ _ _
        have c0 : W.cell? ⟨wr.heap.size, 0, none⟩ = some (.int .i64 kd) := (rW.cell 0).trans rfl
        have c1 : W.cell? ⟨wr.heap.size, 1, none⟩ = some (.int .i64 a) := (rW.cell 1).trans rfl
        have c2 : W.cell? ⟨wr.heap.size, 2, none⟩ = some (.int .i64 b) := (rW.cell 2).trans rfl
        have c3 : W.cell? ⟨wr.heap.size, 3, none⟩ = some (.slice sa cs.length sc) := (rW.cell 3).trans rfl
        clear hc hSb hsv
        go_wp2_with fail
        clear hW e0 e1 e2 e3
        go_quiet (fail)
        obtain ⟨V, hV⟩ : ∃ V, W.drewN nq = V := ⟨_, rfl⟩
        have BV := Lib.hid (show Below wr.heap.size wr V by rw [← hV]; exact below_draws BW.out _)
        replace c0 : V.cell? ⟨wr.heap.size, 0, none⟩ = some (.int .i64 kd) := by rw [← hV]; exact c0
        replace c1 : V.cell? ⟨wr.heap.size, 1, none⟩ = some (.int .i64 a) := by rw [← hV]; exact c1
        replace c2 : V.cell? ⟨wr.heap.size, 2, none⟩ = some (.int .i64 b) := by rw [← hV]; exact c2
        replace c3 : V.cell? ⟨wr.heap.size, 3, none⟩ = some (.slice sa cs.length sc) := by rw [← hV]; exact c3
        have rV := Lib.hid (show rdAt S V (Value.slice sa cs.length sc) cs.length (cs.map (Value.int .i64)) from SV.out.below BV.out)
        rw [hV]
        clear hV rW
        by_cases hk1 : kd = 1
        · subst hk1
          by_cases hA : a = 0
          · by_cases hB : b = 0
            · by_cases hC : cs.length = 0
              · have t1 : (a == 0) = true := by rw [beq_iff_eq]; exact hA
                have t2 : (b == 0) = true := by rw [beq_iff_eq]; exact hB
                have t3 : ((cs.length : Int) == 0) = true := by rw [beq_iff_eq]; omega
                have E := Lib.hid (show fmG l.length (1, a, b, cs) = true by rw [fm1 _ _ _ _ _ (by decide), decide_eq_true hA, decide_eq_true hB, decide_eq_true hC]; rfl)
                go_wp2_with fail
                go_roundw
                case rel => exact ⟨k + 1, by go_num, by omega, Lib.hid (GO.out _ E.out (by first | exact BV.out | exact below_draws BV.out _))⟩
                case measure => simp [intOf]; omega
              · have t1 : (a == 0) = true := by rw [beq_iff_eq]; exact hA
                have t2 : (b == 0) = true := by rw [beq_iff_eq]; exact hB
                have t3 : ((cs.length : Int) == 0) = false := by rw [beq_eq_false_iff_ne]; omega
                have E := Lib.hid (NO.out (by rw [fm1 _ _ _ _ _ (by decide), decide_eq_false hC, Bool.and_false, Bool.and_false]))
                clear hA hB hC
                go_wp2_with fail
                go_ret
                exact ⟨ret_bool E.out.symm, down_call HE.out.2 (by first | exact BV.out | exact below_draws BV.out _)⟩
            · have t1 : (a == 0) = true := by rw [beq_iff_eq]; exact hA
              have t2 : (b == 0) = false := by rw [beq_eq_false_iff_ne]; exact hB
              have E := Lib.hid (NO.out (by rw [fm1 _ _ _ _ _ (by decide), decide_eq_false hB, Bool.false_and, Bool.and_false]))
              clear hA hB
              go_wp2_with fail
              go_ret
              exact ⟨ret_bool E.out.symm, down_call HE.out.2 (by first | exact BV.out | exact below_draws BV.out _)⟩
          · have t1 : (a == 0) = false := by rw [beq_eq_false_iff_ne]; exact hA
            have E := Lib.hid (NO.out (by rw [fm1 _ _ _ _ _ (by decide), decide_eq_false hA, Bool.false_and]))
            clear hA
            go_wp2_with fail
            go_ret
            exact ⟨ret_bool E.out.symm, down_call HE.out.2 (by first | exact BV.out | exact below_draws BV.out _)⟩
        · skip
          by_cases hk2 : kd = 2
          · subst hk2
            by_cases hA : a = 0
            · by_cases hB : b = 0
              · by_cases hC : cs.length = 0
                · have t1 : (a == 0) = true := by rw [beq_iff_eq]; exact hA
                  have t2 : (b == 0) = true := by rw [beq_iff_eq]; exact hB
                  have t3 : ((cs.length : Int) == 0) = true := by rw [beq_iff_eq]; omega
                  have E := Lib.hid (show fmG l.length (2, a, b, cs) = true by rw [fm1 _ _ _ _ _ (by decide), decide_eq_true hA, decide_eq_true hB, decide_eq_true hC]; rfl)
                  go_wp2_with fail
                  go_roundw
                  case rel => exact ⟨k + 1, by go_num, by omega, Lib.hid (GO.out _ E.out (by first | exact BV.out | exact below_draws BV.out _))⟩
                  case measure => simp [intOf]; omega
                · have t1 : (a == 0) = true := by rw [beq_iff_eq]; exact hA
                  have t2 : (b == 0) = true := by rw [beq_iff_eq]; exact hB
                  have t3 : ((cs.length : Int) == 0) = false := by rw [beq_eq_false_iff_ne]; omega
                  have E := Lib.hid (NO.out (by rw [fm1 _ _ _ _ _ (by decide), decide_eq_false hC, Bool.and_false, Bool.and_false]))
                  clear hA hB hC
                  go_wp2_with fail
                  go_ret
                  exact ⟨ret_bool E.out.symm, down_call HE.out.2 (by first | exact BV.out | exact below_draws BV.out _)⟩
              · have t1 : (a == 0) = true := by rw [beq_iff_eq]; exact hA
                have t2 : (b == 0) = false := by rw [beq_eq_false_iff_ne]; exact hB
                have E := Lib.hid (NO.out (by rw [fm1 _ _ _ _ _ (by decide), decide_eq_false hB, Bool.false_and, Bool.and_false]))
                clear hA hB
                go_wp2_with fail
                go_ret
                exact ⟨ret_bool E.out.symm, down_call HE.out.2 (by first | exact BV.out | exact below_draws BV.out _)⟩
            · have t1 : (a == 0) = false := by rw [beq_eq_false_iff_ne]; exact hA
              have E := Lib.hid (NO.out (by rw [fm1 _ _ _ _ _ (by decide), decide_eq_false hA, Bool.false_and]))
              clear hA
              go_wp2_with fail
              go_ret
              exact ⟨ret_bool E.out.symm, down_call HE.out.2 (by first | exact BV.out | exact below_draws BV.out _)⟩
          · skip
            by_cases hk3 : kd = 3
            · subst hk3
              by_cases hA : a = 0
              · by_cases hB : b = 0
                · by_cases hC : cs.length = 0
                  · have t1 : (a == 0) = true := by rw [beq_iff_eq]; exact hA
                    have t2 : (b == 0) = true := by rw [beq_iff_eq]; exact hB
                    have t3 : ((cs.length : Int) == 0) = true := by rw [beq_iff_eq]; omega
                    have E := Lib.hid (show fmG l.length (3, a, b, cs) = true by rw [fm1 _ _ _ _ _ (by decide), decide_eq_true hA, decide_eq_true hB, decide_eq_true hC]; rfl)
                    go_wp2_with fail
                    go_roundw
                    case rel => exact ⟨k + 1, by go_num, by omega, Lib.hid (GO.out _ E.out (by first | exact BV.out | exact below_draws BV.out _))⟩
                    case measure => simp [intOf]; omega
                  · have t1 : (a == 0) = true := by rw [beq_iff_eq]; exact hA
                    have t2 : (b == 0) = true := by rw [beq_iff_eq]; exact hB
                    have t3 : ((cs.length : Int) == 0) = false := by rw [beq_eq_false_iff_ne]; omega
                    have E := Lib.hid (NO.out (by rw [fm1 _ _ _ _ _ (by decide), decide_eq_false hC, Bool.and_false, Bool.and_false]))
                    clear hA hB hC
                    go_wp2_with fail
                    go_ret
                    exact ⟨ret_bool E.out.symm, down_call HE.out.2 (by first | exact BV.out | exact below_draws BV.out _)⟩
                · have t1 : (a == 0) = true := by rw [beq_iff_eq]; exact hA
                  have t2 : (b == 0) = false := by rw [beq_eq_false_iff_ne]; exact hB
                  have E := Lib.hid (NO.out (by rw [fm1 _ _ _ _ _ (by decide), decide_eq_false hB, Bool.false_and, Bool.and_false]))
                  clear hA hB
                  go_wp2_with fail
                  go_ret
                  exact ⟨ret_bool E.out.symm, down_call HE.out.2 (by first | exact BV.out | exact below_draws BV.out _)⟩
              · have t1 : (a == 0) = false := by rw [beq_eq_false_iff_ne]; exact hA
                have E := Lib.hid (NO.out (by rw [fm1 _ _ _ _ _ (by decide), decide_eq_false hA, Bool.false_and]))
                clear hA
                go_wp2_with fail
                go_ret
                exact ⟨ret_bool E.out.symm, down_call HE.out.2 (by first | exact BV.out | exact below_draws BV.out _)⟩
            · skip
              by_cases hk4 : kd = 4
              · subst hk4
                by_cases hA : a = 0
                · by_cases hB : b = 0
                  · by_cases hC : cs.length = 0
                    · have t1 : (a == 0) = true := by rw [beq_iff_eq]; exact hA
                      have t2 : (b == 0) = true := by rw [beq_iff_eq]; exact hB
                      have t3 : ((cs.length : Int) == 0) = true := by rw [beq_iff_eq]; omega
                      have E := Lib.hid (show fmG l.length (4, a, b, cs) = true by rw [fm1 _ _ _ _ _ (by decide), decide_eq_true hA, decide_eq_true hB, decide_eq_true hC]; rfl)
                      go_wp2_with fail
                      go_roundw
                      case rel => exact ⟨k + 1, by go_num, by omega, Lib.hid (GO.out _ E.out (by first | exact BV.out | exact below_draws BV.out _))⟩
                      case measure => simp [intOf]; omega
                    · have t1 : (a == 0) = true := by rw [beq_iff_eq]; exact hA
                      have t2 : (b == 0) = true := by rw [beq_iff_eq]; exact hB
                      have t3 : ((cs.length : Int) == 0) = false := by rw [beq_eq_false_iff_ne]; omega
                      have E := Lib.hid (NO.out (by rw [fm1 _ _ _ _ _ (by decide), decide_eq_false hC, Bool.and_false, Bool.and_false]))
                      clear hA hB hC
                      go_wp2_with fail
                      go_ret
                      exact ⟨ret_bool E.out.symm, down_call HE.out.2 (by first | exact BV.out | exact below_draws BV.out _)⟩
                  · have t1 : (a == 0) = true := by rw [beq_iff_eq]; exact hA
                    have t2 : (b == 0) = false := by rw [beq_eq_false_iff_ne]; exact hB
                    have E := Lib.hid (NO.out (by rw [fm1 _ _ _ _ _ (by decide), decide_eq_false hB, Bool.false_and, Bool.and_false]))
                    clear hA hB
                    go_wp2_with fail
                    go_ret
                    exact ⟨ret_bool E.out.symm, down_call HE.out.2 (by first | exact BV.out | exact below_draws BV.out _)⟩
                · have t1 : (a == 0) = false := by rw [beq_eq_false_iff_ne]; exact hA
                  have E := Lib.hid (NO.out (by rw [fm1 _ _ _ _ _ (by decide), decide_eq_false hA, Bool.false_and]))
                  clear hA
                  go_wp2_with fail
                  go_ret
                  exact ⟨ret_bool E.out.symm, down_call HE.out.2 (by first | exact BV.out | exact below_draws BV.out _)⟩
              · skip
                by_cases hk5 : kd = 5
                · subst hk5
                  rcases Int.lt_or_le a 0 with ha | ha
                  · rcases Int.lt_or_le b 0 with hb | hb
                    · have d1 : decide (0 ≤ a) = false := decide_eq_false (by omega)
                      have d3 : decide (0 ≤ b) = false := decide_eq_false (by omega)
                      have E := Lib.hid (NO.out (by rw [fm5, decide_eq_false (by omega : ¬ (0 ≤ a ∧ a < (l.length : Int))), Bool.false_and]))
                      go_wp2_with fail
                      go_quiet (fail)
                      go_wp2_with fail
                      go_ret
                      exact ⟨ret_bool E.out.symm, down_call HE.out.2 (by first | exact BV.out | exact below_draws BV.out _)⟩
                    by_cases hb2 : (l.length : Int) ≤ b
                    · have d1 : decide (0 ≤ a) = false := decide_eq_false (by omega)
                      have d3 : decide (0 ≤ b) = true := decide_eq_true (by omega)
                      have d4 : decide (b < (l.length : Int)) = false := decide_eq_false (by omega)
                      have E := Lib.hid (NO.out (by rw [fm5, decide_eq_false (by omega : ¬ (0 ≤ a ∧ a < (l.length : Int))), Bool.false_and]))
                      go_wp2_with fail
                      go_quiet (fail)
                      go_wp2_with fail
                      go_ret
                      exact ⟨ret_bool E.out.symm, down_call HE.out.2 (by first | exact BV.out | exact below_draws BV.out _)⟩
                    have d1 : decide (0 ≤ a) = false := decide_eq_false (by omega)
                    have d3 : decide (0 ≤ b) = true := decide_eq_true (by omega)
                    have d4 : decide (b < (l.length : Int)) = true := decide_eq_true (by omega)
                    have E := Lib.hid (NO.out (by rw [fm5, decide_eq_false (by omega : ¬ (0 ≤ a ∧ a < (l.length : Int))), Bool.false_and]))
                    go_wp2_with fail
                    go_quiet (fail)
                    go_wp2_with fail
                    go_ret
                    exact ⟨ret_bool E.out.symm, down_call HE.out.2 (by first | exact BV.out | exact below_draws BV.out _)⟩
                  by_cases ha2 : (l.length : Int) ≤ a
                  · rcases Int.lt_or_le b 0 with hb | hb
                    · have d1 : decide (0 ≤ a) = true := decide_eq_true (by omega)
                      have d2 : decide (a < (l.length : Int)) = false := decide_eq_false (by omega)
                      have d3 : decide (0 ≤ b) = false := decide_eq_false (by omega)
                      have E := Lib.hid (NO.out (by rw [fm5, decide_eq_false (by omega : ¬ (0 ≤ a ∧ a < (l.length : Int))), Bool.false_and]))
                      go_wp2_with fail
                      go_quiet (fail)
                      go_wp2_with fail
                      go_ret
                      exact ⟨ret_bool E.out.symm, down_call HE.out.2 (by first | exact BV.out | exact below_draws BV.out _)⟩
                    by_cases hb2 : (l.length : Int) ≤ b
                    · have d1 : decide (0 ≤ a) = true := decide_eq_true (by omega)
                      have d2 : decide (a < (l.length : Int)) = false := decide_eq_false (by omega)
                      have d3 : decide (0 ≤ b) = true := decide_eq_true (by omega)
                      have d4 : decide (b < (l.length : Int)) = false := decide_eq_false (by omega)
                      have E := Lib.hid (NO.out (by rw [fm5, decide_eq_false (by omega : ¬ (0 ≤ a ∧ a < (l.length : Int))), Bool.false_and]))
                      go_wp2_with fail
                      go_quiet (fail)
                      go_wp2_with fail
                      go_ret
                      exact ⟨ret_bool E.out.symm, down_call HE.out.2 (by first | exact BV.out | exact below_draws BV.out _)⟩
                    have d1 : decide (0 ≤ a) = true := decide_eq_true (by omega)
                    have d2 : decide (a < (l.length : Int)) = false := decide_eq_false (by omega)
                    have d3 : decide (0 ≤ b) = true := decide_eq_true (by omega)
                    have d4 : decide (b < (l.length : Int)) = true := decide_eq_true (by omega)
                    have E := Lib.hid (NO.out (by rw [fm5, decide_eq_false (by omega : ¬ (0 ≤ a ∧ a < (l.length : Int))), Bool.false_and]))
                    go_wp2_with fail
                    go_quiet (fail)
                    go_wp2_with fail
                    go_ret
                    exact ⟨ret_bool E.out.symm, down_call HE.out.2 (by first | exact BV.out | exact below_draws BV.out _)⟩
                  rcases Int.lt_or_le b 0 with hb | hb
                  · have d1 : decide (0 ≤ a) = true := decide_eq_true (by omega)
                    have d2 : decide (a < (l.length : Int)) = true := decide_eq_true (by omega)
                    have d3 : decide (0 ≤ b) = false := decide_eq_false (by omega)
                    have E := Lib.hid (NO.out (by rw [fm5, decide_eq_false (by omega : ¬ (0 ≤ b ∧ b < (l.length : Int))), Bool.false_and, Bool.and_false]))
                    go_wp2_with fail
                    go_quiet (fail)
                    go_wp2_with fail
                    go_ret
                    exact ⟨ret_bool E.out.symm, down_call HE.out.2 (by first | exact BV.out | exact below_draws BV.out _)⟩
                  by_cases hb2 : (l.length : Int) ≤ b
                  · have d1 : decide (0 ≤ a) = true := decide_eq_true (by omega)
                    have d2 : decide (a < (l.length : Int)) = true := decide_eq_true (by omega)
                    have d3 : decide (0 ≤ b) = true := decide_eq_true (by omega)
                    have d4 : decide (b < (l.length : Int)) = false := decide_eq_false (by omega)
                    have E := Lib.hid (NO.out (by rw [fm5, decide_eq_false (by omega : ¬ (0 ≤ b ∧ b < (l.length : Int))), Bool.false_and, Bool.and_false]))
                    go_wp2_with fail
                    go_quiet (fail)
                    go_wp2_with fail
                    go_ret
                    exact ⟨ret_bool E.out.symm, down_call HE.out.2 (by first | exact BV.out | exact below_draws BV.out _)⟩
                  have d1 : decide (0 ≤ a) = true := decide_eq_true (by omega)
                  have d2 : decide (a < (l.length : Int)) = true := decide_eq_true (by omega)
                  have d3 : decide (0 ≤ b) = true := decide_eq_true (by omega)
                  have d4 : decide (b < (l.length : Int)) = true := decide_eq_true (by omega)
                  have hA : 0 ≤ a ∧ a < (l.length : Int) := by omega
                  have hB : 0 ≤ b ∧ b < (l.length : Int) := by omega
                  by_cases hC : cs.length = 0
                  · have t3 : ((cs.length : Int) == 0) = true := by rw [beq_iff_eq]; omega
                    have E := Lib.hid (show fmG l.length (5, a, b, cs) = true by rw [fm5, decide_eq_true hA, decide_eq_true hB, decide_eq_true hC]; rfl)
                    go_wp2_with fail
                    go_quiet (fail)
                    go_wp2_with fail
                    go_roundw
                    case rel => exact ⟨k + 1, by go_num, by omega, Lib.hid (GO.out _ E.out (by first | exact BV.out | exact below_draws BV.out _))⟩
                    case measure => simp [intOf]; omega
                  · have t3 : ((cs.length : Int) == 0) = false := by rw [beq_eq_false_iff_ne]; omega
                    have E := Lib.hid (NO.out (by rw [fm5, decide_eq_false hC, Bool.and_false, Bool.and_false]))
                    clear hA hB hC
                    go_wp2_with fail
                    go_quiet (fail)
                    go_wp2_with fail
                    go_ret
                    exact ⟨ret_bool E.out.symm, down_call HE.out.2 (by first | exact BV.out | exact below_draws BV.out _)⟩
                · skip
                  by_cases hk6 : kd = 6
                  · subst hk6
                    rcases Int.lt_or_le a 0 with ha | ha
                    · have d1 : decide (0 ≤ a) = false := decide_eq_false (by omega)
                      have hA : ¬ (0 ≤ a ∧ a < (l.length : Int)) := by omega
                      have E := Lib.hid (NO.out (by rw [fm6, decide_eq_false hA, Bool.false_and]))
                      clear hA
                      go_wp2_with fail
                      go_ret
                      exact ⟨ret_bool E.out.symm, down_call HE.out.2 (by first | exact BV.out | exact below_draws BV.out _)⟩
                    by_cases ha2 : (l.length : Int) ≤ a
                    · have d1 : decide (0 ≤ a) = true := decide_eq_true (by omega)
                      have d2 : decide (a < (l.length : Int)) = false := decide_eq_false (by omega)
                      have hA : ¬ (0 ≤ a ∧ a < (l.length : Int)) := by omega
                      have E := Lib.hid (NO.out (by rw [fm6, decide_eq_false hA, Bool.false_and]))
                      clear hA
                      go_wp2_with fail
                      go_ret
                      exact ⟨ret_bool E.out.symm, down_call HE.out.2 (by first | exact BV.out | exact below_draws BV.out _)⟩
                    have d1 : decide (0 ≤ a) = true := decide_eq_true (by omega)
                    have d2 : decide (a < (l.length : Int)) = true := decide_eq_true (by omega)
                    have hA : 0 ≤ a ∧ a < (l.length : Int) := by omega
                    by_cases hB : ¬ b = 0
                    · have t2 : (b == 0) = false := by rw [beq_eq_false_iff_ne]; exact hB
                      have E := Lib.hid (NO.out (by rw [fm6, decide_eq_false hB, Bool.false_and, Bool.and_false]))
                      clear hA hB
                      go_wp2_with fail
                      go_ret
                      exact ⟨ret_bool E.out.symm, down_call HE.out.2 (by first | exact BV.out | exact below_draws BV.out _)⟩
                    replace hB : b = 0 := by omega
                    have t2 : (b == 0) = true := by rw [beq_iff_eq]; exact hB
                    by_cases hC : cs.length = 0
                    · have t3 : ((cs.length : Int) == 0) = true := by rw [beq_iff_eq]; omega
                      have E := Lib.hid (show fmG l.length (6, a, b, cs) = true by rw [fm6, decide_eq_true hA, decide_eq_true hB, decide_eq_true hC]; rfl)
                      go_wp2_with fail
                      go_roundw
                      case rel => exact ⟨k + 1, by go_num, by omega, Lib.hid (GO.out _ E.out (by first | exact BV.out | exact below_draws BV.out _))⟩
                      case measure => simp [intOf]; omega
                    · have t3 : ((cs.length : Int) == 0) = false := by rw [beq_eq_false_iff_ne]; omega
                      have E := Lib.hid (NO.out (by rw [fm6, decide_eq_false hC, Bool.and_false, Bool.and_false]))
                      clear hA hB hC
                      go_wp2_with fail
                      go_ret
                      exact ⟨ret_bool E.out.symm, down_call HE.out.2 (by first | exact BV.out | exact below_draws BV.out _)⟩
                  · skip
                    by_cases hk7 : kd = 7
                    · subst hk7
                      rcases Nat.eq_zero_or_pos cs.length with hL | hL
                      · skip
                        have d5 : decide ((1 : Int) ≤ cs.length) = false := decide_eq_false (by omega)
                        have HB := Lib.hid (show decide (0 < cs.length ∧ cs.length ≤ 20) = false from decide_eq_false (by omega))
                        go_wp2_with fail
                        obtain ⟨wo, hwo⟩ : ∃ wo : World, wo = wr := ⟨_, rfl⟩
                        subst hwo
                        go_loopw [8, 9] (fun cv kv wi => ∃ kk : Nat, cv = .bool (consTo l.length cs false kk) ∧ kv = .int .i64 kk ∧ kk ≤ cs.length ∧ V = wi) (fun _ kv _ => cs.length - (intOf kv).toNat)
                        case atStart => exact ⟨0, by rw [consTo_0], rfl, Nat.zero_le _, rfl⟩
                        case round =>
                          obtain ⟨kk, rfl, rfl, hkk, rfl⟩ := hrel
                          have g1 : V.cell? ⟨wo.heap.size, 1, none⟩ = some (.int .i64 a) := c1
                          have g2 : V.cell? ⟨wo.heap.size, 2, none⟩ = some (.int .i64 b) := c2
                          have g3 : V.cell? ⟨wo.heap.size, 3, none⟩ = some (.slice sa cs.length sc) := c3
                          by_cases hlt2 : kk < cs.length
                          · exact absurd hlt2 (by omega)
                          · obtain rfl : kk = cs.length := by omega
                            have EG := Lib.hid (show fmG l.length (7, a, b, cs) = (decide (a = 0) && (decide (b = 0) && consTo l.length cs false cs.length)) by
                              rw [fmG_7, consTo_all]; unfold consG; rw [HB.out])
                            by_cases hA : ¬ a = 0
                            · have t1 : (a == 0) = false := by rw [beq_eq_false_iff_ne]; exact hA
                              have E := Lib.hid (NO.out (by rw [EG.out, decide_eq_false hA, Bool.false_and]))
                              clear EG hA
                              go_wp2_with fail
                              go_ret
                              exact ⟨ret_bool E.out.symm, down_call HE.out.2 (by first | exact BV.out | exact below_draws BV.out _)⟩
                            replace hA : a = 0 := by omega
                            have t1 : (a == 0) = true := by rw [beq_iff_eq]; exact hA
                            by_cases hB : ¬ b = 0
                            · have t2 : (b == 0) = false := by rw [beq_eq_false_iff_ne]; exact hB
                              have E := Lib.hid (NO.out (by rw [EG.out, decide_eq_false hB, Bool.false_and, Bool.and_false]))
                              clear EG hA hB
                              go_wp2_with fail
                              go_ret
                              exact ⟨ret_bool E.out.symm, down_call HE.out.2 (by first | exact BV.out | exact below_draws BV.out _)⟩
                            replace hB : b = 0 := by omega
                            have t2 : (b == 0) = true := by rw [beq_iff_eq]; exact hB
                            cases hT : consTo l.length cs false cs.length
                            · rw [hT] at EG
                              have E := Lib.hid (NO.out (by rw [EG.out, Bool.and_false, Bool.and_false]))
                              clear EG hA hB
                              go_wp2_with fail
                              go_ret
                              exact ⟨ret_bool E.out.symm, down_call HE.out.2 (by first | exact BV.out | exact below_draws BV.out _)⟩
                            · rw [hT] at EG
                              have E := Lib.hid (show fmG l.length (7, a, b, cs) = true by rw [EG.out, decide_eq_true hA, decide_eq_true hB]; rfl)
                              go_wp2_with fail
                              go_roundw
                              case rel => exact ⟨k + 1, by go_num, by omega, Lib.hid (GO.out _ E.out (by first | exact BV.out | exact below_draws BV.out _))⟩
                              case measure => simp [intOf]; omega
                      by_cases hL2 : cs.length ≤ 20
                      · skip
                        have d5 : decide ((1 : Int) ≤ cs.length) = true := decide_eq_true (by omega)
                        have d6 : decide ((cs.length : Int) ≤ 20) = true := decide_eq_true (by omega)
                        have HB := Lib.hid (show decide (0 < cs.length ∧ cs.length ≤ 20) = true from decide_eq_true (by omega))
                        go_wp2_with fail
                        obtain ⟨wo, hwo⟩ : ∃ wo : World, wo = wr := ⟨_, rfl⟩
                        subst hwo
                        go_loopw [8, 9] (fun cv kv wi => ∃ kk : Nat, cv = .bool (consTo l.length cs true kk) ∧ kv = .int .i64 kk ∧ kk ≤ cs.length ∧ V = wi) (fun _ kv _ => cs.length - (intOf kv).toNat)
                        case atStart => exact ⟨0, by rw [consTo_0], rfl, Nat.zero_le _, rfl⟩
                        case round =>
                          obtain ⟨kk, rfl, rfl, hkk, rfl⟩ := hrel
                          have g1 : V.cell? ⟨wo.heap.size, 1, none⟩ = some (.int .i64 a) := c1
                          have g2 : V.cell? ⟨wo.heap.size, 2, none⟩ = some (.int .i64 b) := c2
                          have g3 : V.cell? ⟨wo.heap.size, 3, none⟩ = some (.slice sa cs.length sc) := c3
                          by_cases hlt2 : kk < cs.length
                          · have hkJ : (kk : Int) < cs.length := by omega
                            obtain ⟨xb, xo, rfl, g4⟩ : ∃ xb xo, sa = some ⟨xb, xo, none⟩ ∧ V.cell? ⟨xb, xo + kk, none⟩ = some (.int .i64 cs[kk]) := by
                              obtain ⟨a', c', e, h⟩ := rV.out
                              cases e
                              rcases h with h0 | ⟨xb, xo, rfl, -, -, hc⟩
                              · omega
                              · exact ⟨xb, xo, rfl, hc kk _ (by simp [hlt2])⟩
                            have hs := Lib.hid (consTo_s l.length cs true hlt2)
                            generalize cs[kk] = c at *
                            cases hT : consTo l.length cs true kk
                            · rw [hT] at hs
                              clear hT

                              have e2 := Lib.hid (show consTo l.length cs true (kk + 1) = false from by rw [hs.out]; rfl)
                              go_wp2_with fail
                              go_roundw
                              case rel => exact ⟨kk + 1, by rw [e2.out], by go_num, by omega, by trivial⟩
                              case measure => simp [intOf]; omega
                            · rw [hT] at hs
                              clear hT
                              rcases Int.lt_or_le c (-1) with hc1 | hc1
                              · skip
                                have d7 : decide ((-1 : Int) ≤ c) = false := decide_eq_false (by omega)
                                have hr : conR l.length c = false := decide_eq_false (by omega)
                                have e2 := Lib.hid (show consTo l.length cs true (kk + 1) = false from by rw [hs.out]; rw [hr]; rfl)
                                clear hr
                                go_wp2_with fail
                                go_roundw
                                case rel => exact ⟨kk + 1, by rw [e2.out], by go_num, by omega, by trivial⟩
                                case measure => simp [intOf]; omega
                              by_cases hc2 : (l.length : Int) ≤ c
                              · skip
                                have d7 : decide ((-1 : Int) ≤ c) = true := decide_eq_true (by omega)
                                have d8 : decide (c < (l.length : Int)) = false := decide_eq_false (by omega)
                                have hr : conR l.length c = false := decide_eq_false (by omega)
                                have e2 := Lib.hid (show consTo l.length cs true (kk + 1) = false from by rw [hs.out]; rw [hr]; rfl)
                                clear hr
                                go_wp2_with fail
                                go_roundw
                                case rel => exact ⟨kk + 1, by rw [e2.out], by go_num, by omega, by trivial⟩
                                case measure => simp [intOf]; omega
                              have d7 : decide ((-1 : Int) ≤ c) = true := decide_eq_true (by omega)
                              have d8 : decide (c < (l.length : Int)) = true := decide_eq_true (by omega)
                              have hr : conR l.length c = true := decide_eq_true (by omega)
                              have e2 := Lib.hid (show consTo l.length cs true (kk + 1) = true from by rw [hs.out]; rw [hr]; rfl)
                              clear hr
                              go_wp2_with fail
                              go_roundw
                              case rel => exact ⟨kk + 1, by rw [e2.out], by go_num, by omega, by trivial⟩
                              case measure => simp [intOf]; omega
                          · obtain rfl : kk = cs.length := by omega
                            have EG := Lib.hid (show fmG l.length (7, a, b, cs) = (decide (a = 0) && (decide (b = 0) && consTo l.length cs true cs.length)) by
                              rw [fmG_7, consTo_all]; unfold consG; rw [HB.out])
                            by_cases hA : ¬ a = 0
                            · have t1 : (a == 0) = false := by rw [beq_eq_false_iff_ne]; exact hA
                              have E := Lib.hid (NO.out (by rw [EG.out, decide_eq_false hA, Bool.false_and]))
                              clear EG hA
                              go_wp2_with fail
                              go_ret
                              exact ⟨ret_bool E.out.symm, down_call HE.out.2 (by first | exact BV.out | exact below_draws BV.out _)⟩
                            replace hA : a = 0 := by omega
                            have t1 : (a == 0) = true := by rw [beq_iff_eq]; exact hA
                            by_cases hB : ¬ b = 0
                            · have t2 : (b == 0) = false := by rw [beq_eq_false_iff_ne]; exact hB
                              have E := Lib.hid (NO.out (by rw [EG.out, decide_eq_false hB, Bool.false_and, Bool.and_false]))
                              clear EG hA hB
                              go_wp2_with fail
                              go_ret
                              exact ⟨ret_bool E.out.symm, down_call HE.out.2 (by first | exact BV.out | exact below_draws BV.out _)⟩
                            replace hB : b = 0 := by omega
                            have t2 : (b == 0) = true := by rw [beq_iff_eq]; exact hB
                            cases hT : consTo l.length cs true cs.length
                            · rw [hT] at EG
                              have E := Lib.hid (NO.out (by rw [EG.out, Bool.and_false, Bool.and_false]))
                              clear EG hA hB
                              go_wp2_with fail
                              go_ret
                              exact ⟨ret_bool E.out.symm, down_call HE.out.2 (by first | exact BV.out | exact below_draws BV.out _)⟩
                            · rw [hT] at EG
                              have E := Lib.hid (show fmG l.length (7, a, b, cs) = true by rw [EG.out, decide_eq_true hA, decide_eq_true hB]; rfl)
                              go_wp2_with fail
                              go_roundw
                              case rel => exact ⟨k + 1, by go_num, by omega, Lib.hid (GO.out _ E.out (by first | exact BV.out | exact below_draws BV.out _))⟩
                              case measure => simp [intOf]; omega
                      have d5 : decide ((1 : Int) ≤ cs.length) = true := decide_eq_true (by omega)
                      have d6 : decide ((cs.length : Int) ≤ 20) = false := decide_eq_false (by omega)
                      have HB := Lib.hid (show decide (0 < cs.length ∧ cs.length ≤ 20) = false from decide_eq_false (by omega))
                      go_wp2_with fail
                      obtain ⟨wo, hwo⟩ : ∃ wo : World, wo = wr := ⟨_, rfl⟩
                      subst hwo
                      go_loopw [8, 9] (fun cv kv wi => ∃ kk : Nat, cv = .bool (consTo l.length cs false kk) ∧ kv = .int .i64 kk ∧ kk ≤ cs.length ∧ V = wi) (fun _ kv _ => cs.length - (intOf kv).toNat)
                      case atStart => exact ⟨0, by rw [consTo_0], rfl, Nat.zero_le _, rfl⟩
                      case round =>
                        obtain ⟨kk, rfl, rfl, hkk, rfl⟩ := hrel
                        have g1 : V.cell? ⟨wo.heap.size, 1, none⟩ = some (.int .i64 a) := c1
                        have g2 : V.cell? ⟨wo.heap.size, 2, none⟩ = some (.int .i64 b) := c2
                        have g3 : V.cell? ⟨wo.heap.size, 3, none⟩ = some (.slice sa cs.length sc) := c3
                        by_cases hlt2 : kk < cs.length
                        · have hkJ : (kk : Int) < cs.length := by omega
                          obtain ⟨xb, xo, rfl, g4⟩ : ∃ xb xo, sa = some ⟨xb, xo, none⟩ ∧ V.cell? ⟨xb, xo + kk, none⟩ = some (.int .i64 cs[kk]) := by
                            obtain ⟨a', c', e, h⟩ := rV.out
                            cases e
                            rcases h with h0 | ⟨xb, xo, rfl, -, -, hc⟩
                            · omega
                            · exact ⟨xb, xo, rfl, hc kk _ (by simp [hlt2])⟩
                          have hs := Lib.hid (consTo_s l.length cs false hlt2)
                          generalize cs[kk] = c at *
                          cases hT : consTo l.length cs false kk
                          · rw [hT] at hs
                            clear hT

                            have e2 := Lib.hid (show consTo l.length cs false (kk + 1) = false from by rw [hs.out]; rfl)
                            go_wp2_with fail
                            go_roundw
                            case rel => exact ⟨kk + 1, by rw [e2.out], by go_num, by omega, by trivial⟩
                            case measure => simp [intOf]; omega
                          · rw [hT] at hs
                            clear hT
                            rcases Int.lt_or_le c (-1) with hc1 | hc1
                            · skip
                              have d7 : decide ((-1 : Int) ≤ c) = false := decide_eq_false (by omega)
                              have hr : conR l.length c = false := decide_eq_false (by omega)
                              have e2 := Lib.hid (show consTo l.length cs false (kk + 1) = false from by rw [hs.out]; rw [hr]; rfl)
                              clear hr
                              go_wp2_with fail
                              go_roundw
                              case rel => exact ⟨kk + 1, by rw [e2.out], by go_num, by omega, by trivial⟩
                              case measure => simp [intOf]; omega
                            by_cases hc2 : (l.length : Int) ≤ c
                            · skip
                              have d7 : decide ((-1 : Int) ≤ c) = true := decide_eq_true (by omega)
                              have d8 : decide (c < (l.length : Int)) = false := decide_eq_false (by omega)
                              have hr : conR l.length c = false := decide_eq_false (by omega)
                              have e2 := Lib.hid (show consTo l.length cs false (kk + 1) = false from by rw [hs.out]; rw [hr]; rfl)
                              clear hr
                              go_wp2_with fail
                              go_roundw
                              case rel => exact ⟨kk + 1, by rw [e2.out], by go_num, by omega, by trivial⟩
                              case measure => simp [intOf]; omega
                            have d7 : decide ((-1 : Int) ≤ c) = true := decide_eq_true (by omega)
                            have d8 : decide (c < (l.length : Int)) = true := decide_eq_true (by omega)
                            have hr : conR l.length c = true := decide_eq_true (by omega)
                            have e2 := Lib.hid (show consTo l.length cs false (kk + 1) = true from by rw [hs.out]; rw [hr]; rfl)
                            clear hr
                            go_wp2_with fail
                            go_roundw
                            case rel => exact ⟨kk + 1, by rw [e2.out], by go_num, by omega, by trivial⟩
                            case measure => simp [intOf]; omega
                        · obtain rfl : kk = cs.length := by omega
                          have EG := Lib.hid (show fmG l.length (7, a, b, cs) = (decide (a = 0) && (decide (b = 0) && consTo l.length cs false cs.length)) by
                            rw [fmG_7, consTo_all]; unfold consG; rw [HB.out])
                          by_cases hA : ¬ a = 0
                          · have t1 : (a == 0) = false := by rw [beq_eq_false_iff_ne]; exact hA
                            have E := Lib.hid (NO.out (by rw [EG.out, decide_eq_false hA, Bool.false_and]))
                            clear EG hA
                            go_wp2_with fail
                            go_ret
                            exact ⟨ret_bool E.out.symm, down_call HE.out.2 (by first | exact BV.out | exact below_draws BV.out _)⟩
                          replace hA : a = 0 := by omega
                          have t1 : (a == 0) = true := by rw [beq_iff_eq]; exact hA
                          by_cases hB : ¬ b = 0
                          · have t2 : (b == 0) = false := by rw [beq_eq_false_iff_ne]; exact hB
                            have E := Lib.hid (NO.out (by rw [EG.out, decide_eq_false hB, Bool.false_and, Bool.and_false]))
                            clear EG hA hB
                            go_wp2_with fail
                            go_ret
                            exact ⟨ret_bool E.out.symm, down_call HE.out.2 (by first | exact BV.out | exact below_draws BV.out _)⟩
                          replace hB : b = 0 := by omega
                          have t2 : (b == 0) = true := by rw [beq_iff_eq]; exact hB
                          cases hT : consTo l.length cs false cs.length
                          · rw [hT] at EG
                            have E := Lib.hid (NO.out (by rw [EG.out, Bool.and_false, Bool.and_false]))
                            clear EG hA hB
                            go_wp2_with fail
                            go_ret
                            exact ⟨ret_bool E.out.symm, down_call HE.out.2 (by first | exact BV.out | exact below_draws BV.out _)⟩
                          · rw [hT] at EG
                            have E := Lib.hid (show fmG l.length (7, a, b, cs) = true by rw [EG.out, decide_eq_true hA, decide_eq_true hB]; rfl)
                            go_wp2_with fail
                            go_roundw
                            case rel => exact ⟨k + 1, by go_num, by omega, Lib.hid (GO.out _ E.out (by first | exact BV.out | exact below_draws BV.out _))⟩
                            case measure => simp [intOf]; omega
                    · have E := Lib.hid (NO.out (fmG_0 _ _ _ _ _ (by omega)))
                      go_wp2_with fail
                      go_ret
                      exact ⟨ret_bool E.out.symm, down_call HE.out.2 (by first | exact BV.out | exact below_draws BV.out _)⟩

    · obtain rfl : k = l.length := by omega
      have E := Lib.hid (show rfmsG l = decide (l.length ≤ 40) from rf_true (fun j m hj hx => HE.out.1 j m hj hx))
      go_wp2_with fail
      go_ret
      exact ⟨ret_bool (by rw [E.out]; exact decide_eq_decide.2 (by omega)), HE.out.2⟩
end Go.Proofs.YtajkkinolpkfmaaGreatDoor

/-
  The document's answer for package code: whether programs may be: the walk.
  Conditions: as each states.
-/
namespace Go.Proofs.YtajkkinolpkfmaaGreatDoor
set_option linter.unusedVariables false
set_option linter.unusedSimpArgs false
open Go.ChangeShapes Go.WideShapes Go.ChangeAt Go.RowKit
set_option maxRecDepth 100000

theorem rforms_is {S : Nat → Prop} {v : Value} {l : List PFm} {b : Bool} (hb : rfmsG l = b) (w : World) (h : fmsAt S w v l) (hl : l.length ≤ maxLen) (hm : ∀ m ∈ l, m.2.2.2.length ≤ maxLen) :
    Calls Tryz.prog 6 #[v] w fun e w' => e = .returned (.bool b) ∧ Below w.heap.size w w' :=
  (rforms_any v l w h hl hm).mono fun e w' ⟨he, hw⟩ => ⟨by rw [he, hb], hw⟩

/-- The parts of the answer that are left behind the forms. -/
theorem rg_forms {F : List PFn} {Q : List ByteArray} {M : List PFm} (h : rfmsG M = false) : prG (F, Q, M) = false := by
  rw [pr_eq]
  unfold rfmsG at h
  simp only
  by_cases hm : M.length ≤ 40
  · rw [decide_eq_true hm, Bool.true_and] at h
    rw [h, Bool.and_false, Bool.and_false, Bool.and_false]
  · rw [decide_eq_false (fun g => hm g.2.2), Bool.false_and]
theorem rg_rest {F : List PFn} {Q : List ByteArray} {M : List PFm} (h : rfmsG M = true) (h1 : 0 < F.length ∧ F.length ≤ 60) (h2 : Q.length ≤ 40) : prG (F, Q, M) = (allI fnK 0 F && strsG Q) := by
  rw [pr_eq]
  unfold rfmsG at h
  rw [Bool.and_eq_true, decide_eq_true_eq] at h
  simp only
  rw [decide_eq_true ⟨h1.2, h2, h.1⟩, Bool.true_and, h.2, Bool.and_true]
  unfold fnsG
  rw [decide_eq_true h1.1, Bool.true_and]

theorem fk_bad {k : Nat} {loc free : Int} {l : List PIns} (h : loc < 0 ∨ 60 < loc ∨ free < 0 ∨ 30 < free ∨ (k = 0 ∧ free ≠ 0) ∨ (k ≠ 0 ∧ loc < 1) ∨ l.length < 1 ∨ 600 < l.length) : fnK k (loc, free, l) = false := by
  cases e : fnK k (loc, free, l)
  · rfl
  · exfalso
    by_cases hk : k = 0
    · subst hk
      rw [fnK_0, fn_eq] at e
      simp only [belowB, Bool.and_eq_true, decide_eq_true_eq] at e
      omega
    · rw [fnK_s k hk, fn_eq] at e
      simp only [belowB, Bool.and_eq_true, decide_eq_true_eq] at e
      omega
theorem fk_rest {k : Nat} {loc free : Int} {l : List PIns} (h : 0 ≤ loc ∧ loc ≤ 60 ∧ 0 ≤ free ∧ free ≤ 30 ∧ (k = 0 → free = 0) ∧ (k ≠ 0 → 1 ≤ loc) ∧ 1 ≤ l.length ∧ l.length ≤ 600) : fnK k (loc, free, l) = allI (fun _ p => insG p) 0 l := by
  obtain ⟨a1, a2, a3, a4, a5, a6, a7, a8⟩ := h
  have hg : fnG (loc, free, l) = allI (fun _ p => insG p) 0 l := by
    rw [fn_eq]
    unfold belowB
    simp only
    rw [decide_eq_true (by omega), decide_eq_true (by omega), decide_eq_true (by omega), Bool.true_and, Bool.true_and, Bool.true_and]
  by_cases hk : k = 0
  · subst hk
    rw [fnK_0, hg]
    simp only
    rw [decide_eq_true (a5 rfl), Bool.true_and]
  · rw [fnK_s k hk, hg]
    simp only
    have := a6 hk
    rw [decide_eq_true (by omega), Bool.true_and]
theorem rg_ins {p : PIns} {g : Bool} (h : insG p = g) (w : World) : Calls Tryz.prog 45 #[.agg #[.int .i64 p.1, .int .i64 p.2.1, .int .i64 p.2.2]] w fun e w' => e = .returned (.bool g) ∧ Below w.heap.size w w' :=
  (refGood_any p.1 p.2.1 p.2.2 w).mono fun e w' ⟨he, hw⟩ => ⟨by rw [he, ← h]; rfl, hw⟩

set_option maxHeartbeats 32000000 in
theorem rgood_any {S : Nat → Prop} (v1 v2 v3 : Value) (P : PPr) (w : World) (h : prAt S w v1 v2 v3 P) (hF : prF P) :
    Calls Tryz.prog 18 #[.agg #[v1, v2, v3]] w fun e w' => e = .returned (.bool (prG P)) ∧ Below w.heap.size w w' := by
  obtain ⟨F, Q, M⟩ := P
  have EE := Lib.hid (pr_eq (F, Q, M))
  obtain ⟨h1, h2, h3⟩ := h
  simp only at h1 h2 h3 EE
  have m1 : F.length ≤ maxLen := hF.n1
  have m2 : Q.length ≤ maxLen := hF.n2
  have m3 : M.length ≤ maxLen := hF.n3
  have H1 := Lib.hid h1
  have H2 := Lib.hid h2
  have H3 := Lib.hid h3
  obtain ⟨a1, c1, rfl⟩ := h1.slice
  obtain ⟨a2, c2, rfl⟩ := h2.slice
  obtain ⟨a3, c3, rfl⟩ := h3.slice
  have N3 := Lib.hid m3
  have NF := Lib.hid hF
  clear h1 h2 h3 hF
  unfold maxLen at m1 m2 m3
  have b0 := Lib.hid (show Below w.heap.size w (w.alloc (.cells #[.slice a1 F.length c1, .slice a2 Q.length c2, .slice a3 M.length c3] 37)) from (Below.refl _ _).alloc (Nat.le_refl _) _)
  by_cases hn0 : F.length = 0
  · have E := Lib.hid (show prG (F, Q, M) = false by rw [EE.out, show fnsG F = false by rw [List.length_eq_zero_iff.1 hn0]; rfl, Bool.false_and, Bool.and_false])
    have t0 : (F.length : Int) = 0 := by omega
    rw [hn0]
    go_enter Tryz.func18, Tryz.ntmps18
    go_wp2_with fail
    go_ret
    rw [hn0] at b0
    exact ⟨ret_bool E.out.symm, b0.out⟩
  by_cases hn1 : ¬ F.length ≤ 60
  · have E := Lib.hid (show prG (F, Q, M) = false by rw [EE.out, decide_eq_false (fun h => hn1 h.1), Bool.false_and])
    go_enter Tryz.func18, Tryz.ntmps18
    go_wp2_with fail
    go_ret
    exact ⟨ret_bool E.out.symm, b0.out⟩
  replace hn1 : F.length ≤ 60 := by omega
  by_cases hn2 : ¬ Q.length ≤ 40
  · have E := Lib.hid (show prG (F, Q, M) = false by rw [EE.out, decide_eq_false (fun h => hn2 h.2.1), Bool.false_and])
    go_enter Tryz.func18, Tryz.ntmps18
    go_wp2_with fail
    go_ret
    exact ⟨ret_bool E.out.symm, b0.out⟩
  replace hn2 : Q.length ≤ 40 := by omega
  cases g3 : rfmsG M
  · have E := Lib.hid (show prG (F, Q, M) = false from rg_forms g3)
    have G3 := Lib.hid g3
    clear g3
    go_enter Tryz.func18, Tryz.ntmps18
    go_wp2_with fail
    refine (rforms_is G3.out _ (fms_below H3.out b0.out) N3.out (fun f hf => (NF.out.fm f hf).2.2.2.2)).mono ?_
    rintro e w' ⟨rfl, hb⟩
    go_wp2_with fail
    go_ret
    exact ⟨ret_bool E.out.symm, down_call b0.out hb⟩
  have E0 := Lib.hid (rg_rest (F := F) (Q := Q) g3 (by omega) hn2)
  have G3 := Lib.hid g3
  clear g3
  obtain ⟨w0, hw0'⟩ : ∃ w0, (w.alloc (.cells #[.slice a1 F.length c1, .slice a2 Q.length c2, .slice a3 M.length c3] 37)) = w0 := ⟨_, rfl⟩
  have hw0 := Lib.hid hw0'
  clear hw0'
  have R0 := Lib.hid (show rowAt w0 w.heap.size 37 [.slice a1 F.length c1, .slice a2 Q.length c2, .slice a3 M.length c3] by rw [← hw0.out]; exact rowAt.made _ _ _)
  have Z0 := Lib.hid (show w0.heap.size = w.heap.size + 1 by rw [← hw0.out]; simp)
  go_enter Tryz.func18, Tryz.ntmps18
  go_wp2_with fail
  refine (rforms_is G3.out _ (fms_below H3.out b0.out) N3.out (fun f hf => (NF.out.fm f hf).2.2.2.2)).mono ?_
  rintro e w1 ⟨rfl, hb⟩
  rw [hw0.out] at hb b0
  have B1 := Lib.hid (down_call b0.out hb)
  have R1 := Lib.hid (R0.out.below hb (by rw [Z0.out]; omega))
  have c0 : w1.cell? ⟨w.heap.size, 0, none⟩ = some (.slice a1 F.length c1) := (R1.out.cell 0).trans rfl
  have c1' : w1.cell? ⟨w.heap.size, 1, none⟩ = some (.slice a2 Q.length c2) := (R1.out.cell 1).trans rfl
  have Z1 := Lib.hid (show w.heap.size < w1.heap.size by have := hb.size; rw [Z0.out] at this; omega)
  clear hw0 hb
  have HQ := Lib.hid (H2.out.below B1.out)
  go_wp2_with fail
  go_loop [3] (fun i => ∃ k : Nat, k ≤ Q.length ∧ i = .int .i64 k ∧ Hid (∀ j s, j < k → Q[j]? = some s → strG s = true)) (fun i => Q.length - (intOf i).toNat)
  case atStart => exact ⟨0, Nat.zero_le _, rfl, Lib.hid fun j s hj => absurd hj (by omega)⟩
  case round =>
    obtain ⟨k, hk, rfl, H⟩ := hrel
    by_cases hlt : k < Q.length
    · obtain ⟨xb, xo, rfl, e1⟩ : ∃ xb xo, a2 = some ⟨xb, xo, none⟩ ∧ w1.cell? ⟨xb, xo + k, none⟩ = some (.string Q[k]) := by
        obtain ⟨a', c', e, h⟩ := HQ.out
        cases e
        rcases h with h0 | ⟨xb, xo, rfl, -, -, hc⟩
        · omega
        · exact ⟨xb, xo, rfl, hc k _ (by simp [hlt])⟩
      have hx := Lib.hid (List.getElem?_eq_getElem hlt)
      generalize Q[k] = s at *
      by_cases hs : 60 < s.size
      · have E := Lib.hid (show prG (F, Q, M) = false by rw [E0.out, show strsG Q = false from allI_false hx.out (by unfold strG; exact decide_eq_false (by omega)), Bool.and_false])
        go_wp2_with fail
        go_ret
        exact ⟨ret_bool E.out.symm, B1.out⟩
      · have E := Lib.hid (show strG s = true by unfold strG; exact decide_eq_true (by omega))
        go_wp2_with fail
        go_round
        case rel =>
          refine ⟨k + 1, by omega, by go_num, Lib.hid fun j t hj ht => ?_⟩
          rcases Nat.lt_or_ge j k with h | h
          · exact H.out j t h ht
          · obtain rfl : j = k := by omega
            rw [hx.out] at ht; cases ht; exact E.out
        case measure => simp [intOf]; omega
    · obtain rfl : k = Q.length := by omega
      have GQ := Lib.hid (show strsG Q = true from allI_true fun j x hj hx => H.out j x hj hx)
      have E1 := Lib.hid (show prG (F, Q, M) = allI fnK 0 F by rw [E0.out, GQ.out, Bool.and_true])
      clear H HQ hk hlt
      have HF := Lib.hid (fns_below H1.out B1.out)
      go_wp2_with fail
      go_loopw [4] (fun i wr => ∃ k : Nat, k ≤ F.length ∧ i = .int .i64 k ∧ Hid (∀ j s, j < k → F[j]? = some s → fnK j s = true) ∧ Hid (Below w1.heap.size w1 wr)) (fun i _ => F.length - (intOf i).toNat)
      case atStart => exact ⟨0, Nat.zero_le _, rfl, Lib.hid fun j s hj => absurd hj (by omega), Lib.hid (Below.refl _ _)⟩
      case round =>
        obtain ⟨k, hk, rfl, H, HB⟩ := hrel
        have k0 : wr.cell? ⟨w.heap.size, 0, none⟩ = some (.slice a1 F.length c1) := by rw [(down_cell HB.out).1 _ _ Z1.out]; exact c0
        by_cases hlt : k < F.length
        · have hx := Lib.hid (List.getElem?_eq_getElem hlt)
          have hml := (NF.out.fn F[k] (List.getElem_mem hlt)).2.2.2
          unfold maxLen at hml
          obtain ⟨fb, fo, rfl, hfb, ha⟩ : ∃ fb fo, a1 = some ⟨fb, fo, none⟩ ∧ fb < w1.heap.size ∧ fnAt S wr fb (fo + k * 3) F[k] := by
            obtain ⟨a', c', e, h⟩ := HF.out
            cases e
            rcases h with h0 | ⟨xb, xo, rfl, -, hb, hc⟩
            · omega
            · exact ⟨xb, xo, rfl, hb, (hc k _ hx.out).upon (upon_of_below HB.out) (fun _ _ t => t.elim) hb (fun t => t)⟩
          generalize F[k] = f at *
          obtain ⟨loc, free, l⟩ := f
          obtain ⟨e1, e2, v, e3, hv⟩ := ha
          simp only at e1 e2 e3 hv hml
          obtain ⟨va, vc, rfl⟩ := hv.slice
          have HV := Lib.hid hv
          clear hv
          have hkI : (k : Int) < F.length := by omega
          obtain ⟨W, hW⟩ : ∃ W, wr.alloc (.cells #[.int .i64 loc, .int .i64 free, .slice va l.length vc] 82) = W := ⟨_, rfl⟩
          have BW := Lib.hid (show Below wr.heap.size wr W by rw [← hW]; exact down_alloc (Below.refl _ _) _)
          have rW : rowAt W wr.heap.size 82 [.int .i64 loc, .int .i64 free, .slice va l.length vc] := by rw [← hW]; exact rowAt.made _ _ _
          have d0 : W.cell? ⟨wr.heap.size, 0, none⟩ = some (.int .i64 loc) := (rW.cell 0).trans rfl
          have d1 : W.cell? ⟨wr.heap.size, 1, none⟩ = some (.int .i64 free) := (rW.cell 1).trans rfl
          have d2 : W.cell? ⟨wr.heap.size, 2, none⟩ = some (.slice va l.length vc) := (rW.cell 2).trans rfl
          -- FROM
          have ZW := Lib.hid (show wr.heap.size < W.heap.size by rw [← hW]; simp)
          by_cases hk0 : k = 0
          · subst hk0
            simp only [Nat.zero_mul, Nat.add_zero] at e1 e2 e3
            by_cases h0 : loc < 0
            · skip
              have E := Lib.hid (show prG (F, Q, M) = false by rw [E1.out]; exact allI_false hx.out (fk_bad (by omega)))
              go_wp2_with fail
              go_ret
              exact ⟨ret_bool E.out.symm, down_call (down_call B1.out HB.out) BW.out⟩
            by_cases h1 : 60 < loc
            · skip
              have E := Lib.hid (show prG (F, Q, M) = false by rw [E1.out]; exact allI_false hx.out (fk_bad (by omega)))
              go_wp2_with fail
              go_ret
              exact ⟨ret_bool E.out.symm, down_call (down_call B1.out HB.out) BW.out⟩
            by_cases h2 : free < 0
            · skip
              have E := Lib.hid (show prG (F, Q, M) = false by rw [E1.out]; exact allI_false hx.out (fk_bad (by omega)))
              go_wp2_with fail
              go_ret
              exact ⟨ret_bool E.out.symm, down_call (down_call B1.out HB.out) BW.out⟩
            by_cases h3 : 30 < free
            · skip
              have E := Lib.hid (show prG (F, Q, M) = false by rw [E1.out]; exact allI_false hx.out (fk_bad (by omega)))
              go_wp2_with fail
              go_ret
              exact ⟨ret_bool E.out.symm, down_call (down_call B1.out HB.out) BW.out⟩
            by_cases h4 : ¬ free = 0
            · skip
              have tz : (free != 0) = true := by simpa using h4
              have E := Lib.hid (show prG (F, Q, M) = false by rw [E1.out]; exact allI_false hx.out (fk_bad (by omega)))
              go_wp2_with fail
              go_ret
              exact ⟨ret_bool E.out.symm, down_call (down_call B1.out HB.out) BW.out⟩
            have tz : (free != 0) = false := by simpa using h4
            by_cases h5 : l.length < 1
            · skip
              have tl : (l.length : Int) < 1 := by omega
              have E := Lib.hid (show prG (F, Q, M) = false by rw [E1.out]; exact allI_false hx.out (fk_bad (by omega)))
              go_wp2_with fail
              go_ret
              exact ⟨ret_bool E.out.symm, down_call (down_call B1.out HB.out) BW.out⟩
            by_cases h6 : 600 < l.length
            · skip
              have tl : (600 : Int) < l.length := by omega
              have E := Lib.hid (show prG (F, Q, M) = false by rw [E1.out]; exact allI_false hx.out (fk_bad (by omega)))
              go_wp2_with fail
              go_ret
              exact ⟨ret_bool E.out.symm, down_call (down_call B1.out HB.out) BW.out⟩
            have EF := Lib.hid (show fnK 0 (loc, free, l) = allI (fun _ p => insG p) 0 l from fk_rest (by omega))
            have hn : 0 < l.length ∧ l.length ≤ 600 := by omega
            obtain ⟨hnA, hnB⟩ := hn
            go_wp2_with fail
            obtain ⟨wo, hwo⟩ : ∃ wo : World, wo = wr := ⟨_, rfl⟩
            subst hwo
            clear hW
            go_loopw [6] (fun i wi => ∃ q : Nat, q ≤ l.length ∧ i = .int .i64 q ∧ Hid (∀ j s, j < q → l[j]? = some s → insG s = true) ∧ Hid (Below W.heap.size W wi)) (fun i _ => l.length - (intOf i).toNat)
            case atStart => exact ⟨0, Nat.zero_le _, rfl, Lib.hid fun j s hj => absurd hj (by omega), Lib.hid (Below.refl _ _)⟩
            case round =>
              obtain ⟨q, hq, rfl, HI, HC⟩ := hrel
              have u2 : wr.cell? ⟨wo.heap.size, 2, none⟩ = some (.slice va l.length vc) := by rw [(down_cell HC.out).1 _ _ ZW.out]; exact d2
              by_cases hqt : q < l.length
              · have hy := Lib.hid (List.getElem?_eq_getElem hqt)
                obtain ⟨xb, xo, rfl, hxb, hc⟩ : ∃ xb xo, va = some ⟨xb, xo, none⟩ ∧ xb < wo.heap.size ∧ ∀ j u, (insL l)[j]? = some u → W.cell? ⟨xb, xo + j, none⟩ = some u := by
                  obtain ⟨a', c', e, h⟩ := HV.out
                  cases e
                  rcases h with h0 | ⟨xb, xo, rfl, -, hb, hc⟩
                  · omega
                  · exact ⟨xb, xo, rfl, hb, fun j u hj => by rw [(down_cell BW.out).1 _ _ hb]; exact hc j u hj⟩
                obtain ⟨y0, y1, y2⟩ := insL_get l q _ hy.out
                generalize l[q] = p at *
                have hxW : xb < W.heap.size := Nat.lt_of_lt_of_le hxb BW.out.size
                have x0 : wr.cell? ⟨xb, xo + q * 3, none⟩ = some (.int .i64 p.1) := by rw [(down_cell HC.out).1 _ _ hxW]; exact hc _ _ y0
                have x1 : wr.cell? ⟨xb, xo + q * 3 + 1, none⟩ = some (.int .i64 p.2.1) := by rw [(down_cell HC.out).1 _ _ hxW, show xo + q * 3 + 1 = xo + (q * 3 + 1) by omega]; exact hc _ _ y1
                have x2 : wr.cell? ⟨xb, xo + q * 3 + 2, none⟩ = some (.int .i64 p.2.2) := by rw [(down_cell HC.out).1 _ _ hxW, show xo + q * 3 + 2 = xo + (q * 3 + 2) by omega]; exact hc _ _ y2
                have hqI : (q : Int) < l.length := by omega
                clear y0 y1 y2 hc
                cases hs : insG p
                · have E := Lib.hid (show prG (F, Q, M) = false by rw [E1.out]; exact allI_false hx.out (by rw [EF.out]; exact allI_false hy.out hs))
                  have HS := Lib.hid hs
                  clear hs
                  go_wp2_with (go_at_call 45; refine (rg_ins HS.out _).mono ?_; rintro e w' ⟨rfl, hb'⟩)
                  go_ret
                  exact ⟨ret_bool E.out.symm, down_call (down_call (down_call B1.out HB.out) BW.out) (down_call HC.out hb')⟩
                · have HS := Lib.hid hs
                  clear hs
                  go_wp2_with (go_at_call 45; refine (rg_ins HS.out _).mono ?_; rintro e w' ⟨rfl, hb'⟩)
                  go_roundw
                  case rel =>
                    refine ⟨q + 1, by omega, by go_num, Lib.hid fun j t hj ht => ?_, Lib.hid (down_call HC.out hb')⟩
                    rcases Nat.lt_or_ge j q with h | h
                    · exact HI.out j t h ht
                    · obtain rfl : j = q := by omega
                      rw [hy.out] at ht; cases ht; exact HS.out
                  case measure => simp [intOf]; omega
              · obtain rfl : q = l.length := by omega
                have E := Lib.hid (show fnK 0 (loc, free, l) = true by rw [EF.out]; exact allI_true fun j x hj hx => HI.out j x hj hx)
                go_wp2_with fail
                go_roundw
                case rel =>
                  refine ⟨0 + 1, by omega, by go_num, Lib.hid fun j t hj ht => ?_, Lib.hid (down_call (down_call HB.out BW.out) HC.out)⟩
                  rcases Nat.lt_or_ge j 0 with h | h
                  · exact H.out j t h ht
                  · obtain rfl : j = 0 := by omega
                    rw [hx.out] at ht; cases ht; exact E.out
                case measure => simp [intOf]; omega
          · have hk1 : 1 ≤ k := by omega
            have tk : ((k : Int) == 0) = false := by rw [beq_eq_false_iff_ne]; omega
            have tm0 : 1 ≤ (k : Int) := by omega
            by_cases hk2 : k ≤ 1
            · have tm : (k : Int) ≤ 1 := by omega
              by_cases h0 : loc < 1
              · skip
                have E := Lib.hid (show prG (F, Q, M) = false by rw [E1.out]; exact allI_false hx.out (fk_bad (by omega)))
                go_wp2_with fail
                go_ret
                exact ⟨ret_bool E.out.symm, down_call (down_call B1.out HB.out) BW.out⟩
              by_cases h1 : 60 < loc
              · skip
                have E := Lib.hid (show prG (F, Q, M) = false by rw [E1.out]; exact allI_false hx.out (fk_bad (by omega)))
                go_wp2_with fail
                go_ret
                exact ⟨ret_bool E.out.symm, down_call (down_call B1.out HB.out) BW.out⟩
              by_cases h2 : free < 0
              · skip
                have E := Lib.hid (show prG (F, Q, M) = false by rw [E1.out]; exact allI_false hx.out (fk_bad (by omega)))
                go_wp2_with fail
                go_ret
                exact ⟨ret_bool E.out.symm, down_call (down_call B1.out HB.out) BW.out⟩
              by_cases h3 : 30 < free
              · skip
                have E := Lib.hid (show prG (F, Q, M) = false by rw [E1.out]; exact allI_false hx.out (fk_bad (by omega)))
                go_wp2_with fail
                go_ret
                exact ⟨ret_bool E.out.symm, down_call (down_call B1.out HB.out) BW.out⟩
              by_cases h4 : l.length < 1
              · skip
                have tl : (l.length : Int) < 1 := by omega
                have E := Lib.hid (show prG (F, Q, M) = false by rw [E1.out]; exact allI_false hx.out (fk_bad (by omega)))
                go_wp2_with fail
                go_ret
                exact ⟨ret_bool E.out.symm, down_call (down_call B1.out HB.out) BW.out⟩
              by_cases h5 : 600 < l.length
              · skip
                have tl : (600 : Int) < l.length := by omega
                have E := Lib.hid (show prG (F, Q, M) = false by rw [E1.out]; exact allI_false hx.out (fk_bad (by omega)))
                go_wp2_with fail
                go_ret
                exact ⟨ret_bool E.out.symm, down_call (down_call B1.out HB.out) BW.out⟩
              have EF := Lib.hid (show fnK k (loc, free, l) = allI (fun _ p => insG p) 0 l from fk_rest (by omega))
              have hn : 0 < l.length ∧ l.length ≤ 600 := by omega
              obtain ⟨hnA, hnB⟩ := hn
              go_wp2_with fail
              obtain ⟨wo, hwo⟩ : ∃ wo : World, wo = wr := ⟨_, rfl⟩
              subst hwo
              clear hW
              go_loopw [6] (fun i wi => ∃ q : Nat, q ≤ l.length ∧ i = .int .i64 q ∧ Hid (∀ j s, j < q → l[j]? = some s → insG s = true) ∧ Hid (Below W.heap.size W wi)) (fun i _ => l.length - (intOf i).toNat)
              case atStart => exact ⟨0, Nat.zero_le _, rfl, Lib.hid fun j s hj => absurd hj (by omega), Lib.hid (Below.refl _ _)⟩
              case round =>
                obtain ⟨q, hq, rfl, HI, HC⟩ := hrel
                have u2 : wr.cell? ⟨wo.heap.size, 2, none⟩ = some (.slice va l.length vc) := by rw [(down_cell HC.out).1 _ _ ZW.out]; exact d2
                by_cases hqt : q < l.length
                · have hy := Lib.hid (List.getElem?_eq_getElem hqt)
                  obtain ⟨xb, xo, rfl, hxb, hc⟩ : ∃ xb xo, va = some ⟨xb, xo, none⟩ ∧ xb < wo.heap.size ∧ ∀ j u, (insL l)[j]? = some u → W.cell? ⟨xb, xo + j, none⟩ = some u := by
                    obtain ⟨a', c', e, h⟩ := HV.out
                    cases e
                    rcases h with h0 | ⟨xb, xo, rfl, -, hb, hc⟩
                    · omega
                    · exact ⟨xb, xo, rfl, hb, fun j u hj => by rw [(down_cell BW.out).1 _ _ hb]; exact hc j u hj⟩
                  obtain ⟨y0, y1, y2⟩ := insL_get l q _ hy.out
                  generalize l[q] = p at *
                  have hxW : xb < W.heap.size := Nat.lt_of_lt_of_le hxb BW.out.size
                  have x0 : wr.cell? ⟨xb, xo + q * 3, none⟩ = some (.int .i64 p.1) := by rw [(down_cell HC.out).1 _ _ hxW]; exact hc _ _ y0
                  have x1 : wr.cell? ⟨xb, xo + q * 3 + 1, none⟩ = some (.int .i64 p.2.1) := by rw [(down_cell HC.out).1 _ _ hxW, show xo + q * 3 + 1 = xo + (q * 3 + 1) by omega]; exact hc _ _ y1
                  have x2 : wr.cell? ⟨xb, xo + q * 3 + 2, none⟩ = some (.int .i64 p.2.2) := by rw [(down_cell HC.out).1 _ _ hxW, show xo + q * 3 + 2 = xo + (q * 3 + 2) by omega]; exact hc _ _ y2
                  have hqI : (q : Int) < l.length := by omega
                  clear y0 y1 y2 hc
                  cases hs : insG p
                  · have E := Lib.hid (show prG (F, Q, M) = false by rw [E1.out]; exact allI_false hx.out (by rw [EF.out]; exact allI_false hy.out hs))
                    have HS := Lib.hid hs
                    clear hs
                    go_wp2_with (go_at_call 45; refine (rg_ins HS.out _).mono ?_; rintro e w' ⟨rfl, hb'⟩)
                    go_ret
                    exact ⟨ret_bool E.out.symm, down_call (down_call (down_call B1.out HB.out) BW.out) (down_call HC.out hb')⟩
                  · have HS := Lib.hid hs
                    clear hs
                    go_wp2_with (go_at_call 45; refine (rg_ins HS.out _).mono ?_; rintro e w' ⟨rfl, hb'⟩)
                    go_roundw
                    case rel =>
                      refine ⟨q + 1, by omega, by go_num, Lib.hid fun j t hj ht => ?_, Lib.hid (down_call HC.out hb')⟩
                      rcases Nat.lt_or_ge j q with h | h
                      · exact HI.out j t h ht
                      · obtain rfl : j = q := by omega
                        rw [hy.out] at ht; cases ht; exact HS.out
                    case measure => simp [intOf]; omega
                · obtain rfl : q = l.length := by omega
                  have E := Lib.hid (show fnK k (loc, free, l) = true by rw [EF.out]; exact allI_true fun j x hj hx => HI.out j x hj hx)
                  go_wp2_with fail
                  go_roundw
                  case rel =>
                    refine ⟨k + 1, by omega, by go_num, Lib.hid fun j t hj ht => ?_, Lib.hid (down_call (down_call HB.out BW.out) HC.out)⟩
                    rcases Nat.lt_or_ge j k with h | h
                    · exact H.out j t h ht
                    · obtain rfl : j = k := by omega
                      rw [hx.out] at ht; cases ht; exact E.out
                  case measure => simp [intOf]; omega
            · have tm : ¬ (k : Int) ≤ 1 := by omega
              by_cases h0 : loc < 1
              · skip
                have E := Lib.hid (show prG (F, Q, M) = false by rw [E1.out]; exact allI_false hx.out (fk_bad (by omega)))
                go_wp2_with fail
                go_ret
                exact ⟨ret_bool E.out.symm, down_call (down_call B1.out HB.out) BW.out⟩
              by_cases h1 : 60 < loc
              · skip
                have E := Lib.hid (show prG (F, Q, M) = false by rw [E1.out]; exact allI_false hx.out (fk_bad (by omega)))
                go_wp2_with fail
                go_ret
                exact ⟨ret_bool E.out.symm, down_call (down_call B1.out HB.out) BW.out⟩
              by_cases h2 : free < 0
              · skip
                have E := Lib.hid (show prG (F, Q, M) = false by rw [E1.out]; exact allI_false hx.out (fk_bad (by omega)))
                go_wp2_with fail
                go_ret
                exact ⟨ret_bool E.out.symm, down_call (down_call B1.out HB.out) BW.out⟩
              by_cases h3 : 30 < free
              · skip
                have E := Lib.hid (show prG (F, Q, M) = false by rw [E1.out]; exact allI_false hx.out (fk_bad (by omega)))
                go_wp2_with fail
                go_ret
                exact ⟨ret_bool E.out.symm, down_call (down_call B1.out HB.out) BW.out⟩
              by_cases h4 : l.length < 1
              · skip
                have tl : (l.length : Int) < 1 := by omega
                have E := Lib.hid (show prG (F, Q, M) = false by rw [E1.out]; exact allI_false hx.out (fk_bad (by omega)))
                go_wp2_with fail
                go_ret
                exact ⟨ret_bool E.out.symm, down_call (down_call B1.out HB.out) BW.out⟩
              by_cases h5 : 600 < l.length
              · skip
                have tl : (600 : Int) < l.length := by omega
                have E := Lib.hid (show prG (F, Q, M) = false by rw [E1.out]; exact allI_false hx.out (fk_bad (by omega)))
                go_wp2_with fail
                go_ret
                exact ⟨ret_bool E.out.symm, down_call (down_call B1.out HB.out) BW.out⟩
              have EF := Lib.hid (show fnK k (loc, free, l) = allI (fun _ p => insG p) 0 l from fk_rest (by omega))
              have hn : 0 < l.length ∧ l.length ≤ 600 := by omega
              obtain ⟨hnA, hnB⟩ := hn
              go_wp2_with fail
              obtain ⟨wo, hwo⟩ : ∃ wo : World, wo = wr := ⟨_, rfl⟩
              subst hwo
              clear hW
              go_loopw [6] (fun i wi => ∃ q : Nat, q ≤ l.length ∧ i = .int .i64 q ∧ Hid (∀ j s, j < q → l[j]? = some s → insG s = true) ∧ Hid (Below W.heap.size W wi)) (fun i _ => l.length - (intOf i).toNat)
              case atStart => exact ⟨0, Nat.zero_le _, rfl, Lib.hid fun j s hj => absurd hj (by omega), Lib.hid (Below.refl _ _)⟩
              case round =>
                obtain ⟨q, hq, rfl, HI, HC⟩ := hrel
                have u2 : wr.cell? ⟨wo.heap.size, 2, none⟩ = some (.slice va l.length vc) := by rw [(down_cell HC.out).1 _ _ ZW.out]; exact d2
                by_cases hqt : q < l.length
                · have hy := Lib.hid (List.getElem?_eq_getElem hqt)
                  obtain ⟨xb, xo, rfl, hxb, hc⟩ : ∃ xb xo, va = some ⟨xb, xo, none⟩ ∧ xb < wo.heap.size ∧ ∀ j u, (insL l)[j]? = some u → W.cell? ⟨xb, xo + j, none⟩ = some u := by
                    obtain ⟨a', c', e, h⟩ := HV.out
                    cases e
                    rcases h with h0 | ⟨xb, xo, rfl, -, hb, hc⟩
                    · omega
                    · exact ⟨xb, xo, rfl, hb, fun j u hj => by rw [(down_cell BW.out).1 _ _ hb]; exact hc j u hj⟩
                  obtain ⟨y0, y1, y2⟩ := insL_get l q _ hy.out
                  generalize l[q] = p at *
                  have hxW : xb < W.heap.size := Nat.lt_of_lt_of_le hxb BW.out.size
                  have x0 : wr.cell? ⟨xb, xo + q * 3, none⟩ = some (.int .i64 p.1) := by rw [(down_cell HC.out).1 _ _ hxW]; exact hc _ _ y0
                  have x1 : wr.cell? ⟨xb, xo + q * 3 + 1, none⟩ = some (.int .i64 p.2.1) := by rw [(down_cell HC.out).1 _ _ hxW, show xo + q * 3 + 1 = xo + (q * 3 + 1) by omega]; exact hc _ _ y1
                  have x2 : wr.cell? ⟨xb, xo + q * 3 + 2, none⟩ = some (.int .i64 p.2.2) := by rw [(down_cell HC.out).1 _ _ hxW, show xo + q * 3 + 2 = xo + (q * 3 + 2) by omega]; exact hc _ _ y2
                  have hqI : (q : Int) < l.length := by omega
                  clear y0 y1 y2 hc
                  cases hs : insG p
                  · have E := Lib.hid (show prG (F, Q, M) = false by rw [E1.out]; exact allI_false hx.out (by rw [EF.out]; exact allI_false hy.out hs))
                    have HS := Lib.hid hs
                    clear hs
                    go_wp2_with (go_at_call 45; refine (rg_ins HS.out _).mono ?_; rintro e w' ⟨rfl, hb'⟩)
                    go_ret
                    exact ⟨ret_bool E.out.symm, down_call (down_call (down_call B1.out HB.out) BW.out) (down_call HC.out hb')⟩
                  · have HS := Lib.hid hs
                    clear hs
                    go_wp2_with (go_at_call 45; refine (rg_ins HS.out _).mono ?_; rintro e w' ⟨rfl, hb'⟩)
                    go_roundw
                    case rel =>
                      refine ⟨q + 1, by omega, by go_num, Lib.hid fun j t hj ht => ?_, Lib.hid (down_call HC.out hb')⟩
                      rcases Nat.lt_or_ge j q with h | h
                      · exact HI.out j t h ht
                      · obtain rfl : j = q := by omega
                        rw [hy.out] at ht; cases ht; exact HS.out
                    case measure => simp [intOf]; omega
                · obtain rfl : q = l.length := by omega
                  have E := Lib.hid (show fnK k (loc, free, l) = true by rw [EF.out]; exact allI_true fun j x hj hx => HI.out j x hj hx)
                  go_wp2_with fail
                  go_roundw
                  case rel =>
                    refine ⟨k + 1, by omega, by go_num, Lib.hid fun j t hj ht => ?_, Lib.hid (down_call (down_call HB.out BW.out) HC.out)⟩
                    rcases Nat.lt_or_ge j k with h | h
                    · exact H.out j t h ht
                    · obtain rfl : j = k := by omega
                      rw [hx.out] at ht; cases ht; exact E.out
                  case measure => simp [intOf]; omega
          -- TO
        · obtain rfl : k = F.length := by omega
          have E := Lib.hid (show prG (F, Q, M) = true by rw [E1.out]; exact allI_true fun j x hj hx => H.out j x hj hx)
          go_wp2_with fail
          go_ret
          exact ⟨ret_bool E.out.symm, down_call B1.out HB.out⟩
end Go.Proofs.YtajkkinolpkfmaaGreatDoor
