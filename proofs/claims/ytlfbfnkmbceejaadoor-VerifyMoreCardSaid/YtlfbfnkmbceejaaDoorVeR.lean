/-
  Package verify: whether there is what an instruction speaks of ('there').
  Conditions: as each states.
-/
import Derived.Test.YtlfbfnkmbceejaaDoorVeS
namespace Go.Proofs.YtlfbfnkmbceejaaDoor
open Go.ChangeShapes Go.WideShapes Go.ChangeAt Go.RowKit
set_option linter.unusedVariables false
set_option linter.unusedSimpArgs false
set_option maxRecDepth 100000

theorem close_bd {a b : Int} (h : opGood 6 a b = true) : 0 ≤ a ∧ a ≤ 59 := by
  have e := good_at 6 a b (by omega)
  rw [show ((6 : Nat) : Int) = 6 from rfl, h] at e
  have := of_decide_eq_true (Bool.and_eq_true_iff.1 e.symm).1
  have h1 : (1 : Int) ≤ a ∧ a ≤ 59 := this
  omega
set_option maxHeartbeats 4000000 in
theorem there_any {S : Nat → Prop} {w : World} {v1 v2 v3 : Value} {P : PPr} (hp : prAt S w v1 v2 v3 P) (f1 f2 : Int) (ca : Option Addr) (cc : Nat) (code : List PIns) (o A Bb : Int) (hg : opGood o A Bb = true) :
    Calls Tryd.prog 35 #[.agg #[v1, v2, v3], .agg #[.int .i64 f1, .int .i64 f2, .slice ca code.length cc], .agg #[.int .i64 o, .int .i64 A, .int .i64 Bb]] w fun e w' => e = .returned (.bool (thereP P (f1, f2, code) (o, A, Bb))) ∧ Below w.heap.size w w' := by
  obtain ⟨h1, h2, h3⟩ := hp
  obtain ⟨a1, c1, rfl, h1⟩ := h1
  obtain ⟨a2, c2, rfl, -⟩ := h2
  obtain ⟨a3, c3, rfl, -⟩ := h3
  have H1 := Lib.hid h1
  have HG := Lib.hid hg
  clear h1 hg
  by_cases h2 : o = 2
  · subst h2
    have E := Lib.hid (show thereP P (f1, f2, code) (2, A, Bb) = decide (A < f1) by simp [thereP])
    go_enter Tryd.func35, Tryd.ntmps35
    go_wp2_with fail
    go_ret
    exact ⟨ret_bool E.out.symm, by repeat (first | exact Below.refl _ _ | refine down_alloc ?_ _ | refine down_drew ?_ | refine down_drewN ?_ _)⟩
  have t2 : (o == 2) = false := by rw [beq_eq_false_iff_ne]; exact h2
  by_cases h3 : o = 3
  · subst h3
    have E := Lib.hid (show thereP P (f1, f2, code) (3, A, Bb) = decide (A < f1) by simp [thereP])
    go_enter Tryd.func35, Tryd.ntmps35
    go_wp2_with fail
    go_ret
    exact ⟨ret_bool E.out.symm, by repeat (first | exact Below.refl _ _ | refine down_alloc ?_ _ | refine down_drew ?_ | refine down_drewN ?_ _)⟩
  have t3 : (o == 3) = false := by rw [beq_eq_false_iff_ne]; exact h3
  by_cases h4 : o = 4
  · subst h4
    have E := Lib.hid (show thereP P (f1, f2, code) (4, A, Bb) = decide (A < f2) by simp [thereP])
    go_enter Tryd.func35, Tryd.ntmps35
    go_wp2_with fail
    go_ret
    exact ⟨ret_bool E.out.symm, by repeat (first | exact Below.refl _ _ | refine down_alloc ?_ _ | refine down_drew ?_ | refine down_drewN ?_ _)⟩
  have t4 : (o == 4) = false := by rw [beq_eq_false_iff_ne]; exact h4
  by_cases h1 : o = 1
  · subst h1
    have E := Lib.hid (show thereP P (f1, f2, code) (1, A, Bb) = decide (A < P.2.1.length) by simp [thereP])
    go_enter Tryd.func35, Tryd.ntmps35
    go_wp2_with fail
    go_ret
    exact ⟨ret_bool E.out.symm, by repeat (first | exact Below.refl _ _ | refine down_alloc ?_ _ | refine down_drew ?_ | refine down_drewN ?_ _)⟩
  have t1 : (o == 1) = false := by rw [beq_eq_false_iff_ne]; exact h1
  by_cases h6 : o = 6
  · subst h6
    obtain ⟨An, rfl⟩ : ∃ n : Nat, A = n := ⟨A.toNat, by have := close_bd HG.out; omega⟩
    by_cases hlt : An < P.1.length
    · have hltI : (An : Int) < P.1.length := by omega
      rcases H1.out with h0 | ⟨b, fo, rfl, -, hb, hc⟩
      · omega
      · have hx := List.getElem?_eq_getElem hlt
        obtain ⟨-, e1, -⟩ := hc An _ hx
        have E := Lib.hid (show thereP P (f1, f2, code) (6, An, Bb) = (Bb == P.1[An].2.1) by
          simp [thereP, hlt, List.getD_eq_getElem?_getD]; rfl)
        obtain ⟨fr, hfr⟩ : ∃ x, P.1[An].2.1 = x := ⟨_, rfl⟩
        rw [hfr] at e1 E
        clear hc hx hfr
        have hd : decide ((An : Int) < (P.1.length : Nat)) = true := decide_eq_true hltI
        obtain ⟨W, hW⟩ : ∃ W, ((w.alloc (.cells #[.slice (some ⟨b, fo, none⟩) P.1.length c1, .slice a2 P.2.1.length c2, .slice a3 P.2.2.length c3] 26)).alloc (.cells #[.int .i64 f1, .int .i64 f2, .slice ca code.length cc] 46)).alloc (.cells #[.int .i64 6, .int .i64 An, .int .i64 Bb] 49) = W := ⟨_, rfl⟩
        have bW : Below w.heap.size w W := by rw [← hW]; exact down_alloc (down_alloc (down_alloc (Below.refl _ _) _) _) _
        have r1 : rowAt W w.heap.size 26 [.slice (some ⟨b, fo, none⟩) P.1.length c1, .slice a2 P.2.1.length c2, .slice a3 P.2.2.length c3] := by rw [← hW]; exact ((rowAt.made w _ _).alloc _).alloc _
        have r3 : rowAt W (w.heap.size + 1 + 1) 49 [.int .i64 6, .int .i64 An, .int .i64 Bb] := by rw [← hW]; exact rowAt.made_at _ _ (by simp)
        have e1 : W.cell? ⟨b, fo + An * 3 + 1, none⟩ = some (.int .i64 fr) := (bW.cell (p := ⟨b, fo + An * 3 + 1, none⟩) hb).trans e1
        have g0 : W.cell? ⟨w.heap.size, 0, none⟩ = some (.slice (some ⟨b, fo, none⟩) P.1.length c1) := (r1.cell 0).trans rfl
        have i0 : W.cell? ⟨w.heap.size + 1 + 1, 0, none⟩ = some (.int .i64 6) := (r3.cell 0).trans rfl
        have i1 : W.cell? ⟨w.heap.size + 1 + 1, 1, none⟩ = some (.int .i64 An) := (r3.cell 1).trans rfl
        have i2 : W.cell? ⟨w.heap.size + 1 + 1, 2, none⟩ = some (.int .i64 Bb) := (r3.cell 2).trans rfl
        have BW := Lib.hid bW
        clear bW r1 r3
        go_enter Tryd.func35, Tryd.ntmps35
        go_wp2_with fail
        go_quiet (fail)
        rename_i nq
        go_wp2_with fail
        go_ret
        exact ⟨ret_bool E.out.symm, by repeat (first | exact BW.out | exact below_draws BW.out _ | exact Below.refl _ _ | refine down_alloc ?_ _ | refine down_drew ?_ | refine down_drewN ?_ _)⟩
    · have hltI : ¬ (An : Int) < P.1.length := by omega
      have hd : decide ((An : Int) < (P.1.length : Nat)) = false := decide_eq_false hltI
      have E := Lib.hid (show thereP P (f1, f2, code) (6, An, Bb) = false by simp [thereP, hlt])
      go_enter Tryd.func35, Tryd.ntmps35
      go_wp2_with fail
      go_quiet (fail)
      rename_i nq
      go_wp2_with fail
      go_ret
      exact ⟨ret_bool E.out.symm, by repeat (first | exact Below.refl _ _ | refine down_alloc ?_ _ | refine down_drew ?_ | refine down_drewN ?_ _)⟩
  have t6 : (o == 6) = false := by rw [beq_eq_false_iff_ne]; exact h6
  by_cases h10 : o = 10
  · subst h10
    have E := Lib.hid (show thereP P (f1, f2, code) (10, A, Bb) = decide (A < code.length) by simp [thereP])
    go_enter Tryd.func35, Tryd.ntmps35
    go_wp2_with fail
    go_ret
    exact ⟨ret_bool E.out.symm, by repeat (first | exact Below.refl _ _ | refine down_alloc ?_ _ | refine down_drew ?_ | refine down_drewN ?_ _)⟩
  have t10 : (o == 10) = false := by rw [beq_eq_false_iff_ne]; exact h10
  by_cases h11 : o = 11
  · subst h11
    have E := Lib.hid (show thereP P (f1, f2, code) (11, A, Bb) = decide (A < code.length) by simp [thereP])
    go_enter Tryd.func35, Tryd.ntmps35
    go_wp2_with fail
    go_ret
    exact ⟨ret_bool E.out.symm, by repeat (first | exact Below.refl _ _ | refine down_alloc ?_ _ | refine down_drew ?_ | refine down_drewN ?_ _)⟩
  have t11 : (o == 11) = false := by rw [beq_eq_false_iff_ne]; exact h11
  by_cases h33 : o = 33
  · subst h33
    have E := Lib.hid (show thereP P (f1, f2, code) (33, A, Bb) = decide (A < code.length) by simp [thereP])
    go_enter Tryd.func35, Tryd.ntmps35
    go_wp2_with fail
    go_ret
    exact ⟨ret_bool E.out.symm, by repeat (first | exact Below.refl _ _ | refine down_alloc ?_ _ | refine down_drew ?_ | refine down_drewN ?_ _)⟩
  have t33 : (o == 33) = false := by rw [beq_eq_false_iff_ne]; exact h33
  by_cases h36 : o = 36
  · subst h36
    by_cases h3 : A = 3
    · subst h3
      have E := Lib.hid (show thereP P (f1, f2, code) (36, 3, Bb) = decide (Bb < P.2.2.length) by simp [thereP])
      go_enter Tryd.func35, Tryd.ntmps35
      go_wp2_with fail
      go_ret
      exact ⟨ret_bool E.out.symm, by repeat (first | exact Below.refl _ _ | refine down_alloc ?_ _ | refine down_drew ?_ | refine down_drewN ?_ _)⟩
    · have t3 : (A != 3) = true := by simpa using h3
      have E := Lib.hid (show thereP P (f1, f2, code) (36, A, Bb) = true by simp [thereP, h3])
      go_enter Tryd.func35, Tryd.ntmps35
      go_wp2_with fail
      go_ret
      exact ⟨ret_bool E.out.symm, by repeat (first | exact Below.refl _ _ | refine down_alloc ?_ _ | refine down_drew ?_ | refine down_drewN ?_ _)⟩
  have t36 : (o == 36) = false := by rw [beq_eq_false_iff_ne]; exact h36
  have E := Lib.hid (show thereP P (f1, f2, code) (o, A, Bb) = true by simp [thereP, h2, h3, h4, h1, h6, h10, h11, h33, h36])
  clear h2 h3 h4 h1 h6 h10 h11 h33 h36
  go_enter Tryd.func35, Tryd.ntmps35
  go_wp2_with fail
  go_ret
  exact ⟨ret_bool E.out.symm, by repeat (first | exact Below.refl _ _ | refine down_alloc ?_ _ | refine down_drew ?_ | refine down_drewN ?_ _)⟩
theorem there_is {S : Nat → Prop} {w : World} {v1 v2 v3 : Value} {P : PPr} (hp : prAt S w v1 v2 v3 P) (f1 f2 : Int) (ca : Option Addr) (cc : Nat) (code : List PIns) (o A Bb : Int) (hg : opGood o A Bb = true) {r : Bool} (h : thereP P (f1, f2, code) (o, A, Bb) = r) :
    Calls Tryd.prog 35 #[.agg #[v1, v2, v3], .agg #[.int .i64 f1, .int .i64 f2, .slice ca code.length cc], .agg #[.int .i64 o, .int .i64 A, .int .i64 Bb]] w fun e w' => e = .returned (.bool r) ∧ Below w.heap.size w w' := h ▸ there_any hp f1 f2 ca cc code o A Bb hg
end Go.Proofs.YtlfbfnkmbceejaaDoor
