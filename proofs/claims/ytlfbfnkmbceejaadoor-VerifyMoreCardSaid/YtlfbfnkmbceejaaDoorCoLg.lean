/-
  The contracts of the statements' own helpers over programs: LargeProgram.
  Conditions: as each states.
-/
import Derived.Test.YtlfbfnkmbceejaaDoorArgsP
namespace Go.Proofs.YtlfbfnkmbceejaaDoor
open Go.ChangeShapes Go.WideShapes Go.ChangeAt Go.RowKit
set_option linter.unusedVariables false
set_option linter.unusedSimpArgs false
set_option maxRecDepth 100000

structure PSm (P : PPr) : Prop where
  n1 : P.1.length ≤ 3000
  n2 : P.2.1.length ≤ 3000
  n3 : P.2.2.length ≤ 3000
  fn : ∀ f ∈ P.1, f.2.2.length ≤ 3000
  st : ∀ s ∈ P.2.1, s.size ≤ 3000
  fm : ∀ m ∈ P.2.2, m.2.2.2.length ≤ 3000
structure PRe (P : PPr) : Prop where
  n1 : P.1.length ≤ reachBytes
  n2 : P.2.1.length ≤ reachBytes
  n3 : P.2.2.length ≤ reachBytes
  fn : ∀ f ∈ P.1, f.2.2.length ≤ reachBytes
  fm : ∀ m ∈ P.2.2, m.2.2.2.length ≤ reachBytes
def LgPost (P : PPr) (w : World) (e : Ending) (w' : World) : Prop := ∃ b : Bool, e = .returned (.bool b) ∧ (b = false → PSm P) ∧ Below w.heap.size w w'
theorem reach_eq : reachBytes = 140737488351232 := rfl

set_option maxHeartbeats 16000000 in
theorem large_any {S : Nat → Prop} {w : World} {v1 v2 v3 : Value} {P : PPr} (h : prAt S w v1 v2 v3 P) (hR : PRe P) (hst : ∀ s ∈ P.2.1, s.size ≤ maxLen) :
    Calls Tryd.prog 7 #[.agg #[v1, v2, v3]] w (LgPost P w) := by
  obtain ⟨F, Q, M⟩ := P
  obtain ⟨h1, h2, h3⟩ := h
  simp only at h1 h2 h3 hst
  obtain ⟨a1, c1, rfl, hF⟩ := h1
  obtain ⟨a2, c2, rfl, hQ⟩ := h2
  obtain ⟨a3, c3, rfl, hM⟩ := h3
  have PF := Lib.hid hF; have PQ := Lib.hid hQ; have PM := Lib.hid hM
  have n1 := hR.n1; have n2 := hR.n2; have n3 := hR.n3
  rw [reach_eq] at n1 n2 n3
  simp only at n1 n2 n3
  have RF := Lib.hid (show ∀ f ∈ F, f.2.2.length ≤ 140737488351232 from hR.fn)
  have RM := Lib.hid (show ∀ m ∈ M, m.2.2.2.length ≤ 140737488351232 from hR.fm)
  have RQ := Lib.hid (show ∀ s ∈ Q, s.size ≤ 9223372036854775807 from hst)
  clear hF hQ hM hR hst
  obtain ⟨W, hW⟩ : ∃ W, w.alloc (.cells #[.slice a1 F.length c1, .slice a2 Q.length c2, .slice a3 M.length c3] 26) = W := ⟨_, rfl⟩
  have BW := Lib.hid (show Below w.heap.size w W by rw [← hW]; exact down_alloc (Below.refl _ _) _)
  have ra : rowAt W w.heap.size 26 [.slice a1 F.length c1, .slice a2 Q.length c2, .slice a3 M.length c3] := by rw [← hW]; exact rowAt.made _ _ _
  have x0 : W.cell? ⟨w.heap.size, 0, none⟩ = some (.slice a1 F.length c1) := (ra.cell 0).trans rfl
  have x1 : W.cell? ⟨w.heap.size, 1, none⟩ = some (.slice a2 Q.length c2) := (ra.cell 1).trans rfl
  have x2 : W.cell? ⟨w.heap.size, 2, none⟩ = some (.slice a3 M.length c3) := (ra.cell 2).trans rfl
  go_enter Tryd.func7, Tryd.ntmps7
  go_wp2_with fail
  clear hW
  go_loop [3, 4] (fun n i => ∃ k m : Nat, i = .int .i64 k ∧ n = .int .i64 m ∧ k ≤ F.length ∧ m ≤ 1000000000000000 ∧ Hid (F.length + Q.length + M.length ≤ m) ∧ Hid (∀ j f, j < k → F[j]? = some f → f.2.2.length ≤ m)) (fun _ i => F.length - (intOf i).toNat)
  case atStart => exact ⟨0, F.length + Q.length + M.length, rfl, by go_num, Nat.zero_le _, by omega, Lib.hid (Nat.le_refl _), Lib.hid fun j f hj => absurd hj (by omega)⟩
  case round =>
    obtain ⟨k, m, rfl, rfl, hk, hm, HA, HE⟩ := hrel
    by_cases hlt : k < F.length ∧ m ≤ 3000
    · obtain ⟨hlt, hmm⟩ := hlt
      have hx := Lib.hid (List.getElem?_eq_getElem hlt)
      have hcl := RF.out F[k] (List.getElem_mem hlt)
      generalize F[k] = f at *
      rcases PF.out with hz | ⟨rb, ro, rfl, hSb, hrb, hc⟩
      · omega
      · obtain ⟨e0, e1, sv, e2, hsv⟩ := (hc k f hx.out).upon (upon_of_below BW.out) (fun _ _ t => t.elim) hrb (fun t => t)
        obtain ⟨sa, sc, rfl⟩ := hsv.slice
        clear hc hSb hsv
        have hkI : (k : Int) < F.length := by omega
        have hmI : (m : Int) ≤ 3000 := by omega
        go_wp2_with fail
        go_round
        case rel =>
          refine ⟨k + 1, m + f.2.2.length, by go_num, by go_num, by omega, by omega, Lib.hid (by have := HA.out; omega), Lib.hid fun j g hj hg => ?_⟩
          rcases Nat.lt_or_ge j k with h | h
          · have := HE.out j g h hg; omega
          · obtain rfl : j = k := by omega
            rw [hx.out] at hg; cases hg; omega
        case measure => simp [intOf]; omega
    · have X1 := Lib.hid (show k = F.length ∨ 3000 < m by omega)
      have HE1 := HE
      have HA1 := HA
      clear HE HA
      by_cases hkf : k < F.length
      all_goals
        have hmI : k < F.length → ¬ ((m : Int) ≤ 3000) := by omega
        first | (have hmI2 := hmI hkf; clear hmI) | clear hmI
        clear hlt
        go_wp2_with fail
        go_loop [3, 5] (fun n i => ∃ k2 m2 : Nat, i = .int .i64 k2 ∧ n = .int .i64 m2 ∧ k2 ≤ Q.length ∧ m2 ≤ 2000000000000000 ∧ Hid (m ≤ m2) ∧ Hid (∀ j s, j < k2 → Q[j]? = some s → s.size ≤ m2 ∨ 3000 < m2)) (fun _ i => Q.length - (intOf i).toNat)
        case atStart => exact ⟨0, m, rfl, rfl, Nat.zero_le _, by omega, Lib.hid (Nat.le_refl _), Lib.hid fun j s hj => absurd hj (by omega)⟩
        case round =>
          obtain ⟨k2, m2, rfl, rfl, hk2, hm2, HA2, HE2⟩ := hrel
          by_cases hlt2 : k2 < Q.length ∧ m2 ≤ 3000
          · obtain ⟨hlt2, hmm2⟩ := hlt2
            have hx := Lib.hid (List.getElem?_eq_getElem hlt2)
            have hql := RQ.out Q[k2] (List.getElem_mem hlt2)
            generalize Q[k2] = q at *
            rcases PQ.out with hz | ⟨rb, ro, rfl, hSb, hrb, hc⟩
            · omega
            · have e0 : W.cell? ⟨rb, ro + k2, none⟩ = some (.string q) := by rw [cell_upon (upon_of_below BW.out) hrb (fun t => t)]; exact hc _ _ (by rw [List.getElem?_map, hx.out]; rfl)
              clear hc hSb
              have hkI2 : (k2 : Int) < Q.length := by omega
              have hmI3 : (m2 : Int) ≤ 3000 := by omega
              have hQ1 : Q.length ≤ m2 := by have := HA1.out; have := HA2.out; omega
              have GO := Lib.hid (show ∀ m3 : Nat, m2 ≤ m3 → (q.size ≤ m3 ∨ 3000 < m3) → ∀ j s, j < k2 + 1 → Q[j]? = some s → s.size ≤ m3 ∨ 3000 < m3 from fun m3 h3 hq j s hj hs => by
                rcases Nat.lt_or_ge j k2 with h | h
                · have := HE2.out j s h hs; omega
                · obtain rfl : j = k2 := by omega
                  rw [hx.out] at hs; cases hs; exact hq)
              by_cases hq : q.size ≤ 3000
              · have hqI : (q.size : Int) ≤ 3000 := by omega
                go_wp2_with fail
                go_round
                case rel => exact ⟨k2 + 1, m2 + q.size, by go_num, by go_num, by omega, by omega, Lib.hid (by have := HA2.out; omega), Lib.hid (GO.out _ (by omega) (.inl (by omega)))⟩
                case measure => simp [intOf]; omega
              · have hqI : ¬ (q.size : Int) ≤ 3000 := by omega
                have hqI2 : (3000 : Int) < q.size := by omega
                go_wp2_with fail
                go_round
                case rel => exact ⟨k2 + 1, m2 + 3000, by go_num, by go_num, by omega, by omega, Lib.hid (by have := HA2.out; omega), Lib.hid (GO.out _ (by omega) (.inr (by omega)))⟩
                case measure => simp [intOf]; omega
          · have X2 := Lib.hid (show k2 = Q.length ∨ 3000 < m2 by omega)
            by_cases hkf2 : k2 < Q.length
            all_goals
              have hmI5 : k2 < Q.length → ¬ ((m2 : Int) ≤ 3000) := by omega
              first | (have hmI6 := hmI5 hkf2; clear hmI5) | clear hmI5
              clear hlt2
              go_wp2_with fail
              go_loop [3, 6] (fun n i => ∃ k3 m3 : Nat, i = .int .i64 k3 ∧ n = .int .i64 m3 ∧ k3 ≤ M.length ∧ m3 ≤ 3000000000000000 ∧ Hid (m2 ≤ m3) ∧ Hid (∀ j f, j < k3 → M[j]? = some f → f.2.2.2.length ≤ m3)) (fun _ i => M.length - (intOf i).toNat)
              case atStart => exact ⟨0, m2, rfl, rfl, Nat.zero_le _, by omega, Lib.hid (Nat.le_refl _), Lib.hid fun j s hj => absurd hj (by omega)⟩
              case round =>
                obtain ⟨k3, m3, rfl, rfl, hk3, hm3, HA3, HE3⟩ := hrel
                by_cases hlt3 : k3 < M.length ∧ m3 ≤ 3000
                · obtain ⟨hlt3, hmm3⟩ := hlt3
                  have hx := Lib.hid (List.getElem?_eq_getElem hlt3)
                  have hcl := RM.out M[k3] (List.getElem_mem hlt3)
                  generalize M[k3] = f at *
                  rcases PM.out with hz | ⟨rb, ro, rfl, hSb, hrb, hc⟩
                  · omega
                  · obtain ⟨e0, e1, e1', sv, e2, hsv⟩ := (hc k3 f hx.out).upon (upon_of_below BW.out) (fun _ _ t => t.elim) hrb (fun t => t)
                    obtain ⟨sa, sc, rfl⟩ := hsv.slice
                    clear hc hSb hsv
                    have hkI3 : (k3 : Int) < M.length := by omega
                    have hmI7 : (m3 : Int) ≤ 3000 := by omega
                    go_wp2_with fail
                    go_round
                    case rel =>
                      refine ⟨k3 + 1, m3 + f.2.2.2.length, by go_num, by go_num, by omega, by omega, Lib.hid (by have := HA3.out; omega), Lib.hid fun j g hj hg => ?_⟩
                      rcases Nat.lt_or_ge j k3 with h | h
                      · have := HE3.out j g h hg; omega
                      · obtain rfl : j = k3 := by omega
                        rw [hx.out] at hg; cases hg; omega
                    case measure => simp [intOf]; omega
                · have X3 := Lib.hid (show k3 = M.length ∨ 3000 < m3 by omega)
                  have PO := Lib.hid (show ∀ b : Bool, b = decide ((3000 : Int) < m3) → LgPost (F, Q, M) w (.returned (.bool b)) W from fun b hbe => by
                    refine ⟨_, rfl, fun hb => ?_, BW.out⟩
                    have hb3 : ¬ (3000 : Int) < m3 := of_decide_eq_false (hbe.symm.trans hb)
                    have a1 := HA1.out; have a2 := HA2.out; have a3 := HA3.out
                    have y1 := X1.out; have y2 := X2.out; have y3 := X3.out
                    refine ⟨by show F.length ≤ _; omega, by show Q.length ≤ _; omega, by show M.length ≤ _; omega, fun f hf => ?_, fun s hs => ?_, fun f hf => ?_⟩
                    · obtain ⟨j, hj, e⟩ := List.getElem_of_mem hf
                      have := HE1.out j f (by show j < k; have : j < F.length := hj; omega) (by rw [List.getElem?_eq_getElem hj, e])
                      omega
                    · obtain ⟨j, hj, e⟩ := List.getElem_of_mem hs
                      have := HE2.out j s (by show j < k2; have : j < Q.length := hj; omega) (by rw [List.getElem?_eq_getElem hj, e])
                      omega
                    · obtain ⟨j, hj, e⟩ := List.getElem_of_mem hf
                      have := HE3.out j f (by show j < k3; have : j < M.length := hj; omega) (by rw [List.getElem?_eq_getElem hj, e])
                      omega)
                  by_cases hkf3 : k3 < M.length
                  all_goals
                    have hmI8 : k3 < M.length → ¬ ((m3 : Int) ≤ 3000) := by omega
                    first | (have hmI9 := hmI8 hkf3; clear hmI8) | clear hmI8
                    clear hlt3
                    go_wp2_with fail
                    go_ret
                    exact PO.out _ (by first | rfl | exact (decide_eq_true (by omega)).symm | exact (decide_eq_false (by omega)).symm)
end Go.Proofs.YtlfbfnkmbceejaaDoor
