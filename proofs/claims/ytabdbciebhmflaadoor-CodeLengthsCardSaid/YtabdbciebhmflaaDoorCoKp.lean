/-
  The contracts of the statements' own helpers over programs: Program.
  Conditions: as each states.
-/
import Derived.Test.YtabdbciebhmflaaDoorCoL
import Derived.RegionTactic
import Derived.BigRegion
import Derived.Outline
namespace Go.Proofs.YtabdbciebhmflaaDoor
open Go.ChangeShapes Go.WideShapes Go.ChangeAt Go.RowKit
set_option linter.unusedVariables false
set_option linter.unusedSimpArgs false
set_option maxRecDepth 100000

theorem keepCode_is {w : World} {u v : Value} {xs ys : List PIns} (hu : readsAt w u xs.length (insL xs)) (hv : readsAt w v ys.length (insL ys)) (hx : xs.length ≤ 140737488355328) {b : Bool} (hb : decide (xs = ys) = b) :
    Calls Tryd.prog 19 #[u, v] w fun e w' => e = .returned (.bool b) ∧ ∃ q, w' = w.drewN q := by subst hb; exact keepCode_any hu hv hx
theorem keepTexts_is {w : World} {u v : Value} {xs ys : List ByteArray} (hu : readsAt w u xs.length (strL xs)) (hv : readsAt w v ys.length (strL ys)) (hx : xs.length ≤ 140737488355328) {b : Bool} (hb : decide (xs = ys) = b) :
    Calls Tryd.prog 31 #[u, v] w fun e w' => e = .returned (.bool b) ∧ ∃ q, w' = w.drewN q := by subst hb; exact keepTexts_any hu hv hx
theorem keepInts_is {w : World} {u v : Value} {xs ys : List Int} (hu : readsAt w u xs.length (intL xs)) (hv : readsAt w v ys.length (intL ys)) (hx : xs.length ≤ 140737488355328) {b : Bool} (hb : decide (xs = ys) = b) :
    Calls Tryd.prog 32 #[u, v] w fun e w' => e = .returned (.bool b) ∧ ∃ q, w' = w.drewN q := by subst hb; exact keepInts_any hu hv hx
theorem below_drewN {w w' : World} (h : Below w.heap.size w w') (q : Nat) : Below w.heap.size w (w'.drewN q) := below_draws h q

theorem readsAt_drew {w : World} {v : Value} {n : Nat} {cs : List Value} (h : readsAt w v n cs) (q : Nat) : readsAt (w.drewN q) v n cs := h

/-- The sizes that a comparison of two programs goes through. -/
structure prS (P : PPr) : Prop where
  n1 : P.1.length ≤ 140737488355328
  n2 : P.2.1.length ≤ 140737488355328
  n3 : P.2.2.length ≤ 140737488355328
  fn : ∀ f ∈ P.1, f.2.2.length ≤ 140737488355328
  fm : ∀ m ∈ P.2.2, m.2.2.2.length ≤ 140737488355328

noncomputable def eqP (P Q : PPr) : Bool := @decide (P = Q) (Classical.propDecidable _)
theorem eqP_true {P Q : PPr} (h : P = Q) : eqP P Q = true := @decide_eq_true _ (Classical.propDecidable _) h
theorem eqP_false {P Q : PPr} (h : ¬ P = Q) : eqP P Q = false := @decide_eq_false _ (Classical.propDecidable _) h
theorem list_eq_of {α : Type} {l m : List α} (h : l.length = m.length) (e : ∀ (j : Nat) x y, j < l.length → l[j]? = some x → m[j]? = some y → x = y) : l = m := by
  refine List.ext_getElem h fun i h1 h2 => ?_
  exact e i _ _ h1 (List.getElem?_eq_getElem h1) (List.getElem?_eq_getElem h2)

set_option maxHeartbeats 16000000 in
theorem keepProgram_any {S S' : Nat → Prop} {w : World} {u1 u2 u3 v1 v2 v3 : Value} {P Q : PPr} (hP : prAt S w u1 u2 u3 P) (hQ : prAt S' w v1 v2 v3 Q) (hS : prS P) :
    Calls Tryd.prog 17 #[.agg #[u1, u2, u3], .agg #[v1, v2, v3]] w fun e w' => e = .returned (.bool (eqP P Q)) ∧ Below w.heap.size w w' := by
  obtain ⟨F, T, M⟩ := P
  obtain ⟨F', T', M'⟩ := Q
  obtain ⟨p1, p2, p3⟩ := hP
  obtain ⟨q1, q2, q3⟩ := hQ
  simp only at p1 p2 p3 q1 q2 q3
  obtain ⟨a1, c1, rfl, hF⟩ := p1
  obtain ⟨a2, c2, rfl⟩ := p2.slice
  obtain ⟨a3, c3, rfl, hM⟩ := p3
  obtain ⟨a1', c1', rfl, hF'⟩ := q1
  obtain ⟨a2', c2', rfl⟩ := q2.slice
  obtain ⟨a3', c3', rfl, hM'⟩ := q3
  have PT := Lib.hid p2; have QT := Lib.hid q2
  have PF := Lib.hid hF; have QF := Lib.hid hF'; have PM := Lib.hid hM; have QM := Lib.hid hM'
  have n1 := hS.n1; have n3 := hS.n3
  have HS := Lib.hid hS
  simp only at n1 n3
  clear p2 q2 hF hF' hM hM' hS
  obtain ⟨W, hW⟩ : ∃ W, (w.alloc (.cells #[.slice a1 F.length c1, .slice a2 T.length c2, .slice a3 M.length c3] 26)).alloc (.cells #[.slice a1' F'.length c1', .slice a2' T'.length c2', .slice a3' M'.length c3'] 26) = W := ⟨_, rfl⟩
  have BW := Lib.hid (show Below w.heap.size w W by rw [← hW]; exact down_alloc (down_alloc (Below.refl _ _) _) _)
  have ra : rowAt W w.heap.size 26 [.slice a1 F.length c1, .slice a2 T.length c2, .slice a3 M.length c3] := by rw [← hW]; exact (rowAt.made _ _ _).alloc _
  have rb : rowAt W (w.heap.size + 1) 26 [.slice a1' F'.length c1', .slice a2' T'.length c2', .slice a3' M'.length c3'] := by rw [← hW]; exact rowAt.made_at _ _ (by simp)
  have x0 : W.cell? ⟨w.heap.size, 0, none⟩ = some (.slice a1 F.length c1) := (ra.cell 0).trans rfl
  have x1 : W.cell? ⟨w.heap.size, 1, none⟩ = some (.slice a2 T.length c2) := (ra.cell 1).trans rfl
  have x2 : W.cell? ⟨w.heap.size, 2, none⟩ = some (.slice a3 M.length c3) := (ra.cell 2).trans rfl
  have y0 : W.cell? ⟨w.heap.size + 1, 0, none⟩ = some (.slice a1' F'.length c1') := (rb.cell 0).trans rfl
  have y1 : W.cell? ⟨w.heap.size + 1, 1, none⟩ = some (.slice a2' T'.length c2') := (rb.cell 1).trans rfl
  have y2 : W.cell? ⟨w.heap.size + 1, 2, none⟩ = some (.slice a3' M'.length c3') := (rb.cell 2).trans rfl
  by_cases h1 : F.length = F'.length
  · by_cases h2 : T = T'
    · by_cases h3 : M.length = M'.length
      · have H1 := Lib.hid h1; have H2 := Lib.hid h2; have H3 := Lib.hid h3
        have t1 : ((F.length : Int) != (F'.length : Int)) = false := by simp only [bne_eq_false_iff_eq]; omega
        have t3 : ((M.length : Int) != (M'.length : Int)) = false := by simp only [bne_eq_false_iff_eq]; omega
        clear h1 h2 h3
        go_enter Tryd.func17, Tryd.ntmps17
        go_wp2_with fail
        clear hW
        refine (keepTexts_is (PT.out.below BW.out).reads (QT.out.below BW.out).reads HS.out.n2 (decide_eq_true H2.out)).mono ?_
        rintro e w' ⟨rfl, q, rfl⟩
        have RA0 := Lib.hid (show rowAt (W.drewN q) w.heap.size 26 [.slice a1 F.length c1, .slice a2 T.length c2, .slice a3 M.length c3] from ra)
        have RB0 := Lib.hid (show rowAt (W.drewN q) (w.heap.size + 1) 26 [.slice a1' F'.length c1', .slice a2' T'.length c2', .slice a3' M'.length c3'] from rb)
        have BW0 := Lib.hid (below_drewN BW.out q)
        go_wp2_with fail
        go_loopw [5] (fun i wr => ∃ k : Nat, i = .int .i64 k ∧ k ≤ F.length ∧ Hid (rowAt wr w.heap.size 26 [.slice a1 F.length c1, .slice a2 T.length c2, .slice a3 M.length c3]) ∧ Hid (rowAt wr (w.heap.size + 1) 26 [.slice a1' F'.length c1', .slice a2' T'.length c2', .slice a3' M'.length c3']) ∧ Hid (Below w.heap.size w wr) ∧ Hid (∀ (j : Nat) x y, j < k → F[j]? = some x → F'[j]? = some y → x = y)) (fun i _ => F.length - (intOf i).toNat)
        case atStart => exact ⟨0, rfl, Nat.zero_le _, RA0, RB0, BW0, Lib.hid fun j x y hj => absurd hj (by omega)⟩
        case round =>
          obtain ⟨k, rfl, hk, RA, RB, BR, HE⟩ := hrel
          clear x0 x1 x2 y0 y1 y2 ra rb
          by_cases hlt : k < F.length
          · have hlt' : k < F'.length := by have := H1.out; omega
            have hx := Lib.hid (List.getElem?_eq_getElem hlt)
            have hy := Lib.hid (List.getElem?_eq_getElem hlt')
            have hcl := HS.out.fn F[k] (List.getElem_mem hlt)
            generalize F[k] = f at *
            generalize F'[k] = g at *
            have x0 : wr.cell? ⟨w.heap.size, 0, none⟩ = some (.slice a1 F.length c1) := (RA.out.cell 0).trans rfl
            have y0 : wr.cell? ⟨w.heap.size + 1, 0, none⟩ = some (.slice a1' F'.length c1') := (RB.out.cell 0).trans rfl
            rcases PF.out with hz | ⟨rb', ro, rfl, hSb, hrb, hc⟩
            · omega
            · rcases QF.out with hz | ⟨sb, so, rfl, hSb', hsb, hd⟩
              · omega
              · obtain ⟨e0, e1, sv, e2, hsv⟩ := (hc k f hx.out).upon (upon_of_below BR.out) (fun _ _ t => t.elim) hrb (fun t => t)
                obtain ⟨d0, d1, tv, d2, htv⟩ := (hd k g hy.out).upon (upon_of_below BR.out) (fun _ _ t => t.elim) hsb (fun t => t)
                obtain ⟨sa, sc, rfl⟩ := hsv.slice
                obtain ⟨ta, tc, rfl⟩ := htv.slice
                have SV := Lib.hid hsv.reads; have TV := Lib.hid htv.reads
                clear hc hd hsv htv hSb hSb'
                have hkI : (k : Int) < F.length := by omega
                have hkI' : (k : Int) < F'.length := by omega
                have NO := Lib.hid (show f ≠ g → eqP (F, T, M) (F', T', M') = false from fun hne => eqP_false fun e => by
                  have e1 : F = F' := congrArg Prod.fst e
                  have a1 := hx.out; have a2 := hy.out
                  rw [e1, a2] at a1
                  exact hne (Option.some.inj a1).symm)
                by_cases c0 : f.1 = g.1
                · have s0 : (f.1 != g.1) = false := by simpa using c0
                  by_cases c1 : f.2.1 = g.2.1
                  · have s1 : (f.2.1 != g.2.1) = false := by simpa using c1
                    by_cases c2 : f.2.2 = g.2.2
                    · have EQ := Lib.hid (show f = g from Prod.ext c0 (Prod.ext c1 c2))
                      have CC := Lib.hid (decide_eq_true c2)
                      clear c0 c1 c2
                      go_wp2_with fail
                      go_quiet ((go_at_call 19; refine Calls.quiet_of (keepCode_is (readsAt_drew SV.out _) (readsAt_drew TV.out _) hcl CC.out)))
                      go_wp2_with fail
                      go_roundw
                      case rel =>
                        refine ⟨k + 1, by go_num, by omega, RA, RB, Lib.hid (below_drewN BR.out _), Lib.hid fun j x y hj hjx hjy => ?_⟩
                        rcases Nat.lt_or_ge j k with h | h
                        · exact HE.out j x y h hjx hjy
                        · obtain rfl : j = k := by omega
                          rw [hx.out] at hjx; rw [hy.out] at hjy
                          cases hjx; cases hjy; exact EQ.out
                      case measure => simp [intOf]; omega
                    · have E := Lib.hid (NO.out fun e => c2 (by rw [e]))
                      have CC := Lib.hid (decide_eq_false c2)
                      clear c0 c1 c2
                      go_wp2_with fail
                      go_quiet ((go_at_call 19; refine Calls.quiet_of (keepCode_is (readsAt_drew SV.out _) (readsAt_drew TV.out _) hcl CC.out)))
                      go_wp2_with fail
                      go_ret
                      exact ⟨ret_bool E.out.symm, below_drewN BR.out _⟩
                  · have s1 : (f.2.1 != g.2.1) = true := by simpa using c1
                    have E := Lib.hid (NO.out fun e => c1 (by rw [e]))
                    clear c0 c1
                    go_wp2_with fail
                    go_quiet (fail)
                    go_wp2_with fail
                    go_ret
                    exact ⟨ret_bool E.out.symm, below_drewN BR.out _⟩
                · have s0 : (f.1 != g.1) = true := by simpa using c0
                  have E := Lib.hid (NO.out fun e => c0 (by rw [e]))
                  clear c0
                  go_wp2_with fail
                  go_quiet (fail)
                  go_wp2_with fail
                  go_ret
                  exact ⟨ret_bool E.out.symm, below_drewN BR.out _⟩
          · obtain rfl : k = F.length := by omega
            have EF := Lib.hid (show F = F' from list_eq_of H1.out fun j x y hj => HE.out j x y hj)
            have x0 : wr.cell? ⟨w.heap.size, 0, none⟩ = some (.slice a1 F.length c1) := (RA.out.cell 0).trans rfl
            have y0 : wr.cell? ⟨w.heap.size + 1, 0, none⟩ = some (.slice a1' F'.length c1') := (RB.out.cell 0).trans rfl
            have x2 : wr.cell? ⟨w.heap.size, 2, none⟩ = some (.slice a3 M.length c3) := (RA.out.cell 2).trans rfl
            have y2 : wr.cell? ⟨w.heap.size + 1, 2, none⟩ = some (.slice a3' M'.length c3') := (RB.out.cell 2).trans rfl
            obtain ⟨wo, hwo⟩ : ∃ wo : World, wo = wr := ⟨_, rfl⟩
            subst hwo
            go_wp2_with fail
            clear x0 y0 x2 y2
            go_loopw [6] (fun i wr => ∃ k : Nat, i = .int .i64 k ∧ k ≤ M.length ∧ Hid (rowAt wr w.heap.size 26 [.slice a1 F.length c1, .slice a2 T.length c2, .slice a3 M.length c3]) ∧ Hid (rowAt wr (w.heap.size + 1) 26 [.slice a1' F'.length c1', .slice a2' T'.length c2', .slice a3' M'.length c3']) ∧ Hid (Below w.heap.size w wr) ∧ Hid (∀ (j : Nat) x y, j < k → M[j]? = some x → M'[j]? = some y → x = y)) (fun i _ => M.length - (intOf i).toNat)
            case atStart => exact ⟨0, rfl, Nat.zero_le _, RA, RB, BR, Lib.hid fun j x y hj => absurd hj (by omega)⟩
            case round =>
              clear RA RB BR HE
              obtain ⟨k, rfl, hk, RA, RB, BR, HE⟩ := hrel
              by_cases hlt : k < M.length
              · have hlt' : k < M'.length := by have := H3.out; omega
                have hx := Lib.hid (List.getElem?_eq_getElem hlt)
                have hy := Lib.hid (List.getElem?_eq_getElem hlt')
                have hcl := HS.out.fm M[k] (List.getElem_mem hlt)
                generalize M[k] = f at *
                generalize M'[k] = g at *
                have x2 : wr.cell? ⟨w.heap.size, 2, none⟩ = some (.slice a3 M.length c3) := (RA.out.cell 2).trans rfl
                have y2 : wr.cell? ⟨w.heap.size + 1, 2, none⟩ = some (.slice a3' M'.length c3') := (RB.out.cell 2).trans rfl
                rcases PM.out with hz | ⟨rb', ro, rfl, hSb, hrb, hc⟩
                · omega
                · rcases QM.out with hz | ⟨sb, so, rfl, hSb', hsb, hd⟩
                  · omega
                  · obtain ⟨e0, e1, e1', sv, e2, hsv⟩ := (hc k f hx.out).upon (upon_of_below BR.out) (fun _ _ t => t.elim) hrb (fun t => t)
                    obtain ⟨d0, d1, d1', tv, d2, htv⟩ := (hd k g hy.out).upon (upon_of_below BR.out) (fun _ _ t => t.elim) hsb (fun t => t)
                    obtain ⟨sa, sc, rfl⟩ := hsv.slice
                    obtain ⟨ta, tc, rfl⟩ := htv.slice
                    have SV := Lib.hid hsv; have TV := Lib.hid htv
                    have zb : rb' < wr.heap.size := Nat.lt_of_lt_of_le hrb BR.out.size
                    have zs : sb < wr.heap.size := Nat.lt_of_lt_of_le hsb BR.out.size
                    have zw : w.heap.size + 1 < wr.heap.size := RB.out.lt
                    have zw0 : w.heap.size < wr.heap.size := by omega
                    clear hc hd hsv htv hSb hSb'
                    have hkI : (k : Int) < M.length := by omega
                    have hkI' : (k : Int) < M'.length := by omega
                    have NO := Lib.hid (show f ≠ g → eqP (F, T, M) (F', T', M') = false from fun hne => eqP_false fun e => by
                      have e1 : M = M' := congrArg (fun p => p.2.2) e
                      have a1 := hx.out; have a2 := hy.out
                      rw [e1, a2] at a1
                      exact hne (Option.some.inj a1).symm)
                    by_cases c0 : f.1 = g.1
                    · have s0 : (f.1 != g.1) = false := by simpa using c0
                      by_cases c1 : f.2.1 = g.2.1
                      · have s1 : (f.2.1 != g.2.1) = false := by simpa using c1
                        by_cases c2 : f.2.2.1 = g.2.2.1
                        · have s2 : (f.2.2.1 != g.2.2.1) = false := by simpa using c2
                          by_cases cL : f.2.2.2 = g.2.2.2
                          · have EQ := Lib.hid (show f = g from Prod.ext c0 (Prod.ext c1 (Prod.ext c2 cL)))
                            have CC := Lib.hid (decide_eq_true cL)
                            clear c0 c1 c2 cL
                            go_wp2_with fail
                            go_region
                            all_goals
                              go_wp2_with (go_at_call 32; refine (keepInts_is (SV.out.below (by repeat (first | exact Below.refl _ _ | refine down_alloc ?_ _ | refine down_drew ?_ | refine down_drewN ?_ _ | refine down_set ?_ (by simp) _))).reads (TV.out.below (by repeat (first | exact Below.refl _ _ | refine down_alloc ?_ _ | refine down_drew ?_ | refine down_drewN ?_ _ | refine down_set ?_ (by simp) _))).reads hcl CC.out).mono ?_; rintro e w' ⟨rfl, q, rfl⟩)
                              go_roundw
                              case rel =>
                                refine ⟨k + 1, by go_num, by omega, Lib.hid (RA.out.below (by repeat (first | exact Below.refl _ _ | refine down_alloc ?_ _ | refine down_drew ?_ | refine down_drewN ?_ _ | refine down_set ?_ (by simp) _)) RA.out.lt), Lib.hid (RB.out.below (by repeat (first | exact Below.refl _ _ | refine down_alloc ?_ _ | refine down_drew ?_ | refine down_drewN ?_ _ | refine down_set ?_ (by simp) _)) RB.out.lt), Lib.hid (down_call BR.out (by repeat (first | exact Below.refl _ _ | refine down_alloc ?_ _ | refine down_drew ?_ | refine down_drewN ?_ _ | refine down_set ?_ (by simp) _))), Lib.hid fun j x y hj hjx hjy => ?_⟩
                                rcases Nat.lt_or_ge j k with h | h
                                · exact HE.out j x y h hjx hjy
                                · obtain rfl : j = k := by omega
                                  rw [hx.out] at hjx; rw [hy.out] at hjy
                                  cases hjx; cases hjy; exact EQ.out
                              case measure => simp [intOf]; omega
                          · have E := Lib.hid (NO.out fun e => cL (by rw [e]))
                            have CC := Lib.hid (decide_eq_false cL)
                            clear c0 c1 c2 cL
                            go_wp2_with fail
                            go_region
                            all_goals
                              go_wp2_with (go_at_call 32; refine (keepInts_is (SV.out.below (by repeat (first | exact Below.refl _ _ | refine down_alloc ?_ _ | refine down_drew ?_ | refine down_drewN ?_ _ | refine down_set ?_ (by simp) _))).reads (TV.out.below (by repeat (first | exact Below.refl _ _ | refine down_alloc ?_ _ | refine down_drew ?_ | refine down_drewN ?_ _ | refine down_set ?_ (by simp) _))).reads hcl CC.out).mono ?_; rintro e w' ⟨rfl, q, rfl⟩)
                              go_ret
                              exact ⟨ret_bool E.out.symm, down_call BR.out (by repeat (first | exact Below.refl _ _ | refine down_alloc ?_ _ | refine down_drew ?_ | refine down_drewN ?_ _ | refine down_set ?_ (by simp) _))⟩
                        · have s2 : (f.2.2.1 != g.2.2.1) = true := by simpa using c2
                          have E := Lib.hid (NO.out fun e => c2 (by rw [e]))
                          clear c0 c1 c2
                          go_wp2_with fail
                          go_region
                          all_goals
                            go_wp2_with fail
                            go_ret
                            exact ⟨ret_bool E.out.symm, down_call BR.out (by repeat (first | exact Below.refl _ _ | refine down_alloc ?_ _ | refine down_drew ?_ | refine down_drewN ?_ _ | refine down_set ?_ (by simp) _))⟩
                      · have s1 : (f.2.1 != g.2.1) = true := by simpa using c1
                        have E := Lib.hid (NO.out fun e => c1 (by rw [e]))
                        clear c0 c1
                        go_wp2_with fail
                        go_region
                        all_goals
                          go_wp2_with fail
                          go_ret
                          exact ⟨ret_bool E.out.symm, down_call BR.out (by repeat (first | exact Below.refl _ _ | refine down_alloc ?_ _ | refine down_drew ?_ | refine down_drewN ?_ _ | refine down_set ?_ (by simp) _))⟩
                    · have s0 : (f.1 != g.1) = true := by simpa using c0
                      have E := Lib.hid (NO.out fun e => c0 (by rw [e]))
                      clear c0
                      go_wp2_with fail
                      go_region
                      all_goals
                        go_wp2_with fail
                        go_ret
                        exact ⟨ret_bool E.out.symm, down_call BR.out (by repeat (first | exact Below.refl _ _ | refine down_alloc ?_ _ | refine down_drew ?_ | refine down_drewN ?_ _ | refine down_set ?_ (by simp) _))⟩
              · obtain rfl : k = M.length := by omega
                have EM := Lib.hid (show M = M' from list_eq_of H3.out fun j x y hj => HE.out j x y hj)
                have E := Lib.hid (eqP_true (show (F, T, M) = (F', T', M') by rw [EF.out, H2.out, EM.out]))
                have x2 : wr.cell? ⟨w.heap.size, 2, none⟩ = some (.slice a3 M.length c3) := (RA.out.cell 2).trans rfl
                have y2 : wr.cell? ⟨w.heap.size + 1, 2, none⟩ = some (.slice a3' M'.length c3') := (RB.out.cell 2).trans rfl
                go_wp2_with fail
                go_ret
                exact ⟨ret_bool E.out.symm, BR.out⟩
      · have H2 := Lib.hid h2
        have E := Lib.hid (eqP_false (show ¬ (F, T, M) = (F', T', M') from fun e => h3 (by rw [show M = M' from congrArg (fun p => p.2.2) e])))
        have t1 : ((F.length : Int) != (F'.length : Int)) = false := by simp only [bne_eq_false_iff_eq]; omega
        have t3 : ((M.length : Int) != (M'.length : Int)) = true := by simp only [bne_iff_ne, ne_eq]; omega
        clear h1 h2 h3
        go_enter Tryd.func17, Tryd.ntmps17
        go_wp2_with fail
        clear hW
        refine (keepTexts_is (PT.out.below BW.out).reads (QT.out.below BW.out).reads HS.out.n2 (decide_eq_true H2.out)).mono ?_
        rintro e w' ⟨rfl, q, rfl⟩
        go_wp2_with fail
        go_ret
        exact ⟨ret_bool E.out.symm, below_drewN BW.out _⟩
    · have H2 := Lib.hid h2
      have E := Lib.hid (eqP_false (show ¬ (F, T, M) = (F', T', M') from fun e => h2 (congrArg (fun p => p.2.1) e)))
      have t1 : ((F.length : Int) != (F'.length : Int)) = false := by simp only [bne_eq_false_iff_eq]; omega
      clear h1 h2
      go_enter Tryd.func17, Tryd.ntmps17
      go_wp2_with fail
      clear hW
      refine (keepTexts_is (PT.out.below BW.out).reads (QT.out.below BW.out).reads HS.out.n2 (decide_eq_false H2.out)).mono ?_
      rintro e w' ⟨rfl, q, rfl⟩
      go_wp2_with fail
      go_ret
      exact ⟨ret_bool E.out.symm, below_drewN BW.out _⟩
  · have E := Lib.hid (eqP_false (show ¬ (F, T, M) = (F', T', M') from fun e => h1 (by rw [show F = F' from congrArg Prod.fst e])))
    have t1 : ((F.length : Int) != (F'.length : Int)) = true := by simp only [bne_iff_ne, ne_eq]; omega
    clear h1
    go_enter Tryd.func17, Tryd.ntmps17
    go_wp2_with fail
    go_ret
    exact ⟨ret_bool E.out.symm, BW.out⟩
end Go.Proofs.YtabdbciebhmflaaDoor
