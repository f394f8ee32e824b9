/-
  The walk of the law VerifyFlows.
  Conditions: as stated.
-/
import Derived.Test.YtlfbfnkmbceejaaDoorVeFp
namespace Go.Proofs.YtlfbfnkmbceejaaDoor
open Go.ChangeShapes Go.WideShapes Go.ChangeAt Go.RowKit
set_option linter.unusedVariables false
set_option linter.unusedSimpArgs false
set_option maxRecDepth 100000

set_option maxHeartbeats 16000000 in
theorem flows_walk (v1 v2 v3 : Value) (P : PPr) (fb : Int) (v : Value) (ways : List Bool) (w : World) (hp : prAt (fun _ => False) w v1 v2 v3 P) (hf : prF P) (hr : PRe P) (wb : (Lit.int .u8 fb).wf = true) (hw : rdAt (fun _ => False) w v ways.length (ways.map Value.bool)) (hwl : ways.length ≤ reachBytes) (T : VeTab w) :
    Calls Tryd.prog 4 #[.agg #[v1, v2, v3], .int .u8 fb, v] w fun e w' => e = .returned (.bool true) ∧ Below w.heap.size w w' := by
  have hb8 : 0 ≤ fb ∧ fb < 256 := by simp [Lit.wf, IntKind.min, IntKind.max, IntKind.signed, IntKind.bits] at wb; omega
  clear wb
  obtain ⟨fn, rfl⟩ : ∃ n : Nat, fb = n := ⟨fb.toNat, by omega⟩
  rw [reach_eq] at hwl
  have HF := Lib.hid hf
  have HR := Lib.hid hr
  have HP := Lib.hid hp
  have HT := Lib.hid T
  have HW := Lib.hid hw
  obtain ⟨wa, wc, rfl, hways⟩ := hw
  obtain ⟨⟨a1, c1, rfl, -⟩, ⟨a2, c2, rfl, -⟩, ⟨a3, c3, rfl, -⟩⟩ := hp
  obtain ⟨W0, hW0⟩ : ∃ W0, w.alloc (.cells #[.slice a1 P.1.length c1, .slice a2 P.2.1.length c2, .slice a3 P.2.2.length c3] 26) = W0 := ⟨_, rfl⟩
  have B0 := Lib.hid (show Below w.heap.size w W0 by rw [← hW0]; exact down_alloc (Below.refl _ _) _)
  have R0 := Lib.hid (show rowAt W0 w.heap.size 26 [.slice a1 P.1.length c1, .slice a2 P.2.1.length c2, .slice a3 P.2.2.length c3] by rw [← hW0]; exact rowAt.made _ _ _)
  have x0 : W0.cell? ⟨w.heap.size, 0, none⟩ = some (.slice a1 P.1.length c1) := (R0.out.cell 0).trans rfl
  have x1 : W0.cell? ⟨w.heap.size, 1, none⟩ = some (.slice a2 P.2.1.length c2) := (R0.out.cell 1).trans rfl
  have x2 : W0.cell? ⟨w.heap.size, 2, none⟩ = some (.slice a3 P.2.2.length c3) := (R0.out.cell 2).trans rfl
  clear hf hr T
  go_enter Tryd.func4, Tryd.ntmps4
  go_wp2_with fail
  clear hW0 x0 x1 x2
  refine (large_any (HP.out.below B0.out) HR.out HF.out.st).mono ?_
  rintro e w1 ⟨lg, rfl, hlg, hb⟩
  have B1 := Lib.hid (down_call B0.out hb)
  obtain ⟨r1, x0, x1, x2⟩ := prog_row R0.out hb
  have R1 := Lib.hid r1
  clear hb r1
  cases lg
  · have SM := Lib.hid (hlg rfl)
    clear hlg
    have n3 := SM.out.n1
    by_cases hn : P.1.length = 0
    · have hnI : ((P.1.length : Nat) : Int) = 0 := by omega
      clear hn
      go_wp2_with fail
      refine (wakes_any _ (HT.out.below B1.out)).mono ?_
      rintro e w2 ⟨rfl, hb⟩
      have BX := Lib.hid (down_call B1.out hb)
      go_wp2_with fail
      go_ret
      exact ⟨rfl, BX.out⟩
    · have hnI : ¬ ((P.1.length : Nat) : Int) = 0 := by omega
      have hnB : (((P.1.length : Nat) : Int) == 0) = false := beq_eq_false_iff_ne.2 hnI
      by_cases hw3 : 300 < ways.length
      · have hw3I : (300 : Int) < ways.length := by omega
        go_wp2_with fail
        refine (wakes_any _ (HT.out.below B1.out)).mono ?_
        rintro e w2 ⟨rfl, hb⟩
        have BX := Lib.hid (down_call B1.out hb)
        go_wp2_with fail
        go_ret
        exact ⟨rfl, BX.out⟩
      · have hw3I : ¬ (300 : Int) < ways.length := by omega
        obtain ⟨K, hK⟩ : ∃ K : Nat, fn % P.1.length = K := ⟨_, rfl⟩
        have hKl : K < P.1.length := hK ▸ Nat.mod_lt fn (Nat.pos_of_ne_zero hn)
        have hKI : ((fn : Int) % (P.1.length : Nat)) = (K : Int) := by rw [← hK]; exact (Int.natCast_emod fn P.1.length).symm
        have HKI := Lib.hid hKI
        have hKl2 : (K : Int) < (P.1.length : Nat) := by omega
        obtain ⟨⟨f1, f2, code⟩, hf⟩ : ∃ f, P.1[K]? = some f := ⟨_, List.getElem?_eq_getElem hKl⟩
        have HFX := Lib.hid hf
        clear hK hKI hf hn
        go_wp2_with fail
        refine (check_any (HP.out.below B1.out) HF.out (HT.out.below B1.out) 15).mono ?_
        rintro e w2 ⟨rfl, hb⟩
        have B2 := Lib.hid (down_call B1.out hb)
        clear x0 x1 x2
        obtain ⟨r2, x0, x1, x2⟩ := prog_row R1.out hb
        have R2 := Lib.hid r2
        clear hb r2
        obtain ⟨ck, hck⟩ : ∃ z, checkP P 15 = z := ⟨_, rfl⟩
        rw [hck]
        by_cases hc0 : ck = 0
        · subst hc0
          obtain ⟨hg, hrs⟩ := check_ok hck
          obtain ⟨l, hst⟩ := rights_some hg hrs HFX.out
          have HG := Lib.hid hg
          have HST := Lib.hid hst
          clear hck hg hrs hst
          rw [HKI.out]
          go_wp2_with fail
          refine (states_any (HP.out.below B2.out) HF.out (HT.out.below B2.out) K).mono ?_
          rintro e w3 ⟨sv, rfl, ho, hb⟩
          rw [HST.out] at ho
          obtain ⟨g, rfl, hrow, hg3⟩ := ho
          rw [HST.out, show (some l).isSome = true from rfl]
          obtain ⟨-, -, FL⟩ := statesP_some HFX.out HST.out
          have FH := Lib.hid FL
          have hl := FL.len
          have hpos := FL.pos
          simp only at hl hpos
          have B3 := Lib.hid (down_call B2.out hb)
          clear x0 x1 x2
          obtain ⟨r3, x0, x1, x2⟩ := prog_row R2.out hb
          have R3 := Lib.hid r3
          have RG := Lib.hid hrow
          obtain ⟨cv, ⟨pb, po, rfl, hpb, e0, e1, e2⟩, hcv⟩ := fn_cells (HP.out.below B3.out).1 HFX.out
          obtain ⟨ca, cc, rfl⟩ := hcv.slice
          have c6 : code.length ≤ 3000 := SM.out.fn _ (List.mem_of_getElem? HFX.out)
          have HCV := Lib.hid hcv
          simp only at e0 e1 e2
          have hnn : ((code.length : Nat) != code.length) = false := by simp
          have hnnI : (((code.length : Nat) : Int) != (code.length : Nat)) = false := by simp
          rw [hl]
          clear hb r3 hrow FL hcv
          go_wp2_with fail
          refine (rgood_is HG.out _ (HP.out.below B3.out) HF.out).mono ?_
          rintro e w4 ⟨rfl, hb⟩
          have B4 := Lib.hid (down_call B3.out hb)
          have RG4 := Lib.hid (RG.out.below hb RG.out.lt)
          have hcv4 := HCV.out.below hb
          obtain ⟨ca', cc', he, hcells⟩ := hcv4
          cases he
          simp only at hcells
          rcases hcells with hz | ⟨cb, co, rfl, -, hcb, hcells⟩
          · omega
          have HCL := Lib.hid hcells
          have FO := Lib.hid (fnOk_of HG.out HFX.out)
          have hgl : g < w4.heap.size := RG4.out.lt
          have F00 := Lib.hid (show FlAt l 0 (0, 0) from flAt_of FH.out FH.out.first (by decide))
          clear hb x0 x1 x2 e0 e1 e2 hcells
          go_wp2_with fail
          go_loopw [11, 12, 13, 14] (fun va vh vt vi wr => ∃ (A : Nat) (h t : Int) (i : Nat), i ≤ ways.length ∧ va = .int .i64 A ∧ vh = .int .i64 h ∧ vt = .int .i64 t ∧ vi = .int .i64 i ∧ Hid (FlAt l A (h, t)) ∧ Hid (Below w4.heap.size w4 wr)) (fun _ _ _ vi _ => ways.length - (intOf vi).toNat)
          case atStart => exact ⟨0, 0, 0, 0, Nat.zero_le _, rfl, rfl, rfl, rfl, F00, Lib.hid (Below.refl _ _)⟩
          case round =>
            obtain ⟨A, h, t, i, hi, rfl, rfl, rfl, rfl, HFA, HB⟩ := hrel
            have BA := Lib.hid (down_call B4.out HB.out)
            by_cases hlt : i < ways.length
            · have hltI : (i : Int) < ways.length := by omega
              obtain ⟨hs, hA, h1, h2, h3, h4⟩ := HFA.out
              simp only at h1 h2 h3 h4
              have hAc : A < code.length := by rw [← hl]; exact hA
              have hAI : (A : Int) < code.length := by omega
              have hAJ : ¬ (code.length : Int) ≤ A := by omega
              have g0 : wr.cell? ⟨g, A * 2, none⟩ = some (.int .i64 h) := by
                have := (HB.out.cell (p := ⟨g, A * 2, none⟩) hgl).trans ((RG4.out.cell (A * 2)).trans (stL_get l A hA).1)
                rw [hs] at this; exact this
              have g1 : wr.cell? ⟨g, A * 2 + 1, none⟩ = some (.int .i64 t) := by
                have := (HB.out.cell (p := ⟨g, A * 2 + 1, none⟩) hgl).trans ((RG4.out.cell (A * 2 + 1)).trans (stL_get l A hA).2)
                rw [hs] at this; exact this
              have q0 : ∀ w, (Op.equalIn 10000 47 (.agg #[.int .i64 h, .int .i64 t]) (.agg #[.int .i64 h, .int .i64 t])).run Tryd.prog w = .ok true w := fun w => by rw [run_st_eq]; simp
              obtain ⟨⟨op, a, b⟩, hx⟩ : ∃ p, code[A]? = some p := ⟨_, List.getElem?_eq_getElem hAc⟩
              have gi := insL_get code A _ hx
              have k0 : wr.cell? ⟨cb, co + A * 3, none⟩ = some (.int .i64 op) := (HB.out.cell (p := ⟨cb, co + A * 3, none⟩) hcb).trans (HCL.out _ _ gi.1)
              have k1 : wr.cell? ⟨cb, co + A * 3 + 1, none⟩ = some (.int .i64 a) := (HB.out.cell (p := ⟨cb, co + A * 3 + 1, none⟩) hcb).trans (HCL.out _ _ gi.2.1)
              have k2 : wr.cell? ⟨cb, co + A * 3 + 2, none⟩ = some (.int .i64 b) := (HB.out.cell (p := ⟨cb, co + A * 3 + 2, none⟩) hcb).trans (HCL.out _ _ gi.2.2)
              have hgd : opGood op a b = true := FO.out.good _ (List.mem_of_getElem? hx)
              obtain ⟨st1, st2, st3⟩ := flow_step FH.out HFA.out hx
              have ST := Lib.hid st3
              have EO := Lib.hid st2
              have RE := Lib.hid (ret_eff hgd)
              have GD := Lib.hid hgd
              obtain ⟨tk, htk⟩ : ∃ x, insT (op, a, b) = x := ⟨_, rfl⟩
              obtain ⟨lv, hlv⟩ : ∃ x, insLv (op, a, b) = x := ⟨_, rfl⟩
              have b1 := insT_bd (op, a, b)
              have b2 := insLv_pos (op, a, b)
              have b3 := insLv_le (op, a, b)
              rw [htk] at st1 b1 RE
              rw [hlv] at b2 b3 RE
              simp only at st1
              have HTK := Lib.hid htk
              have HLV := Lib.hid hlv
              have hwv : ∃ wy, ways[i]? = some wy ∧ wr.cell? ⟨(match wa with | some x => x.block | none => 0), (match wa with | some x => x.off + i | none => 0), none⟩ = some (.bool wy) ∧ ∃ bb oo, wa = some ⟨bb, oo, none⟩ := by
                refine ⟨ways[i], List.getElem?_eq_getElem hlt, ?_⟩
                rcases hways with hz | ⟨bb, oo, rfl, -, hbb, hcw⟩
                · omega
                · exact ⟨(BA.out.cell (p := ⟨bb, oo + i, none⟩) hbb).trans (hcw i _ (by rw [List.getElem?_map, List.getElem?_eq_getElem hlt]; rfl)), bb, oo, rfl⟩
              obtain ⟨wy, -, hwcell, bb, oo, rfl⟩ := hwv
              simp only at hwcell
              have HWC := Lib.hid hwcell
              clear gi hs hx hgd st2 st3 htk hlv hwcell
              obtain ⟨W5, hW5⟩ : ∃ W, wr.alloc (.cells #[.int .i64 op, .int .i64 a, .int .i64 b] 49) = W := ⟨_, rfl⟩
              have bW5 : Below wr.heap.size wr W5 := by rw [← hW5]; exact down_alloc (Below.refl _ _) _
              have R5 := Lib.hid (show rowAt W5 wr.heap.size 49 [.int .i64 op, .int .i64 a, .int .i64 b] by rw [← hW5]; exact rowAt.made _ _ _)
              have B5 := Lib.hid (down_call HB.out bW5)
              have y0 : W5.cell? ⟨wr.heap.size, 0, none⟩ = some (.int .i64 op) := (R5.out.cell 0).trans rfl
              have y1 : W5.cell? ⟨wr.heap.size, 1, none⟩ = some (.int .i64 a) := (R5.out.cell 1).trans rfl
              have y2 : W5.cell? ⟨wr.heap.size, 2, none⟩ = some (.int .i64 b) := (R5.out.cell 2).trans rfl
              clear bW5
              go_wp2_with fail
              refine (of_is GD.out _).mono ?_
              rintro e w6 ⟨rfl, hb⟩
              rw [HTK.out, HLV.out]
              have B6 := Lib.hid (down_call B5.out hb)
              have R6 := Lib.hid (R5.out.below hb R5.out.lt)
              have WC6 := Lib.hid (show w6.cell? ⟨bb, oo + i, none⟩ = some (.bool wy) by
                have hbb : bb < wr.heap.size := World.block_lt_of_cell? wr _ HWC.out
                have h5 : W5.cell? ⟨bb, oo + i, none⟩ = wr.cell? ⟨bb, oo + i, none⟩ := by rw [← hW5]; exact (down_alloc (Below.refl wr.heap.size wr) _).cell (p := ⟨bb, oo + i, none⟩) hbb
                have hbb5 : bb < W5.heap.size := by rw [← hW5]; simp; omega
                exact ((hb.cell (p := ⟨bb, oo + i, none⟩) hbb5).trans h5).trans HWC.out)
              clear hb y0 y1 y2 g0 g1 k0 k1 k2 q0 hW5
              have BZ6 := Lib.hid (down_call B4.out B6.out)
              have z0 : w6.cell? ⟨wr.heap.size, 0, none⟩ = some (.int .i64 op) := (R6.out.cell 0).trans rfl
              have z1 : w6.cell? ⟨wr.heap.size, 1, none⟩ = some (.int .i64 a) := (R6.out.cell 1).trans rfl
              have z2 : w6.cell? ⟨wr.heap.size, 2, none⟩ = some (.int .i64 b) := (R6.out.cell 2).trans rfl
              have zs := R6.out.lt
              have zw := WC6.out
              have zb : bb < w6.heap.size := World.block_lt_of_cell? w6 _ WC6.out
              have HB7 := fun o => down_alloc B6.out o
              have B7 := Lib.hid HB7
              have HZ7 := fun o => down_alloc BZ6.out o
              have BZ7 := Lib.hid HZ7
              clear HB7 HZ7
              by_cases h9 : op = 9
              · subst h9
                obtain ⟨et, el⟩ := RE.out.1 rfl
                subst et; subst el
                have eo := endOk_9 a b (h, t)
                rw [EO.out] at eo
                have eh : h = 1 ∧ t = 0 := by simpa using eo.symm
                obtain ⟨eh1, eh2⟩ := eh
                subst eh1; subst eh2
                clear eo
                go_wp2_with fail
                refine (wakes_any _ (HT.out.below (BZ7.out _))).mono ?_
                rintro e w8 ⟨rfl, hb⟩
                have BX := Lib.hid (down_call (BZ7.out _) hb)
                go_wp2_with fail
                go_ret
                exact ⟨rfl, BX.out⟩
              · have t9 : (op == 9) = false := by rw [beq_eq_false_iff_ne]; exact h9
                by_cases h8 : op = 8
                · subst h8
                  obtain ⟨et, el⟩ := RE.out.2 rfl
                  subst et; subst el
                  have eo := endOk_8 a b (h, t)
                  rw [EO.out] at eo
                  have eh : h = 2 ∧ t = 0 := by simpa using eo.symm
                  obtain ⟨eh1, eh2⟩ := eh
                  subst eh1; subst eh2
                  clear eo
                  go_wp2_with fail
                  refine (wakes_any _ (HT.out.below (BZ7.out _))).mono ?_
                  rintro e w8 ⟨rfl, hb⟩
                  have BX := Lib.hid (down_call (BZ7.out _) hb)
                  go_wp2_with fail
                  go_ret
                  exact ⟨rfl, BX.out⟩
                · have t8 : (op == 8) = false := by rw [beq_eq_false_iff_ne]; exact h8
                  by_cases h35 : op = 35
                  · subst h35
                    go_wp2_with fail
                    refine (wakes_any _ (HT.out.below (BZ7.out _))).mono ?_
                    rintro e w8 ⟨rfl, hb⟩
                    have BX := Lib.hid (down_call (BZ7.out _) hb)
                    go_wp2_with fail
                    go_ret
                    exact ⟨rfl, BX.out⟩
                  · have t35 : (op == 35) = false := by rw [beq_eq_false_iff_ne]; exact h35
                    by_cases h10 : op = 10
                    · subst h10
                      obtain ⟨An, rfl⟩ : ∃ n : Nat, a = n := ⟨a.toNat, by have := jump_bd GD.out (by omega); omega⟩
                      have e : nextP (10, An, b) (h, t) = (h - tk + lv, t) := by unfold nextP; rw [HTK.out, HLV.out]
                      have S1 := Lib.hid (ST.out (An, (h - tk + lv, t)) (by unfold succP; rw [if_pos rfl, e]; simp))
                      clear e
                      go_wp2_with fail
                      go_roundw
                      case rel => exact ⟨An, h - tk + lv, t, i + 1, by omega, by go_num, by go_num, by go_num, by go_num, Lib.hid S1.out, Lib.hid (B7.out _)⟩
                      case measure => simp [intOf]; omega
                    · have t10 : (op == 10) = false := by rw [beq_eq_false_iff_ne]; exact h10
                      by_cases h11 : op = 11
                      · subst h11
                        obtain ⟨An, rfl⟩ : ∃ n : Nat, a = n := ⟨a.toNat, by have := jump_bd GD.out (by omega); omega⟩
                        have e : nextP (11, An, b) (h, t) = (h - tk + lv, t) := by unfold nextP; rw [HTK.out, HLV.out]
                        have S1 := Lib.hid (ST.out (An, (h - tk + lv, t)) (by unfold succP; rw [if_neg (by simp), if_pos rfl, e]; simp))
                        have S2 := Lib.hid (ST.out (A + 1, (h - tk + lv, t)) (by unfold succP; rw [if_neg (by simp), if_pos rfl, e]; simp))
                        clear e
                        have hS1 := S1.out.2
                        simp only at hS1
                        cases wy
                        · have hS2 := S2.out.2
                          simp only at hS2
                          go_wp2_with fail
                          go_roundw
                          case rel => exact ⟨A + 1, h - tk + lv, t, i + 1, by omega, by go_num, by go_num, by go_num, by go_num, Lib.hid S2.out, Lib.hid (B7.out _)⟩
                          case measure => simp [intOf]; omega
                        · skip
                          go_wp2_with fail
                          go_roundw
                          case rel => exact ⟨An, h - tk + lv, t, i + 1, by omega, by go_num, by go_num, by go_num, by go_num, Lib.hid S1.out, Lib.hid (B7.out _)⟩
                          case measure => simp [intOf]; omega
                      · have t11 : (op == 11) = false := by rw [beq_eq_false_iff_ne]; exact h11
                        by_cases h33 : op = 33
                        · subst h33
                          obtain ⟨An, rfl⟩ : ∃ n : Nat, a = n := ⟨a.toNat, by have := jump_bd GD.out (by omega); omega⟩
                          have e : nextP (33, An, b) (h, t) = (h - tk + lv, t) := by unfold nextP; rw [HTK.out, HLV.out]
                          have S1 := Lib.hid (ST.out (An, (h - tk + lv + 1, t)) (by unfold succP; rw [if_neg (by simp), if_neg (by simp), if_pos rfl, e]; simp))
                          have S2 := Lib.hid (ST.out (A + 1, (h - tk + lv, t + 1)) (by unfold succP; rw [if_neg (by simp), if_neg (by simp), if_pos rfl, e]; simp))
                          clear e
                          have hS1 := S1.out.2
                          simp only at hS1
                          cases wy
                          · have hS2 := S2.out.2
                            simp only at hS2
                            go_wp2_with fail
                            go_roundw
                            case rel => exact ⟨A + 1, h - tk + lv, t + 1, i + 1, by omega, by go_num, by go_num, by go_num, by go_num, Lib.hid S2.out, Lib.hid (B7.out _)⟩
                            case measure => simp [intOf]; omega
                          · skip
                            go_wp2_with fail
                            go_roundw
                            case rel => exact ⟨An, h - tk + lv + 1, t, i + 1, by omega, by go_num, by go_num, by go_num, by go_num, Lib.hid S1.out, Lib.hid (B7.out _)⟩
                            case measure => simp [intOf]; omega
                        · have t33 : (op == 33) = false := by rw [beq_eq_false_iff_ne]; exact h33
                          by_cases h34 : op = 34
                          · subst h34
                            have e : nextP (34, a, b) (h, t) = (h - tk + lv, t) := by unfold nextP; rw [HTK.out, HLV.out]
                            have S1 := Lib.hid (ST.out (A + 1, (h - tk + lv, t - 1)) (by unfold succP; rw [if_neg (by simp), if_neg (by simp), if_neg (by simp), if_pos rfl, e]; simp))
                            clear e
                            have hS1 := S1.out.2
                            simp only at hS1
                            go_wp2_with fail
                            go_roundw
                            case rel => exact ⟨A + 1, h - tk + lv, t - 1, i + 1, by omega, by go_num, by go_num, by go_num, by go_num, Lib.hid S1.out, Lib.hid (B7.out _)⟩
                            case measure => simp [intOf]; omega
                          · have t34 : (op == 34) = false := by rw [beq_eq_false_iff_ne]; exact h34
                            have en : opEnds op = false := by unfold opEnds; rw [t8, t9, t10, t35]; rfl
                            have e : nextP (op, a, b) (h, t) = (h - tk + lv, t) := by unfold nextP; rw [HTK.out, HLV.out]
                            have S1 := Lib.hid (ST.out (A + 1, (h - tk + lv, t)) (by unfold succP; rw [if_neg h10, if_neg h11, if_neg h33, if_neg h34, if_neg (by rw [en]; decide), e]; simp))
                            clear e en h9 h8 h35 h10 h11 h33 h34
                            go_wp2_with fail
                            go_roundw
                            case rel => exact ⟨A + 1, h - tk + lv, t, i + 1, by omega, by go_num, by go_num, by go_num, by go_num, Lib.hid S1.out, Lib.hid (B7.out _)⟩
                            case measure => simp [intOf]; omega
            · obtain rfl : i = ways.length := by omega
              go_wp2_with fail
              refine (wakes_any _ (HT.out.below BA.out)).mono ?_
              rintro e w5 ⟨rfl, hb⟩
              have BX := Lib.hid (down_call BA.out hb)
              go_wp2_with fail
              go_ret
              exact ⟨rfl, BX.out⟩
        · have hc0B : (ck != 0) = true := by simpa using hc0
          clear hck hc0
          go_wp2_with fail
          refine (wakes_any _ (HT.out.below B2.out)).mono ?_
          rintro e w3 ⟨rfl, hb⟩
          have BX := Lib.hid (down_call B2.out hb)
          go_wp2_with fail
          go_ret
          exact ⟨rfl, BX.out⟩
  · clear hlg
    go_wp2_with fail
    refine (wakes_any _ (HT.out.below B1.out)).mono ?_
    rintro e w2 ⟨rfl, hb⟩
    have BX := Lib.hid (down_call B1.out hb)
    go_wp2_with fail
    go_ret
    exact ⟨rfl, BX.out⟩
end Go.Proofs.YtlfbfnkmbceejaaDoor
