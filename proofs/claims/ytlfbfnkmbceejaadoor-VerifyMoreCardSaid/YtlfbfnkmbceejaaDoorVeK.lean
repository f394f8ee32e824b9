/-
  Package verify: Check and Calls.
  Conditions: as each states.
-/
import Derived.Test.YtlfbfnkmbceejaaDoorVeH
namespace Go.Proofs.YtlfbfnkmbceejaaDoor
open Go.ChangeShapes Go.WideShapes Go.ChangeAt Go.RowKit
set_option linter.unusedVariables false
set_option linter.unusedSimpArgs false
set_option maxRecDepth 100000

def noGrant (c g : Int) : Bool := bits .andNot .i64 c g != 0
def checkP (P : PPr) (g : Int) : Int := if prG P = true ∧ rightsP P = true then (if noGrant (callsP P) g = true then 18 else 0) else 2
def callsX (P : PPr) : Int := if prG P = true then callsP P else 0

theorem calls2_any {S : Nat → Prop} {w : World} {v1 v2 v3 : Value} {P : PPr} (hp : prAt S w v1 v2 v3 P) (hF : prF P) (T : VeTab w) :
    Calls Tryd.prog 17 #[.agg #[v1, v2, v3]] w fun e w' => e = .returned (.int .i64 (callsX P)) ∧ Below w.heap.size w w' := by
  have HP := Lib.hid hp
  have HF := Lib.hid hF
  have HT := Lib.hid T
  obtain ⟨a1, c1, rfl, -⟩ := hp.1
  obtain ⟨a2, c2, rfl, -⟩ := hp.2.1
  obtain ⟨a3, c3, rfl, -⟩ := hp.2.2
  have hn1 := hF.n1
  obtain ⟨W0, hW0⟩ : ∃ W, w.alloc (.cells #[.slice a1 P.1.length c1, .slice a2 P.2.1.length c2, .slice a3 P.2.2.length c3] 26) = W := ⟨_, rfl⟩
  have bW : Below w.heap.size w W0 := by rw [← hW0]; exact down_alloc (Below.refl _ _) _
  have r1 : rowAt W0 w.heap.size 26 [.slice a1 P.1.length c1, .slice a2 P.2.1.length c2, .slice a3 P.2.2.length c3] := by rw [← hW0]; exact rowAt.made w _ _
  have x0 : W0.cell? ⟨w.heap.size, 0, none⟩ = some (.slice a1 P.1.length c1) := (r1.cell 0).trans rfl
  have x1 : W0.cell? ⟨w.heap.size, 1, none⟩ = some (.slice a2 P.2.1.length c2) := (r1.cell 1).trans rfl
  have x2 : W0.cell? ⟨w.heap.size, 2, none⟩ = some (.slice a3 P.2.2.length c3) := (r1.cell 2).trans rfl
  have BW := Lib.hid bW
  have R1 := Lib.hid r1
  clear bW r1 hp hF T
  cases hg : prG P
  · have E := Lib.hid (show callsX P = 0 by unfold callsX; rw [hg]; rfl)
    have HG := Lib.hid hg
    clear hg
    go_enter Tryd.func17, Tryd.ntmps17
    go_wp2_with fail
    refine (cgood_is HG.out _ (HT.out.op.below BW.out) (HP.out.below BW.out) HF.out).mono ?_
    rintro e w1 ⟨rfl, hb⟩
    have B1 := Lib.hid (down_call BW.out hb)
    go_wp2_with fail
    go_ret
    exact ⟨by rw [E.out]; rfl, B1.out⟩
  · have E := Lib.hid (show callsX P = callsP P by unfold callsX; rw [hg]; rfl)
    have HG := Lib.hid hg
    clear hg
    go_enter Tryd.func17, Tryd.ntmps17
    go_wp2_with fail
    refine (cgood_is HG.out _ (HT.out.op.below BW.out) (HP.out.below BW.out) HF.out).mono ?_
    rintro e w1 ⟨rfl, hb⟩
    have B1 := Lib.hid (down_call BW.out hb)
    have r1 := R1.out.below hb R1.out.lt
    have y0 : w1.cell? ⟨w.heap.size, 0, none⟩ = some (.slice a1 P.1.length c1) := (r1.cell 0).trans rfl
    have y1 : w1.cell? ⟨w.heap.size, 1, none⟩ = some (.slice a2 P.2.1.length c2) := (r1.cell 1).trans rfl
    have y2 : w1.cell? ⟨w.heap.size, 2, none⟩ = some (.slice a3 P.2.2.length c3) := (r1.cell 2).trans rfl
    have NL := Lib.hid (show P.1.length ≤ 1000000 by
      have h := HG.out; rw [pr_eq] at h; simp only [Bool.and_eq_true, decide_eq_true_eq] at h; omega)
    clear hb r1 hW0 x0 x1 x2
    go_wp2_with fail
    refine (calls_any (HP.out.below B1.out) HG.out NL.out).mono ?_
    rintro e w2 ⟨rfl, hb⟩
    have B2 := Lib.hid (down_call B1.out hb)
    go_wp2_with fail
    go_ret
    exact ⟨by rw [E.out]; rfl, B2.out⟩

theorem checkP_no {P : PPr} {g : Int} (h : ¬ (prG P = true ∧ rightsP P = true)) : checkP P g = 2 := by unfold checkP; rw [if_neg h]
set_option maxHeartbeats 8000000 in
theorem check_any {S : Nat → Prop} {w : World} {v1 v2 v3 : Value} {P : PPr} (hp : prAt S w v1 v2 v3 P) (hF : prF P) (T : VeTab w) (gr : Int) :
    Calls Tryd.prog 14 #[.agg #[v1, v2, v3], .int .i64 gr] w fun e w' => e = .returned (.int .i64 (checkP P gr)) ∧ Below w.heap.size w w' := by
  have HP := Lib.hid hp
  have HF := Lib.hid hF
  have HT := Lib.hid T
  obtain ⟨a1, c1, rfl, -⟩ := hp.1
  obtain ⟨a2, c2, rfl, -⟩ := hp.2.1
  obtain ⟨a3, c3, rfl, -⟩ := hp.2.2
  obtain ⟨W0, hW0⟩ : ∃ W, w.alloc (.cells #[.slice a1 P.1.length c1, .slice a2 P.2.1.length c2, .slice a3 P.2.2.length c3] 26) = W := ⟨_, rfl⟩
  have bW : Below w.heap.size w W0 := by rw [← hW0]; exact down_alloc (Below.refl _ _) _
  have r1 : rowAt W0 w.heap.size 26 [.slice a1 P.1.length c1, .slice a2 P.2.1.length c2, .slice a3 P.2.2.length c3] := by rw [← hW0]; exact rowAt.made w _ _
  have x0 : W0.cell? ⟨w.heap.size, 0, none⟩ = some (.slice a1 P.1.length c1) := (r1.cell 0).trans rfl
  have x1 : W0.cell? ⟨w.heap.size, 1, none⟩ = some (.slice a2 P.2.1.length c2) := (r1.cell 1).trans rfl
  have x2 : W0.cell? ⟨w.heap.size, 2, none⟩ = some (.slice a3 P.2.2.length c3) := (r1.cell 2).trans rfl
  have BW := Lib.hid bW
  have R1 := Lib.hid r1
  clear bW r1 hp hF T
  cases hg : prG P
  · have E := Lib.hid (show checkP P gr = 2 from checkP_no (by rw [hg]; rintro ⟨h, -⟩; cases h))
    have HG := Lib.hid hg
    clear hg
    go_enter Tryd.func14, Tryd.ntmps14
    go_wp2_with fail
    refine (cgood_is HG.out _ (HT.out.op.below BW.out) (HP.out.below BW.out) HF.out).mono ?_
    rintro e w1 ⟨rfl, hb⟩
    have B1 := Lib.hid (down_call BW.out hb)
    go_wp2_with fail
    go_ret
    exact ⟨by rw [E.out]; rfl, B1.out⟩
  · have HG := Lib.hid hg
    clear hg
    go_enter Tryd.func14, Tryd.ntmps14
    go_wp2_with fail
    refine (cgood_is HG.out _ (HT.out.op.below BW.out) (HP.out.below BW.out) HF.out).mono ?_
    rintro e w1 ⟨rfl, hb⟩
    have B1 := Lib.hid (down_call BW.out hb)
    have r1 := R1.out.below hb R1.out.lt
    have y0 : w1.cell? ⟨w.heap.size, 0, none⟩ = some (.slice a1 P.1.length c1) := (r1.cell 0).trans rfl
    have y1 : w1.cell? ⟨w.heap.size, 1, none⟩ = some (.slice a2 P.2.1.length c2) := (r1.cell 1).trans rfl
    have y2 : w1.cell? ⟨w.heap.size, 2, none⟩ = some (.slice a3 P.2.2.length c3) := (r1.cell 2).trans rfl
    have NL := Lib.hid (show P.1.length ≤ 1000000 by
      have h := HG.out; rw [pr_eq] at h; simp only [Bool.and_eq_true, decide_eq_true_eq] at h; omega)
    have R11 := Lib.hid r1
    have nl := NL.out
    clear hb r1 hW0 x0 x1 x2
    go_wp2_with fail
    clear y0 y1 y2
    go_loopw [15] (fun i wr => ∃ k : Nat, k ≤ P.1.length ∧ i = .int .i64 k ∧ Hid (∀ j f, j < k → P.1[j]? = some f → (rightP P f).isSome = true) ∧ Hid (Below w1.heap.size w1 wr)) (fun i _ => P.1.length - (intOf i).toNat)
    case atStart => exact ⟨0, Nat.zero_le _, rfl, Lib.hid fun j f hj => absurd hj (by omega), Lib.hid (Below.refl _ _)⟩
    case round =>
      obtain ⟨k, hk, rfl, HK, HB⟩ := hrel
      have BA := Lib.hid (down_call B1.out HB.out)
      have ra := R11.out.below HB.out R11.out.lt
      have y0 : wr.cell? ⟨w.heap.size, 0, none⟩ = some (.slice a1 P.1.length c1) := (ra.cell 0).trans rfl
      have y1 : wr.cell? ⟨w.heap.size, 1, none⟩ = some (.slice a2 P.2.1.length c2) := (ra.cell 1).trans rfl
      have y2 : wr.cell? ⟨w.heap.size, 2, none⟩ = some (.slice a3 P.2.2.length c3) := (ra.cell 2).trans rfl
      have RA := Lib.hid ra
      by_cases hlt : k < P.1.length
      · have hltI : (k : Int) < P.1.length := by omega
        obtain ⟨⟨f1, f2, code⟩, hf⟩ : ∃ f, P.1[k]? = some f := ⟨_, List.getElem?_eq_getElem hlt⟩
        have FO := Lib.hid (fnOk_of HG.out hf)
        obtain ⟨cv, ⟨fb, fo, rfl, hfb, e0, e1, e2⟩, hcv⟩ := fn_cells (HP.out.below BA.out).1 hf
        obtain ⟨ca, cc, rfl⟩ := hcv.slice
        simp only at e0 e1 e2 hcv
        have HFX := Lib.hid hf
        obtain ⟨W, hW⟩ : ∃ W, wr.alloc (.cells #[.int .i64 f1, .int .i64 f2, .slice ca code.length cc] 46) = W := ⟨_, rfl⟩
        have bW : Below wr.heap.size wr W := by rw [← hW]; exact down_alloc (Below.refl _ _) _
        have r3 : rowAt W wr.heap.size 46 [.int .i64 f1, .int .i64 f2, .slice ca code.length cc] := by rw [← hW]; exact rowAt.made _ _ _
        have rb := ra.below bW ra.lt
        have x0 : W.cell? ⟨w.heap.size, 0, none⟩ = some (.slice (some ⟨fb, fo, none⟩) P.1.length c1) := (rb.cell 0).trans rfl
        have x1 : W.cell? ⟨w.heap.size, 1, none⟩ = some (.slice a2 P.2.1.length c2) := (rb.cell 1).trans rfl
        have x2 : W.cell? ⟨w.heap.size, 2, none⟩ = some (.slice a3 P.2.2.length c3) := (rb.cell 2).trans rfl
        have i0 : W.cell? ⟨wr.heap.size, 0, none⟩ = some (.int .i64 f1) := (r3.cell 0).trans rfl
        have i1 : W.cell? ⟨wr.heap.size, 1, none⟩ = some (.int .i64 f2) := (r3.cell 1).trans rfl
        have i2 : W.cell? ⟨wr.heap.size, 2, none⟩ = some (.slice ca code.length cc) := (r3.cell 2).trans rfl
        have BV := Lib.hid (down_call HB.out bW)
        have BV1 := Lib.hid (down_call BA.out bW)
        have PW := Lib.hid (HP.out.below BV1.out)
        have CW := Lib.hid (hcv.below bW)
        clear bW r3 rb ra hcv hf
        go_wp2_with fail
        refine (right_any PW.out (HT.out.below BV1.out) f1 f2 code CW.out FO.out).mono ?_
        rintro e w5 ⟨v, rfl, -, hb⟩
        have B5 := Lib.hid (down_call BV.out hb)
        have B51 := Lib.hid (down_call BV1.out hb)
        clear hb x0 x1 x2 i0 i1 i2 hW e0 e1 e2 y0 y1 y2
        cases hr : (rightP P (f1, f2, code)).isSome
        · have E := Lib.hid (show checkP P gr = 2 from checkP_no (by
            rintro ⟨-, h⟩
            have := allI_at (g := fun _ f => (rightP P f).isSome) h HFX.out
            rw [hr] at this; cases this))
          clear hr
          go_wp2_with fail
          go_ret
          exact ⟨by rw [E.out]; rfl, B51.out⟩
        · have HR := Lib.hid hr
          clear hr
          go_wp2_with fail
          go_roundw
          case rel => exact ⟨k + 1, by omega, by go_num, Lib.hid fun j f hj hq => by
            rcases Nat.lt_or_ge j k with h | h
            · exact HK.out j f h hq
            · obtain rfl : j = k := by omega
              rw [HFX.out] at hq; cases hq; exact HR.out, B5⟩
          case measure => simp [intOf]; omega
      · obtain rfl : k = P.1.length := by omega
        have RY := Lib.hid (show rightsP P = true from allI_true fun j f hj hx => HK.out j f hj hx)
        clear RA
        go_wp2_with fail
        refine (calls_any (HP.out.below BA.out) HG.out NL.out).mono ?_
        rintro e w2 ⟨rfl, hb⟩
        have B2 := Lib.hid (down_call BA.out hb)
        clear hb y0 y1 y2 ra
        obtain ⟨z, hz⟩ : ∃ z, bits .andNot .i64 (callsP P) gr = z := ⟨_, rfl⟩
        by_cases hz0 : z = 0
        · have E := Lib.hid (show checkP P gr = 0 by
            unfold checkP noGrant; rw [if_pos ⟨HG.out, RY.out⟩, hz, hz0]; rfl)
          have t0 : (z != 0) = false := by simpa using hz0
          clear hz0
          go_wp2_with fail
          go_ret
          exact ⟨by rw [E.out]; rfl, B2.out⟩
        · have E := Lib.hid (show checkP P gr = 18 by
            unfold checkP noGrant; rw [if_pos ⟨HG.out, RY.out⟩, hz, if_pos (by simpa using hz0)])
          have t0 : (z != 0) = true := by simpa using hz0
          clear hz0
          go_wp2_with fail
          go_ret
          exact ⟨by rw [E.out]; rfl, B2.out⟩
end Go.Proofs.YtlfbfnkmbceejaaDoor
