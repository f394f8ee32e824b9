/-
  Package verify: States; the hosts' calls; Check.
  Conditions: as each states.
-/
import Derived.Test.YtlfbfnkmbceejaaDoorVeQ
import Derived.StillTailTactics
namespace Go.Proofs.YtlfbfnkmbceejaaDoor
open Go.ChangeShapes Go.WideShapes Go.ChangeAt Go.RowKit
set_option linter.unusedVariables false
set_option linter.unusedSimpArgs false
set_option maxRecDepth 100000

theorem cgood_is {S : Nat → Prop} {v1 v2 v3 : Value} {P : PPr} {b : Bool} (hb : prG P = b) (w : World) (T : OpTab w) (h : prAt S w v1 v2 v3 P) (hF : prF P) :
    Calls Tryd.prog 21 #[.agg #[v1, v2, v3]] w fun e w' => e = .returned (.bool b) ∧ Below w.heap.size w w' := hb ▸ codeGood_any v1 v2 v3 P w T h hF

def FnCells (w : World) (a : Option Addr) (i : Nat) (f : PFn) (cv : Value) : Prop := ∃ b o, a = some ⟨b, o, none⟩ ∧ b < w.heap.size ∧ w.cell? ⟨b, o + i * 3, none⟩ = some (.int .i64 f.1) ∧ w.cell? ⟨b, o + i * 3 + 1, none⟩ = some (.int .i64 f.2.1) ∧ w.cell? ⟨b, o + i * 3 + 2, none⟩ = some cv
theorem fn_cells {S : Nat → Prop} {w : World} {a : Option Addr} {c : Nat} {l : List PFn} (h : fnsAt S w (.slice a l.length c) l) {i : Nat} {f : PFn} (hi : l[i]? = some f) : ∃ cv, FnCells w a i f cv ∧ rdAt S w cv f.2.2.length (insL f.2.2) := by
  obtain ⟨a', c', e, h⟩ := h
  cases e
  rcases h with h0 | ⟨b, o, rfl, -, hb, hc⟩
  · have := (List.getElem?_eq_some_iff.1 hi).1; omega
  · obtain ⟨e0, e1, cv, e2, hr⟩ := hc i f hi
    exact ⟨cv, ⟨b, o, rfl, hb, e0, e1, e2⟩, hr⟩

set_option maxHeartbeats 8000000 in
theorem states_any {S : Nat → Prop} {w : World} {v1 v2 v3 : Value} {P : PPr} (hp : prAt S w v1 v2 v3 P) (hF : prF P) (T : VeTab w) (i : Int) :
    Calls Tryd.prog 10 #[.agg #[v1, v2, v3], .int .i64 i] w (StsPost (statesP P i) w) := by
  have HP := Lib.hid hp
  have HF := Lib.hid hF
  have HT := Lib.hid T
  have EQ := Lib.hid (show statesP P i = if prG P = true ∧ 0 ≤ i ∧ i < P.1.length then rightP P (P.1.getD i.toNat (0, 0, [])) else none from rfl)
  obtain ⟨a1, c1, rfl, -⟩ := hp.1
  obtain ⟨a2, c2, rfl, -⟩ := hp.2.1
  obtain ⟨a3, c3, rfl, -⟩ := hp.2.2
  have hn1 := hF.n1
  unfold maxLen at hn1
  obtain ⟨W0, hW0⟩ : ∃ W, w.alloc (.cells #[.slice a1 P.1.length c1, .slice a2 P.2.1.length c2, .slice a3 P.2.2.length c3] 26) = W := ⟨_, rfl⟩
  have bW : Below w.heap.size w W0 := by rw [← hW0]; exact down_alloc (Below.refl _ _) _
  have r1 : rowAt W0 w.heap.size 26 [.slice a1 P.1.length c1, .slice a2 P.2.1.length c2, .slice a3 P.2.2.length c3] := by rw [← hW0]; exact rowAt.made w _ _
  have x0 : W0.cell? ⟨w.heap.size, 0, none⟩ = some (.slice a1 P.1.length c1) := (r1.cell 0).trans rfl
  have x1 : W0.cell? ⟨w.heap.size, 1, none⟩ = some (.slice a2 P.2.1.length c2) := (r1.cell 1).trans rfl
  have x2 : W0.cell? ⟨w.heap.size, 2, none⟩ = some (.slice a3 P.2.2.length c3) := (r1.cell 2).trans rfl
  have BW := Lib.hid bW
  have R1 := Lib.hid r1
  clear bW r1 hp hF T
  cases hg : prG P
  · have RN := Lib.hid (show statesP P i = none by rw [EQ.out, if_neg]; rw [hg]; rintro ⟨h, -⟩; cases h)
    have HG := Lib.hid hg
    clear hg
    go_enter Tryd.func10, Tryd.ntmps10
    go_wp2_with fail
    refine (cgood_is HG.out _ (HT.out.op.below BW.out) (HP.out.below BW.out) HF.out).mono ?_
    rintro e w1 ⟨rfl, hb⟩
    have B1 := Lib.hid (down_call BW.out hb)
    go_wp2_with fail
    refine bodyPost_ret (v := .tuple #[.slice none 0 0, .bool false]) (by simp [results, Tryd.results10, go_sem]) rfl (stsPost_none RN.out rfl B1.out)
  · have HG := Lib.hid hg
    by_cases h0 : i < 0
    · have RN := Lib.hid (show statesP P i = none by rw [EQ.out, if_neg]; rintro ⟨-, h, -⟩; omega)
      clear hg
      go_enter Tryd.func10, Tryd.ntmps10
      go_wp2_with fail
      refine (cgood_is HG.out _ (HT.out.op.below BW.out) (HP.out.below BW.out) HF.out).mono ?_
      rintro e w1 ⟨rfl, hb⟩
      have B1 := Lib.hid (down_call BW.out hb)
      go_wp2_with fail
      refine bodyPost_ret (v := .tuple #[.slice none 0 0, .bool false]) (by simp [results, Tryd.results10, go_sem]) rfl (stsPost_none RN.out rfl B1.out)
    · obtain ⟨n, rfl⟩ : ∃ n : Nat, i = n := ⟨i.toNat, by omega⟩
      clear h0
      by_cases hl : n < P.1.length
      · have hlI : (n : Int) < P.1.length := by omega
        obtain ⟨⟨f1, f2, code⟩, hf⟩ : ∃ f, P.1[n]? = some f := ⟨_, List.getElem?_eq_getElem hl⟩
        have RY := Lib.hid (show statesP P n = rightP P (f1, f2, code) by
          rw [EQ.out, if_pos ⟨hg, by omega, hlI⟩, Int.toNat_natCast, List.getD_eq_getElem?_getD, hf]; rfl)
        have FO := Lib.hid (fnOk_of hg hf)
        have HFX := Lib.hid hf
        clear hg hf
        go_enter Tryd.func10, Tryd.ntmps10
        go_wp2_with fail
        refine (cgood_is HG.out _ (HT.out.op.below BW.out) (HP.out.below BW.out) HF.out).mono ?_
        rintro e w1 ⟨rfl, hb⟩
        have B1 := Lib.hid (down_call BW.out hb)
        have r1 := R1.out.below hb R1.out.lt
        have P1 := Lib.hid (HP.out.below B1.out)
        have y0 : w1.cell? ⟨w.heap.size, 0, none⟩ = some (.slice a1 P.1.length c1) := (r1.cell 0).trans rfl
        have y1 : w1.cell? ⟨w.heap.size, 1, none⟩ = some (.slice a2 P.2.1.length c2) := (r1.cell 1).trans rfl
        have y2 : w1.cell? ⟨w.heap.size, 2, none⟩ = some (.slice a3 P.2.2.length c3) := (r1.cell 2).trans rfl
        obtain ⟨cv, ⟨fb, fo, rfl, hfb, e0, e1, e2⟩, hcv⟩ := fn_cells P1.out.1 HFX.out
        obtain ⟨ca, cc, rfl⟩ := hcv.slice
        have CV := Lib.hid hcv
        clear hb r1 hW0 x0 x1 x2 hcv
        simp only at e0 e1 e2
        go_wp2_with fail
        have B2 := Lib.hid (down_drew B1.out)
        have PD := Lib.hid (P1.out.below (below_draws (Below.refl w1.heap.size w1) 1))
        have TD := Lib.hid (HT.out.below B2.out)
        have CD := Lib.hid (CV.out.below (below_draws (Below.refl w1.heap.size w1) 1))
        go_region_with (go_at_call 22; refine (right_any (S := S) PD.out TD.out f1 f2 code CD.out FO.out).mono ?_; rintro e w5 ⟨v, rfl, ho, hb⟩; have PO := Lib.hid (StsPost.up B2.out ⟨v, rfl, ho, hb⟩); clear ho hb)
        all_goals
          go_wp2
          refine bodyPost_ret (v := .tuple #[v, .bool (rightP P (f1, f2, code)).isSome]) (by simp [results, Tryd.results10, go_sem]) rfl ?_
          rw [RY.out]
          exact PO.out
      · have hlI : ¬ (n : Int) < P.1.length := by omega
        have hlI2 : ((P.1.length : Nat) : Int) ≤ n := by omega
        have RN := Lib.hid (show statesP P n = none by rw [EQ.out, if_neg]; rintro ⟨-, -, h⟩; omega)
        clear hg
        go_enter Tryd.func10, Tryd.ntmps10
        go_wp2_with fail
        refine (cgood_is HG.out _ (HT.out.op.below BW.out) (HP.out.below BW.out) HF.out).mono ?_
        rintro e w1 ⟨rfl, hb⟩
        have B1 := Lib.hid (down_call BW.out hb)
        have r1 := R1.out.below hb R1.out.lt
        have y0 : w1.cell? ⟨w.heap.size, 0, none⟩ = some (.slice a1 P.1.length c1) := (r1.cell 0).trans rfl
        clear hb r1 hW0 x0 x1 x2
        go_wp2_with fail
        refine bodyPost_ret (v := .tuple #[.slice none 0 0, .bool false]) (by simp [results, Tryd.results10, go_sem]) rfl (stsPost_none RN.out rfl B1.out)
end Go.Proofs.YtlfbfnkmbceejaaDoor
