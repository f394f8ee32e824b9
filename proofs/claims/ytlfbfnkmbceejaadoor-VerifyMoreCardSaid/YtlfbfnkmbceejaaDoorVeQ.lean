/-
  Package verify: which functions, which programs are right; States.
  Conditions: as each states.
-/
import Derived.Test.YtlfbfnkmbceejaaDoorVeR
import Derived.Test.YtlfbfnkmbceejaaDoorCoJ
namespace Go.Proofs.YtlfbfnkmbceejaaDoor
open Go.ChangeShapes Go.WideShapes Go.ChangeAt Go.RowKit
set_option linter.unusedVariables false
set_option linter.unusedSimpArgs false
set_option maxRecDepth 100000

theorem StsPost.up {r : Option (List PSt)} {w w1 w' : World} {e : Ending} (hb : Below w.heap.size w w1) (h : StsPost r w1 e w') : StsPost r w e w' := by
  obtain ⟨v, he, ho, h2⟩ := h
  refine ⟨v, he, ?_, down_call hb h2⟩
  cases r with
  | none => exact ho
  | some l =>
    obtain ⟨g, a, b, c⟩ := ho
    exact ⟨g, a, b, Nat.le_trans hb.size c⟩
theorem stsPost_none {w w' : World} {e : Ending} {r : Option (List PSt)} (hr : r = none) (he : e = .returned (.tuple #[.slice none 0 0, .bool false])) (hb : Below w.heap.size w w') : StsPost r w e w' := by
  subst hr; exact ⟨_, he, rfl, hb⟩
theorem rightP_eq (P : PPr) (f : PFn) : rightP P f = if allI (fun _ p => thereP P f p) 0 f.2.2 = true then stsP f.2.2 else none := rfl

structure FnOk (f : PFn) : Prop where
  good : ∀ p ∈ f.2.2, insG p = true
  pos : 0 < f.2.2.length
  le : f.2.2.length ≤ 600
theorem fnOk_of {P : PPr} (h : prG P = true) {i : Nat} {f : PFn} (hi : P.1[i]? = some f) : FnOk f := by
  rw [pr_eq] at h
  simp only [Bool.and_eq_true] at h
  have h1 := h.2.1
  unfold fnsG at h1
  rw [Bool.and_eq_true] at h1
  have h2 := allI_at h1.2 hi
  have h3 : fnG f = true := by
    unfold fnK at h2
    exact (Bool.and_eq_true_iff.1 h2).2
  unfold fnG at h3
  simp only [Bool.and_eq_true, decide_eq_true_eq] at h3
  refine ⟨fun p hp => ?_, h3.2.2.1.1, h3.2.2.1.2⟩
  obtain ⟨j, hj, rfl⟩ := List.getElem_of_mem hp
  exact allI_at h3.2.2.2 (List.getElem?_eq_getElem hj)

set_option maxHeartbeats 8000000 in
theorem right_any {S : Nat → Prop} {w : World} {v1 v2 v3 cv : Value} {P : PPr} (hp : prAt S w v1 v2 v3 P) (T : VeTab w) (f1 f2 : Int) (code : List PIns) (hc : rdAt S w cv code.length (insL code)) (ok : FnOk (f1, f2, code)) :
    Calls Tryd.prog 22 #[.agg #[v1, v2, v3], .agg #[.int .i64 f1, .int .i64 f2, cv]] w (StsPost (rightP P (f1, f2, code)) w) := by
  have EQ := Lib.hid (rightP_eq P (f1, f2, code))
  have HP := Lib.hid hp
  have hG := ok.good
  have h0 := ok.pos
  have h6 := ok.le
  simp only at hG h0 h6
  obtain ⟨a1, c1, rfl, -⟩ := hp.1
  obtain ⟨a2, c2, rfl, -⟩ := hp.2.1
  obtain ⟨a3, c3, rfl, -⟩ := hp.2.2
  have HC := Lib.hid hc
  obtain ⟨ca, cc, rfl, hcells⟩ := hc
  rcases hcells with hz | ⟨cb, co, rfl, hSb, hcb, hcells⟩
  · omega
  obtain ⟨W0, hW0⟩ : ∃ W, (w.alloc (.cells #[.slice a1 P.1.length c1, .slice a2 P.2.1.length c2, .slice a3 P.2.2.length c3] 26)).alloc (.cells #[.int .i64 f1, .int .i64 f2, .slice (some ⟨cb, co, none⟩) code.length cc] 46) = W := ⟨_, rfl⟩
  have bW : Below w.heap.size w W0 := by rw [← hW0]; exact down_alloc (down_alloc (Below.refl _ _) _) _
  have r1 : rowAt W0 w.heap.size 26 [.slice a1 P.1.length c1, .slice a2 P.2.1.length c2, .slice a3 P.2.2.length c3] := by rw [← hW0]; exact (rowAt.made w _ _).alloc _
  have r2 : rowAt W0 (w.heap.size + 1) 46 [.int .i64 f1, .int .i64 f2, .slice (some ⟨cb, co, none⟩) code.length cc] := by rw [← hW0]; exact rowAt.made_at _ _ (by simp)
  have BW := Lib.hid bW
  have R1 := Lib.hid r1
  have R2 := Lib.hid r2
  have HCL := Lib.hid hcells
  have HG := Lib.hid hG
  have HT := Lib.hid T
  have y0 : W0.cell? ⟨w.heap.size + 1, 0, none⟩ = some (.int .i64 f1) := (r2.cell 0).trans rfl
  have y1 : W0.cell? ⟨w.heap.size + 1, 1, none⟩ = some (.int .i64 f2) := (r2.cell 1).trans rfl
  have y2 : W0.cell? ⟨w.heap.size + 1, 2, none⟩ = some (.slice (some ⟨cb, co, none⟩) code.length cc) := (r2.cell 2).trans rfl
  clear bW r1 r2 hcells hG T hp ok
  go_enter Tryd.func22, Tryd.ntmps22
  go_wp2_with fail
  clear hW0
  go_loopw [11] (fun i wr => ∃ k : Nat, k ≤ code.length ∧ i = .int .i64 k ∧ Hid (∀ j p, j < k → code[j]? = some p → thereP P (f1, f2, code) p = true) ∧ Hid (Below W0.heap.size W0 wr)) (fun i _ => code.length - (intOf i).toNat)
  case atStart => exact ⟨0, Nat.zero_le _, rfl, Lib.hid fun j p hj => absurd hj (by omega), Lib.hid (Below.refl _ _)⟩
  case round =>
    obtain ⟨k, hk, rfl, HK, HB⟩ := hrel
    have BA := Lib.hid (down_call BW.out HB.out)
    have ra1 := R1.out.below HB.out R1.out.lt
    have ra2 := R2.out.below HB.out R2.out.lt
    by_cases hlt : k < code.length
    · have hltI : (k : Int) < code.length := by omega
      obtain ⟨⟨o, A, Bb⟩, hx⟩ : ∃ p, code[k]? = some p := ⟨_, List.getElem?_eq_getElem hlt⟩
      have gi := insL_get code k _ hx
      have e0 : wr.cell? ⟨cb, co + k * 3, none⟩ = some (.int .i64 o) := (BA.out.cell (p := ⟨cb, co + k * 3, none⟩) hcb).trans (HCL.out _ _ gi.1)
      have e1 : wr.cell? ⟨cb, co + k * 3 + 1, none⟩ = some (.int .i64 A) := (BA.out.cell (p := ⟨cb, co + k * 3 + 1, none⟩) hcb).trans (HCL.out _ _ gi.2.1)
      have e2 : wr.cell? ⟨cb, co + k * 3 + 2, none⟩ = some (.int .i64 Bb) := (BA.out.cell (p := ⟨cb, co + k * 3 + 2, none⟩) hcb).trans (HCL.out _ _ gi.2.2)
      have hgd : opGood o A Bb = true := HG.out _ (List.mem_of_getElem? hx)
      obtain ⟨W, hW⟩ : ∃ W, wr.alloc (.cells #[.int .i64 o, .int .i64 A, .int .i64 Bb] 49) = W := ⟨_, rfl⟩
      have bW : Below wr.heap.size wr W := by rw [← hW]; exact down_alloc (Below.refl _ _) _
      have r3 : rowAt W wr.heap.size 49 [.int .i64 o, .int .i64 A, .int .i64 Bb] := by rw [← hW]; exact rowAt.made _ _ _
      have rb1 := ra1.below bW ra1.lt
      have rb2 := ra2.below bW ra2.lt
      have x0 : W.cell? ⟨w.heap.size, 0, none⟩ = some (.slice a1 P.1.length c1) := (rb1.cell 0).trans rfl
      have x1 : W.cell? ⟨w.heap.size, 1, none⟩ = some (.slice a2 P.2.1.length c2) := (rb1.cell 1).trans rfl
      have x2 : W.cell? ⟨w.heap.size, 2, none⟩ = some (.slice a3 P.2.2.length c3) := (rb1.cell 2).trans rfl
      have z0 : W.cell? ⟨w.heap.size + 1, 0, none⟩ = some (.int .i64 f1) := (rb2.cell 0).trans rfl
      have z1 : W.cell? ⟨w.heap.size + 1, 1, none⟩ = some (.int .i64 f2) := (rb2.cell 1).trans rfl
      have z2 : W.cell? ⟨w.heap.size + 1, 2, none⟩ = some (.slice (some ⟨cb, co, none⟩) code.length cc) := (rb2.cell 2).trans rfl
      have i0 : W.cell? ⟨wr.heap.size, 0, none⟩ = some (.int .i64 o) := (r3.cell 0).trans rfl
      have i1 : W.cell? ⟨wr.heap.size, 1, none⟩ = some (.int .i64 A) := (r3.cell 1).trans rfl
      have i2 : W.cell? ⟨wr.heap.size, 2, none⟩ = some (.int .i64 Bb) := (r3.cell 2).trans rfl
      have HX := Lib.hid hx
      have BV := Lib.hid (down_call HB.out bW)
      have PW := Lib.hid (HP.out.below (down_call BW.out BV.out))
      clear gi bW r3 rb1 rb2 ra1 ra2 hx
      cases ht : thereP P (f1, f2, code) (o, A, Bb)
      · have RN := Lib.hid (show rightP P (f1, f2, code) = none by
          rw [EQ.out, if_neg]; rw [allI_false HX.out ht]; decide)
        have HTH := Lib.hid ht
        clear ht
        go_wp2_with fail
        refine (there_is PW.out f1 f2 _ cc code o A Bb hgd HTH.out).mono ?_
        rintro e w5 ⟨rfl, hb⟩
        have B5 := Lib.hid (down_call (down_call BW.out BV.out) hb)
        go_wp2_with fail
        refine bodyPost_ret (v := .tuple #[.slice none 0 0, .bool false]) (by simp [results, Tryd.results22, go_sem]) rfl (stsPost_none RN.out rfl B5.out)
      · have HTH := Lib.hid ht
        clear ht
        go_wp2_with fail
        refine (there_is PW.out f1 f2 _ cc code o A Bb hgd HTH.out).mono ?_
        rintro e w5 ⟨rfl, hb⟩
        have B5 := Lib.hid (down_call BV.out hb)
        clear hb x0 x1 x2 z0 z1 z2 i0 i1 i2 hW e0 e1 e2
        go_wp2_with fail
        go_roundw
        case rel => exact ⟨k + 1, by omega, by go_num, Lib.hid fun j p hj hq => by
          rcases Nat.lt_or_ge j k with h | h
          · exact HK.out j p h hq
          · obtain rfl : j = k := by omega
            rw [HX.out] at hq; cases hq; exact HTH.out, B5⟩
        case measure => simp [intOf]; omega
    · obtain rfl : k = code.length := by omega
      have RY := Lib.hid (show rightP P (f1, f2, code) = stsP code by
        rw [EQ.out, if_pos]; exact allI_true fun j p hj hx => HK.out j p hj hx)
      have z2 : wr.cell? ⟨w.heap.size + 1, 2, none⟩ = some (.slice (some ⟨cb, co, none⟩) code.length cc) := (ra2.cell 2).trans rfl
      have CW := Lib.hid ((HC.out.off (T := fun _ => False) fun _ _ t => t.elim).below BA.out)
      clear ra1 ra2
      go_wp2_with fail
      refine (statesOf_any CW.out (HT.out.below BA.out) HG.out h0 h6).mono ?_
      rintro e w5 hpost
      obtain ⟨v, rfl, ho, hb⟩ := hpost
      have PO := Lib.hid (StsPost.up BA.out ⟨v, rfl, ho, hb⟩)
      clear ho hb
      go_wp2_with fail
      refine bodyPost_ret (v := .tuple #[v, .bool (stsP code).isSome]) (by simp [results, Tryd.results22, go_sem]) rfl ?_
      rw [RY.out]
      exact PO.out
end Go.Proofs.YtlfbfnkmbceejaaDoor
