/-
  Package frame: whether a machine without handlers may be ('Good').
  Conditions: as each states.
-/
import Derived.Test.YtajkkinolpkfmaaGreatDoorYFcc
import Derived.Test.YtajkkinolpkfmaaGreatDoorYFwk
import Derived.Deep.RegionHeld3
import Derived.Test.YtajkkinolpkfmaaGreatDoorYFr
import Derived.Test.YtajkkinolpkfmaaGreatDoorEmpty
import Derived.Test.YtajkkinolpkfmaaGreatDoorLay
import Derived.Test.YtajkkinolpkfmaaGreatDoorYCoRh
import Derived.Test.YtajkkinolpkfmaaGreatDoorTie
import Derived.Test.YtajkkinolpkfmaaGreatDoorCards
import Derived.SevenTiedAt
import Derived.LaidMore
import Derived.Stop.Joined
namespace Go.Proofs.YtajkkinolpkfmaaGreatDoor
set_option linter.unusedVariables false
set_option linter.unusedSimpArgs false
open Go.ChangeShapes Go.WideShapes Go.ChangeAt Go.RowKit
set_option maxRecDepth 100000

theorem fns_ok {P : PPr} (h : prG P = true) : FnsOk P.1 := by
  unfold prG at h
  simp only [Bool.and_eq_true, decide_eq_true_eq] at h
  obtain ⟨⟨h1, _, _⟩, h2, _⟩ := h
  unfold fnsG at h2
  simp only [Bool.and_eq_true] at h2
  refine ⟨h1, fun g hg => ?_⟩
  obtain ⟨j, hj⟩ := List.mem_iff_getElem?.1 hg
  have := (allI_iff fnK P.1 0).1 h2.2 j g hj
  unfold fnK fnG belowB at this
  simp only [Bool.and_eq_true, decide_eq_true_eq] at this
  omega
set_option maxHeartbeats 4000000 in
/-- A machine of a program that may not be may not be. -/
theorem good_badP {S : Nat → Prop} {w : World} {v1 v2 v3 s sf h : Value} {z0 z1 z2 z3 sta res cod : Int} {P : PPr} {pv : Value} (hs : ∃ a n c, s = .slice a n c) (hsf : ∃ a n c, sf = .slice a n c) (hh : ∃ a n c, h = .slice a n c) (hb : prG P = false) (T : OpTab w) (hp : prAt S w v1 v2 v3 P) (hF : prF P) :
    Calls Tryz.prog 19 #[pv, .agg #[v1, v2, v3], maV z0 z1 z2 z3 s sf h sta res cod] w fun e w' => e = .returned (.bool false) ∧ Below w.heap.size w w' := by
  obtain ⟨a1, n1, c1, rfl⟩ := hs
  obtain ⟨a2, n2, c2, rfl⟩ := hsf
  obtain ⟨a3, n3, c3, rfl⟩ := hh
  obtain ⟨p1, k1, rfl⟩ := hp.1.slice
  obtain ⟨p2, k2, rfl⟩ := hp.2.1.slice
  obtain ⟨p3, k3, rfl⟩ := hp.2.2.slice
  have BB := Lib.hid (fun o o2 => down_alloc (down_alloc (Below.refl w.heap.size w) o) o2)
  have CG := Lib.hid (fun o o2 => cgoodF_is hb _ _ _ _ (T.below (BB.out o o2)) (hp.below (BB.out o o2)) hF)
  clear T hp hF hb
  go_enter Tryz.func19, Tryz.ntmps19
  go_wp2_with fail
  refine (CG.out _ _).mono ?_
  rintro e w1 ⟨rfl, hb⟩
  have B1 := Lib.hid (down_call (BB.out _ _) hb)
  clear hb
  go_wp2_with fail
  go_ret
  exact ⟨rfl, B1.out⟩
theorem cells3G {w : World} {b : Nat} {T : TypeId} {a c d : Value} (h : rowAt w b T [a, c, d]) : w.cell? ⟨b, 0, none⟩ = some a ∧ w.cell? ⟨b, 1, none⟩ = some c ∧ w.cell? ⟨b, 2, none⟩ = some d :=
  ⟨h.cell 0, h.cell 1, h.cell 2⟩
theorem rootsP_lenG (M : PMa) : (rootsP M).length = M.st.length + M.fr.length + 1 := by simp [rootsP, selfs]; omega
set_option maxHeartbeats 8000000 in
/-- A machine without handlers, in a heap that may be, its roots such as may be. -/
theorem good_plain {S S' : Nat → Prop} {w : World} {p : Nat} {F : Nat → Prop} {A : Ar} (hA : Held w p F A) {v1 v2 v3 s sf h : Value} {z0 z1 z2 z3 : Int} {st : List Int} {fr : List PFr} {sta res cod : Int} {P : PPr} (hP : prG P = true) (T : OpTab w) (hp : prAt S w v1 v2 v3 P) (hF : prF P)
    (k : maAt S' w s sf h ⟨z0, z1, z2, z3, st, fr, [], sta, res, cod⟩) (hc : cntG ⟨z0, z1, z2, z3, st, fr, [], sta, res, cod⟩ = true) (hf : frG P.1 st.length 0 fr = true) (hst : stG ⟨z0, z1, z2, z3, st, fr, [], sta, res, cod⟩ = true)
    (hr : A.rootsOk z0 z1 z2 z3 (rootsP ⟨z0, z1, z2, z3, st, fr, [], sta, res, cod⟩) = true) (hx : ∀ x ∈ rootsP ⟨z0, z1, z2, z3, st, fr, [], sta, res, cod⟩, fitW x) (htop : 0 ≤ z1 - z3) :
    Calls Tryz.prog 19 #[.pointer (some ⟨p, 0, none⟩), .agg #[v1, v2, v3], maV z0 z1 z2 z3 s sf h sta res cod] w fun e w' => e = .returned (.bool true) ∧ Below w.heap.size w w' := by
  have hc' := hc
  simp only [cntG, Bool.and_eq_true, decide_eq_true_eq] at hc'
  have hm : maF ⟨z0, z1, z2, z3, st, fr, [], sta, res, cod⟩ := ⟨by simp only; omega, by simp only; omega, by simp⟩
  obtain ⟨a1, c1, rfl⟩ := k.1.slice
  obtain ⟨a2, c2, rfl⟩ := k.2.1.slice
  obtain ⟨a3, c3, rfl⟩ := k.2.2.slice
  obtain ⟨p1, k1, rfl⟩ := hp.1.slice
  obtain ⟨p2, k2, rfl⟩ := hp.2.1.slice
  obtain ⟨p3, k3, rfl⟩ := hp.2.2.slice
  obtain ⟨W, hW⟩ : ∃ W, (w.alloc (.cells #[.slice p1 P.1.length k1, .slice p2 P.2.1.length k2, .slice p3 P.2.2.length k3] 37)).alloc (.cells #[.int .i64 z0, .int .i64 z1, .int .i64 z2, .int .i64 z3, .slice a1 st.length c1, .slice a2 fr.length c2, .slice a3 0 c3, .int .i64 sta, .int .u64 res, .int .i64 cod] 45) = W := ⟨_, rfl⟩
  have RP := Lib.hid (show rowAt W w.heap.size 37 [.slice p1 P.1.length k1, .slice p2 P.2.1.length k2, .slice p3 P.2.2.length k3] by rw [← hW]; exact (rowAt.made w _ _).alloc _)
  have RM := Lib.hid (show rowAt W (w.heap.size + 1) 45 [.int .i64 z0, .int .i64 z1, .int .i64 z2, .int .i64 z3, .slice a1 st.length c1, .slice a2 fr.length c2, .slice a3 0 c3, .int .i64 sta, .int .u64 res, .int .i64 cod] by rw [← hW]; exact rowAt.made_at _ _ (by simp))
  have BW := Lib.hid (show Below w.heap.size w W by rw [← hW]; exact down_alloc (down_alloc (Below.refl _ _) _) _)
  have B0 := Lib.hid (Below.refl W.heap.size W)
  have TT := Lib.hid (T.below BW.out)
  have HP := Lib.hid (hp.below BW.out)
  have HF := Lib.hid hF
  have HK := Lib.hid (k.below BW.out)
  have HM := Lib.hid hm
  have HA := Lib.hid (hA.below BW.out)
  have PG := Lib.hid hP
  have OKF := Lib.hid (fns_ok hP)
  have HC := Lib.hid hc
  have HFR := Lib.hid hf
  have HST := Lib.hid hst
  have HR := Lib.hid hr
  have HX := Lib.hid hx
  have HT := Lib.hid htop
  have NS := Lib.hid hc'
  obtain ⟨c0, c1', c2'⟩ := cells3G RP.out
  obtain ⟨d0, d1, d2, d3, d4, d5, d6, d7, d8, d9⟩ := cells10 RM.out
  clear T hp hF k hm hA hP hc hf hst hr hx hc' htop
  go_enter Tryz.func19, Tryz.ntmps19
  go_wp2_with fail
  clear hW c0 c1' c2' d0 d1 d2 d3 d4 d5 d6 d7 d8 d9
  refine (cgoodF_is PG.out _ _ _ _ TT.out HP.out HF.out).mono ?_
  rintro e w1 ⟨rfl, hb⟩
  have B1 := Lib.hid (down_call B0.out hb)
  obtain ⟨c0, c1', c2'⟩ := cells3G (RP.out.below B1.out RP.out.lt)
  obtain ⟨d0, d1, d2, d3, d4, d5, d6, d7, d8, d9⟩ := cells10 (RM.out.below B1.out RM.out.lt)
  clear hb
  go_wp2_with fail
  clear c0 c1' c2' d0 d1 d2 d3 d4 d5 d6 d7 d8 d9
  refine (goodCounts_is (M := ⟨z0, z1, z2, z3, st, fr, [], sta, res, cod⟩) HC.out (HK.out.below B1.out)).mono ?_
  rintro e w2 ⟨rfl, hb⟩
  have B2 := Lib.hid (down_call B1.out hb)
  obtain ⟨c0, c1', c2'⟩ := cells3G (RP.out.below B2.out RP.out.lt)
  obtain ⟨d0, d1, d2, d3, d4, d5, d6, d7, d8, d9⟩ := cells10 (RM.out.below B2.out RM.out.lt)
  clear hb
  go_wp2_with fail
  clear c0 c1' c2' d0 d1 d2 d3 d4 d5 d6 d7 d8 d9
  refine (goodFrames_is (M := ⟨z0, z1, z2, z3, st, fr, [], sta, res, cod⟩) HFR.out (fns_below HP.out.1 B2.out) OKF.out (HK.out.below B2.out) (by have := NS.out; simp only; omega) (by have := NS.out; simp only; omega)).mono ?_
  rintro e w3 ⟨rfl, hb⟩
  have B3 := Lib.hid (down_call B2.out hb)
  obtain ⟨c0, c1', c2'⟩ := cells3G (RP.out.below B3.out RP.out.lt)
  obtain ⟨d0, d1, d2, d3, d4, d5, d6, d7, d8, d9⟩ := cells10 (RM.out.below B3.out RM.out.lt)
  clear hb
  go_wp2_with fail
  clear c0 c1' c2' d0 d1 d2 d3 d4 d5 d6 d7 d8 d9
  refine (goodHandlers_none).mono ?_
  rintro e w4 ⟨rfl, hb⟩
  have B4 := Lib.hid (down_call B3.out hb)
  obtain ⟨c0, c1', c2'⟩ := cells3G (RP.out.below B4.out RP.out.lt)
  obtain ⟨d0, d1, d2, d3, d4, d5, d6, d7, d8, d9⟩ := cells10 (RM.out.below B4.out RM.out.lt)
  clear hb
  go_wp2_with fail
  clear c0 c1' c2' d0 d1 d2 d3 d4 d5 d6 d7 d8 d9
  refine (goodState_is (M := ⟨z0, z1, z2, z3, st, fr, [], sta, res, cod⟩) HST.out (HK.out.below B4.out)).mono ?_
  rintro e w5 ⟨rfl, hb⟩
  have B5 := Lib.hid (down_call B4.out hb)
  obtain ⟨c0, c1', c2'⟩ := cells3G (RP.out.below B5.out RP.out.lt)
  obtain ⟨d0, d1, d2, d3, d4, d5, d6, d7, d8, d9⟩ := cells10 (RM.out.below B5.out RM.out.lt)
  clear hb
  go_wp2_with fail
  clear c0 c1' c2' d0 d1 d2 d3 d4 d5 d6 d7 d8 d9
  have RM5 := Lib.hid (RM.out.below B5.out RM.out.lt)
  have HA5 := Lib.hid (HA.out.below B5.out)
  have HK5 := Lib.hid (HK.out.below B5.out)
  have D0 := Lib.hid (down_drew (Below.refl w5.heap.size w5))
  have D1 := Lib.hid (down_drew (down_alloc (Below.refl w5.heap.size w5) (.cells #[.int .i64 0, .int .i64 0, .int .i64 0, .int .i64 0] 39)))
  obtain ⟨d0, d1, d2, d3, d4, d5, d6, d7, d8, d9⟩ := cells10 RM5.out
  have lt5 := RM5.out.lt
  have LR := Lib.hid (show (rootsP ⟨z0, z1, z2, z3, st, fr, [], sta, res, cod⟩).length ≤ 100000 by rw [rootsP_lenG]; have := NS.out; simp only; omega)
  have Z5 := Lib.hid (down_call BW.out B5.out)
  have RO0 := Lib.hid (show Calls Tryz.prog 13 #[maV z0 z1 z2 z3 (.slice a1 st.length c1) (.slice a2 fr.length c2) (.slice a3 0 c3) sta res cod] w5.drew (RtPost w5.drew (rootsP ⟨z0, z1, z2, z3, st, fr, [], sta, res, cod⟩)) from roots_any ⟨z0, z1, z2, z3, st, fr, [], sta, res, cod⟩ (HK5.out.below D0.out) HM.out)
  have RO1 := Lib.hid (show Calls Tryz.prog 13 #[maV z0 z1 z2 z3 (.slice a1 st.length c1) (.slice a2 fr.length c2) (.slice a3 0 c3) sta res cod] (w5.alloc (.cells #[.int .i64 0, .int .i64 0, .int .i64 0, .int .i64 0] 39)).drew (RtPost (w5.alloc (.cells #[.int .i64 0, .int .i64 0, .int .i64 0, .int .i64 0] 39)).drew (rootsP ⟨z0, z1, z2, z3, st, fr, [], sta, res, cod⟩)) from roots_any ⟨z0, z1, z2, z3, st, fr, [], sta, res, cod⟩ (HK5.out.below D1.out) HM.out)
  go_region_held3 (fun w' => w'.cell? ⟨w.heap.size + 1, 0, none⟩ = some (.int .i64 z0) ∧ w'.cell? ⟨w.heap.size + 1, 1, none⟩ = some (.int .i64 z1) ∧ w'.cell? ⟨w.heap.size + 1, 2, none⟩ = some (.int .i64 z2) ∧ w'.cell? ⟨w.heap.size + 1, 3, none⟩ = some (.int .i64 z3) ∧ w'.cell? ⟨w.heap.size + 1, 4, none⟩ = some (.slice a1 st.length c1) ∧ w'.cell? ⟨w.heap.size + 1, 5, none⟩ = some (.slice a2 fr.length c2) ∧ w'.cell? ⟨w.heap.size + 1, 6, none⟩ = some (.slice a3 0 c3) ∧ w'.cell? ⟨w.heap.size + 1, 7, none⟩ = some (.int .i64 sta) ∧ w'.cell? ⟨w.heap.size + 1, 8, none⟩ = some (.int .u64 res) ∧ w'.cell? ⟨w.heap.size + 1, 9, none⟩ = some (.int .i64 cod))
    ((refine cells10 (T := 45) ?_; (repeat (first | with_reducible exact RM7.out | with_reducible exact RM6.out | with_reducible exact RM5.out | with_reducible refine rowAt.drew ?_ | with_reducible refine rowAt.alloc ?_ _ | with_reducible refine rowAt.other ?_ _ _ (by dsimp only; omega))); done))
    (first
    | (go_at_call 13
       with_reducible refine (RO0.out).mono ?_
       rintro e w6 ⟨rv, rfl, ho6, hb6⟩
       have B6 := Lib.hid (down_call D0.out hb6)
       have O6 := Lib.hid (rdAt.of_owns (S := fun _ => False) ho6 (fun _ _ h => h))
       have RM6 := Lib.hid (RM5.out.below B6.out RM5.out.lt)
       have lt6 := RM6.out.lt
       clear ho6 hb6)
    | (go_at_call 13
       with_reducible refine (RO1.out).mono ?_
       rintro e w6 ⟨rv, rfl, ho6, hb6⟩
       have B6 := Lib.hid (down_call D1.out hb6)
       have O6 := Lib.hid (rdAt.of_owns (S := fun _ => False) ho6 (fun _ _ h => h))
       have RM6 := Lib.hid (RM5.out.below B6.out RM5.out.lt)
       have lt6 := RM6.out.lt
       have AL := Lib.hid ((rowAt.made w5 39 [.int .i64 0, .int .i64 0, .int .i64 0, .int .i64 0]).drew.below hb6 (by simp))
       clear ho6 hb6)
    | (go_at_call 50
       with_reducible refine (gcRoom_yes (w := w6) HR.out (Int.le_refl 0) HT.out (HA5.out.below B6.out) O6.out HX.out LR.out).mono ?_
       rintro e w7 ⟨g7, rfl, -, -, hb7⟩
       have B7 := Lib.hid (down_call B6.out hb7)
       have RM7 := Lib.hid (RM5.out.below B7.out RM5.out.lt)
       have lt7 := RM7.out.lt
       have AL2 := Lib.hid (AL.out.below hb7 AL.out.lt)
       obtain ⟨a0, a1', a2', a3'⟩ := cells4G AL2.out
       have b0 := AL2.out.free 0
       have b1 := AL2.out.free 1
       have b2 := AL2.out.free 2
       have b3 := AL2.out.free 3
       have bl := AL2.out.lt
       clear hb7)
    | (go_at_call 50
       with_reducible refine (gcRoom_yes (w := w6) HR.out (Int.le_refl 0) HT.out (HA5.out.below B6.out) O6.out HX.out LR.out).mono ?_
       rintro e w7 ⟨g7, rfl, -, -, hb7⟩
       have B7 := Lib.hid (down_call B6.out hb7)
       have RM7 := Lib.hid (RM5.out.below B7.out RM5.out.lt)
       have lt7 := RM7.out.lt
       clear hb7)
    | (go_at_call 50
       have AL := Lib.hid (rowAt.made w6 39 [.int .i64 0, .int .i64 0, .int .i64 0, .int .i64 0]); with_reducible refine (gcRoom_yes (w := w6.alloc (.cells #[.int .i64 0, .int .i64 0, .int .i64 0, .int .i64 0] 39)) HR.out (Int.le_refl 0) HT.out (HA5.out.below (down_alloc B6.out (.cells #[.int .i64 0, .int .i64 0, .int .i64 0, .int .i64 0] 39))) (O6.out.below (down_alloc (Below.refl _ _) (.cells #[.int .i64 0, .int .i64 0, .int .i64 0, .int .i64 0] 39))) HX.out LR.out).mono ?_
       rintro e w7 ⟨g7, rfl, -, -, hb7⟩
       have B7 := Lib.hid (down_call (down_alloc B6.out (.cells #[.int .i64 0, .int .i64 0, .int .i64 0, .int .i64 0] 39)) hb7)
       have RM7 := Lib.hid (RM5.out.below B7.out RM5.out.lt)
       have lt7 := RM7.out.lt
       have AL2 := Lib.hid (AL.out.below hb7 AL.out.lt)
       obtain ⟨a0, a1', a2', a3'⟩ := cells4G AL2.out
       have b0 := AL2.out.free 0
       have b1 := AL2.out.free 1
       have b2 := AL2.out.free 2
       have b3 := AL2.out.free 3
       have bl := AL2.out.lt
       clear hb7))
  all_goals
    go_wp2_with fail
    go_ret
    refine ⟨rfl, ?_⟩
    have s5 := Z5.out.size
    have s6 := B6.out.size
    have s7 := B7.out.size
    repeat (first | exact down_call Z5.out B7.out | refine down_alloc ?_ _ | refine down_set ?_ (by dsimp only; (try simp only [World.size_drew]); omega) _)
end Go.Proofs.YtajkkinolpkfmaaGreatDoor

/-
  Plain facts of the law FrameBack: a started machine may be; what is thrown.
  Conditions: as each states.
-/
namespace Go.Proofs.YtajkkinolpkfmaaGreatDoor
set_option linter.unusedVariables false
set_option linter.unusedSimpArgs false
open Go.ChangeShapes Go.WideShapes Go.ChangeAt Go.RowKit
set_option maxRecDepth 100000

structure StartOk (P : PPr) (L : Nat) : Prop where
  e : startP 3 20 0 0 P = ⟨3, 20, 0, 0, List.replicate L 1, [(0, 0, 0, 1)], [], 0, 1, 0⟩
  few : L ≤ 60
  cnt : cntG ⟨3, 20, 0, 0, List.replicate L 1, [(0, 0, 0, 1)], [], 0, 1, 0⟩ = true
  fr : frG P.1 ((List.replicate L (1 : Int)).length : Int) 0 [(0, 0, 0, 1)] = true
  st : stG ⟨3, 20, 0, 0, List.replicate L 1, [(0, 0, 0, 1)], [], 0, 1, 0⟩ = true
  roots : (Ar.bare 40).rootsOk 3 20 0 0 (rootsP ⟨3, 20, 0, 0, List.replicate L 1, [(0, 0, 0, 1)], [], 0, 1, 0⟩) = true
  fit : ∀ x ∈ rootsP ⟨3, 20, 0, 0, List.replicate L 1, [(0, 0, 0, 1)], [], 0, 1, 0⟩, fitW x
theorem roots_ones (L : Nat) : ∀ x ∈ rootsP ⟨3, 20, 0, 0, List.replicate L 1, [(0, 0, 0, 1)], [], 0, 1, 0⟩, x = 1 := by
  intro x hx
  simp only [rootsP, selfs, List.mem_append, List.mem_replicate, List.map_cons, List.map_nil, List.mem_cons, List.not_mem_nil, or_false] at hx
  omega
theorem start_ok {P : PPr} (h : prG P = true) : ∃ L, StartOk P L := by
  have hok := fns_ok h
  have h1 : 0 < P.1.length := by
    unfold prG fnsG at h
    simp only [Bool.and_eq_true, decide_eq_true_eq] at h
    exact h.2.1.1
  have h2 : ∀ g ∈ P.1, 0 < g.2.2.length := fun g hg => by
    unfold prG fnsG at h
    simp only [Bool.and_eq_true] at h
    obtain ⟨j, hj⟩ := List.mem_iff_getElem?.1 hg
    have := (allI_iff fnK P.1 0).1 h.2.1.2 j g hj
    unfold fnK fnG at this
    simp only [Bool.and_eq_true, decide_eq_true_eq] at this
    omega
  obtain ⟨g, r, hP⟩ : ∃ g r, P.1 = g :: r := by
    cases hq : P.1 with
    | nil => rw [hq] at h1; cases h1
    | cons g r => exact ⟨g, r, rfl⟩
  have hg : g ∈ P.1 := by rw [hP]; exact List.mem_cons_self ..
  have q1 := hok.loc g hg
  have q2 := h2 g hg
  refine ⟨g.1.toNat, ?_, by omega, ?_, ?_, ?_, ?_, ?_⟩
  · unfold startP startYes
    rw [if_pos h, hP]
    rfl
  · simp [cntG]
    omega
  · unfold frG
    rw [hP]
    have e1 : inF 0 0 (((g :: r).length : Int) - 1) = true := inF_iff.2 (by simp only [List.length_cons]; omega)
    have e2 : inF 0 0 ((g.2.2.length : Int) - 1) = true := inF_iff.2 (by omega)
    have e3 : inF 0 0 (((List.replicate g.1.toNat (1 : Int)).length : Int) - g.1) = true := inF_iff.2 (by rw [List.length_replicate]; omega)
    simp only [e1, Int.toNat_zero, List.getElem?_cons_zero, e2, e3, frG, Bool.and_self]
  · simp [stG, inF]
  · unfold Ar.rootsOk
    rw [show (Ar.bare 40).objs 3 20 0 0 = some [] from empty_objs 20 0 (by decide) (by decide) (by decide)]
    refine List.all_eq_true.2 fun x hx => ?_
    rw [roots_ones _ x hx]
    decide +kernel
  · intro x hx
    rw [roots_ones _ x hx]
    exact ⟨by decide, by decide⟩
theorem start_no {P : PPr} (h : prG P = false) : startP 3 20 0 0 P = ⟨3, 20, 0, 0, [], [], [], 7, 1, 0⟩ := by
  unfold startP startNo
  rw [if_neg (by rw [h]; decide)]
theorem throw_nil {M : PMa} (h : M.hd.length = 0) (c : Int) : throwP M c = thNone M c := by
  unfold throwP
  rw [List.length_eq_zero_iff.1 h]
  rfl
theorem throw_last {M : PMa} {n : Nat} {h : PHd} (hn : M.hd.length = n + 1) (hg : M.hd[n]? = some h) (c : Int) : throwP M c = if thOk M h = true then thTo M h c else { M with state := 7 } := by
  unfold throwP
  simp only [List.getLast?_eq_getElem?, hn, Nat.add_sub_cancel, hg]
/-- What a handler that may be makes of the machine. -/
structure ToOk (M : PMa) (kf m : Nat) (PC c : Int) (n : Nat) (T : PMa) : Prop where
  st : T.st = M.st.take m ++ [wInt c]
  sl : T.st.length = m + 1
  fl : T.fr.length = kf + 1
  fp : ∃ f, T.fr[kf]? = some f ∧ f.2.1 = PC
  hl : T.hd.length = n
  sta : T.state = M.state
  kf : kf < M.fr.length
  m : m ≤ M.st.length
theorem to_ok {M : PMa} {kf m n : Nat} {PC : Int} (hn : M.hd.length = n + 1) (h1 : kf < M.fr.length) (h2 : m ≤ M.st.length) (c : Int) : ToOk M kf m PC c n (thTo M ((kf : Int) + 1, (m : Int), PC) c) := by
  have e1 : ((kf : Int) + 1 - 1).toNat = kf := by omega
  have e2 : ((m : Int)).toNat = m := by omega
  refine ⟨?_, ?_, ?_, ?_, ?_, rfl, h1, h2⟩
  · unfold thTo
    simp only [e2]
  · unfold thTo
    simp only [e2, List.length_append, List.length_take, List.length_cons, List.length_nil]
    omega
  · unfold thTo popFr
    simp only [e1, List.length_take, List.length_set]
    omega
  · refine ⟨pcF (M.fr.getD kf frN) PC, ?_, rfl⟩
    unfold thTo popFr
    simp only [e1]
    rw [List.getElem?_take_of_lt (by omega), List.getElem?_set_self h1]
  · unfold thTo
    simp only [List.length_dropLast, hn]
    omega
end Go.Proofs.YtajkkinolpkfmaaGreatDoor

/-
  For every program, machine and code the law FrameBack returns true, and its arguments read as they did. Condition: the three tables of package op read when the call begins as the program's text lays them (the card ties them).
-/
namespace Go.Proofs.YtajkkinolpkfmaaGreatDoor.frameBack
set_option linter.unusedVariables false
set_option linter.unusedSimpArgs false
open Go.ChangeShapes Go.WideShapes Go.ChangeAt Go.RowKit
set_option maxRecDepth 100000

theorem own : ownKnob Tryz.prog.godebug = none := by kernel_rfl
theorem laidOut : laidOutB Tryz.prog = true := by kernel_rfl

/-- A state of the law's walk: what came of the world, and what is kept however much is made behind it. -/
structure Sw (w : World) (P : World → Prop) (W : World) : Prop where
  below : Below w.heap.size w W
  p : P W
  keep : ∀ W1 W2, P W1 → Below W1.heap.size W1 W2 → P W2
theorem Sw.on {w W W' : World} {P : World → Prop} (h : Sw w P W) (hb : Below W.heap.size W W') : Sw w P W' := ⟨down_call h.below hb, h.keep _ _ h.p hb, h.keep⟩
theorem Sw.add {w W : World} {P : World → Prop} (h : Sw w P W) (Q : World → Prop) (q : Q W) (k : ∀ W1 W2, Q W1 → Below W1.heap.size W1 W2 → Q W2) : Sw w (fun W => P W ∧ Q W) W :=
  ⟨h.below, ⟨h.p, q⟩, fun _ _ hp hb => ⟨h.keep _ _ hp.1 hb, k _ _ hp.2 hb⟩⟩
theorem row_keep {b : Nat} {T : TypeId} {cs : List Value} : ∀ W1 W2 : World, rowAt W1 b T cs → Below W1.heap.size W1 W2 → rowAt W2 b T cs := fun _ _ h hb => h.below hb h.lt
theorem ma_keep {S : Nat → Prop} {s f h : Value} {M : PMa} : ∀ W1 W2 : World, maAt S W1 s f h M → Below W1.heap.size W1 W2 → maAt S W2 s f h M := fun _ _ h hb => h.below hb
theorem held_keep {p : Nat} {G : Nat → Prop} {A : Ar} : ∀ W1 W2 : World, Held W1 p G A → Below W1.heap.size W1 W2 → Held W2 p G A := fun _ _ h hb => h.below hb
theorem make_forty (w : World) : (Instr.makeSlice 40 (.int .i64 40) (.int .i64 40)).run Tryz.prog w = .ok (.slice (some ⟨w.heap.size, 0, none⟩) 40 40) (w.alloc (.cells ⟨wordsL (List.replicate 40 0)⟩ 43)) := make_words 40 (by omega) w
theorem rgood_is {S : Nat → Prop} {P : PPr} {b : Bool} (hb : prG P = b) (v1 v2 v3 : Value) (w : World) (h : prAt S w v1 v2 v3 P) (hF : prF P) :
    Calls Tryz.prog 18 #[.agg #[v1, v2, v3]] w fun e w' => e = .returned (.bool b) ∧ Below w.heap.size w w' := hb ▸ rgood_any v1 v2 v3 P w h hF
theorem owns_cap {w : World} {B : Nat} {T : TypeId} {s n c : Nat} {a : Option Addr} {xs : List Value} (h : w.ownsRow B T s (.slice a n c) n xs) (hn : n ≠ 0) : n ≤ c := by
  rcases owns_parts h with ⟨_, h1, _⟩ | ⟨g, cap, rest, e, _, _, _, _, h3, _⟩
  · omega
  · cases e; exact h3
theorem goodStart {S : Nat → Prop} {w : World} {p : Nat} {G : Nat → Prop} {P : PPr} {b : Bool} {M : PMa} {v1 v2 v3 s f h : Value} (hb : prG P = b) (hM : startP 3 20 0 0 P = M) (hA : Held w p G (Ar.bare 40)) (T : OpTab w) (hp : prAt (fun _ => False) w v1 v2 v3 P) (hF : prF P) (k : maAt S w s f h M) :
    Calls Tryz.prog 19 #[.pointer (some ⟨p, 0, none⟩), .agg #[v1, v2, v3], maV M.z0 M.z1 M.z2 M.z3 s f h M.state M.res M.code] w fun e w' => e = .returned (.bool b) ∧ Below w.heap.size w w' := by
  cases b with
  | true =>
    obtain ⟨L, SO⟩ := start_ok hb
    rw [SO.e] at hM
    subst hM
    exact good_plain hA hb T hp hF k SO.cnt SO.fr SO.st SO.roots SO.fit (show (0 : Int) ≤ 20 - 0 by decide)
  | false =>
    obtain ⟨a1, c1, e1⟩ := k.1.slice
    obtain ⟨a2, c2, e2⟩ := k.2.1.slice
    obtain ⟨a3, c3, e3⟩ := k.2.2.slice
    exact good_badP ⟨_, _, _, e1⟩ ⟨_, _, _, e2⟩ ⟨_, _, _, e3⟩ hb T hp hF
theorem rd_atB {S : Nat → Prop} {w : World} {a : Option Addr} {n c m : Nat} {cs : List Value} (h : rdAt S w (.slice a n c) m cs) (h0 : m ≠ 0) : ∃ b o, a = some ⟨b, o, none⟩ ∧ b < w.heap.size ∧ ∀ j u, cs[j]? = some u → w.cell? ⟨b, o + j, none⟩ = some u := by
  obtain ⟨a', c', e, h⟩ := h
  injection e with e1 e2 e3
  subst e1
  rcases h with h | ⟨b, o, h1, _, h3, h4⟩
  · exact absurd h h0
  · exact ⟨b, o, h1, h3, h4⟩
theorem rd_take {S : Nat → Prop} {w : World} {a : Option Addr} {n c m : Nat} {cs cs' : List Value} (h : rdAt S w (.slice a n c) n cs) (hm : m ≤ n) (hp : ∀ (j : Nat) (u : Value), cs'[j]? = some u → cs[j]? = some u) : readsAt w (.slice a m c) m cs' := by
  obtain ⟨a', c', e, h⟩ := h
  cases e
  refine ⟨_, _, rfl, ?_⟩
  rcases h with h | ⟨b, o, h1, _, _, h4⟩
  · exact .inl (by omega)
  · exact .inr ⟨b, o, h1, fun j u hj => h4 j u (hp j u hj)⟩
theorem take_pre (l : List Int) (m : Nat) : ∀ (j : Nat) (u : Value), (wdL (l.take m))[j]? = some u → (wdL l)[j]? = some u := by
  intro j u h
  rw [wdL_take, List.getElem?_take] at h
  split at h
  · exact h
  · cases h
theorem app_pre (a b : List Int) : ∀ (j : Nat) (u : Value), (wdL a)[j]? = some u → (wdL (a ++ b))[j]? = some u := by
  intro j u h
  rw [show wdL (a ++ b) = wdL a ++ wdL b by simp, List.getElem?_append_left (List.getElem?_eq_some_iff.1 h).1]
  exact h
theorem wr_a (k : Nat) (h : k ≤ 1000) : IntKind.i64.wrap ((k : Int) + 1 - 1) = (k : Int) := by rw [show (k : Int) + 1 - 1 = (k : Int) by omega, IntKind.wrap_i64]; omega
theorem wr_b (k : Nat) (h : k ≤ 1000) : IntKind.i64.wrap (k : Int) = (k : Int) := by rw [IntKind.wrap_i64]; omega
theorem wr_c (k : Nat) (h : k ≤ 1000) : IntKind.i64.wrap ((k : Int) + 1) = (k : Int) + 1 := by rw [IntKind.wrap_i64]; omega
theorem wr_d (l n : Nat) (h : l ≤ 1000) (e : (l : Int) - 1 = (n : Int)) : IntKind.i64.wrap ((l : Int) - 1) = (n : Int) := by rw [e]; exact wr_b n (by omega)
theorem wr_e (k : Nat) (h : k ≤ 1000) : wrap64 (k : Int) = (k : Int) := by unfold wrap64; omega
theorem ma_slices {S : Nat → Prop} {w : World} {s f h : Value} {M : PMa} (k : maAt S w s f h M) : ∃ a1 c1 a2 c2 a3 c3, s = .slice a1 M.st.length c1 ∧ f = .slice a2 M.fr.length c2 ∧ h = .slice a3 M.hd.length c3 := by
  obtain ⟨a1, c1, e1⟩ := k.1.slice
  obtain ⟨a2, c2, e2⟩ := k.2.1.slice
  obtain ⟨a3, c3, e3⟩ := k.2.2.slice
  exact ⟨a1, c1, a2, c2, a3, c3, e1, e2, e3⟩
set_option maxHeartbeats 64000000 in
theorem walk (v1 v2 v3 : Value) (P : PPr) (s f h : Value) (M : PMa) (c : Int) (w : World) (hp : prAt (fun _ => False) w v1 v2 v3 P) (hf : prF P) (hr : PRe P) (hk : maAt (fun _ => False) w s f h M) (hcv : capV s) (wc : (Lit.int .i64 c).wf = true) (T : OpTab w) :
    Calls Tryz.prog 4 #[.agg #[v1, v2, v3], maV M.z0 M.z1 M.z2 M.z3 s f h M.state M.res M.code, .int .i64 c] w fun e w' => e = .returned (.bool true) ∧ Below w.heap.size w w' := by
  obtain ⟨z0, z1, z2, z3, st, fr, hd, sta, res, cod⟩ := M
  obtain ⟨a1, c1, a2, c2, a3, c3, rfl, rfl, rfl⟩ := ma_slices hk
  obtain ⟨p1, k1, rfl⟩ := hp.1.slice
  obtain ⟨p2, k2, rfl⟩ := hp.2.1.slice
  obtain ⟨p3, k3, rfl⟩ := hp.2.2.slice
  obtain ⟨W, hW⟩ : ∃ W, (w.alloc (.cells #[.slice p1 P.1.length k1, .slice p2 P.2.1.length k2, .slice p3 P.2.2.length k3] 37)).alloc (.cells #[.int .i64 z0, .int .i64 z1, .int .i64 z2, .int .i64 z3, .slice a1 st.length c1, .slice a2 fr.length c2, .slice a3 hd.length c3, .int .i64 sta, .int .u64 res, .int .i64 cod] 45) = W := ⟨_, rfl⟩
  have K0 := Lib.hid (show Sw w (fun W => rowAt W w.heap.size 37 [.slice p1 P.1.length k1, .slice p2 P.2.1.length k2, .slice p3 P.2.2.length k3] ∧ rowAt W (w.heap.size + 1) 45 [.int .i64 z0, .int .i64 z1, .int .i64 z2, .int .i64 z3, .slice a1 st.length c1, .slice a2 fr.length c2, .slice a3 hd.length c3, .int .i64 sta, .int .u64 res, .int .i64 cod]) W by
    refine ⟨by rw [← hW]; exact down_alloc (down_alloc (Below.refl _ _) _) _, ⟨by rw [← hW]; exact (rowAt.made w _ _).alloc _, by rw [← hW]; exact rowAt.made_at _ _ (by simp)⟩, fun _ _ h hb => ⟨row_keep _ _ h.1 hb, row_keep _ _ h.2 hb⟩⟩)
  have HT := Lib.hid T
  have HP := Lib.hid hp
  have HF := Lib.hid hf
  have HRE := Lib.hid hr
  have HK := Lib.hid hk
  have HCV := Lib.hid (show st.length ≤ c1 by obtain ⟨a, n', c', e, h⟩ := hcv; cases e; exact h)
  simp only at HK
  clear T hp hf hr hk hcv
  obtain ⟨c0, c1', c2'⟩ := cells3G K0.out.p.1
  obtain ⟨d0, d1, d2, d3, d4, d5, d6, d7, d8, d9⟩ := cells10 K0.out.p.2
  go_enter Tryz.func4, Tryz.ntmps4
  go_wp2_with fail
  clear hW
  clear c0 c1' c2' d0 d1 d2 d3 d4 d5 d6 d7 d8 d9
  refine (large_any (HP.out.below K0.out.below) HRE.out (fun s hs => HF.out.st s hs)).mono ?_
  rintro e w1 ⟨x1, rfl, -, hb⟩
  have K1 := Lib.hid (K0.out.on hb)
  clear hb
  cases x1
  · skip
    obtain ⟨x2, hx2⟩ : ∃ x, largeMa ⟨z0, z1, z2, z3, st, fr, hd, sta, res, cod⟩ = x := ⟨_, rfl⟩
    have X2 := Lib.hid hx2
    clear hx2
    obtain ⟨c0, c1', c2'⟩ := cells3G K1.out.p.1
    obtain ⟨d0, d1, d2, d3, d4, d5, d6, d7, d8, d9⟩ := cells10 K1.out.p.2
    go_wp2_with fail
    clear c0 c1' c2' d0 d1 d2 d3 d4 d5 d6 d7 d8 d9
    refine (largeMachine_is (M := ⟨z0, z1, z2, z3, st, fr, hd, sta, res, cod⟩) X2.out (HK.out.below K1.out.below)).mono ?_
    rintro e w2 ⟨rfl, hb⟩
    have K2 := Lib.hid (K1.out.on hb)
    clear hb
    cases x2
    · skip
      have LN := Lib.hid (show st.length ≤ 400 ∧ fr.length ≤ 120 ∧ hd.length ≤ 100 by
        have h := X2.out
        simp only [largeMa, Bool.or_eq_false_iff, decide_eq_false_iff_not] at h
        omega)
      have MF := Lib.hid (show maF ⟨z0, z1, z2, z3, st, fr, hd, sta, res, cod⟩ from ⟨by have := LN.out; simp only; omega, by have := LN.out; simp only; omega, by have := LN.out; simp only; omega⟩)
      have l400 : st.length ≤ 400 := LN.out.1
      have l120 : fr.length ≤ 120 := LN.out.2.1
      have l100 : hd.length ≤ 100 := LN.out.2.2
      clear X2
      obtain ⟨c0, c1', c2'⟩ := cells3G K2.out.p.1
      obtain ⟨d0, d1, d2, d3, d4, d5, d6, d7, d8, d9⟩ := cells10 K2.out.p.2
      go_wp2_with fail
      clear c0 c1' c2' d0 d1 d2 d3 d4 d5 d6 d7 d8 d9
      refine (roots_any ⟨z0, z1, z2, z3, st, fr, hd, sta, res, cod⟩ (HK.out.below K2.out.below) MF.out).mono ?_
      rintro e w3 ⟨rv, rfl, ho, hb⟩
      have K3 := Lib.hid (K2.out.on hb)
      have rl : (rootsP ⟨z0, z1, z2, z3, st, fr, hd, sta, res, cod⟩).length = st.length + fr.length + 1 := rootsP_length _
      obtain ⟨ra, rc, rfl⟩ := owns_slice ho
      have RC := Lib.hid (show (rootsP ⟨z0, z1, z2, z3, st, fr, hd, sta, res, cod⟩).length ≤ rc from owns_cap ho (by rw [rl]; omega))
      have RO := Lib.hid (rdAt.of_owns (S := fun _ => False) ho (fun _ _ h => h))
      have RL := Lib.hid rl
      clear ho hb rl
      obtain ⟨c0, c1', c2'⟩ := cells3G K3.out.p.1
      obtain ⟨d0, d1, d2, d3, d4, d5, d6, d7, d8, d9⟩ := cells10 K3.out.p.2
      go_wp2_with fail
      clear c0 c1' c2' d0 d1 d2 d3 d4 d5 d6 d7 d8 d9
      refine (with_any ⟨z0, z1, z2, z3, st, fr, hd, sta, res, cod⟩ z0 z1 z2 z3 (HK.out.below K3.out.below) MF.out RO.out RC.out).mono ?_
      rintro e w4 hp
      rw [if_pos RL.out, show withP ⟨z0, z1, z2, z3, st, fr, hd, sta, res, cod⟩ z0 z1 z2 z3 (rootsP ⟨z0, z1, z2, z3, st, fr, hd, sta, res, cod⟩) = ⟨z0, z1, z2, z3, st, fr, hd, sta, res, cod⟩ from with_roots ⟨z0, z1, z2, z3, st, fr, hd, sta, res, cod⟩] at hp
      obtain ⟨sw, fw, hw, rfl, hmw, hb⟩ := hp
      simp only
      have K4 := Lib.hid (K3.out.on hb)
      obtain ⟨b1, e1, b2, e2, b3, e3, rfl, rfl, rfl⟩ := ma_slices hmw
      have MW := Lib.hid (hmw.off (T := fun _ => False) (fun _ _ h => h.elim))
      simp only at MW
      clear hb hmw RO RC
      obtain ⟨W5, hW5⟩ : ∃ W, w4.alloc (.cells #[.int .i64 z0, .int .i64 z1, .int .i64 z2, .int .i64 z3, .slice b1 st.length e1, .slice b2 fr.length e2, .slice b3 hd.length e3, .int .i64 sta, .int .u64 res, .int .i64 cod] 45) = W := ⟨_, rfl⟩
      have b5 : Below w4.heap.size w4 W5 := by rw [← hW5]; exact down_alloc (Below.refl _ _) _
      have K5 := Lib.hid ((K4.out.on b5).add (fun W => rowAt W w4.heap.size 45 [.int .i64 z0, .int .i64 z1, .int .i64 z2, .int .i64 z3, .slice b1 st.length e1, .slice b2 fr.length e2, .slice b3 hd.length e3, .int .i64 sta, .int .u64 res, .int .i64 cod]) (by rw [← hW5]; exact rowAt.made _ _ _) row_keep)
      have MW5 := Lib.hid (MW.out.below b5)
      clear b5
      obtain ⟨d0, d1, d2, d3, d4, d5, d6, d7, d8, d9⟩ := cells10 K4.out.p.2
      obtain ⟨m0, m1, m2, m3, m4, m5, m6, m7, m8, m9⟩ := cells10 K5.out.p.1.2
      obtain ⟨e0', e1', e2', e3', e4', e5', e6', e7', e8', e9'⟩ := cells10 K5.out.p.2
      go_wp2_with fail
      clear hW5 d0 d1 d2 d3 d4 d5 d6 d7 d8 d9 m0 m1 m2 m3 m4 m5 m6 m7 m8 m9 e0' e1' e2' e3' e4' e5' e6' e7' e8' e9'
      refine (keepMachine_same ⟨z0, z1, z2, z3, st, fr, hd, sta, res, cod⟩ MW5.out (HK.out.below K5.out.below) MF.out).mono ?_
      rintro e w6 ⟨rfl, hb⟩
      have K6 := Lib.hid (K5.out.on hb)
      clear hb
      have rli : (((rootsP ⟨z0, z1, z2, z3, st, fr, hd, sta, res, cod⟩).length : Nat) : Int) = (st.length : Int) + (fr.length : Int) + 1 := by rw [RL.out]; omega
      clear MW5
      have hmk := make_forty
      obtain ⟨d0, d1, d2, d3, d4, d5, d6, d7, d8, d9⟩ := cells10 K6.out.p.1.2
      go_wp2_with fail
      clear d0 d1 d2 d3 d4 d5 d6 d7 d8 d9
      clear rli hmk
      refine (lay_any _ _ (List.replicate 40 0) (readsAt.row (rest := []) (by rw [List.append_nil]; exact rowAt.made w6 _ _)) (fun x hx => by obtain rfl := List.eq_of_mem_replicate hx; exact ⟨by decide, by decide⟩) (by decide)).mono ?_
      rintro e w7 ⟨p, q, FS, GS, rfl, h1, -, -, -, -, h6⟩
      have K7 := Lib.hid ((K6.out.on (down_call (down_alloc (Below.refl w6.heap.size w6) _) h6)).add (fun W => Held W p FS (Ar.bare 40)) (show Held w7 p FS (Ar.laid (List.replicate 40 0)) from h1) held_keep)
      clear h1 h6
      obtain ⟨W8, hW8⟩ : ∃ W, w7.alloc (.cells #[.pointer (some ⟨p, 0, none⟩), .pointer (some ⟨q, 0, none⟩)] 55) = W := ⟨_, rfl⟩
      have K8 := Lib.hid ((K7.out.on (show Below w7.heap.size w7 W8 by rw [← hW8]; exact down_alloc (Below.refl _ _) _)).add (fun W => rowAt W w7.heap.size 55 [.pointer (some ⟨p, 0, none⟩), .pointer (some ⟨q, 0, none⟩)]) (by rw [← hW8]; exact rowAt.made _ _ _) row_keep)
      obtain ⟨c0, c1', c2'⟩ := cells3G K8.out.p.1.1.1.1
      go_wp2_with fail
      clear hW8
      clear c0 c1' c2'
      refine (start_any (y0 := 3) (y1 := 20) (y2 := 0) (y3 := 0) (HT.out.below K8.out.below) (HP.out.below K8.out.below) HF.out).mono ?_
      rintro e w9 hth
      obtain ⟨SM, hSM⟩ : ∃ SM, startP 3 20 0 0 P = SM := ⟨_, rfl⟩
      rw [hSM] at hth
      obtain ⟨y0, y1, y2, y3, st2, fr2, hd2, sta2, res2, cod2⟩ := SM
      obtain ⟨sv, fv, hv, rfl, hms, hb⟩ := hth
      obtain ⟨g1, i1, g2, i2, g3, i3, rfl, rfl, rfl⟩ := ma_slices hms
      simp only
      obtain ⟨b, hpg⟩ : ∃ b, prG P = b := ⟨_, rfl⟩
      have ST7 := Lib.hid (show b = false → sta2 = 7 from fun h => by rw [start_no (hpg.trans h)] at hSM; injection hSM with _ _ _ _ _ _ _ h8; exact h8.symm)
      have SMH := Lib.hid hSM
      have PGH := Lib.hid hpg
      obtain ⟨W10, hW10⟩ : ∃ W, w9.alloc (.cells #[.int .i64 y0, .int .i64 y1, .int .i64 y2, .int .i64 y3, .slice g1 st2.length i1, .slice g2 fr2.length i2, .slice g3 hd2.length i3, .int .i64 sta2, .int .u64 res2, .int .i64 cod2] 45) = W := ⟨_, rfl⟩
      have b10 : Below w9.heap.size w9 W10 := by rw [← hW10]; exact down_alloc (Below.refl _ _) _
      have K10 := Lib.hid ((((K8.out.on hb).on b10).add (fun W => maAt (fun _ => False) W (.slice g1 st2.length i1) (.slice g2 fr2.length i2) (.slice g3 hd2.length i3) ⟨y0, y1, y2, y3, st2, fr2, hd2, sta2, res2, cod2⟩) ((hms.off (T := fun _ => False) (fun _ _ h => h.elim)).below b10) ma_keep).add (fun W => rowAt W w9.heap.size 45 [.int .i64 y0, .int .i64 y1, .int .i64 y2, .int .i64 y3, .slice g1 st2.length i1, .slice g2 fr2.length i2, .slice g3 hd2.length i3, .int .i64 sta2, .int .u64 res2, .int .i64 cod2]) (by rw [← hW10]; exact rowAt.made _ _ _) row_keep)
      have lt10 : w.heap.size + 1 < w9.heap.size := by have := (K8.out.p.1.1.1.2.below hb (K8.out.p.1.1.1.2).lt).lt; exact this
      clear hb hms b10 hSM hpg
      obtain ⟨c0, c1', c2'⟩ := cells3G K10.out.p.1.1.1.1.1.1
      have t0 := (K10.out.p.1.1.2).cell 0
      have t1 := (K10.out.p.1.1.2).cell 1
      simp only [List.getElem?_cons_zero, List.getElem?_cons_succ] at t0 t1
      obtain ⟨f0, f1, f2, f3, f4, f5, f6, f7, f8, f9⟩ := cells10 K10.out.p.2
      go_upto_region 11 with fail
      clear hW10
      go_cut [92] from 66 to 91 (fun v92 wx => v92 = .bool false ∧ Sw w (fun W => rowAt W w.heap.size 37 [.slice p1 P.1.length k1, .slice p2 P.2.1.length k2, .slice p3 P.2.2.length k3] ∧ rowAt W (w.heap.size + 1) 45 [.int .i64 z0, .int .i64 z1, .int .i64 z2, .int .i64 z3, .slice a1 st.length c1, .slice a2 fr.length c2, .slice a3 hd.length c3, .int .i64 sta, .int .u64 res, .int .i64 cod]) wx)
      case first =>
        cases b
        · have n7 : (sta2 != 7) = false := by rw [ST7.out rfl]; rfl
          go_wp2_with fail
          refine (rgood_is PGH.out _ _ _ _ (HP.out.below K10.out.below) HF.out).mono ?_
          rintro e xL1 ⟨rfl, hb⟩
          have L1 := Lib.hid (K10.out.on hb)
          clear hb
          clear c0 c1' c2' t0 t1 f0 f1 f2 f3 f4 f5 f6 f7 f8 f9
          obtain ⟨c0, c1', c2'⟩ := cells3G L1.out.p.1.1.1.1.1.1
          have t0 := (L1.out.p.1.1.2).cell 0
          have t1 := (L1.out.p.1.1.2).cell 1
          simp only [List.getElem?_cons_zero, List.getElem?_cons_succ] at t0 t1
          obtain ⟨f0, f1, f2, f3, f4, f5, f6, f7, f8, f9⟩ := cells10 L1.out.p.2
          go_wp2_with fail
          refine (rgood_is PGH.out _ _ _ _ (HP.out.below L1.out.below) HF.out).mono ?_
          rintro e xL2 ⟨rfl, hb⟩
          have L2 := Lib.hid (L1.out.on hb)
          clear hb
          clear c0 c1' c2' t0 t1 f0 f1 f2 f3 f4 f5 f6 f7 f8 f9
          obtain ⟨c0, c1', c2'⟩ := cells3G L2.out.p.1.1.1.1.1.1
          have t0 := (L2.out.p.1.1.2).cell 0
          have t1 := (L2.out.p.1.1.2).cell 1
          simp only [List.getElem?_cons_zero, List.getElem?_cons_succ] at t0 t1
          obtain ⟨f0, f1, f2, f3, f4, f5, f6, f7, f8, f9⟩ := cells10 L2.out.p.2
          go_wp2_with fail
          refine (goodStart (M := ⟨y0, y1, y2, y3, st2, fr2, hd2, sta2, res2, cod2⟩) PGH.out SMH.out (L2.out.p.1.1.1.2) (HT.out.below L2.out.below) (HP.out.below L2.out.below) HF.out (L2.out.p.1.2)).mono ?_
          rintro e xL3 ⟨rfl, hb⟩
          have L3 := Lib.hid (L2.out.on hb)
          clear hb
          clear c0 c1' c2' t0 t1 f0 f1 f2 f3 f4 f5 f6 f7 f8 f9
          obtain ⟨c0, c1', c2'⟩ := cells3G L3.out.p.1.1.1.1.1.1
          have t0 := (L3.out.p.1.1.2).cell 0
          have t1 := (L3.out.p.1.1.2).cell 1
          simp only [List.getElem?_cons_zero, List.getElem?_cons_succ] at t0 t1
          obtain ⟨f0, f1, f2, f3, f4, f5, f6, f7, f8, f9⟩ := cells10 L3.out.p.2
          go_wp2_with fail
          go_meet
          exact ⟨rfl, L3.out.below, ⟨L3.out.p.1.1.1.1.1.1, L3.out.p.1.1.1.1.1.2⟩, fun _ _ h hb => ⟨row_keep _ _ h.1 hb, row_keep _ _ h.2 hb⟩⟩
        · skip
          go_wp2_with fail
          refine (rgood_is PGH.out _ _ _ _ (HP.out.below K10.out.below) HF.out).mono ?_
          rintro e xL1 ⟨rfl, hb⟩
          have L1 := Lib.hid (K10.out.on hb)
          clear hb
          clear c0 c1' c2' t0 t1 f0 f1 f2 f3 f4 f5 f6 f7 f8 f9
          obtain ⟨c0, c1', c2'⟩ := cells3G L1.out.p.1.1.1.1.1.1
          have t0 := (L1.out.p.1.1.2).cell 0
          have t1 := (L1.out.p.1.1.2).cell 1
          simp only [List.getElem?_cons_zero, List.getElem?_cons_succ] at t0 t1
          obtain ⟨f0, f1, f2, f3, f4, f5, f6, f7, f8, f9⟩ := cells10 L1.out.p.2
          go_wp2_with fail
          refine (goodStart (M := ⟨y0, y1, y2, y3, st2, fr2, hd2, sta2, res2, cod2⟩) PGH.out SMH.out (L1.out.p.1.1.1.2) (HT.out.below L1.out.below) (HP.out.below L1.out.below) HF.out (L1.out.p.1.2)).mono ?_
          rintro e xL2 ⟨rfl, hb⟩
          have L2 := Lib.hid (L1.out.on hb)
          clear hb
          clear c0 c1' c2' t0 t1 f0 f1 f2 f3 f4 f5 f6 f7 f8 f9
          obtain ⟨c0, c1', c2'⟩ := cells3G L2.out.p.1.1.1.1.1.1
          have t0 := (L2.out.p.1.1.2).cell 0
          have t1 := (L2.out.p.1.1.2).cell 1
          simp only [List.getElem?_cons_zero, List.getElem?_cons_succ] at t0 t1
          obtain ⟨f0, f1, f2, f3, f4, f5, f6, f7, f8, f9⟩ := cells10 L2.out.p.2
          go_wp2_with fail
          refine (rgood_is PGH.out _ _ _ _ (HP.out.below L2.out.below) HF.out).mono ?_
          rintro e xL3 ⟨rfl, hb⟩
          have L3 := Lib.hid (L2.out.on hb)
          clear hb
          clear c0 c1' c2' t0 t1 f0 f1 f2 f3 f4 f5 f6 f7 f8 f9
          obtain ⟨c0, c1', c2'⟩ := cells3G L3.out.p.1.1.1.1.1.1
          have t0 := (L3.out.p.1.1.2).cell 0
          have t1 := (L3.out.p.1.1.2).cell 1
          simp only [List.getElem?_cons_zero, List.getElem?_cons_succ] at t0 t1
          obtain ⟨f0, f1, f2, f3, f4, f5, f6, f7, f8, f9⟩ := cells10 L3.out.p.2
          go_wp2_with fail
          go_meet
          exact ⟨rfl, L3.out.below, ⟨L3.out.p.1.1.1.1.1.1, L3.out.p.1.1.1.1.1.2⟩, fun _ _ h hb => ⟨row_keep _ _ h.1 hb, row_keep _ _ h.2 hb⟩⟩
      case rest =>
        obtain ⟨rfl, hk13⟩ := hcut
        have K13 := Lib.hid hk13
        clear hk13 c0 c1' c2' t0 t1 f0 f1 f2 f3 f4 f5 f6 f7 f8 f9
        obtain ⟨d0, d1, d2, d3, d4, d5, d6, d7, d8, d9⟩ := cells10 K13.out.p.2
        go_wp2_with fail
        clear d0 d1 d2 d3 d4 d5 d6 d7 d8 d9
        rcases Nat.eq_zero_or_pos hd.length with h0 | h0
        · skip
          refine (throw_any ⟨z0, z1, z2, z3, st, fr, hd, sta, res, cod⟩ c (HK.out.below K13.out.below) MF.out).mono ?_
          rintro e w14 hth
          obtain ⟨TM, hTM⟩ : ∃ TM, thNone ⟨z0, z1, z2, z3, st, fr, hd, sta, res, cod⟩ c = TM := ⟨_, rfl⟩
          rw [throw_nil (M := ⟨z0, z1, z2, z3, st, fr, hd, sta, res, cod⟩) h0 c, hTM] at hth
          obtain ⟨y0, y1, y2, y3, st2, fr2, hd2, sta2, res2, cod2⟩ := TM
          obtain ⟨su, fu, hu, rfl, hmu, hb⟩ := hth
          obtain ⟨g1, i1, g2, i2, g3, i3, rfl, rfl, rfl⟩ := ma_slices hmu
          simp only
          obtain ⟨W15, hW15⟩ : ∃ W, w14.alloc (.cells #[.int .i64 y0, .int .i64 y1, .int .i64 y2, .int .i64 y3, .slice g1 st2.length i1, .slice g2 fr2.length i2, .slice g3 hd2.length i3, .int .i64 sta2, .int .u64 res2, .int .i64 cod2] 45) = W := ⟨_, rfl⟩
          have b15 : Below w14.heap.size w14 W15 := by rw [← hW15]; exact down_alloc (Below.refl _ _) _
          have lt14 : w.heap.size + 1 < w14.heap.size := (K13.out.p.2.below hb K13.out.p.2.lt).lt
          have K15 := Lib.hid ((((K13.out.on hb).on b15).add (fun W => maAt (fun _ => False) W (.slice g1 st2.length i1) (.slice g2 fr2.length i2) (.slice g3 hd2.length i3) ⟨y0, y1, y2, y3, st2, fr2, hd2, sta2, res2, cod2⟩) ((hmu.off (T := fun _ => False) (fun _ _ h => h.elim)).below b15) ma_keep).add (fun W => rowAt W w14.heap.size 45 [.int .i64 y0, .int .i64 y1, .int .i64 y2, .int .i64 y3, .slice g1 st2.length i1, .slice g2 fr2.length i2, .slice g3 hd2.length i3, .int .i64 sta2, .int .u64 res2, .int .i64 cod2]) (by rw [← hW15]; exact rowAt.made _ _ _) row_keep)
          clear hb hmu b15
          simp only [thNone] at hTM
          injection hTM with q0 q1 q2 q3 q4 q5 q6 q7 q8 q9
          have s0 : (((st2.length : Nat) : Int) == 0) = true := by rw [← q4]; rfl
          have f0 : (((fr2.length : Nat) : Int) == 0) = true := by rw [← q5]; rfl
          have n7 : (sta2 == 3) = true := by rw [← q7]; rfl
          have q9' := q9.symm
          clear q0 q1 q2 q3 q4 q5 q6 q7 q8 q9
          subst q9'
          have hz : (((hd.length : Nat) : Int) == 0) = true := by rw [h0]; rfl
          obtain ⟨d0, d1, d2, d3, d4, d5, d6, d7, d8, d9⟩ := cells10 K15.out.p.1.1.2
          obtain ⟨g0, g1, g2, g3, g4, g5, g6, g7, g8, g9⟩ := cells10 K15.out.p.2
          have TW := Lib.hid (HT.out.below (down_drew K15.out.below))
          clear h0
          go_wp2_with fail
          clear hW15
          go_region_with (first
            | (go_at_call 21; refine (refWrap_any c _).mono ?_; rintro e w16 ⟨rfl, rfl⟩)
            | (go_at_call 12; refine (wakesF_any _ TW.out).mono ?_; rintro e wz ⟨rfl, hb⟩; have BZ := Lib.hid (down_call (down_drew K15.out.below) hb); clear hb))
          all_goals
            go_wp2_with fail
            go_ret
            exact ⟨rfl, BZ.out⟩
        · skip
          obtain ⟨n, hn⟩ : ∃ n, hd.length = n + 1 := ⟨hd.length - 1, by omega⟩
          obtain ⟨⟨HFr, HHt, HPC⟩, hg⟩ : ∃ x, hd[n]? = some x := ⟨_, List.getElem?_eq_getElem (by omega)⟩
          obtain ⟨j0, j1, j2⟩ := hdL_get hd n _ hg
          simp only at j0 j1 j2
          obtain ⟨hb', ho', rfl, hbl, hcl⟩ : ∃ b o, a3 = some ⟨b, o, none⟩ ∧ b < w.heap.size ∧ ∀ j u, (hdL hd)[j]? = some u → w.cell? ⟨b, o + j, none⟩ = some u := by
            obtain ⟨a, c', e, h⟩ := HK.out.2.2
            injection e with e1 e2 e3
            subst e1
            rcases h with h | ⟨b, o, h1, _, h3, h4⟩
            · simp only at h; omega
            · exact ⟨b, o, h1, h3, h4⟩
          have CH := Lib.hid (show ∀ W, Below w.heap.size w W → (W.cell? ⟨hb', ho' + n * 3, none⟩ = some (.int .i64 HFr) ∧ W.cell? ⟨hb', ho' + n * 3 + 1, none⟩ = some (.int .i64 HHt) ∧ W.cell? ⟨hb', ho' + n * 3 + 2, none⟩ = some (.int .i64 HPC)) from fun W hb => ⟨(hb.cell (p := ⟨hb', ho' + n * 3, none⟩) hbl).trans (hcl _ _ j0), (hb.cell (p := ⟨hb', ho' + n * 3 + 1, none⟩) hbl).trans (hcl _ _ j1), (hb.cell (p := ⟨hb', ho' + n * 3 + 2, none⟩) hbl).trans (hcl _ _ j2)⟩)
          have HN := Lib.hid hn
          have HG := Lib.hid hg
          have hz : (((hd.length : Nat) : Int) == 0) = false := by rw [beq_eq_false_iff_ne]; omega
          have hw : ((hd.length : Nat) : Int) - 1 = (n : Int) := by omega
          have hw2 : wrap64 (n : Int) = (n : Int) := by unfold wrap64; omega
          have hnl : n < hd.length := by omega
          clear j0 j1 j2 hcl hn hg h0
          cases hok : thOk ⟨z0, z1, z2, z3, st, fr, hd, sta, res, cod⟩ (HFr, HHt, HPC)
          · skip
            refine (throw_any ⟨z0, z1, z2, z3, st, fr, hd, sta, res, cod⟩ c (HK.out.below K13.out.below) MF.out).mono ?_
            rintro e w14 hth
            obtain ⟨TM, hTM⟩ : ∃ TM, ({ (⟨z0, z1, z2, z3, st, fr, hd, sta, res, cod⟩ : PMa) with state := 7 } : PMa) = TM := ⟨_, rfl⟩
            rw [throw_last (M := ⟨z0, z1, z2, z3, st, fr, hd, sta, res, cod⟩) HN.out HG.out c, hok, if_neg (by decide : ¬ false = true), hTM] at hth
            obtain ⟨y0, y1, y2, y3, st2, fr2, hd2, sta2, res2, cod2⟩ := TM
            obtain ⟨su, fu, hu, rfl, hmu, hb⟩ := hth
            obtain ⟨g1, i1, g2, i2, g3, i3, rfl, rfl, rfl⟩ := ma_slices hmu
            simp only
            obtain ⟨W15, hW15⟩ : ∃ W, w14.alloc (.cells #[.int .i64 y0, .int .i64 y1, .int .i64 y2, .int .i64 y3, .slice g1 st2.length i1, .slice g2 fr2.length i2, .slice g3 hd2.length i3, .int .i64 sta2, .int .u64 res2, .int .i64 cod2] 45) = W := ⟨_, rfl⟩
            have b15 : Below w14.heap.size w14 W15 := by rw [← hW15]; exact down_alloc (Below.refl _ _) _
            have lt14 : w.heap.size + 1 < w14.heap.size := (K13.out.p.2.below hb K13.out.p.2.lt).lt
            have K15 := Lib.hid ((((K13.out.on hb).on b15).add (fun W => maAt (fun _ => False) W (.slice g1 st2.length i1) (.slice g2 fr2.length i2) (.slice g3 hd2.length i3) ⟨y0, y1, y2, y3, st2, fr2, hd2, sta2, res2, cod2⟩) ((hmu.off (T := fun _ => False) (fun _ _ h => h.elim)).below b15) ma_keep).add (fun W => rowAt W w14.heap.size 45 [.int .i64 y0, .int .i64 y1, .int .i64 y2, .int .i64 y3, .slice g1 st2.length i1, .slice g2 fr2.length i2, .slice g3 hd2.length i3, .int .i64 sta2, .int .u64 res2, .int .i64 cod2]) (by rw [← hW15]; exact rowAt.made _ _ _) row_keep)
            clear hb hmu b15
            simp only at hTM
            injection hTM with q0 q1 q2 q3 q4 q5 q6 q7 q8 q9
            have n7 : (sta2 == 7) = true := by rw [← q7]; rfl
            clear q0 q1 q2 q3 q4 q5 q6 q7 q8 q9
            simp only [thOk, Bool.and_eq_false_iff] at hok
            have hok' : HFr < 1 ∨ (1 ≤ HFr ∧ (fr.length : Int) < HFr) ∨ (1 ≤ HFr ∧ HFr ≤ (fr.length : Int) ∧ HHt < 0) ∨ (1 ≤ HFr ∧ HFr ≤ (fr.length : Int) ∧ 0 ≤ HHt ∧ (st.length : Int) < HHt) := by
              simp only [inF, decide_eq_false_iff_not] at hok
              omega
            clear hok
            obtain ⟨W16, hW16⟩ : ∃ W, W15.alloc (.cells #[.int .i64 HFr, .int .i64 HHt, .int .i64 HPC] 63) = W := ⟨_, rfl⟩
            have b16 : Below W15.heap.size W15 W16 := by rw [← hW16]; exact down_alloc (Below.refl _ _) _
            have K16 := Lib.hid ((K15.out.on b16).add (fun W => rowAt W W15.heap.size 63 [.int .i64 HFr, .int .i64 HHt, .int .i64 HPC]) (by rw [← hW16]; exact rowAt.made _ _ _) row_keep)
            clear b16
            obtain ⟨v0, v1, v2⟩ := CH.out _ K15.out.below
            obtain ⟨d0, d1, d2, d3, d4, d5, d6, d7, d8, d9⟩ := cells10 K15.out.p.1.1.2
            obtain ⟨x0, x1, x2, x3, x4, x5, x6, x7, x8, x9⟩ := cells10 K16.out.p.1.1.1.2
            obtain ⟨u0, u1, u2, u3, u4, u5, u6, u7, u8, u9⟩ := cells10 K16.out.p.1.2
            obtain ⟨r0, r1, r2⟩ := cells3G K16.out.p.2
            rcases hok' with hq | ⟨hq, hq2⟩ | ⟨hq, hq2, hq3⟩ | ⟨hq, hq2, hq3, hq4⟩
            · have t1 : decide (HFr < 1) = true := decide_eq_true hq
              clear hq
              go_wp2_with fail
              refine (wakesF_any _ (HT.out.below K16.out.below)).mono ?_
              rintro e wz ⟨rfl, hb⟩
              have BZ := Lib.hid ((K16.out.on hb).below)
              clear hb
              go_wp2_with fail
              go_ret
              exact ⟨rfl, BZ.out⟩
            · have t1 : decide (HFr < 1) = false := decide_eq_false (by omega)
              have t2 : decide ((fr.length : Int) < HFr) = true := decide_eq_true hq2
              clear hq hq2
              go_wp2_with fail
              refine (wakesF_any _ (HT.out.below K16.out.below)).mono ?_
              rintro e wz ⟨rfl, hb⟩
              have BZ := Lib.hid ((K16.out.on hb).below)
              clear hb
              go_wp2_with fail
              go_ret
              exact ⟨rfl, BZ.out⟩
            · have t1 : decide (HFr < 1) = false := decide_eq_false (by omega)
              have t2 : decide ((fr.length : Int) < HFr) = false := decide_eq_false (by omega)
              have t3 : decide (HHt < 0) = true := decide_eq_true hq3
              clear hq hq2 hq3
              go_wp2_with fail
              refine (wakesF_any _ (HT.out.below K16.out.below)).mono ?_
              rintro e wz ⟨rfl, hb⟩
              have BZ := Lib.hid ((K16.out.on hb).below)
              clear hb
              go_wp2_with fail
              go_ret
              exact ⟨rfl, BZ.out⟩
            · have t1 : decide (HFr < 1) = false := decide_eq_false (by omega)
              have t2 : decide ((fr.length : Int) < HFr) = false := decide_eq_false (by omega)
              have t3 : decide (HHt < 0) = false := decide_eq_false (by omega)
              have t4 : decide ((st.length : Int) < HHt) = true := decide_eq_true hq4
              clear hq hq2 hq3 hq4
              go_wp2_with fail
              refine (wakesF_any _ (HT.out.below K16.out.below)).mono ?_
              rintro e wz ⟨rfl, hb⟩
              have BZ := Lib.hid ((K16.out.on hb).below)
              clear hb
              go_wp2_with fail
              go_ret
              exact ⟨rfl, BZ.out⟩
          · skip
            simp only [thOk, Bool.and_eq_true, inF_iff] at hok
            obtain ⟨⟨hq1, hq2⟩, hq3, hq4⟩ := hok
            obtain ⟨kf, hkf⟩ : ∃ kf : Nat, HFr = (kf : Int) + 1 := ⟨(HFr - 1).toNat, by omega⟩
            obtain ⟨m, hm⟩ : ∃ m : Nat, HHt = (m : Int) := ⟨HHt.toNat, by omega⟩
            subst hkf hm
            have kfl : kf < fr.length := by omega
            have mle : m ≤ st.length := by omega
            have TO := Lib.hid (to_ok (M := ⟨z0, z1, z2, z3, st, fr, hd, sta, res, cod⟩) (PC := HPC) HN.out kfl mle c)
            clear hq1 hq2 hq3 hq4
            refine (throw_goodC (HK.out.below K13.out.below) MF.out HN.out HG.out kfl mle).mono ?_
            rintro e w14 hth
            obtain ⟨TM, hTM⟩ : ∃ TM, thTo ⟨z0, z1, z2, z3, st, fr, hd, sta, res, cod⟩ ((kf : Int) + 1, (m : Int), HPC) c = TM := ⟨_, rfl⟩
            rw [hTM] at hth
            obtain ⟨y0, y1, y2, y3, st2, fr2, hd2, sta2, res2, cod2⟩ := TM
            obtain ⟨su, fu, hu, rfl, hmu, hb, hcap⟩ := hth
            obtain ⟨g1, i1, g2, i2, g3, i3, rfl, rfl, rfl⟩ := ma_slices hmu
            simp only
            obtain ⟨W15, hW15⟩ : ∃ W, w14.alloc (.cells #[.int .i64 y0, .int .i64 y1, .int .i64 y2, .int .i64 y3, .slice g1 st2.length i1, .slice g2 fr2.length i2, .slice g3 hd2.length i3, .int .i64 sta2, .int .u64 res2, .int .i64 cod2] 45) = W := ⟨_, rfl⟩
            have b15 : Below w14.heap.size w14 W15 := by rw [← hW15]; exact down_alloc (Below.refl _ _) _
            have lt14 : w.heap.size + 1 < w14.heap.size := (K13.out.p.2.below hb K13.out.p.2.lt).lt
            have K15 := Lib.hid ((((K13.out.on hb).on b15).add (fun W => maAt (fun _ => False) W (.slice g1 st2.length i1) (.slice g2 fr2.length i2) (.slice g3 hd2.length i3) ⟨y0, y1, y2, y3, st2, fr2, hd2, sta2, res2, cod2⟩) ((hmu.off (T := fun _ => False) (fun _ _ h => h.elim)).below b15) ma_keep).add (fun W => rowAt W w14.heap.size 45 [.int .i64 y0, .int .i64 y1, .int .i64 y2, .int .i64 y3, .slice g1 st2.length i1, .slice g2 fr2.length i2, .slice g3 hd2.length i3, .int .i64 sta2, .int .u64 res2, .int .i64 cod2]) (by rw [← hW15]; exact rowAt.made _ _ _) row_keep)
            clear hb hmu b15
            rw [hTM] at TO
            clear hTM
            have CU := Lib.hid (show st2.length ≤ i1 by obtain ⟨a, n', c', e, h⟩ := hcap; cases e; exact h)
            clear hcap
            obtain ⟨W16, hW16⟩ : ∃ W, W15.alloc (.cells #[.int .i64 ((kf : Int) + 1), .int .i64 (m : Int), .int .i64 HPC] 63) = W := ⟨_, rfl⟩
            have b16 : Below W15.heap.size W15 W16 := by rw [← hW16]; exact down_alloc (Below.refl _ _) _
            have K16 := Lib.hid ((K15.out.on b16).add (fun W => rowAt W W15.heap.size 63 [.int .i64 ((kf : Int) + 1), .int .i64 (m : Int), .int .i64 HPC]) (by rw [← hW16]; exact rowAt.made _ _ _) row_keep)
            clear b16
            obtain ⟨v0, v1, v2⟩ := CH.out _ K15.out.below
            obtain ⟨d0, d1, d2, d3, d4, d5, d6, d7, d8, d9⟩ := cells10 K15.out.p.1.1.2
            obtain ⟨x0, x1, x2, x3, x4, x5, x6, x7, x8, x9⟩ := cells10 K16.out.p.1.1.1.2
            obtain ⟨u0, u1, u2, u3, u4, u5, u6, u7, u8, u9⟩ := cells10 K16.out.p.1.2
            obtain ⟨r0, r1, r2⟩ := cells3G K16.out.p.2
            have t1 : decide ((kf : Int) + 1 < 1) = false := decide_eq_false (by omega)
            have t2 : decide ((fr.length : Int) < (kf : Int) + 1) = false := decide_eq_false (by omega)
            have t3 : decide ((m : Int) < 0) = false := decide_eq_false (by omega)
            have t4 : decide ((st.length : Int) < (m : Int)) = false := decide_eq_false (by omega)
            go_wp2_with fail
            clear hW16 hW15 v0 v1 v2 d0 d1 d2 d3 d4 d5 d6 d7 d8 d9 x0 x1 x2 x3 x4 x5 x6 x7 x8 x9 u0 u1 u2 u3 u4 u5 u6 u7 u8 u9 r0 r1 r2 t1 t2 t3 t4
            have hsl : st2.length = m + 1 := TO.out.sl
            have hfl : fr2.length = kf + 1 := TO.out.fl
            have hhl : hd2.length = n := TO.out.hl
            have hsta : sta2 = sta := TO.out.sta
            have hst : st2 = st.take m ++ [wInt c] := TO.out.st
            obtain ⟨ff, hff, hfp⟩ : ∃ f : PFr, fr2[kf]? = some f ∧ f.2.1 = HPC := TO.out.fp
            obtain ⟨sb, so, rfl, hsb, hsc⟩ := rd_atB K16.out.p.1.1.2.1 (by simp only; omega)
            obtain ⟨fb, fo, rfl, hfb, hfc⟩ := rd_atB K16.out.p.1.1.2.2.1 (by simp only; omega)
            have UE := Lib.hid (show rowAt W16 w14.heap.size 45 [.int .i64 y0, .int .i64 y1, .int .i64 y2, .int .i64 y3, .slice (some ⟨sb, so, none⟩) (m + 1) i1, .slice (some ⟨fb, fo, none⟩) (kf + 1) i2, .slice g3 n i3, .int .i64 sta, .int .u64 res2, .int .i64 cod2] by
              have h := K16.out.p.1.2
              rw [hsl, hfl, hhl, hsta] at h
              exact h)
            have CU' : m + 1 ≤ i1 := by have := CU.out; omega
            have fc : W16.cell? ⟨fb, fo + kf * 4 + 1, none⟩ = some (.int .i64 HPC) := by
              have h := hfc (kf * 4 + 1) _ (frL_get fr2 kf ff hff).2.1
              rw [hfp] at h
              exact h
            have sc : W16.cell? ⟨sb, so + m, none⟩ = some (.int .u64 (wInt c)) := by
              refine hsc m _ ?_
              simp only
              rw [hst, List.getElem?_map, List.getElem?_append_right (by rw [List.length_take]; omega), List.length_take, Nat.min_eq_left mle, Nat.sub_self]
              rfl
            have SF := Lib.hid (show ∀ W', Below W16.heap.size W16 W' → (W'.cell? ⟨w14.heap.size, 4, none⟩ = some (.slice (some ⟨sb, so, none⟩) (m + 1) i1) ∧ W'.cell? ⟨w14.heap.size, 5, none⟩ = some (.slice (some ⟨fb, fo, none⟩) (kf + 1) i2) ∧ W'.cell? ⟨w14.heap.size, 6, none⟩ = some (.slice g3 n i3) ∧ W'.cell? ⟨w14.heap.size, 7, none⟩ = some (.int .i64 sta) ∧ W'.cell? ⟨w.heap.size + 1, 4, none⟩ = some (.slice a1 st.length c1) ∧ W'.cell? ⟨w.heap.size + 1, 6, none⟩ = some (.slice (some ⟨hb', ho', none⟩) hd.length c3) ∧ W'.cell? ⟨w.heap.size + 1, 7, none⟩ = some (.int .i64 sta) ∧ W'.cell? ⟨W15.heap.size, 0, none⟩ = some (.int .i64 ((kf : Int) + 1)) ∧ W'.cell? ⟨W15.heap.size, 1, none⟩ = some (.int .i64 (m : Int)) ∧ W'.cell? ⟨W15.heap.size, 2, none⟩ = some (.int .i64 HPC) ∧ W'.cell? ⟨fb, fo + kf * 4 + 1, none⟩ = some (.int .i64 HPC) ∧ W'.cell? ⟨sb, so + m, none⟩ = some (.int .u64 (wInt c))) from fun W' hb =>
              ⟨(UE.out.below hb UE.out.lt).cell 4, (UE.out.below hb UE.out.lt).cell 5, (UE.out.below hb UE.out.lt).cell 6, (UE.out.below hb UE.out.lt).cell 7,
               (K16.out.p.1.1.1.2.below hb K16.out.p.1.1.1.2.lt).cell 4, (K16.out.p.1.1.1.2.below hb K16.out.p.1.1.1.2.lt).cell 6, (K16.out.p.1.1.1.2.below hb K16.out.p.1.1.1.2.lt).cell 7,
               (K16.out.p.2.below hb K16.out.p.2.lt).cell 0, (K16.out.p.2.below hb K16.out.p.2.lt).cell 1, (K16.out.p.2.below hb K16.out.p.2.lt).cell 2,
               (hb.cell (p := ⟨fb, fo + kf * 4 + 1, none⟩) hfb).trans fc, (hb.cell (p := ⟨sb, so + m, none⟩) hsb).trans sc⟩)
            have htl : (st.take m).length = m := by rw [List.length_take]; omega
            have RU : rdAt (fun _ => False) W16 (.slice (some ⟨sb, so, none⟩) (m + 1) i1) (m + 1) (wdL (st.take m ++ [wInt c])) := by
              have h := K16.out.p.1.1.2.1
              simp only at h
              rw [hsl, hst] at h
              exact h
            have KW := Lib.hid (show ∀ W', Below W16.heap.size W16 W' → Calls Tryz.prog 23 #[.slice (some ⟨sb, so, none⟩) m i1, .slice a1 m c1] W' fun e w' => e = .returned (.bool true) ∧ ∃ q, w' = w'.drewN 0 ∧ w' = W'.drewN q from fun W' hb =>
              (keepWordsM_is (xs := st.take m) (by rw [htl]; exact rd_take (RU.below hb) (by omega) (app_pre _ _)) (by rw [htl]; exact rd_take (HK.out.1.below (down_call K16.out.below hb)) mle (take_pre st m)) (by rw [htl]; omega)).mono fun e w' h => ⟨h.1, h.2.choose, rfl, h.2.choose_spec⟩)
            have D16 := Lib.hid (down_drew (Below.refl W16.heap.size W16))
            have sl1 : ∀ w, (Instr.slice 40 (.slice (some ⟨sb, so, none⟩) (m + 1) i1) none (some (.int .i64 (m : Int))) none).run Tryz.prog w = .ok (.slice (some ⟨sb, so, none⟩) m i1) w := fun w => by
              obtain ⟨i, hi, -, -, -⟩ := info_parts info_W
              exact run_slice_to_w _ _ under_W hi _ (by omega) CU' w
            have sl2 : ∀ w, (Instr.slice 40 (.slice a1 st.length c1) none (some (.int .i64 (m : Int))) none).run Tryz.prog w = .ok (.slice a1 m c1) w := fun w => by
              obtain ⟨i, hi, -, -, -⟩ := info_parts info_W
              exact run_slice_to_w _ _ under_W hi _ mle HCV.out w
            have bk : kf ≤ 1000 := by omega
            have bm : m ≤ 1000 := by omega
            have bh : hd.length ≤ 1000 := by omega
            have t5 : wrap64 (kf : Int) = kf := wr_e kf bk
            have t6 : kf < kf + 1 := Nat.lt_succ_self kf
            have t6' : (kf : Int) < (kf : Int) + 1 := Int.lt_add_one_of_le (Int.le_refl _)
            have t7' : (m : Int) < (m : Int) + 1 := Int.lt_add_one_of_le (Int.le_refl _)
            have t7 : m < m + 1 := Nat.lt_succ_self m
            have t8 := wr_a kf bk
            have t8' := wr_b kf bk
            have t9 := wr_c m bm
            have ta := wr_d hd.length n bh hw
            clear hsl hfl hhl hsta hst hff hfp hsb hsc hfb hfc fc sc htl RU CU' hw hw2 hz hnl
            simp only [List.append_eq, List.cons_append, List.nil_append]
            refine wp_region_held_drew (S := fun W' => W'.cell? ⟨w14.heap.size, 4, none⟩ = some (.slice (some ⟨sb, so, none⟩) (m + 1) i1) ∧ W'.cell? ⟨w14.heap.size, 5, none⟩ = some (.slice (some ⟨fb, fo, none⟩) (kf + 1) i2) ∧ W'.cell? ⟨w14.heap.size, 6, none⟩ = some (.slice g3 n i3) ∧ W'.cell? ⟨w14.heap.size, 7, none⟩ = some (.int .i64 sta) ∧ W'.cell? ⟨w.heap.size + 1, 4, none⟩ = some (.slice a1 st.length c1) ∧ W'.cell? ⟨w.heap.size + 1, 6, none⟩ = some (.slice (some ⟨hb', ho', none⟩) hd.length c3) ∧ W'.cell? ⟨w.heap.size + 1, 7, none⟩ = some (.int .i64 sta) ∧ W'.cell? ⟨W15.heap.size, 0, none⟩ = some (.int .i64 ((kf : Int) + 1)) ∧ W'.cell? ⟨W15.heap.size, 1, none⟩ = some (.int .i64 (m : Int)) ∧ W'.cell? ⟨W15.heap.size, 2, none⟩ = some (.int .i64 HPC) ∧ W'.cell? ⟨fb, fo + kf * 4 + 1, none⟩ = some (.int .i64 HPC) ∧ W'.cell? ⟨sb, so + m, none⟩ = some (.int .u64 (wInt c))) (by kernel_rfl) (SF.out _ D16.out) (fun hH0 => ?_)
            refine wpAnyH_take (i := 0) (oi := _) (v := ?_) (by simp only [List.getElem?_toArray, List.getElem?_cons_succ, List.getElem?_cons_zero]; rfl) (by kernel_rfl) (by kernel_rfl) (by kernel_rfl) (by exact fun _ _ _ h => h) (Or.inl ⟨by rfl, ?_⟩) (by assumption) ?_
            rotate_left
            · (intro w hSw; (try dsimp only at hSw); go_simp; try with_reducible rfl)
            try simp only [Act.put, List.setIfInBounds_toArray, List.set_cons_zero, List.set_cons_succ]
            refine wpAnyH_take (i := 1) (oi := _) (v := ?_) (by simp only [List.getElem?_toArray, List.getElem?_cons_succ, List.getElem?_cons_zero]; rfl) (by kernel_rfl) (by kernel_rfl) (by kernel_rfl) (by exact fun _ _ _ h => h) (Or.inl ⟨by rfl, ?_⟩) (by assumption) ?_
            rotate_left
            · (intro w hSw; (try dsimp only at hSw); go_simp; try with_reducible rfl)
            try simp only [Act.put, List.setIfInBounds_toArray, List.set_cons_zero, List.set_cons_succ]
            refine wpAnyH_take (i := 2) (oi := _) (v := ?_) (by simp only [List.getElem?_toArray, List.getElem?_cons_succ, List.getElem?_cons_zero]; rfl) (by kernel_rfl) (by kernel_rfl) (by kernel_rfl) (by exact fun _ _ _ h => h) (Or.inl ⟨by rfl, ?_⟩) (by assumption) ?_
            rotate_left
            · (intro w hSw; (try dsimp only at hSw); go_simp; try with_reducible rfl)
            try simp only [Act.put, List.setIfInBounds_toArray, List.set_cons_zero, List.set_cons_succ]
            refine wpAnyH_take (i := 3) (oi := _) (v := ?_) (by simp only [List.getElem?_toArray, List.getElem?_cons_succ, List.getElem?_cons_zero]; rfl) (by kernel_rfl) (by kernel_rfl) (by kernel_rfl) (by exact fun _ _ _ h => h) (Or.inl ⟨by rfl, ?_⟩) (by assumption) ?_
            rotate_left
            · (intro w hSw; (try dsimp only at hSw); go_simp; try with_reducible rfl)
            try simp only [Act.put, List.setIfInBounds_toArray, List.set_cons_zero, List.set_cons_succ]
            refine wpAnyH_take (i := 4) (oi := _) (v := ?_) (by simp only [List.getElem?_toArray, List.getElem?_cons_succ, List.getElem?_cons_zero]; rfl) (by kernel_rfl) (by kernel_rfl) (by kernel_rfl) (by exact fun _ _ _ h => h) (Or.inl ⟨by rfl, ?_⟩) (by assumption) ?_
            rotate_left
            · (intro w hSw; (try dsimp only at hSw); go_simp; try with_reducible rfl)
            try simp only [Act.put, List.setIfInBounds_toArray, List.set_cons_zero, List.set_cons_succ]
            refine wpAnyH_take (i := 5) (oi := _) (v := ?_) (by simp only [List.getElem?_toArray, List.getElem?_cons_succ, List.getElem?_cons_zero]; rfl) (by kernel_rfl) (by kernel_rfl) (by kernel_rfl) (by exact fun _ _ _ h => h) (Or.inl ⟨by rfl, ?_⟩) (by assumption) ?_
            rotate_left
            · (intro w hSw; (try dsimp only at hSw); go_simp; try with_reducible rfl)
            try simp only [Act.put, List.setIfInBounds_toArray, List.set_cons_zero, List.set_cons_succ]
            refine wpAnyH_take (i := 6) (oi := _) (v := ?_) (by simp only [List.getElem?_toArray, List.getElem?_cons_succ, List.getElem?_cons_zero]; rfl) (by kernel_rfl) (by kernel_rfl) (by kernel_rfl) (by exact fun _ _ _ h => h) (Or.inl ⟨by rfl, ?_⟩) (by assumption) ?_
            rotate_left
            · (intro w hSw; (try dsimp only at hSw); go_simp; try with_reducible rfl)
            try simp only [Act.put, List.setIfInBounds_toArray, List.set_cons_zero, List.set_cons_succ]
            refine wpAnyH_take (i := 7) (oi := _) (v := ?_) (by simp only [List.getElem?_toArray, List.getElem?_cons_succ, List.getElem?_cons_zero]; rfl) (by kernel_rfl) (by kernel_rfl) (by kernel_rfl) (by exact fun _ _ _ h => h) (Or.inl ⟨by rfl, ?_⟩) (by assumption) ?_
            rotate_left
            · (intro w hSw; (try dsimp only at hSw); go_simp; try with_reducible rfl)
            try simp only [Act.put, List.setIfInBounds_toArray, List.set_cons_zero, List.set_cons_succ]
            refine wpAnyH_take (i := 8) (oi := _) (v := ?_) (by simp only [List.getElem?_toArray, List.getElem?_cons_succ, List.getElem?_cons_zero]; rfl) (by kernel_rfl) (by kernel_rfl) (by kernel_rfl) (by exact fun _ _ _ h => h) (Or.inl ⟨by rfl, ?_⟩) (by assumption) ?_
            rotate_left
            · (intro w hSw; (try dsimp only at hSw); go_simp; try with_reducible rfl)
            try simp only [Act.put, List.setIfInBounds_toArray, List.set_cons_zero, List.set_cons_succ]
            refine wpAnyH_take (i := 9) (oi := _) (v := ?_) (by simp only [List.getElem?_toArray, List.getElem?_cons_succ, List.getElem?_cons_zero]; rfl) (by kernel_rfl) (by kernel_rfl) (by kernel_rfl) (by exact fun _ _ _ h => h) (Or.inl ⟨by rfl, ?_⟩) (by assumption) ?_
            rotate_left
            · (intro w hSw; (try dsimp only at hSw); go_simp; try with_reducible rfl)
            try simp only [Act.put, List.setIfInBounds_toArray, List.set_cons_zero, List.set_cons_succ]
            refine wpAnyH_take (i := 10) (oi := _) (v := ?_) (by simp only [List.getElem?_toArray, List.getElem?_cons_succ, List.getElem?_cons_zero]; rfl) (by kernel_rfl) (by kernel_rfl) (by kernel_rfl) (by exact fun _ _ _ h => h) (Or.inl ⟨by rfl, ?_⟩) (by assumption) ?_
            rotate_left
            · (intro w hSw; (try dsimp only at hSw); go_simp; try with_reducible rfl)
            try simp only [Act.put, List.setIfInBounds_toArray, List.set_cons_zero, List.set_cons_succ]
            refine wpAnyH_take (i := 11) (oi := _) (v := ?_) (by simp only [List.getElem?_toArray, List.getElem?_cons_succ, List.getElem?_cons_zero]; rfl) (by kernel_rfl) (by kernel_rfl) (by kernel_rfl) (by exact fun _ _ _ h => h) (Or.inl ⟨by rfl, ?_⟩) (by assumption) ?_
            rotate_left
            · (intro w hSw; (try dsimp only at hSw); go_simp; try with_reducible rfl)
            try simp only [Act.put, List.setIfInBounds_toArray, List.set_cons_zero, List.set_cons_succ]
            refine wpAnyH_take (i := 12) (oi := _) (v := ?_) (by simp only [List.getElem?_toArray, List.getElem?_cons_succ, List.getElem?_cons_zero]; rfl) (by kernel_rfl) (by kernel_rfl) (by kernel_rfl) (by exact fun _ _ _ h => h) (Or.inl ⟨by rfl, ?_⟩) (by assumption) ?_
            rotate_left
            · (intro w hSw; (try dsimp only at hSw); go_simp; try with_reducible rfl)
            try simp only [Act.put, List.setIfInBounds_toArray, List.set_cons_zero, List.set_cons_succ]
            refine wpAnyH_take (i := 13) (oi := _) (v := ?_) (by simp only [List.getElem?_toArray, List.getElem?_cons_succ, List.getElem?_cons_zero]; rfl) (by kernel_rfl) (by kernel_rfl) (by kernel_rfl) (by exact fun _ _ _ h => h) (Or.inl ⟨by rfl, ?_⟩) (by assumption) ?_
            rotate_left
            · (intro w hSw; (try dsimp only at hSw); go_simp; try with_reducible rfl)
            try simp only [Act.put, List.setIfInBounds_toArray, List.set_cons_zero, List.set_cons_succ]
            refine wpAnyH_take (i := 14) (oi := _) (v := ?_) (by simp only [List.getElem?_toArray, List.getElem?_cons_succ, List.getElem?_cons_zero]; rfl) (by kernel_rfl) (by kernel_rfl) (by kernel_rfl) (by exact fun _ _ _ h => h) (Or.inl ⟨by rfl, ?_⟩) (by assumption) ?_
            rotate_left
            · (intro w hSw; (try dsimp only at hSw); go_simp; try with_reducible rfl)
            try simp only [Act.put, List.setIfInBounds_toArray, List.set_cons_zero, List.set_cons_succ]
            refine wpAnyH_take (i := 15) (oi := _) (v := ?_) (by simp only [List.getElem?_toArray, List.getElem?_cons_succ, List.getElem?_cons_zero]; rfl) (by kernel_rfl) (by kernel_rfl) (by kernel_rfl) (by exact fun _ _ _ h => h) (Or.inl ⟨by rfl, ?_⟩) (by assumption) ?_
            rotate_left
            · (intro w hSw; (try dsimp only at hSw); go_simp; try with_reducible rfl)
            try simp only [Act.put, List.setIfInBounds_toArray, List.set_cons_zero, List.set_cons_succ]
            refine wpAnyH_take (i := 16) (oi := _) (v := ?_) (by simp only [List.getElem?_toArray, List.getElem?_cons_succ, List.getElem?_cons_zero]; rfl) (by kernel_rfl) (by kernel_rfl) (by kernel_rfl) (by exact fun _ _ _ h => h) (Or.inl ⟨by rfl, ?_⟩) (by assumption) ?_
            rotate_left
            · (intro w hSw; (try dsimp only at hSw); go_simp; try with_reducible rfl)
            try simp only [Act.put, List.setIfInBounds_toArray, List.set_cons_zero, List.set_cons_succ]
            refine wpAnyH_take (i := 17) (oi := _) (v := ?_) (by simp only [List.getElem?_toArray, List.getElem?_cons_succ, List.getElem?_cons_zero]; rfl) (by kernel_rfl) (by kernel_rfl) (by kernel_rfl) (by exact fun _ _ _ h => h) (Or.inl ⟨by rfl, ?_⟩) (by assumption) ?_
            rotate_left
            · (intro w hSw; (try dsimp only at hSw); go_simp; try with_reducible rfl)
            try simp only [Act.put, List.setIfInBounds_toArray, List.set_cons_zero, List.set_cons_succ]
            refine wpAnyH_take (i := 18) (oi := _) (v := ?_) (by simp only [List.getElem?_toArray, List.getElem?_cons_succ, List.getElem?_cons_zero]; rfl) (by kernel_rfl) (by kernel_rfl) (by kernel_rfl) (by exact fun _ _ _ h => h) (Or.inl ⟨by rfl, ?_⟩) (by assumption) ?_
            rotate_left
            · (intro w hSw; (try dsimp only at hSw); go_simp; try with_reducible rfl)
            try simp only [Act.put, List.setIfInBounds_toArray, List.set_cons_zero, List.set_cons_succ]
            refine wpAnyH_take (i := 19) (oi := _) (v := ?_) (by simp only [List.getElem?_toArray, List.getElem?_cons_succ, List.getElem?_cons_zero]; rfl) (by kernel_rfl) (by kernel_rfl) (by kernel_rfl) (by exact fun _ _ _ h => h) (Or.inl ⟨by rfl, ?_⟩) (by assumption) ?_
            rotate_left
            · (intro w hSw; (try dsimp only at hSw); go_simp; try with_reducible rfl)
            try simp only [Act.put, List.setIfInBounds_toArray, List.set_cons_zero, List.set_cons_succ]
            refine wpAnyH_take (i := 20) (oi := _) (v := ?_) (by simp only [List.getElem?_toArray, List.getElem?_cons_succ, List.getElem?_cons_zero]; rfl) (by kernel_rfl) (by kernel_rfl) (by kernel_rfl) (by exact fun _ _ _ h => h) (Or.inl ⟨by rfl, ?_⟩) (by assumption) ?_
            rotate_left
            · (intro w hSw; (try dsimp only at hSw); go_simp; try with_reducible rfl)
            try simp only [Act.put, List.setIfInBounds_toArray, List.set_cons_zero, List.set_cons_succ]
            refine wpAnyH_take (i := 21) (oi := _) (v := ?_) (by simp only [List.getElem?_toArray, List.getElem?_cons_succ, List.getElem?_cons_zero]; rfl) (by kernel_rfl) (by kernel_rfl) (by kernel_rfl) (by exact fun _ _ _ h => h) (Or.inl ⟨by rfl, ?_⟩) (by assumption) ?_
            rotate_left
            · (intro w hSw; (try dsimp only at hSw); go_simp; try with_reducible rfl)
            try simp only [Act.put, List.setIfInBounds_toArray, List.set_cons_zero, List.set_cons_succ]
            refine wpAnyH_take (i := 22) (oi := _) (v := ?_) (by simp only [List.getElem?_toArray, List.getElem?_cons_succ, List.getElem?_cons_zero]; rfl) (by kernel_rfl) (by kernel_rfl) (by kernel_rfl) (by exact fun _ _ _ h => h) (Or.inl ⟨by rfl, ?_⟩) (by assumption) ?_
            rotate_left
            · (intro w hSw; (try dsimp only at hSw); go_simp; try with_reducible rfl)
            try simp only [Act.put, List.setIfInBounds_toArray, List.set_cons_zero, List.set_cons_succ]
            refine wpAnyH_take (i := 23) (oi := _) (v := ?_) (by simp only [List.getElem?_toArray, List.getElem?_cons_succ, List.getElem?_cons_zero]; rfl) (by kernel_rfl) (by kernel_rfl) (by kernel_rfl) (by exact fun _ _ _ h => h) (Or.inl ⟨by rfl, ?_⟩) (by assumption) ?_
            rotate_left
            · (intro w hSw; (try dsimp only at hSw); go_simp; try with_reducible rfl)
            try simp only [Act.put, List.setIfInBounds_toArray, List.set_cons_zero, List.set_cons_succ]
            refine wpAnyH_take (i := 24) (oi := _) (v := ?_) (by simp only [List.getElem?_toArray, List.getElem?_cons_succ, List.getElem?_cons_zero]; rfl) (by kernel_rfl) (by kernel_rfl) (by kernel_rfl) (by exact fun _ _ _ h => h) (Or.inl ⟨by rfl, ?_⟩) (by assumption) ?_
            rotate_left
            · (intro w hSw; (try dsimp only at hSw); go_simp; try with_reducible rfl)
            try simp only [Act.put, List.setIfInBounds_toArray, List.set_cons_zero, List.set_cons_succ]
            refine wpAnyH_take (i := 25) (oi := _) (v := ?_) (by simp only [List.getElem?_toArray, List.getElem?_cons_succ, List.getElem?_cons_zero]; rfl) (by kernel_rfl) (by kernel_rfl) (by kernel_rfl) (by exact fun _ _ _ h => h) (Or.inl ⟨by rfl, ?_⟩) (by assumption) ?_
            rotate_left
            · (intro w hSw; (try dsimp only at hSw); go_simp; try with_reducible rfl)
            try simp only [Act.put, List.setIfInBounds_toArray, List.set_cons_zero, List.set_cons_succ]
            refine wpAnyH_take (i := 26) (oi := _) (v := ?_) (by simp only [List.getElem?_toArray, List.getElem?_cons_succ, List.getElem?_cons_zero]; rfl) (by kernel_rfl) (by kernel_rfl) (by kernel_rfl) (by exact fun _ _ _ h => h) (Or.inl ⟨by rfl, ?_⟩) (by assumption) ?_
            rotate_left
            · (intro w hSw; (try dsimp only at hSw); go_simp; try with_reducible rfl)
            try simp only [Act.put, List.setIfInBounds_toArray, List.set_cons_zero, List.set_cons_succ]
            refine wpAnyH_take (i := 27) (oi := _) (v := ?_) (by simp only [List.getElem?_toArray, List.getElem?_cons_succ, List.getElem?_cons_zero]; rfl) (by kernel_rfl) (by kernel_rfl) (by kernel_rfl) (by exact fun _ _ _ h => h) (Or.inl ⟨by rfl, ?_⟩) (by assumption) ?_
            rotate_left
            · (intro w hSw; (try dsimp only at hSw); go_simp; try with_reducible rfl)
            try simp only [Act.put, List.setIfInBounds_toArray, List.set_cons_zero, List.set_cons_succ]
            refine wpAnyH_take (i := 28) (oi := _) (v := ?_) (by simp only [List.getElem?_toArray, List.getElem?_cons_succ, List.getElem?_cons_zero]; rfl) (by kernel_rfl) (by kernel_rfl) (by kernel_rfl) (by exact fun _ _ _ h => h) (Or.inl ⟨by rfl, ?_⟩) (by assumption) ?_
            rotate_left
            · (intro w hSw; (try dsimp only at hSw); go_simp; try with_reducible rfl)
            try simp only [Act.put, List.setIfInBounds_toArray, List.set_cons_zero, List.set_cons_succ]
            refine wpAnyH_take (i := 29) (oi := _) (v := ?_) (by simp only [List.getElem?_toArray, List.getElem?_cons_succ, List.getElem?_cons_zero]; rfl) (by kernel_rfl) (by kernel_rfl) (by kernel_rfl) (by exact fun _ _ _ h => h) (Or.inl ⟨by rfl, ?_⟩) (by assumption) ?_
            rotate_left
            · (intro w hSw; (try dsimp only at hSw); go_simp; try with_reducible rfl)
            try simp only [Act.put, List.setIfInBounds_toArray, List.set_cons_zero, List.set_cons_succ]
            refine wpAnyH_take (i := 30) (oi := _) (v := ?_) (by simp only [List.getElem?_toArray, List.getElem?_cons_succ, List.getElem?_cons_zero]; rfl) (by kernel_rfl) (by kernel_rfl) (by kernel_rfl) (by exact fun _ _ _ h => h) (Or.inl ⟨by rfl, ?_⟩) (by assumption) ?_
            rotate_left
            · (intro w hSw; (try dsimp only at hSw); go_simp; try with_reducible rfl)
            try simp only [Act.put, List.setIfInBounds_toArray, List.set_cons_zero, List.set_cons_succ]
            refine wpAnyH_take (i := 31) (oi := _) (v := ?_) (by simp only [List.getElem?_toArray, List.getElem?_cons_succ, List.getElem?_cons_zero]; rfl) (by kernel_rfl) (by kernel_rfl) (by kernel_rfl) (by exact fun _ _ _ h => h) (Or.inl ⟨by rfl, ?_⟩) (by assumption) ?_
            rotate_left
            · (intro w hSw; (try dsimp only at hSw); go_simp; try with_reducible rfl)
            try simp only [Act.put, List.setIfInBounds_toArray, List.set_cons_zero, List.set_cons_succ]
            refine wpAnyH_take (i := 32) (oi := _) (v := ?_) (by simp only [List.getElem?_toArray, List.getElem?_cons_succ, List.getElem?_cons_zero]; rfl) (by kernel_rfl) (by kernel_rfl) (by kernel_rfl) (by exact fun _ _ _ h => h) (Or.inl ⟨by rfl, ?_⟩) (by assumption) ?_
            rotate_left
            · (intro w hSw; (try dsimp only at hSw); go_simp; try with_reducible rfl)
            try simp only [Act.put, List.setIfInBounds_toArray, List.set_cons_zero, List.set_cons_succ]
            refine wpAnyH_take (i := 33) (oi := _) (v := ?_) (by simp only [List.getElem?_toArray, List.getElem?_cons_succ, List.getElem?_cons_zero]; rfl) (by kernel_rfl) (by kernel_rfl) (by kernel_rfl) (by exact fun _ _ _ h => h) (Or.inl ⟨by rfl, ?_⟩) (by assumption) ?_
            rotate_left
            · (intro w hSw; (try dsimp only at hSw); go_simp; try with_reducible rfl)
            try simp only [Act.put, List.setIfInBounds_toArray, List.set_cons_zero, List.set_cons_succ]
            refine wpAnyH_take (i := 34) (oi := _) (v := ?_) (by simp only [List.getElem?_toArray, List.getElem?_cons_succ, List.getElem?_cons_zero]; rfl) (by kernel_rfl) (by kernel_rfl) (by kernel_rfl) (by exact fun _ _ _ h => h) (Or.inl ⟨by rfl, ?_⟩) (by assumption) ?_
            rotate_left
            · (intro w hSw; (try dsimp only at hSw); go_simp; try with_reducible rfl)
            try simp only [Act.put, List.setIfInBounds_toArray, List.set_cons_zero, List.set_cons_succ]
            refine wpAnyH_take (i := 35) (oi := _) (v := ?_) (by simp only [List.getElem?_toArray, List.getElem?_cons_succ, List.getElem?_cons_zero]; rfl) (by kernel_rfl) (by kernel_rfl) (by kernel_rfl) (by exact fun _ _ _ h => h) (Or.inl ⟨by rfl, ?_⟩) (by assumption) ?_
            rotate_left
            · (intro w hSw; (try dsimp only at hSw); go_simp; try with_reducible rfl)
            try simp only [Act.put, List.setIfInBounds_toArray, List.set_cons_zero, List.set_cons_succ]
            refine wpAnyH_take (i := 36) (oi := _) (v := ?_) (by simp only [List.getElem?_toArray, List.getElem?_cons_succ, List.getElem?_cons_zero]; rfl) (by kernel_rfl) (by kernel_rfl) (by kernel_rfl) (by exact fun _ _ _ h => h) (Or.inl ⟨by rfl, ?_⟩) (by assumption) ?_
            rotate_left
            · (intro w hSw; (try dsimp only at hSw); go_simp; try with_reducible rfl)
            try simp only [Act.put, List.setIfInBounds_toArray, List.set_cons_zero, List.set_cons_succ]
            refine wpAnyH_take (i := 37) (oi := _) (v := ?_) (by simp only [List.getElem?_toArray, List.getElem?_cons_succ, List.getElem?_cons_zero]; rfl) (by kernel_rfl) (by kernel_rfl) (by kernel_rfl) (by exact fun _ _ _ h => h) (Or.inl ⟨by rfl, ?_⟩) (by assumption) ?_
            rotate_left
            · (intro w hSw; (try dsimp only at hSw); go_simp; try with_reducible rfl)
            try simp only [Act.put, List.setIfInBounds_toArray, List.set_cons_zero, List.set_cons_succ]
            refine wpAnyH_take (i := 38) (oi := _) (v := ?_) (by simp only [List.getElem?_toArray, List.getElem?_cons_succ, List.getElem?_cons_zero]; rfl) (by kernel_rfl) (by kernel_rfl) (by kernel_rfl) (by exact fun _ _ _ h => h) (Or.inl ⟨by rfl, ?_⟩) (by assumption) ?_
            rotate_left
            · (intro w hSw; (try dsimp only at hSw); go_simp; try with_reducible rfl)
            try simp only [Act.put, List.setIfInBounds_toArray, List.set_cons_zero, List.set_cons_succ]
            refine wpAnyH_take (i := 39) (oi := _) (v := ?_) (by simp only [List.getElem?_toArray, List.getElem?_cons_succ, List.getElem?_cons_zero]; rfl) (by kernel_rfl) (by kernel_rfl) (by kernel_rfl) (by exact fun _ _ _ h => h) (Or.inl ⟨by rfl, ?_⟩) (by assumption) ?_
            rotate_left
            · (intro w hSw; (try dsimp only at hSw); go_simp; try with_reducible rfl)
            try simp only [Act.put, List.setIfInBounds_toArray, List.set_cons_zero, List.set_cons_succ]
            refine wpAnyH_take (i := 40) (oi := _) (v := ?_) (by simp only [List.getElem?_toArray, List.getElem?_cons_succ, List.getElem?_cons_zero]; rfl) (by kernel_rfl) (by kernel_rfl) (by kernel_rfl) (by exact fun _ _ _ h => h) (Or.inl ⟨by rfl, ?_⟩) (by assumption) ?_
            rotate_left
            · (intro w hSw; (try dsimp only at hSw); go_simp; try with_reducible rfl)
            try simp only [Act.put, List.setIfInBounds_toArray, List.set_cons_zero, List.set_cons_succ]
            refine wpAnyH_take (i := 41) (oi := _) (v := ?_) (by simp only [List.getElem?_toArray, List.getElem?_cons_succ, List.getElem?_cons_zero]; rfl) (by kernel_rfl) (by kernel_rfl) (by kernel_rfl) (by exact fun _ _ _ h => h) (Or.inl ⟨by rfl, ?_⟩) (by assumption) ?_
            rotate_left
            · (intro w hSw; (try dsimp only at hSw); go_simp; try with_reducible rfl)
            try simp only [Act.put, List.setIfInBounds_toArray, List.set_cons_zero, List.set_cons_succ]
            refine wpAnyH_take (i := 42) (oi := _) (v := ?_) (by simp only [List.getElem?_toArray, List.getElem?_cons_succ, List.getElem?_cons_zero]; rfl) (by kernel_rfl) (by kernel_rfl) (by kernel_rfl) (by exact fun _ _ _ h => h) (Or.inl ⟨by rfl, ?_⟩) (by assumption) ?_
            rotate_left
            · (intro w hSw; (try dsimp only at hSw); go_simp; try with_reducible rfl)
            try simp only [Act.put, List.setIfInBounds_toArray, List.set_cons_zero, List.set_cons_succ]
            refine wpAnyH_take (i := 43) (oi := _) (v := ?_) (by simp only [List.getElem?_toArray, List.getElem?_cons_succ, List.getElem?_cons_zero]; rfl) (by kernel_rfl) (by kernel_rfl) (by kernel_rfl) (by exact fun _ _ _ h => h) (Or.inl ⟨by rfl, ?_⟩) (by assumption) ?_
            rotate_left
            · (intro w hSw; (try dsimp only at hSw); go_simp; try with_reducible rfl)
            try simp only [Act.put, List.setIfInBounds_toArray, List.set_cons_zero, List.set_cons_succ]
            refine wpAnyH_take (i := 44) (oi := _) (v := ?_) (by simp only [List.getElem?_toArray, List.getElem?_cons_succ, List.getElem?_cons_zero]; rfl) (by kernel_rfl) (by kernel_rfl) (by kernel_rfl) (by exact fun _ _ _ h => h) (Or.inl ⟨by rfl, ?_⟩) (by assumption) ?_
            rotate_left
            · (intro w hSw; (try dsimp only at hSw); go_simp; try with_reducible rfl)
            try simp only [Act.put, List.setIfInBounds_toArray, List.set_cons_zero, List.set_cons_succ]
            refine wpAnyH_take (i := 45) (oi := _) (v := ?_) (by simp only [List.getElem?_toArray, List.getElem?_cons_succ, List.getElem?_cons_zero]; rfl) (by kernel_rfl) (by kernel_rfl) (by kernel_rfl) (by exact fun _ _ _ h => h) (Or.inl ⟨by rfl, ?_⟩) (by assumption) ?_
            rotate_left
            · (intro w hSw; (try dsimp only at hSw); go_simp; try with_reducible rfl)
            try simp only [Act.put, List.setIfInBounds_toArray, List.set_cons_zero, List.set_cons_succ]
            refine wpAnyH_ready (rs := [46]) (by kernel_rfl) (by simp) ?_
            refine AllReadyH.cons rfl (fun K hK => ?_) AllReadyH.nil
            go_simp
            refine (refInt_any c _).mono ?_
            rintro e w17 ⟨rfl, rfl⟩
            go_wp2_with fail
            refine hK.out _ _ (SF.out _ D16.out) (fun hH1 => ?_)
            clear hK K hH0
            try simp only [Act.put, List.setIfInBounds_toArray, List.set_cons_zero, List.set_cons_succ]
            refine wpAnyH_take (i := 47) (oi := _) (v := ?_) (by simp only [List.getElem?_toArray, List.getElem?_cons_succ, List.getElem?_cons_zero]; rfl) (by kernel_rfl) (by kernel_rfl) (by kernel_rfl) (by exact fun _ _ _ h => h) (Or.inl ⟨by rfl, ?_⟩) (by assumption) ?_
            rotate_left
            · (intro w hSw; (try dsimp only at hSw); go_simp; try with_reducible rfl)
            try simp only [Act.put, List.setIfInBounds_toArray, List.set_cons_zero, List.set_cons_succ]
            refine wpAnyH_take (i := 48) (oi := _) (v := ?_) (by simp only [List.getElem?_toArray, List.getElem?_cons_succ, List.getElem?_cons_zero]; rfl) (by kernel_rfl) (by kernel_rfl) (by kernel_rfl) (by exact fun _ _ _ h => h) (Or.inl ⟨by rfl, ?_⟩) (by assumption) ?_
            rotate_left
            · (intro w hSw; (try dsimp only at hSw); go_simp; try with_reducible rfl)
            try simp only [Act.put, List.setIfInBounds_toArray, List.set_cons_zero, List.set_cons_succ]
            refine wpAnyH_take (i := 49) (oi := _) (v := ?_) (by simp only [List.getElem?_toArray, List.getElem?_cons_succ, List.getElem?_cons_zero]; rfl) (by kernel_rfl) (by kernel_rfl) (by kernel_rfl) (by exact fun _ _ _ h => h) (Or.inl ⟨by rfl, ?_⟩) (by assumption) ?_
            rotate_left
            · (intro w hSw; (try dsimp only at hSw); go_simp; try with_reducible rfl)
            try simp only [Act.put, List.setIfInBounds_toArray, List.set_cons_zero, List.set_cons_succ]
            refine wpAnyH_take (i := 50) (oi := _) (v := ?_) (by simp only [List.getElem?_toArray, List.getElem?_cons_succ, List.getElem?_cons_zero]; rfl) (by kernel_rfl) (by kernel_rfl) (by kernel_rfl) (by exact fun _ _ _ h => h) (Or.inl ⟨by rfl, ?_⟩) (by assumption) ?_
            rotate_left
            · (intro w hSw; (try dsimp only at hSw); go_simp; try with_reducible rfl)
            try simp only [Act.put, List.setIfInBounds_toArray, List.set_cons_zero, List.set_cons_succ]
            refine wpAnyH_take (i := 51) (oi := _) (v := ?_) (by simp only [List.getElem?_toArray, List.getElem?_cons_succ, List.getElem?_cons_zero]; rfl) (by kernel_rfl) (by kernel_rfl) (by kernel_rfl) (by exact fun _ _ _ h => h) (Or.inl ⟨by rfl, ?_⟩) (by assumption) ?_
            rotate_left
            · (intro w hSw; (try dsimp only at hSw); go_simp; try with_reducible rfl)
            try simp only [Act.put, List.setIfInBounds_toArray, List.set_cons_zero, List.set_cons_succ]
            refine wpAnyH_take (i := 52) (oi := _) (v := ?_) (by simp only [List.getElem?_toArray, List.getElem?_cons_succ, List.getElem?_cons_zero]; rfl) (by kernel_rfl) (by kernel_rfl) (by kernel_rfl) (by exact fun _ _ _ h => h) (Or.inl ⟨by rfl, ?_⟩) (by assumption) ?_
            rotate_left
            · (intro w hSw; (try dsimp only at hSw); go_simp; try with_reducible rfl)
            try simp only [Act.put, List.setIfInBounds_toArray, List.set_cons_zero, List.set_cons_succ]
            refine wpAnyH_take (i := 53) (oi := _) (v := ?_) (by simp only [List.getElem?_toArray, List.getElem?_cons_succ, List.getElem?_cons_zero]; rfl) (by kernel_rfl) (by kernel_rfl) (by kernel_rfl) (by exact fun _ _ _ h => h) (Or.inl ⟨by rfl, ?_⟩) (by assumption) ?_
            rotate_left
            · (intro w hSw; (try dsimp only at hSw); go_simp; try with_reducible rfl)
            try simp only [Act.put, List.setIfInBounds_toArray, List.set_cons_zero, List.set_cons_succ]
            refine wpAnyH_take (i := 54) (oi := _) (v := ?_) (by simp only [List.getElem?_toArray, List.getElem?_cons_succ, List.getElem?_cons_zero]; rfl) (by kernel_rfl) (by kernel_rfl) (by kernel_rfl) (by exact fun _ _ _ h => h) (Or.inl ⟨by rfl, ?_⟩) (by assumption) ?_
            rotate_left
            · (intro w hSw; (try dsimp only at hSw); go_simp; try with_reducible rfl)
            try simp only [Act.put, List.setIfInBounds_toArray, List.set_cons_zero, List.set_cons_succ]
            refine wpAnyH_take (i := 55) (oi := _) (v := ?_) (by simp only [List.getElem?_toArray, List.getElem?_cons_succ, List.getElem?_cons_zero]; rfl) (by kernel_rfl) (by kernel_rfl) (by kernel_rfl) (by exact fun _ _ _ h => h) (Or.inl ⟨by rfl, ?_⟩) (by assumption) ?_
            rotate_left
            · (intro w hSw; (try dsimp only at hSw); go_simp; try with_reducible rfl)
            try simp only [Act.put, List.setIfInBounds_toArray, List.set_cons_zero, List.set_cons_succ]
            refine wpAnyH_take (i := 56) (oi := _) (v := ?_) (by simp only [List.getElem?_toArray, List.getElem?_cons_succ, List.getElem?_cons_zero]; rfl) (by kernel_rfl) (by kernel_rfl) (by kernel_rfl) (by exact fun _ _ _ h => h) (Or.inl ⟨by rfl, ?_⟩) (by assumption) ?_
            rotate_left
            · (intro w hSw; (try dsimp only at hSw); go_simp; try with_reducible rfl)
            try simp only [Act.put, List.setIfInBounds_toArray, List.set_cons_zero, List.set_cons_succ]
            refine wpAnyH_take (i := 57) (oi := _) (v := ?_) (by simp only [List.getElem?_toArray, List.getElem?_cons_succ, List.getElem?_cons_zero]; rfl) (by kernel_rfl) (by kernel_rfl) (by kernel_rfl) (by exact fun _ _ _ h => h) (Or.inl ⟨by rfl, ?_⟩) (by assumption) ?_
            rotate_left
            · (intro w hSw; (try dsimp only at hSw); go_simp; try with_reducible rfl)
            try simp only [Act.put, List.setIfInBounds_toArray, List.set_cons_zero, List.set_cons_succ]
            refine wpAnyH_take (i := 58) (oi := _) (v := ?_) (by simp only [List.getElem?_toArray, List.getElem?_cons_succ, List.getElem?_cons_zero]; rfl) (by kernel_rfl) (by kernel_rfl) (by kernel_rfl) (by exact fun _ _ _ h => h) (Or.inl ⟨by rfl, ?_⟩) (by assumption) ?_
            rotate_left
            · (intro w hSw; (try dsimp only at hSw); go_simp; try with_reducible rfl)
            try simp only [Act.put, List.setIfInBounds_toArray, List.set_cons_zero, List.set_cons_succ]
            refine wpAnyH_take (i := 59) (oi := _) (v := ?_) (by simp only [List.getElem?_toArray, List.getElem?_cons_succ, List.getElem?_cons_zero]; rfl) (by kernel_rfl) (by kernel_rfl) (by kernel_rfl) (by exact fun _ _ _ h => h) (Or.inl ⟨by rfl, ?_⟩) (by assumption) ?_
            rotate_left
            · (intro w hSw; (try dsimp only at hSw); go_simp; try with_reducible rfl)
            try simp only [Act.put, List.setIfInBounds_toArray, List.set_cons_zero, List.set_cons_succ]
            refine wpAnyH_ready (rs := [60]) (by kernel_rfl) (by simp) ?_
            refine AllReadyH.cons rfl (fun K hK => ?_) AllReadyH.nil
            go_simp
            refine (KW.out _ D16.out).mono ?_
            rintro e w18 ⟨rfl, q, -, hq⟩
            have D17 := Lib.hid (show Below W16.heap.size W16 w18 by rw [hq]; exact down_drewN D16.out _)
            clear hq
            go_wp2_with fail
            refine hK.out _ _ (SF.out _ D17.out) (fun hH2 => ?_)
            clear hK K hH1
            try simp only [Act.put, List.setIfInBounds_toArray, List.set_cons_zero, List.set_cons_succ]
            refine wpAnyH_take (i := 61) (oi := _) (v := ?_) (by simp only [List.getElem?_toArray, List.getElem?_cons_succ, List.getElem?_cons_zero]; rfl) (by kernel_rfl) (by kernel_rfl) (by kernel_rfl) (by exact fun _ _ _ h => h) (Or.inl ⟨by rfl, ?_⟩) (by assumption) ?_
            rotate_left
            · (intro w hSw; (try dsimp only at hSw); go_simp; try with_reducible rfl)
            try simp only [Act.put, List.setIfInBounds_toArray, List.set_cons_zero, List.set_cons_succ]
            refine wpAnyH_take (i := 62) (oi := _) (v := ?_) (by simp only [List.getElem?_toArray, List.getElem?_cons_succ, List.getElem?_cons_zero]; rfl) (by kernel_rfl) (by kernel_rfl) (by kernel_rfl) (by exact fun _ _ _ h => h) (Or.inl ⟨by rfl, ?_⟩) (by assumption) ?_
            rotate_left
            · (intro w hSw; (try dsimp only at hSw); go_simp; try with_reducible rfl)
            try simp only [Act.put, List.setIfInBounds_toArray, List.set_cons_zero, List.set_cons_succ]
            refine wpAnyH_take (i := 63) (oi := _) (v := ?_) (by simp only [List.getElem?_toArray, List.getElem?_cons_succ, List.getElem?_cons_zero]; rfl) (by kernel_rfl) (by kernel_rfl) (by kernel_rfl) (by exact fun _ _ _ h => h) (Or.inl ⟨by rfl, ?_⟩) (by assumption) ?_
            rotate_left
            · (intro w hSw; (try dsimp only at hSw); go_simp; try with_reducible rfl)
            try simp only [Act.put, List.setIfInBounds_toArray, List.set_cons_zero, List.set_cons_succ]
            refine wpAnyH_take (i := 64) (oi := _) (v := ?_) (by simp only [List.getElem?_toArray, List.getElem?_cons_succ, List.getElem?_cons_zero]; rfl) (by kernel_rfl) (by kernel_rfl) (by kernel_rfl) (by exact fun _ _ _ h => h) (Or.inl ⟨by rfl, ?_⟩) (by assumption) ?_
            rotate_left
            · (intro w hSw; (try dsimp only at hSw); go_simp; try with_reducible rfl)
            try simp only [Act.put, List.setIfInBounds_toArray, List.set_cons_zero, List.set_cons_succ]
            refine wpAnyH_take (i := 65) (oi := _) (v := ?_) (by simp only [List.getElem?_toArray, List.getElem?_cons_succ, List.getElem?_cons_zero]; rfl) (by kernel_rfl) (by kernel_rfl) (by kernel_rfl) (by exact fun _ _ _ h => h) (Or.inl ⟨by rfl, ?_⟩) (by assumption) ?_
            rotate_left
            · (intro w hSw; (try dsimp only at hSw); go_simp; try with_reducible rfl)
            try simp only [Act.put, List.setIfInBounds_toArray, List.set_cons_zero, List.set_cons_succ]
            refine wpAnyH_take (i := 66) (oi := _) (v := ?_) (by simp only [List.getElem?_toArray, List.getElem?_cons_succ, List.getElem?_cons_zero]; rfl) (by kernel_rfl) (by kernel_rfl) (by kernel_rfl) (by exact fun _ _ _ h => h) (Or.inl ⟨by rfl, ?_⟩) (by assumption) ?_
            rotate_left
            · (intro w hSw; (try dsimp only at hSw); go_simp; try with_reducible rfl)
            try simp only [Act.put, List.setIfInBounds_toArray, List.set_cons_zero, List.set_cons_succ]
            refine wpAnyH_take (i := 67) (oi := _) (v := ?_) (by simp only [List.getElem?_toArray, List.getElem?_cons_succ, List.getElem?_cons_zero]; rfl) (by kernel_rfl) (by kernel_rfl) (by kernel_rfl) (by exact fun _ _ _ h => h) (Or.inl ⟨by rfl, ?_⟩) (by assumption) ?_
            rotate_left
            · (intro w hSw; (try dsimp only at hSw); go_simp; try with_reducible rfl)
            try simp only [Act.put, List.setIfInBounds_toArray, List.set_cons_zero, List.set_cons_succ]
            refine wpAnyH_take (i := 68) (oi := _) (v := ?_) (by simp only [List.getElem?_toArray, List.getElem?_cons_succ, List.getElem?_cons_zero]; rfl) (by kernel_rfl) (by kernel_rfl) (by kernel_rfl) (by exact fun _ _ _ h => h) (Or.inl ⟨by rfl, ?_⟩) (by assumption) ?_
            rotate_left
            · (intro w hSw; (try dsimp only at hSw); go_simp; try with_reducible rfl)
            try simp only [Act.put, List.setIfInBounds_toArray, List.set_cons_zero, List.set_cons_succ]
            refine wpAnyH_take (i := 69) (oi := _) (v := ?_) (by simp only [List.getElem?_toArray, List.getElem?_cons_succ, List.getElem?_cons_zero]; rfl) (by kernel_rfl) (by kernel_rfl) (by kernel_rfl) (by exact fun _ _ _ h => h) (Or.inl ⟨by rfl, ?_⟩) (by assumption) ?_
            rotate_left
            · (intro w hSw; (try dsimp only at hSw); go_simp; try with_reducible rfl)
            try simp only [Act.put, List.setIfInBounds_toArray, List.set_cons_zero, List.set_cons_succ]
            refine wpAnyH_ready (rs := [70]) (by kernel_rfl) (by simp) ?_
            refine AllReadyH.cons rfl (fun K hK => ?_) AllReadyH.nil
            go_simp
            refine (wakesF_any w18 (HT.out.below (down_call K16.out.below D17.out))).mono ?_
            rintro e w19 ⟨rfl, hb⟩
            have D18 := Lib.hid (down_call D17.out hb)
            clear hb
            go_wp2_with fail
            refine hK.out _ _ (SF.out _ D18.out) (fun hH3 => ?_)
            clear hK K hH2
            try simp only [Act.put, List.setIfInBounds_toArray, List.set_cons_zero, List.set_cons_succ]
            refine wpAnyH_take (i := 71) (oi := _) (v := ?_) (by simp only [List.getElem?_toArray, List.getElem?_cons_succ, List.getElem?_cons_zero]; rfl) (by kernel_rfl) (by kernel_rfl) (by kernel_rfl) (by exact fun _ _ _ h => h) (Or.inl ⟨by rfl, ?_⟩) (by assumption) ?_
            rotate_left
            · (intro w hSw; (try dsimp only at hSw); go_simp; try with_reducible rfl)
            try simp only [Act.put, List.setIfInBounds_toArray, List.set_cons_zero, List.set_cons_succ]
            refine wpAnyH_take (i := 72) (oi := _) (v := ?_) (by simp only [List.getElem?_toArray, List.getElem?_cons_succ, List.getElem?_cons_zero]; rfl) (by kernel_rfl) (by kernel_rfl) (by kernel_rfl) (by exact fun _ _ _ h => h) (Or.inl ⟨by rfl, ?_⟩) (by assumption) ?_
            rotate_left
            · (intro w hSw; (try dsimp only at hSw); go_simp; try with_reducible rfl)
            try simp only [Act.put, List.setIfInBounds_toArray, List.set_cons_zero, List.set_cons_succ]
            refine wpAnyH_done (by kernel_rfl) ?_ _
            go_wp2_with fail
            go_ret
            exact ⟨rfl, down_call K16.out.below D18.out⟩
    · skip
      go_wp2_with fail
      refine (wakesF_any _ (HT.out.below K2.out.below)).mono ?_
      rintro e wz ⟨rfl, hb⟩
      have BZ := Lib.hid ((K2.out.on hb).below)
      clear hb
      go_wp2_with fail
      go_ret
      exact ⟨rfl, BZ.out⟩
  · skip
    go_wp2_with fail
    refine (wakesF_any _ (HT.out.below K1.out.below)).mono ?_
    rintro e wz ⟨rfl, hb⟩
    have BZ := Lib.hid ((K1.out.on hb).below)
    clear hb
    go_wp2_with fail
    go_ret
    exact ⟨rfl, BZ.out⟩

theorem contract (H : Type) (enc : TypeId × Value → H) (W : World) (base : Nat) (args : Array Value) (ds gs : List (DataW H)) (before : List MemPlace)
    (hval0 : ∀ (j : Nat) t v, Tryz.f4.params[j]? = some t → args[j]? = some v → Value.okWide Tryz.prog W .any base t v)
    (hW : DataW.Whole enc Tryz.prog Tryz.f4.params.toList Rows.frameBackSpec.vars false W args.toList ds gs before)
    (T : OpTab W)
    (hz : (DataW.weightsEach Tryz.prog (Tryz.f4.params.toList ++ Rows.frameBackSpec.plain.varTypes Tryz.prog) (ds ++ gs)).all (· ≤ reachBytes) = true) :
    Calls Tryz.prog 4 args W fun e W' => ∃ v, e = .returned v ∧ Rows.frameBackSpec.post enc Tryz.prog Tryz.f4 false true false false W args v W' := by
  have hW' := hW
  have hval := hval0
  obtain ⟨p, q, hA0, hV, rfl, hfz, hnd⟩ := hW
  have hA : DataW.TrodAll enc Tryz.prog W 0 (fun _ => true) true Tryz.f4.params.toList args.toList ds p := hA0
  rw [Tryz.params4] at hA hval
  obtain ⟨rfl, rfl⟩ := trodVars_none hV
  have wb : ∀ (j : Nat) (t : TypeId) (d : DataW H), Tryz.f4.params[j]? = some t → ds[j]? = some d → WB Tryz.prog t d := fun j t d ht hd => wb_of hz (by simpa using ht) hd
  rw [Tryz.params4] at wb
  obtain ⟨v0, vs0, d0, ds0, p0, q0, hargs, rfl, rfl, h0, r0⟩ := trodAll_cons hA
  obtain ⟨v1, vs1, d1, ds1, p1, q1, rfl, rfl, rfl, h1, r1⟩ := trodAll_cons r0
  obtain ⟨v2, vs2, d2, ds2, p2, q2, rfl, rfl, rfl, h2, r2⟩ := trodAll_cons r1
  obtain ⟨rfl, rfl, rfl⟩ := trodAll_nil r2
  obtain rfl : args = #[v0, v1, v2] := by cases args; simp_all
  obtain ⟨u0_1, u0_2, u0_3, P0, rfl, hp0, hf0, n0_1, n0_2, n0_3, n0_4, n0_5⟩ := open_prog (wb 0 _ _ rfl rfl) (hval 0 37 v0 rfl rfl) h0
  obtain ⟨s1, f1, g1, M1, rfl, hk1, hv1⟩ := open_ma (wb 1 _ _ rfl rfl) (hval 1 45 v1 rfl rfl) h1
  obtain ⟨a2, rfl, rfl, rfl, w2⟩ := open_int Tryz.underlying2 (hval 2 2 v2 rfl rfl) h2
  refine (walk u0_1 u0_2 u0_3 P0 s1 f1 g1 M1 a2 W hp0 hf0 ⟨n0_1, n0_2, n0_3, n0_4, n0_5⟩ hk1 hv1 w2 T).mono fun e W' ⟨he, hb⟩ => ?_
  subst he
  exact ⟨_, rfl, law_post laidOut (by kernel_rfl) rfl (by kernel_rfl) Tryz.underlying4 hW' rfl rfl rfl hb⟩

theorem door_met (os : Os) (args : Array Value) : laidMetH Tryz.prog Rows.frameBackRow.laid ((World.doorLaid Tryz.prog 200 os).forCall (fun _ _ => 0) ⟨#[], args, []⟩).memory :=
  laidMetH_of_parts3 (fuel := 8) (laidMet_of_run' 8 (by kernel_rfl) (by kernel_rfl)) (by kernel_rfl) (by kernel_rfl)

set_option maxRecDepth 100000 in
theorem lifted (os : Os) (started : os.Started) (H : Type) (enc : TypeId × Value → H) :
    ReturnsInHanded {} Tryz.checked os 4 .any (fun w args => (Rows.frameBackSpec.pre enc Tryz.prog Tryz.f4 [] false w args ∧ laidMetH Tryz.prog Rows.frameBackRow.laid w) ∧ sizedMet enc Tryz.prog Tryz.f4 (OpenSpec.ofChange Rows.frameBackSpec) false w args)
      (Rows.frameBackSpec.post enc Tryz.prog Tryz.f4 false true false false) := by
  refine returnsInHanded_of_change_and (C := Tryz.checked) (X := fun w _ => laidMetH Tryz.prog Rows.frameBackRow.laid w) (fun _ _ _ hh h => h.of_heap hh) own started (by kernel_rfl) Tryz.func4
    (ChangeSpec.witness_shaped (enc := enc) (C := Tryz.checked) (os := os) (X := fun w _ => laidMetH Tryz.prog Rows.frameBackRow.laid w) false (World.doorLaid Tryz.prog 200 os) #[.agg #[.slice none 0 0, .slice none 0 0, .slice none 0 0], .agg #[.int .i64 0, .int .i64 0, .int .i64 0, .int .i64 0, .slice none 0 0, .slice none 0 0, .slice none 0 0, .int .i64 0, .int .u64 0, .int .i64 0], .int .i64 0] 8 rfl (World.shaped_of_RefB (by kernel_rfl) (by kernel_rfl)) (by kernel_rfl) (by kernel_rfl) (by kernel_rfl) (door_met os _)) ?_
  intro W base args ds gs before hval hW _ hz hL _
  exact contract H enc W base args ds gs before hval hW (optab_of (laid_lies (by kernel_rfl) hL _ _ (List.Mem.head _)) (laid_lies (by kernel_rfl) hL _ _ (List.Mem.tail _ (List.Mem.head _))) (laid_lies (by kernel_rfl) hL _ _ (List.Mem.tail _ (List.Mem.tail _ (List.Mem.head _))))) hz

theorem over : Rows.frameBackRow.holds Tryz.pinned (OpenSpec.ofChange Rows.frameBackSpec) :=
  OpenClaim.holds_of_wide 4 Tryz.f4 rfl rfl rfl rfl rfl rfl rfl ⟨rfl, rfl, rfl, rfl, rfl⟩ rfl rfl rfl rfl rfl (by kernel_rfl) Tryz.func4 (by kernel_rfl)
    (of_decide_eq_true (by kernel_rfl)) (by unfold Func.isWrapper; first | (rw [if_pos (by decide +kernel)]; kernel_rfl) | (rw [if_neg (by decide +kernel)]; exact ⟨rfl, rfl⟩))
    (fun os started H enc _ => lifted os started H enc)

theorem proved : Rows.FrameBackCardSaid :=
  Claim7.holds_tied_plain_at .later [] [.data, .data, .data] true _ false
    over (fun _ h => by cases h) (by kernel_rfl) (fun _ h => by cases h) frameBack_row_tie rfl ⟨rfl, rfl⟩ (by kernel_rfl) rfl
    (fun f fn hf hfn => by
      obtain rfl : f = 4 := Option.some.inj ((show Tryz.prog.funcNamed "stockpot/stockpotlaw11.FrameBack" = some 4 by kernel_rfl).symm.trans hf) |>.symm
      obtain rfl : fn = Tryz.f4 := (Option.some.inj (Tryz.func4.symm.trans hfn)).symm
      exact ⟨by kernel_rfl, fun j t ht => by
        have hall : (Tryz.f4.params.toList.all fun u => !Tryz.prog.wantsStandIn u) = true := by kernel_rfl
        exact (show Tryz.prog.wantsStandIn t = false by simpa using List.all_eq_true.1 hall t (by simpa using Array.mem_of_getElem? ht))⟩)
    (by kernel_rfl)
#print axioms proved
end Go.Proofs.YtajkkinolpkfmaaGreatDoor.frameBack
