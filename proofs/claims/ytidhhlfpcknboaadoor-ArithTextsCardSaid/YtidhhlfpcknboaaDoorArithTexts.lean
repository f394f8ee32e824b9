/-
  For all numbers v and u the law ArithTexts returns true, and its arguments read as they did. Condition: the library's tables and errors and package arith's table of kinds read when the call begins as the program's text lays them (the card ties them).
-/
import Derived.Test.YtidhhlfpcknboaaDoorArL
import Derived.Test.YtidhhlfpcknboaaDoorTie
import Derived.Test.YtidhhlfpcknboaaDoorCards
import Derived.SevenTiedAt
import Derived.LaidMore
import Derived.Stop.Joined
namespace Go.Proofs.YtidhhlfpcknboaaDoor.arithTexts
open Go.ChangeShapes Go.WideShapes Go.ChangeAt Go.RowKit
set_option linter.unusedVariables false
set_option linter.unusedSimpArgs false
set_option linter.unusedVariables false
set_option maxRecDepth 100000

theorem own : ownKnob Tryd.prog.godebug = none := by kernel_rfl
theorem laidOut : laidOutB Tryd.prog = true := by kernel_rfl

set_option maxHeartbeats 1000000 in
theorem w_ps (a0 a1 : Int) (hn : 0 ≤ wWrap a0) (hs : wWrap a0 = wWrap a1) (w : World) (T : ArTab w) :
    Calls Tryd.prog 4 #[.int .i64 a0, .int .i64 a1] w fun e w' => e = .returned (.bool true) ∧ Below w.heap.size w w' := by
  obtain ⟨h0, h1⟩ := wWrap_bounds a0
  obtain ⟨k0, k1⟩ := wWrap_bounds a1
  obtain ⟨x, hx⟩ : ∃ x, x = wWrap a0 := ⟨_, rfl⟩
  obtain ⟨y, hy⟩ : ∃ y, y = wWrap a1 := ⟨_, rfl⟩
  have W0 : ∀ w, Calls Tryd.prog 7 #[.int .i64 a0] w fun e w' => e = .returned (.int .i64 x) ∧ w = w' := fun w => by rw [hx]; exact refWrap_any _ _
  have W1 : ∀ w, Calls Tryd.prog 7 #[.int .i64 a1] w fun e w' => e = .returned (.int .i64 y) ∧ w = w' := fun w => by rw [hy]; exact refWrap_any _ _
  rw [← hx] at hn hs h0 h1
  rw [← hy] at hs k0 k1
  obtain ⟨s, hss⟩ : ∃ s : ByteArray, s = ⟨(Lib.itoa x).toArray⟩ := ⟨_, rfl⟩
  have hl : s.data.toList = Lib.itoa x := by rw [hss]
  have HL := Lib.hid hl
  have HS : Hid (s.data.toList = Lib.itoa (wWrap a0)) := Lib.hid (by rw [← hx]; exact hl)
  have hp := pa_itoa x h0 h1
  have HP : Hid (paV (Lib.itoa x) = x) := Lib.hid (by unfold paV; rw [hp, if_neg (by omega)]; simp only []; omega)
  have HO : Hid (paO (Lib.itoa x) = true) := Lib.hid (by unfold paO; rw [hp, if_neg (by omega)]; rfl)
  have HS2 : Hid (s.data.toList = Lib.itoa (wWrap a1)) := Lib.hid (by rw [← hy, ← hs]; exact hl)
  subst hs
  clear hl hss hp hx hy h0 h1 k0 k1
  have hn0 : decide (0 ≤ x) = true := decide_eq_true hn
  go_enter Tryd.func4, Tryd.ntmps4
  go_wp2_with fail
  refine (text_is (t := s) HS.out _ T).mono ?_
  rintro e w1 ⟨rfl, b1⟩
  have T1 := T.below b1; clear T
  go_wp2_with fail
  refine (W0 _).mono ?_
  rintro e w' ⟨rfl, rfl⟩
  go_wp2_with fail
  refine (parse_is (l := Lib.itoa x) (v := x) (o := true) HL.out HP.out HO.out _ T1).mono ?_
  rintro e w2 ⟨rfl, b2⟩
  have T2 := T1.below b2; clear T1
  replace b2 := below_chain b1 b2; clear b1
  go_wp2_with fail
  refine (text_is (t := s) HS2.out _ T2).mono ?_
  rintro e w3 ⟨rfl, b3⟩
  have T3 := T2.below b3; clear T2
  replace b3 := below_chain b2 b3; clear b2
  go_wp2_with fail
  refine (W1 _).mono ?_
  rintro e w' ⟨rfl, rfl⟩
  go_wp2_with fail
  refine (wakes_any _ T3).mono ?_
  rintro e w' ⟨rfl, hb⟩
  go_wp2_with fail
  go_ret
  exact ⟨rfl, below_chain b3 hb⟩

set_option maxHeartbeats 1000000 in
theorem w_po (a0 a1 : Int) (hn : 0 ≤ wWrap a0) (hs : ¬ wWrap a0 = wWrap a1) (w : World) (T : ArTab w) :
    Calls Tryd.prog 4 #[.int .i64 a0, .int .i64 a1] w fun e w' => e = .returned (.bool true) ∧ Below w.heap.size w w' := by
  obtain ⟨h0, h1⟩ := wWrap_bounds a0
  obtain ⟨k0, k1⟩ := wWrap_bounds a1
  obtain ⟨x, hx⟩ : ∃ x, x = wWrap a0 := ⟨_, rfl⟩
  obtain ⟨y, hy⟩ : ∃ y, y = wWrap a1 := ⟨_, rfl⟩
  have W0 : ∀ w, Calls Tryd.prog 7 #[.int .i64 a0] w fun e w' => e = .returned (.int .i64 x) ∧ w = w' := fun w => by rw [hx]; exact refWrap_any _ _
  have W1 : ∀ w, Calls Tryd.prog 7 #[.int .i64 a1] w fun e w' => e = .returned (.int .i64 y) ∧ w = w' := fun w => by rw [hy]; exact refWrap_any _ _
  rw [← hx] at hn hs h0 h1
  rw [← hy] at hs k0 k1
  obtain ⟨s, hss⟩ : ∃ s : ByteArray, s = ⟨(Lib.itoa x).toArray⟩ := ⟨_, rfl⟩
  have hl : s.data.toList = Lib.itoa x := by rw [hss]
  have HL := Lib.hid hl
  have HS : Hid (s.data.toList = Lib.itoa (wWrap a0)) := Lib.hid (by rw [← hx]; exact hl)
  have hp := pa_itoa x h0 h1
  have HP : Hid (paV (Lib.itoa x) = x) := Lib.hid (by unfold paV; rw [hp, if_neg (by omega)]; simp only []; omega)
  have HO : Hid (paO (Lib.itoa x) = true) := Lib.hid (by unfold paO; rw [hp, if_neg (by omega)]; rfl)
  obtain ⟨s2, hss2⟩ : ∃ s : ByteArray, s = ⟨(Lib.itoa y).toArray⟩ := ⟨_, rfl⟩
  have hl2 : s2.data.toList = Lib.itoa y := by rw [hss2]
  have HS2 : Hid (s2.data.toList = Lib.itoa (wWrap a1)) := Lib.hid (by rw [← hy]; exact hl2)
  have hne : (s.toList == s2.toList) = false := by
    rw [beq_eq_false_iff_ne]
    intro h
    refine hs (itoa_inj x y ⟨h0, h1⟩ ⟨k0, k1⟩ ?_)
    rw [← hl, ← hl2, ← ByteArray.toList_eq, ← ByteArray.toList_eq]
    exact h
  have hxy : (x == y) = false := by simpa using hs
  clear hl2 hss2
  clear hl hss hp hx hy hs h0 h1 k0 k1
  have hn0 : decide (0 ≤ x) = true := decide_eq_true hn
  go_enter Tryd.func4, Tryd.ntmps4
  go_wp2_with fail
  refine (text_is (t := s) HS.out _ T).mono ?_
  rintro e w1 ⟨rfl, b1⟩
  have T1 := T.below b1; clear T
  go_wp2_with fail
  refine (W0 _).mono ?_
  rintro e w' ⟨rfl, rfl⟩
  go_wp2_with fail
  refine (parse_is (l := Lib.itoa x) (v := x) (o := true) HL.out HP.out HO.out _ T1).mono ?_
  rintro e w2 ⟨rfl, b2⟩
  have T2 := T1.below b2; clear T1
  replace b2 := below_chain b1 b2; clear b1
  go_wp2_with fail
  refine (text_is (t := s2) HS2.out _ T2).mono ?_
  rintro e w3 ⟨rfl, b3⟩
  have T3 := T2.below b3; clear T2
  replace b3 := below_chain b2 b3; clear b2
  go_wp2_with fail
  refine (W1 _).mono ?_
  rintro e w' ⟨rfl, rfl⟩
  go_wp2_with fail
  refine (wakes_any _ T3).mono ?_
  rintro e w' ⟨rfl, hb⟩
  go_wp2_with fail
  go_ret
  exact ⟨rfl, below_chain b3 hb⟩

set_option maxHeartbeats 1000000 in
theorem w_ns (a0 a1 : Int) (hn : wWrap a0 < 0) (hs : wWrap a0 = wWrap a1) (w : World) (T : ArTab w) :
    Calls Tryd.prog 4 #[.int .i64 a0, .int .i64 a1] w fun e w' => e = .returned (.bool true) ∧ Below w.heap.size w w' := by
  obtain ⟨h0, h1⟩ := wWrap_bounds a0
  obtain ⟨k0, k1⟩ := wWrap_bounds a1
  obtain ⟨x, hx⟩ : ∃ x, x = wWrap a0 := ⟨_, rfl⟩
  obtain ⟨y, hy⟩ : ∃ y, y = wWrap a1 := ⟨_, rfl⟩
  have W0 : ∀ w, Calls Tryd.prog 7 #[.int .i64 a0] w fun e w' => e = .returned (.int .i64 x) ∧ w = w' := fun w => by rw [hx]; exact refWrap_any _ _
  have W1 : ∀ w, Calls Tryd.prog 7 #[.int .i64 a1] w fun e w' => e = .returned (.int .i64 y) ∧ w = w' := fun w => by rw [hy]; exact refWrap_any _ _
  rw [← hx] at hn hs h0 h1
  rw [← hy] at hs k0 k1
  obtain ⟨s, hss⟩ : ∃ s : ByteArray, s = ⟨(Lib.itoa x).toArray⟩ := ⟨_, rfl⟩
  have hl : s.data.toList = Lib.itoa x := by rw [hss]
  have HL := Lib.hid hl
  have HS : Hid (s.data.toList = Lib.itoa (wWrap a0)) := Lib.hid (by rw [← hx]; exact hl)
  have hp := pa_itoa x h0 h1
  have HP : Hid (paV (Lib.itoa x) = 0) := Lib.hid (by unfold paV; rw [hp, if_pos hn])
  have HO : Hid (paO (Lib.itoa x) = false) := Lib.hid (by unfold paO; rw [hp, if_pos hn]; rfl)
  have HS2 : Hid (s.data.toList = Lib.itoa (wWrap a1)) := Lib.hid (by rw [← hy, ← hs]; exact hl)
  subst hs
  clear hl hss hp hx hy h0 h1 k0 k1
  have hn0 : decide (0 ≤ x) = false := decide_eq_false (by omega)
  go_enter Tryd.func4, Tryd.ntmps4
  go_wp2_with fail
  refine (text_is (t := s) HS.out _ T).mono ?_
  rintro e w1 ⟨rfl, b1⟩
  have T1 := T.below b1; clear T
  go_wp2_with fail
  refine (W0 _).mono ?_
  rintro e w' ⟨rfl, rfl⟩
  go_wp2_with fail
  refine (parse_is (l := Lib.itoa x) (v := 0) (o := false) HL.out HP.out HO.out _ T1).mono ?_
  rintro e w2 ⟨rfl, b2⟩
  have T2 := T1.below b2; clear T1
  replace b2 := below_chain b1 b2; clear b1
  go_wp2_with fail
  refine (text_is (t := s) HS2.out _ T2).mono ?_
  rintro e w3 ⟨rfl, b3⟩
  have T3 := T2.below b3; clear T2
  replace b3 := below_chain b2 b3; clear b2
  go_wp2_with fail
  refine (W1 _).mono ?_
  rintro e w' ⟨rfl, rfl⟩
  go_wp2_with fail
  refine (wakes_any _ T3).mono ?_
  rintro e w' ⟨rfl, hb⟩
  go_wp2_with fail
  go_ret
  exact ⟨rfl, below_chain b3 hb⟩

set_option maxHeartbeats 1000000 in
theorem w_no (a0 a1 : Int) (hn : wWrap a0 < 0) (hs : ¬ wWrap a0 = wWrap a1) (w : World) (T : ArTab w) :
    Calls Tryd.prog 4 #[.int .i64 a0, .int .i64 a1] w fun e w' => e = .returned (.bool true) ∧ Below w.heap.size w w' := by
  obtain ⟨h0, h1⟩ := wWrap_bounds a0
  obtain ⟨k0, k1⟩ := wWrap_bounds a1
  obtain ⟨x, hx⟩ : ∃ x, x = wWrap a0 := ⟨_, rfl⟩
  obtain ⟨y, hy⟩ : ∃ y, y = wWrap a1 := ⟨_, rfl⟩
  have W0 : ∀ w, Calls Tryd.prog 7 #[.int .i64 a0] w fun e w' => e = .returned (.int .i64 x) ∧ w = w' := fun w => by rw [hx]; exact refWrap_any _ _
  have W1 : ∀ w, Calls Tryd.prog 7 #[.int .i64 a1] w fun e w' => e = .returned (.int .i64 y) ∧ w = w' := fun w => by rw [hy]; exact refWrap_any _ _
  rw [← hx] at hn hs h0 h1
  rw [← hy] at hs k0 k1
  obtain ⟨s, hss⟩ : ∃ s : ByteArray, s = ⟨(Lib.itoa x).toArray⟩ := ⟨_, rfl⟩
  have hl : s.data.toList = Lib.itoa x := by rw [hss]
  have HL := Lib.hid hl
  have HS : Hid (s.data.toList = Lib.itoa (wWrap a0)) := Lib.hid (by rw [← hx]; exact hl)
  have hp := pa_itoa x h0 h1
  have HP : Hid (paV (Lib.itoa x) = 0) := Lib.hid (by unfold paV; rw [hp, if_pos hn])
  have HO : Hid (paO (Lib.itoa x) = false) := Lib.hid (by unfold paO; rw [hp, if_pos hn]; rfl)
  obtain ⟨s2, hss2⟩ : ∃ s : ByteArray, s = ⟨(Lib.itoa y).toArray⟩ := ⟨_, rfl⟩
  have hl2 : s2.data.toList = Lib.itoa y := by rw [hss2]
  have HS2 : Hid (s2.data.toList = Lib.itoa (wWrap a1)) := Lib.hid (by rw [← hy]; exact hl2)
  have hne : (s.toList == s2.toList) = false := by
    rw [beq_eq_false_iff_ne]
    intro h
    refine hs (itoa_inj x y ⟨h0, h1⟩ ⟨k0, k1⟩ ?_)
    rw [← hl, ← hl2, ← ByteArray.toList_eq, ← ByteArray.toList_eq]
    exact h
  have hxy : (x == y) = false := by simpa using hs
  clear hl2 hss2
  clear hl hss hp hx hy hs h0 h1 k0 k1
  have hn0 : decide (0 ≤ x) = false := decide_eq_false (by omega)
  go_enter Tryd.func4, Tryd.ntmps4
  go_wp2_with fail
  refine (text_is (t := s) HS.out _ T).mono ?_
  rintro e w1 ⟨rfl, b1⟩
  have T1 := T.below b1; clear T
  go_wp2_with fail
  refine (W0 _).mono ?_
  rintro e w' ⟨rfl, rfl⟩
  go_wp2_with fail
  refine (parse_is (l := Lib.itoa x) (v := 0) (o := false) HL.out HP.out HO.out _ T1).mono ?_
  rintro e w2 ⟨rfl, b2⟩
  have T2 := T1.below b2; clear T1
  replace b2 := below_chain b1 b2; clear b1
  go_wp2_with fail
  refine (text_is (t := s2) HS2.out _ T2).mono ?_
  rintro e w3 ⟨rfl, b3⟩
  have T3 := T2.below b3; clear T2
  replace b3 := below_chain b2 b3; clear b2
  go_wp2_with fail
  refine (W1 _).mono ?_
  rintro e w' ⟨rfl, rfl⟩
  go_wp2_with fail
  refine (wakes_any _ T3).mono ?_
  rintro e w' ⟨rfl, hb⟩
  go_wp2_with fail
  go_ret
  exact ⟨rfl, below_chain b3 hb⟩

theorem walk (a0 a1 : Int) (w0 : (Lit.int .i64 a0).wf = true) (w1 : (Lit.int .i64 a1).wf = true) (w : World) (T : ArTab w) :
    Calls Tryd.prog 4 #[.int .i64 a0, .int .i64 a1] w fun e w' => e = .returned (.bool true) ∧ Below w.heap.size w w' := by
  by_cases h1 : wWrap a0 < 0
  · by_cases h2 : wWrap a0 = wWrap a1
    · exact w_ns a0 a1 h1 h2 w T
    · exact w_no a0 a1 h1 h2 w T
  · by_cases h2 : wWrap a0 = wWrap a1
    · exact w_ps a0 a1 (by omega) h2 w T
    · exact w_po a0 a1 (by omega) h2 w T

theorem contract (H : Type) (enc : TypeId × Value → H) (W : World) (base : Nat) (args : Array Value) (ds gs : List (DataW H)) (before : List MemPlace)
    (hval0 : ∀ (j : Nat) t v, Tryd.f4.params[j]? = some t → args[j]? = some v → Value.okWide Tryd.prog W .any base t v)
    (hW : DataW.Whole enc Tryd.prog Tryd.f4.params.toList Rows.arithTextsSpec.vars false W args.toList ds gs before)
    (T : ArTab W) :
    Calls Tryd.prog 4 args W fun e W' => ∃ v, e = .returned v ∧ Rows.arithTextsSpec.post enc Tryd.prog Tryd.f4 false true false false W args v W' := by
  have hW' := hW
  have hval := hval0
  obtain ⟨p, q, hA0, hV, rfl, hfz, hnd⟩ := hW
  have hA : DataW.TrodAll enc Tryd.prog W 0 (fun _ => true) true Tryd.f4.params.toList args.toList ds p := hA0
  rw [Tryd.params4] at hA hval
  obtain ⟨rfl, rfl⟩ := trodVars_none hV
  obtain ⟨v0, vs0, d0, ds0, p0, q0, hargs, rfl, rfl, h0, r0⟩ := trodAll_cons hA
  obtain ⟨v1, vs1, d1, ds1, p1, q1, rfl, rfl, rfl, h1, r1⟩ := trodAll_cons r0
  obtain ⟨rfl, rfl, rfl⟩ := trodAll_nil r1
  obtain rfl : args = #[v0, v1] := by cases args; simp_all
  obtain ⟨a0, rfl, rfl, rfl, w0⟩ := open_int Tryd.underlying2 (hval 0 2 v0 rfl rfl) h0
  obtain ⟨a1, rfl, rfl, rfl, w1⟩ := open_int Tryd.underlying2 (hval 1 2 v1 rfl rfl) h1
  refine (walk a0 a1 w0 w1 W T).mono fun e W' ⟨he, hb⟩ => ?_
  subst he
  exact ⟨_, rfl, law_post laidOut (by kernel_rfl) rfl (by kernel_rfl) Tryd.underlying4 hW' rfl rfl rfl hb⟩

theorem door_met (os : Os) (args : Array Value) : laidMetH Tryd.prog Rows.arithTextsRow.laid ((World.doorLaid Tryd.prog 67 os).forCall (fun _ _ => 0) ⟨#[], args, []⟩).memory :=
  laidMetH_of_parts3 (fuel := 8) (laidMet_of_run' 8 (by kernel_rfl) (by kernel_rfl)) (by kernel_rfl) (by kernel_rfl)

set_option maxRecDepth 100000 in
theorem lifted (os : Os) (started : os.Started) (H : Type) (enc : TypeId × Value → H) :
    ReturnsInHanded {} Tryd.checked os 4 .any (fun w args => (Rows.arithTextsSpec.pre enc Tryd.prog Tryd.f4 [] false w args ∧ laidMetH Tryd.prog Rows.arithTextsRow.laid w) ∧ sizedMet enc Tryd.prog Tryd.f4 (OpenSpec.ofChange Rows.arithTextsSpec) false w args)
      (Rows.arithTextsSpec.post enc Tryd.prog Tryd.f4 false true false false) := by
  refine returnsInHanded_of_change_and (C := Tryd.checked) (X := fun w _ => laidMetH Tryd.prog Rows.arithTextsRow.laid w) (fun _ _ _ hh h => h.of_heap hh) own started (by kernel_rfl) Tryd.func4
    (ChangeSpec.witness_shaped (enc := enc) (C := Tryd.checked) (os := os) (X := fun w _ => laidMetH Tryd.prog Rows.arithTextsRow.laid w) false (World.doorLaid Tryd.prog 67 os) #[.int .i64 0, .int .i64 0] 8 rfl (World.shaped_of_RefB (by kernel_rfl) (by kernel_rfl)) (by kernel_rfl) (by kernel_rfl) (by kernel_rfl) (door_met os _)) ?_
  intro W base args ds gs before hval hW _ hz hL _
  exact contract H enc W base args ds gs before hval hW (artab_of hL)

theorem over : Rows.arithTextsRow.holds Tryd.pinned (OpenSpec.ofChange Rows.arithTextsSpec) :=
  OpenClaim.holds_of_wide 4 Tryd.f4 rfl rfl rfl rfl rfl rfl rfl ⟨rfl, rfl, rfl, rfl, rfl⟩ rfl rfl rfl rfl rfl (by kernel_rfl) Tryd.func4 (by kernel_rfl)
    (of_decide_eq_true (by kernel_rfl)) (by unfold Func.isWrapper; first | (rw [if_pos (by decide +kernel)]; kernel_rfl) | (rw [if_neg (by decide +kernel)]; exact ⟨rfl, rfl⟩))
    (fun os started H enc _ => lifted os started H enc)

theorem proved : Rows.ArithTextsCardSaid :=
  Claim7.holds_tied_plain_at .later [] [.data, .data, .data, .sentinel, .sentinel, .data] true _ true
    over (fun _ h => by cases h) (by kernel_rfl) (fun _ h => by cases h) arithTexts_row_tie rfl ⟨rfl, rfl⟩ (by kernel_rfl) rfl
    (fun f fn hf hfn => by
      obtain rfl : f = 4 := Option.some.inj ((show Tryd.prog.funcNamed "stockpot/stockpotlaw09.ArithTexts" = some 4 by kernel_rfl).symm.trans hf) |>.symm
      obtain rfl : fn = Tryd.f4 := (Option.some.inj (Tryd.func4.symm.trans hfn)).symm
      exact ⟨by kernel_rfl, fun j t ht => by
        have hall : (Tryd.f4.params.toList.all fun u => !Tryd.prog.wantsStandIn u) = true := by kernel_rfl
        exact (show Tryd.prog.wantsStandIn t = false by simpa using List.all_eq_true.1 hall t (by simpa using Array.mem_of_getElem? ht))⟩)
    (by kernel_rfl)
#print axioms proved
end Go.Proofs.YtidhhlfpcknboaaDoor.arithTexts
