/-
  For every two instructions the law OpEffects returns true, and its arguments read as they did. Condition: the three tables of package op read when the call begins as the program's text lays them (the card ties them).
-/
import Derived.Test.YtkolfalfpfnakaaDoorOpEf
import Derived.Test.YtkolfalfpfnakaaDoorArgsI
import Derived.Test.YtkolfalfpfnakaaDoorTie
import Derived.Test.YtkolfalfpfnakaaDoorCards
import Derived.SevenTiedAt
import Derived.LaidMore
import Derived.Stop.Joined
namespace Go.Proofs.YtkolfalfpfnakaaDoor.opEffects
open Go.ChangeShapes Go.WideShapes Go.ChangeAt Go.RowKit
set_option linter.unusedVariables false
set_option linter.unusedSimpArgs false
set_option linter.unusedVariables false
set_option maxRecDepth 100000

theorem own : ownKnob Tryd.prog.godebug = none := by kernel_rfl
theorem laidOut : laidOutB Tryd.prog = true := by kernel_rfl

theorem walk (o0 a0 b0 o1 a1 b1 : Int) (wo0 : (Lit.int .i64 o0).wf = true) (wa0 : (Lit.int .i64 a0).wf = true) (wb0 : (Lit.int .i64 b0).wf = true) (wo1 : (Lit.int .i64 o1).wf = true) (wa1 : (Lit.int .i64 a1).wf = true) (wb1 : (Lit.int .i64 b1).wf = true) (w : World) (T : OpTab w) :
    Calls Tryd.prog 5 #[.agg #[.int .i64 o0, .int .i64 a0, .int .i64 b0], .agg #[.int .i64 o1, .int .i64 a1, .int .i64 b1]] w fun e w' => e = .returned (.bool true) ∧ Below w.heap.size w w' := by
  cases g : opGood o0 a0 b0 <;> cases g' : opGood o1 a1 b1
  · exact walk_ff _ _ _ _ _ _ _ _ _ _ (Lib.hid ⟨rfl, rfl, g⟩) (Lib.hid ⟨rfl, rfl, g'⟩) w T
  · exact walk_ft _ _ _ _ _ _ _ _ _ _ (Lib.hid ⟨rfl, rfl, g⟩) (Lib.hid ⟨rfl, rfl, g'⟩) w T
  · exact walk_tf _ _ _ _ _ _ _ _ _ _ (Lib.hid ⟨rfl, rfl, g⟩) (Lib.hid ⟨rfl, rfl, g'⟩) w T
  · obtain ⟨h2, h3, h0, h1⟩ := eff_bounds g
    by_cases h : o0 = o1
    · subst h
      by_cases h6 : o0 = 6
      · subst h6
        obtain ⟨e1, e2⟩ := eff_asB (Or.inl rfl) g
        obtain ⟨e3, e4⟩ := eff_asB (Or.inl rfl) g'
        have e1' : effT 6 a0 b0 = b0 := e1
        rw [e1'] at h2 h3
        exact walk_b6 _ _ _ _ (Lib.hid ⟨e1, e2, g⟩) (Lib.hid ⟨e3, e4, g'⟩) h2 h3 w T
      by_cases h19 : o0 = 19
      · subst h19
        obtain ⟨e1, e2⟩ := eff_asB (Or.inr rfl) g
        obtain ⟨e3, e4⟩ := eff_asB (Or.inr rfl) g'
        have e1' : effT 19 a0 b0 = b0 := e1
        rw [e1'] at h2 h3
        exact walk_b19 _ _ _ _ (Lib.hid ⟨e1, e2, g⟩) (Lib.hid ⟨e3, e4, g'⟩) h2 h3 w T
      by_cases h36 : o0 = 36
      · subst h36
        obtain ⟨e1, e2, -, -⟩ := eff_host g
        obtain ⟨e3, e4, -, -⟩ := eff_host g'
        by_cases ha : a0 = a1
        · subst ha
          exact walk_hs _ _ _ _ (Lib.hid ⟨rfl, e2, g⟩) (Lib.hid ⟨e3.trans e1.symm, e4, g'⟩) h2 h3 w T
        · exact walk_hn _ _ _ _ _ _ (Lib.hid ⟨rfl, e2, g⟩) (Lib.hid ⟨rfl, e4, g'⟩) h2 h3 ha (by simpa using ha) w T
      obtain ⟨e1, e2⟩ := eff_same g g' h6 h19 h36
      exact walk_eq _ _ _ _ _ _ _ (Lib.hid ⟨rfl, rfl, g⟩) (Lib.hid ⟨e1.symm, e2.symm, g'⟩) h0 h1 h2 h3 (by simpa using h6) (by simpa using h19) (by simpa using h36) w T
    · exact walk_ne _ _ _ _ _ _ _ _ _ _ (Lib.hid ⟨rfl, rfl, g⟩) (Lib.hid ⟨rfl, rfl, g'⟩) h0 h1 h2 h3 h (by simpa using h) w T

theorem contract (H : Type) (enc : TypeId × Value → H) (W : World) (base : Nat) (args : Array Value) (ds gs : List (DataW H)) (before : List MemPlace)
    (hval0 : ∀ (j : Nat) t v, Tryd.f5.params[j]? = some t → args[j]? = some v → Value.okWide Tryd.prog W .any base t v)
    (hW : DataW.Whole enc Tryd.prog Tryd.f5.params.toList Rows.opEffectsSpec.vars false W args.toList ds gs before)
    (T : OpTab W) :
    Calls Tryd.prog 5 args W fun e W' => ∃ v, e = .returned v ∧ Rows.opEffectsSpec.post enc Tryd.prog Tryd.f5 false true false false W args v W' := by
  have hW' := hW
  have hval := hval0
  obtain ⟨p, q, hA0, hV, rfl, hfz, hnd⟩ := hW
  have hA : DataW.TrodAll enc Tryd.prog W 0 (fun _ => true) true Tryd.f5.params.toList args.toList ds p := hA0
  rw [Tryd.params5] at hA hval
  obtain ⟨rfl, rfl⟩ := trodVars_none hV
  obtain ⟨v0, vs0, d0, ds0, p0, q0, hargs, rfl, rfl, h0, r0⟩ := trodAll_cons hA
  obtain ⟨v1, vs1, d1, ds1, p1, q1, rfl, rfl, rfl, h1, r1⟩ := trodAll_cons r0
  obtain ⟨rfl, rfl, rfl⟩ := trodAll_nil r1
  obtain rfl : args = #[v0, v1] := by cases args; simp_all
  obtain ⟨o0, a0, b0, rfl, wo0, wa0, wb0⟩ := open_ins (hval 0 23 v0 rfl rfl) h0
  obtain ⟨o1, a1, b1, rfl, wo1, wa1, wb1⟩ := open_ins (hval 1 23 v1 rfl rfl) h1
  refine (walk o0 a0 b0 o1 a1 b1 wo0 wa0 wb0 wo1 wa1 wb1 W T).mono fun e W' ⟨he, hb⟩ => ?_
  subst he
  exact ⟨_, rfl, law_post laidOut (by kernel_rfl) rfl (by kernel_rfl) Tryd.underlying4 hW' rfl rfl rfl hb⟩

theorem door_met (os : Os) (args : Array Value) : laidMetH Tryd.prog Rows.opEffectsRow.laid ((World.doorLaid Tryd.prog 79 os).forCall (fun _ _ => 0) ⟨#[], args, []⟩).memory :=
  laidMetH_of_parts3 (fuel := 8) (laidMet_of_run' 8 (by kernel_rfl) (by kernel_rfl)) (by kernel_rfl) (by kernel_rfl)

set_option maxRecDepth 100000 in
theorem lifted (os : Os) (started : os.Started) (H : Type) (enc : TypeId × Value → H) :
    ReturnsInHanded {} Tryd.checked os 5 .any (fun w args => (Rows.opEffectsSpec.pre enc Tryd.prog Tryd.f5 [] false w args ∧ laidMetH Tryd.prog Rows.opEffectsRow.laid w) ∧ sizedMet enc Tryd.prog Tryd.f5 (OpenSpec.ofChange Rows.opEffectsSpec) false w args)
      (Rows.opEffectsSpec.post enc Tryd.prog Tryd.f5 false true false false) := by
  refine returnsInHanded_of_change_and (C := Tryd.checked) (X := fun w _ => laidMetH Tryd.prog Rows.opEffectsRow.laid w) (fun _ _ _ hh h => h.of_heap hh) own started (by kernel_rfl) Tryd.func5
    (ChangeSpec.witness_shaped (enc := enc) (C := Tryd.checked) (os := os) (X := fun w _ => laidMetH Tryd.prog Rows.opEffectsRow.laid w) false (World.doorLaid Tryd.prog 79 os) #[.agg #[.int .i64 0, .int .i64 0, .int .i64 0], .agg #[.int .i64 0, .int .i64 0, .int .i64 0]] 8 rfl (World.shaped_of_RefB (by kernel_rfl) (by kernel_rfl)) (by kernel_rfl) (by kernel_rfl) (by kernel_rfl) (door_met os _)) ?_
  intro W base args ds gs before hval hW _ _ hL _
  exact contract H enc W base args ds gs before hval hW (optab_of (laid_lies (by kernel_rfl) hL _ _ (List.Mem.head _)) (laid_lies (by kernel_rfl) hL _ _ (List.Mem.tail _ (List.Mem.head _))) (laid_lies (by kernel_rfl) hL _ _ (List.Mem.tail _ (List.Mem.tail _ (List.Mem.head _)))))

theorem over : Rows.opEffectsRow.holds Tryd.pinned (OpenSpec.ofChange Rows.opEffectsSpec) :=
  OpenClaim.holds_of_wide 5 Tryd.f5 rfl rfl rfl rfl rfl rfl rfl ⟨rfl, rfl, rfl, rfl, rfl⟩ rfl rfl rfl rfl rfl (by kernel_rfl) Tryd.func5 (by kernel_rfl)
    (of_decide_eq_true (by kernel_rfl)) (by unfold Func.isWrapper; first | (rw [if_pos (by decide +kernel)]; kernel_rfl) | (rw [if_neg (by decide +kernel)]; exact ⟨rfl, rfl⟩))
    (fun os started H enc _ => lifted os started H enc)

theorem proved : Rows.OpEffectsCardSaid :=
  Claim7.holds_tied_plain_at .later [] [.data, .data, .data] true _ false
    over (fun _ h => by cases h) (by kernel_rfl) (fun _ h => by cases h) opEffects_row_tie rfl ⟨rfl, rfl⟩ (by kernel_rfl) rfl
    (fun f fn hf hfn => by
      obtain rfl : f = 5 := Option.some.inj ((show Tryd.prog.funcNamed "stockpot/stockpotlaw06.OpEffects" = some 5 by kernel_rfl).symm.trans hf) |>.symm
      obtain rfl : fn = Tryd.f5 := (Option.some.inj (Tryd.func5.symm.trans hfn)).symm
      exact ⟨by kernel_rfl, fun j t ht => by
        have hall : (Tryd.f5.params.toList.all fun u => !Tryd.prog.wantsStandIn u) = true := by kernel_rfl
        exact (show Tryd.prog.wantsStandIn t = false by simpa using List.all_eq_true.1 hall t (by simpa using Array.mem_of_getElem? ht))⟩)
    (by kernel_rfl)
#print axioms proved
end Go.Proofs.YtkolfalfpfnakaaDoor.opEffects
