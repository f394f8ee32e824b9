/-
  For every program, byte and slice of bools the law VerifyFlows returns true, and its arguments read as they did. Condition: the tables of packages op and verify read when the call begins as the program's text lays them (the card ties them).
-/
import Derived.Test.YtlfbfnkmbceejaaDoorVeFw
import Derived.Test.YtlfbfnkmbceejaaDoorTie
import Derived.Test.YtlfbfnkmbceejaaDoorCards
import Derived.SevenTiedAt
import Derived.LaidMore
import Derived.Stop.Joined
namespace Go.Proofs.YtlfbfnkmbceejaaDoor.verifyFlows
open Go.ChangeShapes Go.WideShapes Go.ChangeAt Go.RowKit
set_option linter.unusedVariables false
set_option linter.unusedSimpArgs false
set_option linter.unusedVariables false
set_option maxRecDepth 100000

theorem own : ownKnob Tryd.prog.godebug = none := by kernel_rfl
theorem laidOut : laidOutB Tryd.prog = true := by kernel_rfl

theorem walk (v1 v2 v3 : Value) (P : PPr) (b : Int) (v : Value) (l : List Bool) (w : World) (hp : prAt (fun _ => False) w v1 v2 v3 P) (hf : prF P) (hr : PRe P) (wb : (Lit.int .u8 b).wf = true) (hw : rdAt (fun _ => False) w v l.length (l.map Value.bool)) (hwl : l.length ≤ reachBytes) (T : VeTab w) :
    Calls Tryd.prog 4 #[.agg #[v1, v2, v3], .int .u8 b, v] w fun e w' => e = .returned (.bool true) ∧ Below w.heap.size w w' :=
  flows_walk v1 v2 v3 P b v l w hp hf hr wb hw hwl T

theorem contract (H : Type) (enc : TypeId × Value → H) (W : World) (base : Nat) (args : Array Value) (ds gs : List (DataW H)) (before : List MemPlace)
    (hval0 : ∀ (j : Nat) t v, Tryd.f4.params[j]? = some t → args[j]? = some v → Value.okWide Tryd.prog W .any base t v)
    (hW : DataW.Whole enc Tryd.prog Tryd.f4.params.toList Rows.verifyFlowsSpec.vars false W args.toList ds gs before)
    (T : VeTab W)
    (hz : (DataW.weightsEach Tryd.prog (Tryd.f4.params.toList ++ Rows.verifyFlowsSpec.plain.varTypes Tryd.prog) (ds ++ gs)).all (· ≤ reachBytes) = true) :
    Calls Tryd.prog 4 args W fun e W' => ∃ v, e = .returned v ∧ Rows.verifyFlowsSpec.post enc Tryd.prog Tryd.f4 false true false false W args v W' := by
  have hW' := hW
  have hval := hval0
  obtain ⟨p, q, hA0, hV, rfl, hfz, hnd⟩ := hW
  have hA : DataW.TrodAll enc Tryd.prog W 0 (fun _ => true) true Tryd.f4.params.toList args.toList ds p := hA0
  rw [Tryd.params4] at hA hval
  obtain ⟨rfl, rfl⟩ := trodVars_none hV
  have wb : ∀ (j : Nat) (t : TypeId) (d : DataW H), Tryd.f4.params[j]? = some t → ds[j]? = some d → WB Tryd.prog t d := fun j t d ht hd => wb_of hz (by simpa using ht) hd
  rw [Tryd.params4] at wb
  obtain ⟨v0, vs0, d0, ds0, p0, q0, hargs, rfl, rfl, h0, r0⟩ := trodAll_cons hA
  obtain ⟨v1, vs1, d1, ds1, p1, q1, rfl, rfl, rfl, h1, r1⟩ := trodAll_cons r0
  obtain ⟨v2, vs2, d2, ds2, p2, q2, rfl, rfl, rfl, h2, r2⟩ := trodAll_cons r1
  obtain ⟨rfl, rfl, rfl⟩ := trodAll_nil r2
  obtain rfl : args = #[v0, v1, v2] := by cases args; simp_all
  obtain ⟨u0_1, u0_2, u0_3, P0, rfl, hp0, hf0, n0_1, n0_2, n0_3, n0_4, n0_5⟩ := open_prog (wb 0 _ _ rfl rfl) (hval 0 26 v0 rfl rfl) h0
  obtain ⟨a1, rfl, rfl, rfl, w1⟩ := open_int Tryd.underlying5 (hval 1 5 v1 rfl rfl) h1
  obtain ⟨l2, hb2, hbl2⟩ := open_bools Tryd.underlying43 Tryd.underlying4 (by kernel_rfl) (by decide +kernel) (wb 2 _ _ rfl rfl) (hval 2 43 v2 rfl rfl) h2
  refine (walk u0_1 u0_2 u0_3 P0 a1 v2 l2 W hp0 hf0 ⟨n0_1, n0_2, n0_3, n0_4, n0_5⟩ w1 hb2 hbl2 T).mono fun e W' ⟨he, hb⟩ => ?_
  subst he
  exact ⟨_, rfl, law_post laidOut (by kernel_rfl) rfl (by kernel_rfl) Tryd.underlying4 hW' rfl rfl rfl hb⟩

theorem door_met (os : Os) (args : Array Value) : laidMetH Tryd.prog Rows.verifyFlowsRow.laid ((World.doorLaid Tryd.prog 76 os).forCall (fun _ _ => 0) ⟨#[], args, []⟩).memory :=
  laidMetH_of_parts3 (fuel := 8) (laidMet_of_run' 8 (by kernel_rfl) (by kernel_rfl)) (by kernel_rfl) (by kernel_rfl)

set_option maxRecDepth 100000 in
theorem lifted (os : Os) (started : os.Started) (H : Type) (enc : TypeId × Value → H) :
    ReturnsInHanded {} Tryd.checked os 4 .any (fun w args => (Rows.verifyFlowsSpec.pre enc Tryd.prog Tryd.f4 [] false w args ∧ laidMetH Tryd.prog Rows.verifyFlowsRow.laid w) ∧ sizedMet enc Tryd.prog Tryd.f4 (OpenSpec.ofChange Rows.verifyFlowsSpec) false w args)
      (Rows.verifyFlowsSpec.post enc Tryd.prog Tryd.f4 false true false false) := by
  refine returnsInHanded_of_change_and (C := Tryd.checked) (X := fun w _ => laidMetH Tryd.prog Rows.verifyFlowsRow.laid w) (fun _ _ _ hh h => h.of_heap hh) own started (by kernel_rfl) Tryd.func4
    (ChangeSpec.witness_shaped (enc := enc) (C := Tryd.checked) (os := os) (X := fun w _ => laidMetH Tryd.prog Rows.verifyFlowsRow.laid w) false (World.doorLaid Tryd.prog 76 os) #[.agg #[.slice none 0 0, .slice none 0 0, .slice none 0 0], .int .u8 0, .slice none 0 0] 8 rfl (World.shaped_of_RefB (by kernel_rfl) (by kernel_rfl)) (by kernel_rfl) (by kernel_rfl) (by kernel_rfl) (door_met os _)) ?_
  intro W base args ds gs before hval hW _ hz hL _
  exact contract H enc W base args ds gs before hval hW (vetab_of (optab_of (laid_lies (by kernel_rfl) hL _ _ (List.Mem.head _)) (laid_lies (by kernel_rfl) hL _ _ (List.Mem.tail _ (List.Mem.head _))) (laid_lies (by kernel_rfl) hL _ _ (List.Mem.tail _ (List.Mem.tail _ (List.Mem.head _))))) (laid_lies (by kernel_rfl) hL _ _ (List.Mem.tail _ (List.Mem.tail _ (List.Mem.tail _ (List.Mem.head _)))))) hz

theorem over : Rows.verifyFlowsRow.holds Tryd.pinned (OpenSpec.ofChange Rows.verifyFlowsSpec) :=
  OpenClaim.holds_of_wide 4 Tryd.f4 rfl rfl rfl rfl rfl rfl rfl ⟨rfl, rfl, rfl, rfl, rfl⟩ rfl rfl rfl rfl rfl (by kernel_rfl) Tryd.func4 (by kernel_rfl)
    (of_decide_eq_true (by kernel_rfl)) (by unfold Func.isWrapper; first | (rw [if_pos (by decide +kernel)]; kernel_rfl) | (rw [if_neg (by decide +kernel)]; exact ⟨rfl, rfl⟩))
    (fun os started H enc _ => lifted os started H enc)

theorem proved : Rows.VerifyFlowsCardSaid :=
  Claim7.holds_tied_plain_at .later [] [.data, .data, .data, .data] true _ false
    over (fun _ h => by cases h) (by kernel_rfl) (fun _ h => by cases h) verifyFlows_row_tie rfl ⟨rfl, rfl⟩ (by kernel_rfl) rfl
    (fun f fn hf hfn => by
      obtain rfl : f = 4 := Option.some.inj ((show Tryd.prog.funcNamed "stockpot/stockpotlaw08.VerifyFlows" = some 4 by kernel_rfl).symm.trans hf) |>.symm
      obtain rfl : fn = Tryd.f4 := (Option.some.inj (Tryd.func4.symm.trans hfn)).symm
      exact ⟨by kernel_rfl, fun j t ht => by
        have hall : (Tryd.f4.params.toList.all fun u => !Tryd.prog.wantsStandIn u) = true := by kernel_rfl
        exact (show Tryd.prog.wantsStandIn t = false by simpa using List.all_eq_true.1 hall t (by simpa using Array.mem_of_getElem? ht))⟩)
    (by kernel_rfl)
#print axioms proved
end Go.Proofs.YtlfbfnkmbceejaaDoor.verifyFlows
