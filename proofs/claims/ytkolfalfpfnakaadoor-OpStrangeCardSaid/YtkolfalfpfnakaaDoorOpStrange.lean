/-
  For every op and text the law OpStrange returns true, and its arguments read as they did. Condition: the three tables of package op read when the call begins as the program's text lays them (the card ties them).
-/
import Derived.Test.YtkolfalfpfnakaaDoorOpSs
import Derived.Test.YtkolfalfpfnakaaDoorArgsI
import Derived.Test.YtkolfalfpfnakaaDoorTie
import Derived.Test.YtkolfalfpfnakaaDoorCards
import Derived.SevenTiedAt
import Derived.LaidMore
import Derived.Stop.Joined
namespace Go.Proofs.YtkolfalfpfnakaaDoor.opStrange
open Go.ChangeShapes Go.WideShapes Go.ChangeAt Go.RowKit
set_option linter.unusedVariables false
set_option linter.unusedSimpArgs false
set_option linter.unusedVariables false
set_option maxRecDepth 100000

theorem own : ownKnob Tryd.prog.godebug = none := by kernel_rfl
theorem laidOut : laidOutB Tryd.prog = true := by kernel_rfl

theorem walk (a0 : Int) (s : ByteArray) (w0 : (Lit.int .u8 a0).wf = true) (w1 : s.size ≤ maxLen) (w : World) (T : OpTab w) :
    Calls Tryd.prog 6 #[.int .u8 a0, .string s] w fun e w' => e = .returned (.bool true) ∧ Below w.heap.size w w' := by
  obtain ⟨p1, p2⟩ := bounds_u8 w0
  by_cases hs : 30 < (s.size : Int)
  · exact walk_long a0 s hs w T
  obtain ⟨i, ei⟩ : ∃ i : Nat, a0 % 38 = (i : Int) := ⟨(a0 % 38).toNat, by omega⟩
  have hi : i < 38 := by omega
  by_cases s0 : s.toList = []
  · have e := empty_cat i s s0
    have kq : ((opNm i).toList == (opNm i ++ s).toList) = true := by rw [e]; simp
    have h1 := ofP_eq hi kq
    rcases of_cases ((opNm i).extract 0 ((opNm i).size - 1)) with ⟨-, z2⟩ | ⟨j, hj, ⟨-, z2⟩, jq⟩
    · exact walk_samen a0 i hi p1 p2 ei s (by omega) (by omega) (Lib.hid ⟨by rw [h1]; rfl, by rw [h1]; rfl⟩) kq s0 (by rw [s0]; rfl) (Lib.hid z2) w T
    · exact walk_samey a0 i hi p1 p2 ei s (by omega) (by omega) (Lib.hid ⟨by rw [h1]; rfl, by rw [h1]; rfl⟩) kq s0 (by rw [s0]; rfl) j hj (Lib.hid z2) jq w T
  · have s1 : s.toList.isEmpty = false := by simpa using s0
    rcases of_cases (opNm i ++ s) with ⟨-, z1⟩ | ⟨k, hk, ⟨-, z1⟩, kq⟩
    · rcases of_cases ((opNm i).extract 0 ((opNm i).size - 1)) with ⟨-, z2⟩ | ⟨j, hj, ⟨-, z2⟩, jq⟩
      · exact walk_non a0 i hi p1 p2 ei s (by omega) (by omega) (Lib.hid z1) s0 s1 (Lib.hid z2) w T
      · exact walk_noy a0 i hi p1 p2 ei s (by omega) (by omega) (Lib.hid z1) s0 s1 j hj (Lib.hid z2) jq w T
    · rcases of_cases ((opNm i).extract 0 ((opNm i).size - 1)) with ⟨-, z2⟩ | ⟨j, hj, ⟨-, z2⟩, jq⟩
      · exact walk_yesn a0 i hi p1 p2 ei s (by omega) (by omega) k hk (Lib.hid z1) kq s0 s1 (Lib.hid z2) w T
      · exact walk_yesy a0 i hi p1 p2 ei s (by omega) (by omega) k hk (Lib.hid z1) kq s0 s1 j hj (Lib.hid z2) jq w T

theorem contract (H : Type) (enc : TypeId × Value → H) (W : World) (base : Nat) (args : Array Value) (ds gs : List (DataW H)) (before : List MemPlace)
    (hval0 : ∀ (j : Nat) t v, Tryd.f6.params[j]? = some t → args[j]? = some v → Value.okWide Tryd.prog W .any base t v)
    (hW : DataW.Whole enc Tryd.prog Tryd.f6.params.toList Rows.opStrangeSpec.vars false W args.toList ds gs before)
    (T : OpTab W) :
    Calls Tryd.prog 6 args W fun e W' => ∃ v, e = .returned v ∧ Rows.opStrangeSpec.post enc Tryd.prog Tryd.f6 false true false false W args v W' := by
  have hW' := hW
  have hval := hval0
  obtain ⟨p, q, hA0, hV, rfl, hfz, hnd⟩ := hW
  have hA : DataW.TrodAll enc Tryd.prog W 0 (fun _ => true) true Tryd.f6.params.toList args.toList ds p := hA0
  rw [Tryd.params6] at hA hval
  obtain ⟨rfl, rfl⟩ := trodVars_none hV
  obtain ⟨v0, vs0, d0, ds0, p0, q0, hargs, rfl, rfl, h0, r0⟩ := trodAll_cons hA
  obtain ⟨v1, vs1, d1, ds1, p1, q1, rfl, rfl, rfl, h1, r1⟩ := trodAll_cons r0
  obtain ⟨rfl, rfl, rfl⟩ := trodAll_nil r1
  obtain rfl : args = #[v0, v1] := by cases args; simp_all
  obtain ⟨a0, rfl, rfl, rfl, w0⟩ := open_int Tryd.underlying5 (hval 0 5 v0 rfl rfl) h0
  obtain ⟨s1, rfl, rfl, rfl, w1⟩ := ChangeMaps.open_string Tryd.underlying9 (hval 1 9 v1 rfl rfl) h1
  refine (walk a0 s1 w0 w1 W T).mono fun e W' ⟨he, hb⟩ => ?_
  subst he
  exact ⟨_, rfl, law_post laidOut (by kernel_rfl) rfl (by kernel_rfl) Tryd.underlying4 hW' rfl rfl rfl hb⟩

theorem door_met (os : Os) (args : Array Value) : laidMetH Tryd.prog Rows.opStrangeRow.laid ((World.doorLaid Tryd.prog 79 os).forCall (fun _ _ => 0) ⟨#[], args, []⟩).memory :=
  laidMetH_of_parts3 (fuel := 8) (laidMet_of_run' 8 (by kernel_rfl) (by kernel_rfl)) (by kernel_rfl) (by kernel_rfl)

set_option maxRecDepth 100000 in
theorem lifted (os : Os) (started : os.Started) (H : Type) (enc : TypeId × Value → H) :
    ReturnsInHanded {} Tryd.checked os 6 .any (fun w args => (Rows.opStrangeSpec.pre enc Tryd.prog Tryd.f6 [] false w args ∧ laidMetH Tryd.prog Rows.opStrangeRow.laid w) ∧ sizedMet enc Tryd.prog Tryd.f6 (OpenSpec.ofChange Rows.opStrangeSpec) false w args)
      (Rows.opStrangeSpec.post enc Tryd.prog Tryd.f6 false true false false) := by
  refine returnsInHanded_of_change_and (C := Tryd.checked) (X := fun w _ => laidMetH Tryd.prog Rows.opStrangeRow.laid w) (fun _ _ _ hh h => h.of_heap hh) own started (by kernel_rfl) Tryd.func6
    (ChangeSpec.witness_shaped (enc := enc) (C := Tryd.checked) (os := os) (X := fun w _ => laidMetH Tryd.prog Rows.opStrangeRow.laid w) false (World.doorLaid Tryd.prog 79 os) #[.int .u8 0, .string ⟨#[]⟩] 8 rfl (World.shaped_of_RefB (by kernel_rfl) (by kernel_rfl)) (by kernel_rfl) (by kernel_rfl) (by kernel_rfl) (door_met os _)) ?_
  intro W base args ds gs before hval hW _ _ hL _
  exact contract H enc W base args ds gs before hval hW (optab_of (laid_lies (by kernel_rfl) hL _ _ (List.Mem.head _)) (laid_lies (by kernel_rfl) hL _ _ (List.Mem.tail _ (List.Mem.head _))) (laid_lies (by kernel_rfl) hL _ _ (List.Mem.tail _ (List.Mem.tail _ (List.Mem.head _)))))

theorem over : Rows.opStrangeRow.holds Tryd.pinned (OpenSpec.ofChange Rows.opStrangeSpec) :=
  OpenClaim.holds_of_wide 6 Tryd.f6 rfl rfl rfl rfl rfl rfl rfl ⟨rfl, rfl, rfl, rfl, rfl⟩ rfl rfl rfl rfl rfl (by kernel_rfl) Tryd.func6 (by kernel_rfl)
    (of_decide_eq_true (by kernel_rfl)) (by unfold Func.isWrapper; first | (rw [if_pos (by decide +kernel)]; kernel_rfl) | (rw [if_neg (by decide +kernel)]; exact ⟨rfl, rfl⟩))
    (fun os started H enc _ => lifted os started H enc)

theorem proved : Rows.OpStrangeCardSaid :=
  Claim7.holds_tied_plain_at .later [] [.data, .data, .data] true _ false
    over (fun _ h => by cases h) (by kernel_rfl) (fun _ h => by cases h) opStrange_row_tie rfl ⟨rfl, rfl⟩ (by kernel_rfl) rfl
    (fun f fn hf hfn => by
      obtain rfl : f = 6 := Option.some.inj ((show Tryd.prog.funcNamed "stockpot/stockpotlaw06.OpStrange" = some 6 by kernel_rfl).symm.trans hf) |>.symm
      obtain rfl : fn = Tryd.f6 := (Option.some.inj (Tryd.func6.symm.trans hfn)).symm
      exact ⟨by kernel_rfl, fun j t ht => by
        have hall : (Tryd.f6.params.toList.all fun u => !Tryd.prog.wantsStandIn u) = true := by kernel_rfl
        exact (show Tryd.prog.wantsStandIn t = false by simpa using List.all_eq_true.1 hall t (by simpa using Array.mem_of_getElem? ht))⟩)
    (by kernel_rfl)
#print axioms proved
end Go.Proofs.YtkolfalfpfnakaaDoor.opStrange
