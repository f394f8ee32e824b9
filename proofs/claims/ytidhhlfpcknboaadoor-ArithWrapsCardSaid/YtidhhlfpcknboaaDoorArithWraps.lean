/-
  For all numbers v and u the law ArithWraps returns true, and its arguments read as they did. Condition: the library's tables and errors and package arith's table of kinds read when the call begins as the program's text lays them (the card ties them).
-/
import Derived.Test.YtidhhlfpcknboaaDoorArL
import Derived.Test.YtidhhlfpcknboaaDoorTie
import Derived.Test.YtidhhlfpcknboaaDoorCards
import Derived.SevenTiedAt
import Derived.LaidMore
import Derived.Stop.Joined
namespace Go.Proofs.YtidhhlfpcknboaaDoor.arithWraps
open Go.ChangeShapes Go.WideShapes Go.ChangeAt Go.RowKit
set_option linter.unusedVariables false
set_option linter.unusedSimpArgs false
set_option linter.unusedVariables false
set_option maxRecDepth 100000

theorem own : ownKnob Tryd.prog.godebug = none := by kernel_rfl
theorem laidOut : laidOutB Tryd.prog = true := by kernel_rfl

set_option maxHeartbeats 1000000 in
theorem walk (a0 a1 : Int) (w0 : (Lit.int .i64 a0).wf = true) (w1 : (Lit.int .i64 a1).wf = true) (w : World) (T : ArTab w) :
    Calls Tryd.prog 5 #[.int .i64 a0, .int .i64 a1] w fun e w' => e = .returned (.bool true) ∧ Below w.heap.size w w' := by
  obtain ⟨h0, h1⟩ := wWrap_bounds a0
  obtain ⟨x, hx⟩ : ∃ x, x = wWrap a0 := ⟨_, rfl⟩
  obtain ⟨y, hy⟩ : ∃ y, y = wWrap a1 := ⟨_, rfl⟩
  have W0 : ∀ w, Calls Tryd.prog 7 #[.int .i64 a0] w fun e w' => e = .returned (.int .i64 x) ∧ w = w' := fun w => by rw [hx]; exact refWrap_any _ _
  have W1 : ∀ w, Calls Tryd.prog 7 #[.int .i64 a1] w fun e w' => e = .returned (.int .i64 y) ∧ w = w' := fun w => by rw [hy]; exact refWrap_any _ _
  have F1 : ∀ op v o w (_ : ArTab w) (_ : opV op a0 a1 = v) (_ : opO op a1 = o), Calls Tryd.prog 8 #[.int .i64 op, .int .i64 a0, .int .i64 a1] w fun e w' => e = .returned (.tuple #[.int .i64 v, .bool o]) ∧ Below w.heap.size w w' := fun op v o w T h k => of_is h k w T
  have F2 : ∀ op v o w (_ : ArTab w) (_ : opV op a0 a1 = v) (_ : opO op a1 = o), Calls Tryd.prog 8 #[.int .i64 op, .int .i64 x, .int .i64 y] w fun e w' => e = .returned (.tuple #[.int .i64 v, .bool o]) ∧ Below w.heap.size w w' := fun op v o w T h k => of_is (by rw [hx, hy, opV_twice]; exact h) (by rw [hy, opO_twice]; exact k) w T
  have F3 : ∀ op v w (_ : opV op a0 a1 = v), Calls Tryd.prog 7 #[.int .i64 v] w fun e w' => e = .returned (.int .i64 v) ∧ w = w' := fun op v w h => (refWrap_any v w).mono fun e w' ⟨he, hw⟩ => ⟨by rw [he, ← h, opV_wrapped], hw⟩
  rw [← hx] at h0 h1
  have wx : wWrap x = x := wWrap_is h0 h1
  have w1 : wWrap 1 = 1 := by decide +kernel
  have wz : wWrap 0 = 0 := by decide +kernel
  have wm : wWrap (-1) = -1 := by decide +kernel
  have HA : Hid (opV 12 a0 0 = x) := Lib.hid (by rw [opV_add, ← hx, wz, Int.add_zero]; exact wx)
  have HM : Hid (opV 14 a0 1 = x) := Lib.hid (by rw [opV_mul, ← hx, w1, Int.mul_one]; exact wx)
  have HZ : Hid (opV 14 a0 0 = 0) := Lib.hid (by rw [opV_mul, wz, Int.mul_zero]; exact wz)
  obtain ⟨n, hn⟩ : ∃ n, n = wWrap (-x) := ⟨_, rfl⟩
  have HN : Hid (opV 14 a0 (-1) = n) := Lib.hid (by rw [opV_mul, ← hx, wm, hn]; congr 1; omega)
  have HS : Hid (opV 13 0 a0 = n) := Lib.hid (by rw [opV_sub, ← hx, wz, hn]; congr 1; omega)
  have HD : Hid (opV 15 a0 1 = x) := Lib.hid (by rw [opV_div (by rw [w1]; decide), ← hx, w1, Int.tdiv_one]; exact wx)
  have HDO : Hid (opO 15 1 = true) := Lib.hid (by decide +kernel)
  clear hx hy wx w1 wz wm hn h0 h1
  go_enter Tryd.func5, Tryd.ntmps5
  go_wp2
  go_loopw [5] (fun vop wr => ∃ k : Int, vop = .int .i64 k ∧ 12 ≤ k ∧ k ≤ 19 ∧ ArTab wr ∧ Below w.heap.size w wr)
    (fun vop _ => (19 - intOf vop).toNat)
  case atStart => exact ⟨12, rfl, by omega, by omega, T, Below.refl _ _⟩
  case round =>
    obtain ⟨k, rfl, k0, k1, Tr, br⟩ := hrel
    by_cases hk : k ≤ 18
    · obtain ⟨v, hv⟩ : ∃ v, v = opV k a0 a1 := ⟨_, rfl⟩
      obtain ⟨o, ho⟩ : ∃ o, o = opO k a1 := ⟨_, rfl⟩
      have HV := Lib.hid hv.symm
      have HO := Lib.hid ho.symm
      clear hv ho
      go_wp2_with fail
      refine (F1 k v o _ Tr HV.out HO.out).mono ?_
      rintro e w1 ⟨rfl, b1⟩
      have T1 := Tr.below b1
      replace b1 := below_chain br b1
      clear Tr br
      go_wp2_with fail
      refine (W0 _).mono ?_
      rintro e w' ⟨rfl, rfl⟩
      go_wp2_with fail
      refine (W1 _).mono ?_
      rintro e w' ⟨rfl, rfl⟩
      go_wp2_with fail
      refine (F2 k v o _ T1 HV.out HO.out).mono ?_
      rintro e w2 ⟨rfl, b2⟩
      have T2 := T1.below b2
      replace b2 := below_chain b1 b2
      clear T1 b1
      go_wp2_with fail
      refine (F3 k v _ HV.out).mono ?_
      rintro e w' ⟨rfl, rfl⟩
      have hw : wrap64 (k + 1) = k + 1 := by unfold wrap64; omega
      go_wp2_with fail
      refine ⟨⟨k + 1, rfl, by omega, by omega, T2, b2⟩, by simp [intOf]; omega⟩
    · have hk2 : 18 < k := by omega
      clear F1 F2 F3
      go_wp2_with fail
      refine (W0 _).mono ?_
      rintro e w' ⟨rfl, rfl⟩
      go_wp2_with fail
      refine (of_is (op := 12) (v := x) (o := true) HA.out (opO_12 _) _ Tr).mono ?_
      rintro e w1 ⟨rfl, b1⟩
      have T1 := Tr.below b1; clear T Tr
      replace b1 := below_chain br b1; clear br
      go_wp2_with fail
      refine (of_is (op := 14) (v := x) (o := true) HM.out (opO_14 _) _ T1).mono ?_
      rintro e w2 ⟨rfl, b2⟩
      have T2 := T1.below b2; clear T1
      replace b2 := below_chain b1 b2; clear b1
      go_wp2_with fail
      refine (of_is (op := 14) (v := 0) (o := true) HZ.out (opO_14 _) _ T2).mono ?_
      rintro e w3 ⟨rfl, b3⟩
      have T3 := T2.below b3; clear T2
      replace b3 := below_chain b2 b3; clear b2
      go_wp2_with fail
      refine (of_is (op := 14) (v := n) (o := true) HN.out (opO_14 _) _ T3).mono ?_
      rintro e w4 ⟨rfl, b4⟩
      have T4 := T3.below b4; clear T3
      replace b4 := below_chain b3 b4; clear b3
      go_wp2_with fail
      refine (of_is (op := 13) (v := n) (o := true) HS.out (opO_13 _) _ T4).mono ?_
      rintro e w5 ⟨rfl, b5⟩
      have T5 := T4.below b5; clear T4
      replace b5 := below_chain b4 b5; clear b4
      go_wp2_with fail
      refine (of_is (op := 15) (v := x) (o := true) HD.out HDO.out _ T5).mono ?_
      rintro e w6 ⟨rfl, b6⟩
      have T6 := T5.below b6; clear T5
      replace b6 := below_chain b5 b6; clear b5
      go_wp2_with fail
      refine (wakes_any _ T6).mono ?_
      rintro e w' ⟨rfl, hb⟩
      go_wp2_with fail
      go_ret
      exact ⟨rfl, below_chain b6 hb⟩

theorem contract (H : Type) (enc : TypeId × Value → H) (W : World) (base : Nat) (args : Array Value) (ds gs : List (DataW H)) (before : List MemPlace)
    (hval0 : ∀ (j : Nat) t v, Tryd.f5.params[j]? = some t → args[j]? = some v → Value.okWide Tryd.prog W .any base t v)
    (hW : DataW.Whole enc Tryd.prog Tryd.f5.params.toList Rows.arithWrapsSpec.vars false W args.toList ds gs before)
    (T : ArTab W) :
    Calls Tryd.prog 5 args W fun e W' => ∃ v, e = .returned v ∧ Rows.arithWrapsSpec.post enc Tryd.prog Tryd.f5 false true false false W args v W' := by
  have hW' := hW
  have hval := hval0
  obtain ⟨p, q, hA0, hV, rfl, hfz, hnd⟩ := hW
  have hA : DataW.TrodAll enc Tryd.prog W 0 (fun _ => true) true Tryd.f5.params.toList args.toList ds p := hA0
  rw [Tryd.params5] at hA hval
  obtain ⟨rfl, rfl⟩ := trodVars_none hV
  obtain ⟨v0, vs0, d0, ds0, p0, q0, hargs, rfl, rfl, h0, r0⟩ := trodAll_cons hA
  obtain ⟨v1, vs1, d1, ds1, p1, q1, rfl, rfl, rfl, h1, r1⟩ := trodAll_cons r0
  obtain ⟨rfl, rfl, rfl⟩ := trodAll_nil r1
  obtain rfl : args = #[v0, v1] := by cases args; simp_all
  obtain ⟨a0, rfl, rfl, rfl, w0⟩ := open_int Tryd.underlying2 (hval 0 2 v0 rfl rfl) h0
  obtain ⟨a1, rfl, rfl, rfl, w1⟩ := open_int Tryd.underlying2 (hval 1 2 v1 rfl rfl) h1
  refine (walk a0 a1 w0 w1 W T).mono fun e W' ⟨he, hb⟩ => ?_
  subst he
  exact ⟨_, rfl, law_post laidOut (by kernel_rfl) rfl (by kernel_rfl) Tryd.underlying4 hW' rfl rfl rfl hb⟩

theorem door_met (os : Os) (args : Array Value) : laidMetH Tryd.prog Rows.arithWrapsRow.laid ((World.doorLaid Tryd.prog 67 os).forCall (fun _ _ => 0) ⟨#[], args, []⟩).memory :=
  laidMetH_of_parts3 (fuel := 8) (laidMet_of_run' 8 (by kernel_rfl) (by kernel_rfl)) (by kernel_rfl) (by kernel_rfl)

set_option maxRecDepth 100000 in
theorem lifted (os : Os) (started : os.Started) (H : Type) (enc : TypeId × Value → H) :
    ReturnsInHanded {} Tryd.checked os 5 .any (fun w args => (Rows.arithWrapsSpec.pre enc Tryd.prog Tryd.f5 [] false w args ∧ laidMetH Tryd.prog Rows.arithWrapsRow.laid w) ∧ sizedMet enc Tryd.prog Tryd.f5 (OpenSpec.ofChange Rows.arithWrapsSpec) false w args)
      (Rows.arithWrapsSpec.post enc Tryd.prog Tryd.f5 false true false false) := by
  refine returnsInHanded_of_change_and (C := Tryd.checked) (X := fun w _ => laidMetH Tryd.prog Rows.arithWrapsRow.laid w) (fun _ _ _ hh h => h.of_heap hh) own started (by kernel_rfl) Tryd.func5
    (ChangeSpec.witness_shaped (enc := enc) (C := Tryd.checked) (os := os) (X := fun w _ => laidMetH Tryd.prog Rows.arithWrapsRow.laid w) false (World.doorLaid Tryd.prog 67 os) #[.int .i64 0, .int .i64 0] 8 rfl (World.shaped_of_RefB (by kernel_rfl) (by kernel_rfl)) (by kernel_rfl) (by kernel_rfl) (by kernel_rfl) (door_met os _)) ?_
  intro W base args ds gs before hval hW _ hz hL _
  exact contract H enc W base args ds gs before hval hW (artab_of hL)

theorem over : Rows.arithWrapsRow.holds Tryd.pinned (OpenSpec.ofChange Rows.arithWrapsSpec) :=
  OpenClaim.holds_of_wide 5 Tryd.f5 rfl rfl rfl rfl rfl rfl rfl ⟨rfl, rfl, rfl, rfl, rfl⟩ rfl rfl rfl rfl rfl (by kernel_rfl) Tryd.func5 (by kernel_rfl)
    (of_decide_eq_true (by kernel_rfl)) (by unfold Func.isWrapper; first | (rw [if_pos (by decide +kernel)]; kernel_rfl) | (rw [if_neg (by decide +kernel)]; exact ⟨rfl, rfl⟩))
    (fun os started H enc _ => lifted os started H enc)

theorem proved : Rows.ArithWrapsCardSaid :=
  Claim7.holds_tied_plain_at .later [] [.data, .data, .data, .sentinel, .sentinel, .data] true _ true
    over (fun _ h => by cases h) (by kernel_rfl) (fun _ h => by cases h) arithWraps_row_tie rfl ⟨rfl, rfl⟩ (by kernel_rfl) rfl
    (fun f fn hf hfn => by
      obtain rfl : f = 5 := Option.some.inj ((show Tryd.prog.funcNamed "stockpot/stockpotlaw09.ArithWraps" = some 5 by kernel_rfl).symm.trans hf) |>.symm
      obtain rfl : fn = Tryd.f5 := (Option.some.inj (Tryd.func5.symm.trans hfn)).symm
      exact ⟨by kernel_rfl, fun j t ht => by
        have hall : (Tryd.f5.params.toList.all fun u => !Tryd.prog.wantsStandIn u) = true := by kernel_rfl
        exact (show Tryd.prog.wantsStandIn t = false by simpa using List.all_eq_true.1 hall t (by simpa using Array.mem_of_getElem? ht))⟩)
    (by kernel_rfl)
#print axioms proved
end Go.Proofs.YtidhhlfpcknboaaDoor.arithWraps
