/-
  For every source and number the law LexCuts returns true, and its arguments read as they did. Condition: the library's tables and errors and package lex's tables of words and signs read when the call begins as the program's text lays them (the card ties them).
-/
import Derived.Test.YtlidegofnkmenaaDoorLxT
import Derived.Test.YtlidegofnkmenaaDoorTie
import Derived.Test.YtlidegofnkmenaaDoorCards
import Derived.SevenTiedAt
import Derived.LaidMore
import Derived.Stop.Joined
namespace Go.Proofs.YtlidegofnkmenaaDoor.lexCuts
open Go.ChangeShapes Go.WideShapes Go.ChangeAt Go.RowKit
set_option linter.unusedVariables false
set_option linter.unusedSimpArgs false
set_option linter.unusedVariables false
set_option maxRecDepth 100000

theorem own : ownKnob Tryd.prog.godebug = none := by kernel_rfl
theorem laidOut : laidOutB Tryd.prog = true := by kernel_rfl

set_option maxHeartbeats 4000000
theorem walk (s : ByteArray) (a1 : Int) (w0 : s.size ≤ maxLen) (w1 : (Lit.int .u8 a1).wf = true) (w : World) (T : LxTab w) :
    Calls Tryd.prog 8 #[.string s, .int .u8 a1] w fun e w' => e = .returned (.bool true) ∧ Below w.heap.size w w' := by
  have LL : Hid (Lw w w) := Lib.hid ⟨T, Below.refl _ _⟩
  unfold maxLen at w0
  obtain ⟨p1, p2⟩ := bounds_u8 w1
  clear w1
  by_cases hbig : 1500 < s.size
  · have i0 : (1500 : Int) < s.size := by omega
    clear hbig T
    go_enter Tryd.func8, Tryd.ntmps8
    go_wp2_with (go_at_call 9; refine (wakes_any _ LL.out.tab).mono ?_; rintro e wn ⟨rfl, hb⟩; replace LL := Lib.hid (LL.out.on hb); clear hb)
    go_ret
    exact ⟨rfl, LL.out.bel⟩
  · have i0 : (s.size : Int) ≤ 1500 := by omega
    have hs1 : s.size ≤ 100000 := by omega
    have hl : (Ls s).length ≤ 2000 := by rw [ls_len]; omega
    clear hbig
    cases hf : (toks 0 (Ls s)).2 with
    | some f =>
      obtain ⟨hE, hA, hD⟩ := tk_bad hl hf
      have HTK := tokens_at (n := 0) hs1 hE hA hD rfl w T
      clear hE hA hD hf hl T
      go_enter Tryd.func8, Tryd.ntmps8
      go_wp2_with (first | (go_at_call 9; refine (wakes_any _ LL.out.tab).mono ?_; rintro e wn ⟨rfl, hb⟩; replace LL := Lib.hid (LL.out.on hb); clear hb) | (go_at_call 10; refine HTK.mono ?_; rintro e w2 ⟨a, c, rfl, -, hb⟩; replace LL := Lib.hid ((LL.out.on hb).alloc (.cells #[.int .i64 11, .int .i64 f] 26)); clear hb))
      go_ret
      exact ⟨rfl, LL.out.bel⟩
    | none =>
      obtain ⟨A, hA0⟩ : ∃ A, (toks 0 (Ls s)).1 = A := ⟨_, rfl⟩
      have hT : toks 0 (Ls s) = (A, none) := by rw [← hA0, ← hf]
      have hAl : A.length ≤ (Ls s).length := by rw [← hA0]; exact toks_len 0 _
      obtain ⟨n, hn⟩ : ∃ n, A.length = n := ⟨_, rfl⟩
      obtain ⟨hE, hA, hD⟩ := tk_good hl hT
      have HTK := tokens_at (n := n) hs1 hE hA hD hn w T
      rw [hn, ls_len] at hAl
      by_cases hn0 : n = 0
      · subst hn0
        clear hE hA hD hf hl T hT hA0 hAl hn
        go_enter Tryd.func8, Tryd.ntmps8
        go_wp2_with (first | (go_at_call 9; refine (wakes_any _ LL.out.tab).mono ?_; rintro e wn ⟨rfl, hb⟩; replace LL := Lib.hid (LL.out.on hb); clear hb) | (go_at_call 10; refine HTK.mono ?_; rintro e w2 ⟨a, c, rfl, -, hb⟩; replace LL := Lib.hid ((LL.out.on hb).alloc (.cells #[.int .i64 0, .int .i64 0] 26)); clear hb))
        go_ret
        exact ⟨rfl, LL.out.bel⟩
      · have hnp : 0 < n := by omega
        have hnz : ((n : Int) == 0) = false := by rw [beq_eq_false_iff_ne]; omega
        obtain ⟨m, hm⟩ : ∃ m : Nat, a1 % (n : Int) = m := ⟨(a1 % (n : Int)).toNat, by have := Int.emod_nonneg a1 (show (n : Int) ≠ 0 by omega); omega⟩
        have hmn : m < n := by have := Int.emod_lt_of_pos a1 (show (0 : Int) < n by omega); omega
        have hm2 : a1.tmod (n : Int) = m := by rw [Int.tmod_eq_emod_of_nonneg p1]; exact hm
        obtain ⟨x, hx⟩ : ∃ x, A[m]? = some x := ⟨_, List.getElem?_eq_getElem (by omega)⟩
        obtain ⟨-, hp, hcut⟩ := toks_take 0 (Ls s) A hT m x hx
        obtain ⟨q, hq⟩ : ∃ q, x.2.2 = q := ⟨_, rfl⟩
        rw [hq, Nat.zero_add, ls_len] at hp
        rw [hq, Nat.sub_zero] at hcut
        have hst : Ls (s.extract 0 q) = (Ls s).take q := ls_to s q
        obtain ⟨gE, gA, gD⟩ := tk_good (l := Ls (s.extract 0 q)) (D := A.take m) (by rw [hst, List.length_take]; omega) (by rw [hst]; exact hcut)
        have HTK2 := fun W T => tokens_at (s := s.extract 0 q) (n := m) (by rw [ls_sub s hp]; omega) gE gA gD (by rw [List.length_take]; omega) W T
        have i5 : (0 : Int) ≤ (q : Int) := by omega
        have i6 : (q : Int) ≤ s.size := by omega
        have i7 : (m : Int) < n := by omega
        have HX := Lib.hid hx
        have HQ := Lib.hid hq
        clear hE hA hD hf hl T hT hA0 hn hcut hst gE gA gD hx hq
        go_enter Tryd.func8, Tryd.ntmps8
        go_wp2_with fail
        refine HTK.mono ?_
        rintro e w2 ⟨a, c, rfl, hk, hb⟩
        obtain ⟨g, rfl, hg, hnc, hcell⟩ := hk.cells hnp
        have hc3 := (hcell m x HX.out).2.2
        rw [HQ.out] at hc3
        have L2 := Lib.hid ((LL.out.on hb).alloc (.cells #[.int .i64 0, .int .i64 0] 26))
        have HK := Lib.hid (hk.below (below_alloc (.cells #[.int .i64 0, .int .i64 0] 26)))
        clear hcell hb hk HTK
        go_wp2_with fail
        refine (HTK2 _ L2.out.tab).mono ?_
        rintro e w3 ⟨a3, c3, rfl, hk3, hb⟩
        have L3 := Lib.hid ((L2.out.on hb).alloc (.cells #[.int .i64 0, .int .i64 0] 26))
        have HK2 := Lib.hid ((HK.out.below hb).below (below_alloc (.cells #[.int .i64 0, .int .i64 0] 26)))
        have HK3 := Lib.hid (hk3.below (below_alloc (.cells #[.int .i64 0, .int .i64 0] 26)))
        have i8 : (m : Int) ≤ c := by omega
        clear hb hk3 HTK2 hc3
        go_wp2_with fail
        refine (keepTok_same HK3.out (HK2.out.take (Nat.le_of_lt hmn)) (by omega)).mono ?_
        rintro e w4 ⟨rfl, hb⟩
        have L4 := Lib.hid (L3.out.on hb)
        clear hb
        go_wp2_with fail
        refine (wakes_any _ L4.out.tab).mono ?_
        rintro e w5 ⟨rfl, hb⟩
        have L5 := Lib.hid (L4.out.on hb)
        clear hb
        go_wp2_with fail
        go_ret
        exact ⟨rfl, L5.out.bel⟩

theorem contract (H : Type) (enc : TypeId × Value → H) (W : World) (base : Nat) (args : Array Value) (ds gs : List (DataW H)) (before : List MemPlace)
    (hval0 : ∀ (j : Nat) t v, Tryd.f8.params[j]? = some t → args[j]? = some v → Value.okWide Tryd.prog W .any base t v)
    (hW : DataW.Whole enc Tryd.prog Tryd.f8.params.toList Rows.lexCutsSpec.vars false W args.toList ds gs before)
    (T : LxTab W) :
    Calls Tryd.prog 8 args W fun e W' => ∃ v, e = .returned v ∧ Rows.lexCutsSpec.post enc Tryd.prog Tryd.f8 false true false false W args v W' := by
  have hW' := hW
  have hval := hval0
  obtain ⟨p, q, hA0, hV, rfl, hfz, hnd⟩ := hW
  have hA : DataW.TrodAll enc Tryd.prog W 0 (fun _ => true) true Tryd.f8.params.toList args.toList ds p := hA0
  rw [Tryd.params8] at hA hval
  obtain ⟨rfl, rfl⟩ := trodVars_none hV
  obtain ⟨v0, vs0, d0, ds0, p0, q0, hargs, rfl, rfl, h0, r0⟩ := trodAll_cons hA
  obtain ⟨v1, vs1, d1, ds1, p1, q1, rfl, rfl, rfl, h1, r1⟩ := trodAll_cons r0
  obtain ⟨rfl, rfl, rfl⟩ := trodAll_nil r1
  obtain rfl : args = #[v0, v1] := by cases args; simp_all
  obtain ⟨s0, rfl, rfl, rfl, w0⟩ := ChangeMaps.open_string Tryd.underlying9 (hval 0 9 v0 rfl rfl) h0
  obtain ⟨a1, rfl, rfl, rfl, w1⟩ := open_int Tryd.underlying5 (hval 1 5 v1 rfl rfl) h1
  refine (walk s0 a1 w0 w1 W T).mono fun e W' ⟨he, hb⟩ => ?_
  subst he
  exact ⟨_, rfl, law_post laidOut (by kernel_rfl) rfl (by kernel_rfl) Tryd.underlying4 hW' rfl rfl rfl hb⟩

theorem door_met (os : Os) (args : Array Value) : laidMetH Tryd.prog Rows.lexCutsRow.laid ((World.doorLaid Tryd.prog 300 os).forCall (fun _ _ => 0) ⟨#[], args, []⟩).memory :=
  laidMetH_of_parts3 (fuel := 8) (laidMet_of_run' 8 (by kernel_rfl) (by kernel_rfl)) (by kernel_rfl) (by kernel_rfl)

set_option maxRecDepth 100000 in
theorem lifted (os : Os) (started : os.Started) (H : Type) (enc : TypeId × Value → H) :
    ReturnsInHanded {} Tryd.checked os 8 .any (fun w args => (Rows.lexCutsSpec.pre enc Tryd.prog Tryd.f8 [] false w args ∧ laidMetH Tryd.prog Rows.lexCutsRow.laid w) ∧ sizedMet enc Tryd.prog Tryd.f8 (OpenSpec.ofChange Rows.lexCutsSpec) false w args)
      (Rows.lexCutsSpec.post enc Tryd.prog Tryd.f8 false true false false) := by
  refine returnsInHanded_of_change_and (C := Tryd.checked) (X := fun w _ => laidMetH Tryd.prog Rows.lexCutsRow.laid w) (fun _ _ _ hh h => h.of_heap hh) own started (by kernel_rfl) Tryd.func8
    (ChangeSpec.witness_shaped (enc := enc) (C := Tryd.checked) (os := os) (X := fun w _ => laidMetH Tryd.prog Rows.lexCutsRow.laid w) false (World.doorLaid Tryd.prog 300 os) #[.string ⟨#[]⟩, .int .u8 0] 8 rfl (World.shaped_of_RefB (by kernel_rfl) (by kernel_rfl)) (by kernel_rfl) (by kernel_rfl) (by kernel_rfl) (door_met os _)) ?_
  intro W base args ds gs before hval hW _ hz hL _
  exact contract H enc W base args ds gs before hval hW (lxtab_of hL)

theorem over : Rows.lexCutsRow.holds Tryd.pinned (OpenSpec.ofChange Rows.lexCutsSpec) :=
  OpenClaim.holds_of_wide 8 Tryd.f8 rfl rfl rfl rfl rfl rfl rfl ⟨rfl, rfl, rfl, rfl, rfl⟩ rfl rfl rfl rfl rfl (by kernel_rfl) Tryd.func8 (by kernel_rfl)
    (of_decide_eq_true (by kernel_rfl)) (by unfold Func.isWrapper; first | (rw [if_pos (by decide +kernel)]; kernel_rfl) | (rw [if_neg (by decide +kernel)]; exact ⟨rfl, rfl⟩))
    (fun os started H enc _ => lifted os started H enc)

theorem proved : Rows.LexCutsCardSaid :=
  Claim7.holds_tied_plain_at .later [] [.data, .data, .data, .sentinel, .sentinel, .data, .data] true _ true
    over (fun _ h => by cases h) (by kernel_rfl) (fun _ h => by cases h) lexCuts_row_tie rfl ⟨rfl, rfl⟩ (by kernel_rfl) rfl
    (fun f fn hf hfn => by
      obtain rfl : f = 8 := Option.some.inj ((show Tryd.prog.funcNamed "stockpot/stockpotlaw14.LexCuts" = some 8 by kernel_rfl).symm.trans hf) |>.symm
      obtain rfl : fn = Tryd.f8 := (Option.some.inj (Tryd.func8.symm.trans hfn)).symm
      exact ⟨by kernel_rfl, fun j t ht => by
        have hall : (Tryd.f8.params.toList.all fun u => !Tryd.prog.wantsStandIn u) = true := by kernel_rfl
        exact (show Tryd.prog.wantsStandIn t = false by simpa using List.all_eq_true.1 hall t (by simpa using Array.mem_of_getElem? ht))⟩)
    (by kernel_rfl)
#print axioms proved
end Go.Proofs.YtlidegofnkmenaaDoor.lexCuts
