/-
  Proved of the Go function OrderRises: it returns true for every argument (entries come by their ranks, then their keys, each that was pushed once). Conditions: none.
-/
import Derived.Test.YtgcmkhbpkmfpkaaArgsA
import Derived.Test.YtgcmkhbpkmfpkaaQW
namespace Go.Proofs.Ytgcmkhbpkmfpkaa.orderRises
open Go.ChangeShapes Go.WideShapes Go.ChangeAt Go.RowKit
set_option linter.unusedVariables false
set_option linter.unusedSimpArgs false
set_option linter.unusedVariables false
set_option maxRecDepth 100000

theorem own : ownKnob Try.prog.godebug = none := by kernel_rfl
theorem laidOut : laidOutB Try.prog = true := by kernel_rfl

theorem pairs_cells {w : World} {v : Value} {n : Nat} {f : Nat → Nat → Int} (h : structsAt w v n [.i8, .i8] f) :
    ∃ a c, v = .slice a n c ∧ (∀ i, i < n → -128 ≤ f i 0 ∧ f i 0 ≤ 127 ∧ -128 ≤ f i 1 ∧ f i 1 ≤ 127) ∧
      ∀ i, i < n → ∃ b o, a = some ⟨b, o, none⟩ ∧ w.cell? ⟨b, o + i * 2, none⟩ = some (.int .i8 (f i 0)) ∧ w.cell? ⟨b, o + i * 2 + 1, none⟩ = some (.int .i8 (f i 1)) := by
  obtain ⟨a, c, rfl, h1, h2⟩ := h
  refine ⟨a, c, rfl, fun i hi => ?_, fun i hi => ?_⟩
  · have x := h1 i 0 .i8 hi rfl
    have y := h1 i 1 .i8 hi rfl
    simp [Lit.wf, IntKind.min, IntKind.max, IntKind.signed, IntKind.bits] at x y
    omega
  · rcases h2 with h2 | ⟨b, o, rfl, h2⟩
    · omega
    · have x := h2 i 0 .i8 hi rfl
      have y := h2 i 1 .i8 hi rfl
      exact ⟨b, o, rfl, x, y⟩
theorem big {w : World} {v : Value} {n : Nat} {f : Nat → Nat → Int} (h : structsAt w v n [.i8, .i8] f) (hn : 60 < n) :
    Calls Try.prog 4 #[v] w fun e w' => e = .returned (.bool true) ∧ Below w.heap.size w w' := by
  obtain ⟨a, c, rfl, _⟩ := pairs_cells h
  clear h
  have h1 : (60 : Int) < n := by omega
  go_enter Try.func4, Try.ntmps4
  go_wp2_with fail
  refine (qnew_any w).mono ?_
  rintro x w1 ⟨q, F1, rfl, hq, s1⟩
  have S1 := Lib.hid s1
  clear hq s1
  go_wp2_with fail
  refine (wakes_any w1).mono ?_
  rintro x w2 ⟨rfl, hb⟩
  have HB := Lib.hid hb
  clear hb
  go_wp2_with fail
  go_ret
  exact ⟨rfl, S1.out.below.trans (HB.out.mono S1.out.upon.size)⟩

/-- Entries of the row that came in. -/
def Of (n : Nat) (f : Nat → Nat → Int) (s : List En) : Prop := ∀ x ∈ s, ∃ j, j < n ∧ x = (f j 0, f j 1)
theorem Of.ins {n : Nat} {f : Nat → Nat → Int} {s : List En} (h : Of n f s) {k : Nat} (hk : k < n) : Of n f (insE (f k 0, f k 1) s) := by
  intro x hx
  rcases List.mem_cons.1 ((insE_perm _ s).mem_iff.1 hx) with rfl | hx
  · exact ⟨k, hk, rfl⟩
  · exact h x hx
theorem length_insE (e : En) (s : List En) : (insE e s).length = s.length + 1 := by rw [(insE_perm e s).length_eq]; rfl

set_option maxHeartbeats 16000000 in
theorem small {w : World} {v : Value} {n : Nat} {f : Nat → Nat → Int} (h : structsAt w v n [.i8, .i8] f) (hn : n ≤ 60) :
    Calls Try.prog 4 #[v] w fun e w' => e = .returned (.bool true) ∧ Below w.heap.size w w' := by
  obtain ⟨a, c, rfl, hbd, hcl⟩ := pairs_cells h
  have HBD := Lib.hid hbd
  have HCL := Lib.hid hcl
  clear h hbd hcl
  have hn' : (n : Int) ≤ 60 := by omega
  go_enter Try.func4, Try.ntmps4
  go_wp2_with fail
  refine (qnew_any w).mono ?_
  rintro x w1 ⟨q, F1, rfl, hq, s1⟩
  have S1 := Lib.hid s1
  have Q1 := Lib.hid hq
  clear hq s1
  go_wp2_with fail
  go_loopw [5, 4] (fun iv nv wr => ∃ k N : Nat, k ≤ n ∧ N ≤ k ∧ iv = .int .i64 k ∧ nv = .int .i64 N ∧ Hid (∃ F s, QH wr q F s ∧ StepQ (fun _ => False) F w wr ∧ Of n f s ∧ s.length = N)) (fun iv _ _ => n - (intOf iv).toNat)
  case atStart => exact ⟨0, 0, Nat.zero_le _, Nat.le_refl _, rfl, rfl, F1, [], Q1.out, S1.out, (fun x hx => by cases hx), rfl⟩
  case round =>
    obtain ⟨k, N, hk, hNk, rfl, rfl, HR⟩ := hrel
    obtain ⟨F, s, hqs, hst, hof, hsl⟩ := HR.out
    have HQ := Lib.hid hqs
    have HS := Lib.hid hst
    have HO := Lib.hid hof
    have HL := Lib.hid hsl
    clear hqs hst hof
    by_cases hlt : k < n
    · clear hsl
      obtain ⟨b, o, hab, c1, c2⟩ := HCL.out k hlt
      obtain ⟨d1, d2, d3, d4⟩ := HBD.out k hlt
      cases hab
      have hbl := World.block_lt_of_cell? w _ c1
      have e1 : wr.cell? ⟨b, o + k * 2, none⟩ = some (.int .i8 (f k 0)) := (HS.out.below.cell (p := ⟨b, o + k * 2, none⟩) hbl).trans c1
      have e2 : wr.cell? ⟨b, o + k * 2 + 1, none⟩ = some (.int .i8 (f k 1)) := (HS.out.below.cell (p := ⟨b, o + k * 2 + 1, none⟩) hbl).trans c2
      have HBL := Lib.hid hbl
      clear c1 c2 hbl
      have hki : (k : Int) < (n : Int) := by omega
      go_wp2_with fail
      refine wp_region_still_tail 13 (by kernel_rfl) (by kernel_rfl) ?_
      simp only [List.take_succ_cons, List.take_zero, List.drop_succ_cons, List.drop_zero]
      iterate 13 still_step
      refine wpStill_nil ?_
      change wpList _ _ _ _ _ wr.drew
      have HQ2 : Hid (QH wr.drew q F s) := HQ.out.upon (S := fun _ => False) ⟨rfl, rfl, rfl, Nat.le_refl _, fun _ _ _ => rfl⟩ fun _ _ h => h
      have HS2 : Hid (StepQ (fun _ => False) F w wr.drew) := HS.out.chain (StepQ.of_below ⟨rfl, rfl, rfl, Nat.le_refl _, fun _ _ => rfl⟩)
      by_cases hth : ∃ x ∈ s, x.1 = f k 0
      · have HT := Lib.hid hth
        clear hth
        go_wp2_with fail
        refine (qpush_there HQ2.out HT.out (f k 1)).mono ?_
        rintro x w2 ⟨rfl, rfl⟩
        go_wp2_with fail
        go_roundw
        case rel => exact ⟨k + 1, N, by omega, by omega, by go_num, rfl, F, s, HQ2.out, HS2.out, HO.out, HL.out⟩
        case measure => simp [intOf]; omega
      · have HT : Hid (∀ x ∈ s, x.1 ≠ f k 0) := fun x hx e => hth ⟨x, hx, e⟩
        clear hth
        go_wp2_with fail
        refine (qpush_to HQ2.out (f k 0) (f k 1) HT.out (by have := HL.out; omega) rfl).mono ?_
        rintro x w2 ⟨rfl, G, hq2, hs2⟩
        have HQ3 := Lib.hid hq2
        have HS3 := Lib.hid (HS2.out.chain hs2)
        clear hq2 hs2
        go_wp2_with fail
        go_roundw
        case rel => exact ⟨k + 1, N + 1, by omega, by omega, by go_num, by go_num, G, _, HQ3.out, HS3.out, HO.out.ins hlt, by rw [length_insE, HL.out]⟩
        case measure => simp [intOf]; omega
    · have hN60 : (N : Int) ≤ 60 := by omega
      have hge : n ≤ k := by omega
      have hkd : decide (k < n) = false := decide_eq_false (by omega)
      clear hlt hsl
      go_wp2_with fail
      have HB6 : Hid (rowAt (wr.alloc (.cells #[.int .i64 (-1000), .int .i64 (-1000)] 35)) wr.heap.size 35 [.int .i64 (-1000), .int .i64 (-1000)]) := rowAt.made _ _ _
      have hx6 : Upon (fun _ => False) wr (wr.alloc (.cells #[.int .i64 (-1000), .int .i64 (-1000)] 35)) := Upon.alloc _ _ _
      have HQ6 := Lib.hid (HQ.out.upon hx6 fun _ _ h => h)
      have HS6 : Hid (StepQ (fun _ => False) F w (wr.alloc (.cells #[.int .i64 (-1000), .int .i64 (-1000)] 35))) := HS.out.chain (StepQ.of_below (hx6.below fun _ h => h.elim))
      have HF6 : Hid (¬ F wr.heap.size) := fun hF => by have := HQ.out.lt _ hF; omega
      have HW6 : Hid (w.heap.size ≤ wr.heap.size) := HS.out.upon.size
      have hof0 : ∀ x ∈ s, ltE (-1000, -1000) x := fun x hx => by
        obtain ⟨j, hj, rfl⟩ := HO.out x hx
        have := HBD.out j hj
        exact .inl (show (-1000 : Int) < f j 1 by omega)
      have HO6 := Lib.hid hof0
      clear hx6 hof0
      obtain ⟨b6, hb6⟩ : ∃ b6, wr.heap.size = b6 := ⟨_, rfl⟩
      rw [hb6] at HB6 HF6 HW6
      rw [hb6]
      obtain ⟨w6, hw6⟩ : ∃ w6, wr.alloc (.cells #[.int .i64 (-1000), .int .i64 (-1000)] 35) = w6 := ⟨_, rfl⟩
      rw [hw6] at HB6 HQ6 HS6
      rw [hw6]
      clear hw6 hb6
      go_loopw [7] (fun iv wq => ∃ m : Nat, m ≤ N ∧ iv = .int .i64 m ∧ Hid (∃ t lk lr, QH wq q F t ∧ StepQ (fun _ => False) F w wq ∧ Of n f t ∧ t.length + m = N ∧ rowAt wq b6 35 [.int .i64 lk, .int .i64 lr] ∧ ∀ x ∈ t, ltE (lk, lr) x)) (fun iv _ => N - (intOf iv).toNat)
      case atStart => exact ⟨0, Nat.zero_le _, rfl, s, -1000, -1000, HQ6.out, HS6.out, HO.out, HL.out, HB6.out, HO6.out⟩
      case round =>
        obtain ⟨m, hm, rfl, HR2⟩ := hrel
        obtain ⟨t, lk, lr, hqt, hst, hot, htl, hb6, hlt6⟩ := HR2.out
        by_cases hml : m < N
        · obtain ⟨⟨k1, r1⟩, t', rfl⟩ : ∃ e t', t = e :: t' := by
            cases t with
            | nil => simp at htl; omega
            | cons e t' => exact ⟨e, t', rfl⟩
          have hfirst := hlt6 (k1, r1) (by simp)
          obtain ⟨j0, hj0, hje⟩ := hot (k1, r1) (by simp)
          have hrise := hqt.rises
          have htl' : t'.length + (m + 1) = N := by simp at htl; omega
          have hof' : Of n f t' := fun x hx => hot x (by simp [hx])
          have hnext : ∀ x ∈ t', ltE (k1, r1) x := (List.pairwise_cons.1 hrise).1
          have HQT := Lib.hid hqt
          have HST := Lib.hid hst
          have HOF := Lib.hid hof'
          have HTL := Lib.hid htl'
          have HB := Lib.hid hb6
          have HNX := Lib.hid hnext
          have HJE := Lib.hid hje
          have hcmp : lr < r1 ∨ (lr = r1 ∧ lk < k1) := hfirst
          clear hqt hst hot htl hb6 hlt6 hfirst hrise htl' hof' hnext hje
          have hmi : (m : Int) < (N : Int) := by omega
          go_wp2_with fail
          refine (qpop_to HQT.out).mono ?_
          rintro x w2 ⟨rfl, hq2, hs2⟩
          have hr2 := HB.out.upon hs2.upon HF6.out
          have HQ2 := Lib.hid hq2
          have HS2 := Lib.hid (HST.out.chain hs2)
          have HR6 := Lib.hid hr2
          have g0 : w2.cell? ⟨b6, 0, none⟩ = some (.int .i64 lk) := (hr2.cell 0).trans rfl
          have g1 : w2.cell? ⟨b6, 1, none⟩ = some (.int .i64 lr) := (hr2.cell 1).trans rfl
          have fr0 := hr2.free 0
          have fr1 := hr2.free 1
          have HCE : Hid (∀ i, i < n → ∃ b o, a = some ⟨b, o, none⟩ ∧ w2.cell? ⟨b, o + i * 2, none⟩ = some (.int .i8 (f i 0)) ∧ w2.cell? ⟨b, o + i * 2 + 1, none⟩ = some (.int .i8 (f i 1))) := by
            intro i hi
            obtain ⟨b, o, hab, c1, c2⟩ := HCL.out i hi
            have hbl := World.block_lt_of_cell? w _ c1
            exact ⟨b, o, hab, (HS2.out.below.cell (p := ⟨b, o + i * 2, none⟩) hbl).trans c1, (HS2.out.below.cell (p := ⟨b, o + i * 2 + 1, none⟩) hbl).trans c2⟩
          clear hq2 hs2 hr2
          have hend : Hid (∀ w', w' = (w2.setCell ⟨b6, 0, none⟩ (.int .i64 k1)).setCell ⟨b6, 1, none⟩ (.int .i64 r1) → ∃ t lk lr, QH w' q F t ∧ StepQ (fun _ => False) F w w' ∧ Of n f t ∧ t.length + (m + 1) = N ∧ rowAt w' b6 35 [.int .i64 lk, .int .i64 lr] ∧ ∀ x ∈ t, ltE (lk, lr) x) := by
            rintro w' rfl
            have hu := upon_set2 w2 b6 0 1 (.int .i64 k1) (.int .i64 r1)
            refine ⟨t', k1, r1, HQ2.out.upon hu fun k hk e => HF6.out (e ▸ hk), ⟨(HS2.out.upon).trans hu fun k hk e => by have := HW6.out; omega, HS2.out.foot⟩, HOF.out, HTL.out, ?_, HNX.out⟩
            exact (HR6.out.set 0 (.int .i64 k1)).set 1 (.int .i64 r1)
          rcases hcmp with hcmp | ⟨rfl, hcmp⟩
          · have z1 : (r1 == lr) = false := by simp; omega
            go_wp2_with fail
            refine (qlen_to HQ2.out (n := (N : Int) - 1 - (m : Int)) (by have := HTL.out; omega)).mono ?_
            rintro x w3 ⟨rfl, rfl⟩
            go_wp2_with fail
            go_loop [12, 11] (fun jv bv => ∃ (j : Nat) (b : Bool), j ≤ n ∧ jv = .int .i64 j ∧ bv = .bool b ∧ Hid (b = true ∨ j ≤ j0)) (fun jv _ => n - (intOf jv).toNat)
            case atStart => exact ⟨0, false, Nat.zero_le _, rfl, rfl, .inr (Nat.zero_le _)⟩
            case round =>
              obtain ⟨j, b, hj, rfl, rfl, HJ⟩ := hrel
              by_cases hjn : j < n
              · have hji : (j : Int) < (n : Int) := by omega
                cases b with
                | true =>
                  go_wp2_with fail
                  go_round
                  case rel => exact ⟨j + 1, true, by omega, by go_num, rfl, .inl rfl⟩
                  case measure => simp [intOf]; omega
                | false =>
                  obtain ⟨bb, o, hab, c1, c2⟩ := HCE.out j hjn
                  obtain ⟨d1, d2, d3, d4⟩ := HBD.out j hjn
                  cases hab
                  have hjle : j ≤ j0 := by
                    rcases HJ.out with h | h
                    · cases h
                    · exact h
                  by_cases x1 : f j 0 = k1
                  · have y1 : (f j 0 == k1) = true := by simpa using x1
                    by_cases x2 : f j 1 = r1
                    · have y2 : (f j 1 == r1) = true := by simpa using x2
                      clear x1 x2
                      go_wp2_with fail
                      go_round
                      case rel => exact ⟨j + 1, true, by omega, by go_num, rfl, .inl rfl⟩
                      case measure => simp [intOf]; omega
                    · have y2 : (f j 1 == r1) = false := by simpa using x2
                      have hne : j ≠ j0 := by
                        rintro rfl
                        have := HJE.out
                        simp only [Prod.mk.injEq] at this
                        exact x2 this.2.symm
                      clear x1 x2
                      go_wp2_with fail
                      go_round
                      case rel => exact ⟨j + 1, false, by omega, by go_num, rfl, .inr (by omega)⟩
                      case measure => simp [intOf]; omega
                  · have y1 : (f j 0 == k1) = false := by simpa using x1
                    have hne : j ≠ j0 := by
                      rintro rfl
                      have := HJE.out
                      simp only [Prod.mk.injEq] at this
                      exact x1 this.1.symm
                    clear x1
                    go_wp2_with fail
                    go_round
                    case rel => exact ⟨j + 1, false, by omega, by go_num, rfl, .inr (by omega)⟩
                    case measure => simp [intOf]; omega
              · have hbt : b = true := by
                  rcases HJ.out with h | h
                  · exact h
                  · omega
                subst hbt
                go_wp2_with fail
                go_roundw
                case rel => exact ⟨m + 1, by omega, by go_num, hend.out _ rfl⟩
                case measure => simp [intOf]; omega
          · have z1 : (lr == lr) = true := by simp
            go_wp2_with fail
            refine (qlen_to HQ2.out (n := (N : Int) - 1 - (m : Int)) (by have := HTL.out; omega)).mono ?_
            rintro x w3 ⟨rfl, rfl⟩
            go_wp2_with fail
            go_loop [12, 11] (fun jv bv => ∃ (j : Nat) (b : Bool), j ≤ n ∧ jv = .int .i64 j ∧ bv = .bool b ∧ Hid (b = true ∨ j ≤ j0)) (fun jv _ => n - (intOf jv).toNat)
            case atStart => exact ⟨0, false, Nat.zero_le _, rfl, rfl, .inr (Nat.zero_le _)⟩
            case round =>
              obtain ⟨j, b, hj, rfl, rfl, HJ⟩ := hrel
              by_cases hjn : j < n
              · have hji : (j : Int) < (n : Int) := by omega
                cases b with
                | true =>
                  go_wp2_with fail
                  go_round
                  case rel => exact ⟨j + 1, true, by omega, by go_num, rfl, .inl rfl⟩
                  case measure => simp [intOf]; omega
                | false =>
                  obtain ⟨bb, o, hab, c1, c2⟩ := HCE.out j hjn
                  obtain ⟨d1, d2, d3, d4⟩ := HBD.out j hjn
                  cases hab
                  have hjle : j ≤ j0 := by
                    rcases HJ.out with h | h
                    · cases h
                    · exact h
                  by_cases x1 : f j 0 = k1
                  · have y1 : (f j 0 == k1) = true := by simpa using x1
                    by_cases x2 : f j 1 = lr
                    · have y2 : (f j 1 == lr) = true := by simpa using x2
                      clear x1 x2
                      go_wp2_with fail
                      go_round
                      case rel => exact ⟨j + 1, true, by omega, by go_num, rfl, .inl rfl⟩
                      case measure => simp [intOf]; omega
                    · have y2 : (f j 1 == lr) = false := by simpa using x2
                      have hne : j ≠ j0 := by
                        rintro rfl
                        have := HJE.out
                        simp only [Prod.mk.injEq] at this
                        exact x2 this.2.symm
                      clear x1 x2
                      go_wp2_with fail
                      go_round
                      case rel => exact ⟨j + 1, false, by omega, by go_num, rfl, .inr (by omega)⟩
                      case measure => simp [intOf]; omega
                  · have y1 : (f j 0 == k1) = false := by simpa using x1
                    have hne : j ≠ j0 := by
                      rintro rfl
                      have := HJE.out
                      simp only [Prod.mk.injEq] at this
                      exact x1 this.1.symm
                    clear x1
                    go_wp2_with fail
                    go_round
                    case rel => exact ⟨j + 1, false, by omega, by go_num, rfl, .inr (by omega)⟩
                    case measure => simp [intOf]; omega
              · have hbt : b = true := by
                  rcases HJ.out with h | h
                  · exact h
                  · omega
                subst hbt
                go_wp2_with fail
                go_roundw
                case rel => exact ⟨m + 1, by omega, by go_num, hend.out _ rfl⟩
                case measure => simp [intOf]; omega
        · have hte : t = [] := List.length_eq_zero_iff.1 (by omega)
          subst hte
          have HQT := Lib.hid hqt
          have HST := Lib.hid hst
          have hge2 : N ≤ m := by omega
          clear hqt hst hot htl hb6 hlt6
          go_wp2_with fail
          refine (qpop_none HQT.out).mono ?_
          rintro x w2 ⟨rfl, rfl⟩
          go_wp2_with fail
          refine (wakes_any _).mono ?_
          rintro x w2 ⟨rfl, hb⟩
          have HB := Lib.hid hb
          clear hb
          go_wp2_with fail
          go_ret
          exact ⟨rfl, HST.out.below.trans (HB.out.mono HST.out.upon.size)⟩

theorem walk (v : Value) (n : Nat) (f : Nat → Nat → Int) (W : World) (h : structsAt W v n (List.replicate 2 .i8) f) (_ : n ≤ maxLen) :
    Calls Try.prog 4 #[v] W fun e w' => e = .returned (.bool true) ∧ Below W.heap.size W w' := by
  have h : structsAt W v n [.i8, .i8] f := h
  by_cases hn : n ≤ 60
  · exact small h hn
  · exact big h (by omega)

theorem contract (H : Type) (enc : TypeId × Value → H) (W : World) (base : Nat) (args : Array Value) (ds gs : List (DataW H)) (before : List MemPlace)
    (hval0 : ∀ (j : Nat) t v, Try.f4.params[j]? = some t → args[j]? = some v → Value.okWide Try.prog W .any base t v)
    (hW : DataW.Whole enc Try.prog Try.f4.params.toList Rows.orderRisesSpec.vars false W args.toList ds gs before) :
    Calls Try.prog 4 args W fun e W' => ∃ v, e = .returned v ∧ Rows.orderRisesSpec.post enc Try.prog Try.f4 false true false false W args v W' := by
  have hW' := hW
  have hval := hval0
  obtain ⟨p, q, hA0, hV, rfl, hfz, hnd⟩ := hW
  have hA : DataW.TrodAll enc Try.prog W 0 (fun _ => true) true Try.f4.params.toList args.toList ds p := hA0
  rw [Try.params4] at hA hval
  obtain ⟨rfl, rfl⟩ := trodVars_none hV
  obtain ⟨v0, vs0, d0, ds0, p0, q0, hargs, rfl, rfl, h0, r0⟩ := trodAll_cons hA
  obtain ⟨rfl, rfl, rfl⟩ := trodAll_nil r0
  obtain rfl : args = #[v0] := by cases args; simp_all
  obtain ⟨n0, f0, hr0, hm0⟩ := open_slice_array 2 .i8 Try.underlying41 Try.underlying43 Try.underlying42 (by kernel_rfl) (by kernel_rfl) (by decide) (hval 0 41 v0 rfl rfl) h0
  refine (walk v0 n0 f0 W hr0 hm0).mono fun e W' ⟨he, hb⟩ => ?_
  subst he
  exact ⟨_, rfl, law_post laidOut (by kernel_rfl) rfl (by kernel_rfl) Try.underlying4 hW' rfl rfl rfl hb⟩

set_option maxRecDepth 100000 in
theorem lifted (os : Os) (started : os.Started) (H : Type) (enc : TypeId × Value → H) :
    ReturnsInHanded {} Try.checked os 4 .any (Rows.orderRisesSpec.pre6 enc Try.prog Try.f4 Rows.orderRisesRow.domain false) (Rows.orderRisesSpec.post enc Try.prog Try.f4 false true false false) := by
  refine returnsInHanded_of_change (C := Try.checked) own started (by kernel_rfl) Try.func4
    (ChangeSpec.witness6 (enc := enc) (C := Try.checked) false ⟨#[], #[.slice none 0 0], []⟩ 8 (by kernel_rfl) (by kernel_rfl) (by kernel_rfl) (by kernel_rfl)) ?_
  intro W base args ds gs before hval hW _ _
  exact contract H enc W base args ds gs before hval hW

theorem over : Rows.orderRisesRow.holds Try.pinned (OpenSpec.ofChange Rows.orderRisesSpec) :=
  OpenClaim.holds_of_wide 4 Try.f4 rfl rfl rfl rfl rfl rfl rfl ⟨rfl, rfl, rfl, rfl, rfl⟩ rfl rfl rfl rfl rfl (by kernel_rfl) Try.func4 (by kernel_rfl)
    (of_decide_eq_true (by kernel_rfl)) (by unfold Func.isWrapper; first | (rw [if_pos (by decide +kernel)]; kernel_rfl) | (rw [if_neg (by decide +kernel)]; exact ⟨rfl, rfl⟩))
    (fun os started H enc _ => lifted os started H enc)

theorem proved : Rows.OrderRisesSaid := over
#print axioms proved
end Go.Proofs.Ytgcmkhbpkmfpkaa.orderRises
