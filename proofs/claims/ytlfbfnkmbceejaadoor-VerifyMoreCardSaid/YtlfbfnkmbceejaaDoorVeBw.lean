/-
  The walk of the law VerifyBounds.
  Conditions: as stated.
-/
import Derived.Test.YtlfbfnkmbceejaaDoorVeWk
import Derived.Test.YtlfbfnkmbceejaaDoorCoLg
namespace Go.Proofs.YtlfbfnkmbceejaaDoor
open Go.ChangeShapes Go.WideShapes Go.ChangeAt Go.RowKit
set_option linter.unusedVariables false
set_option linter.unusedSimpArgs false
set_option maxRecDepth 100000

theorem statesP_some {P : PPr} {i : Nat} {f : PFn} {l : List PSt} (hi : P.1[i]? = some f) (h : statesP P i = some l) : prG P = true ∧ rightP P f = some l ∧ FlowP f.2.2 l := by
  unfold statesP at h
  split at h
  · rename_i hc
    rw [Int.toNat_natCast, List.getD_eq_getElem?_getD, hi] at h
    refine ⟨hc.1, h, ?_⟩
    have h2 : rightP P f = some l := h
    rw [rightP_eq] at h2
    split at h2
    · unfold stsP at h2
      split at h2
      · cases h2
      · rename_i hw
        cases h2
        exact fin_flow (by simpa using hw)
    · cases h2
  · cases h
theorem statesP_none {P : PPr} {i : Nat} {f : PFn} (hi : P.1[i]? = some f) (h : statesP P i = none) (g : Int) : checkP P g = 2 := by
  refine checkP_no ?_
  rintro ⟨hg, hr⟩
  unfold statesP at h
  have hlt := (List.getElem?_eq_some_iff.1 hi).1
  rw [if_pos ⟨hg, by omega, by omega⟩, Int.toNat_natCast, List.getD_eq_getElem?_getD, hi] at h
  have := allI_at (g := fun _ f => (rightP P f).isSome) hr hi
  have h2 : rightP P f = none := h
  rw [h2] at this
  cases this
theorem statesP_out {P : PPr} {n : Nat} (h : P.1.length ≤ n) : statesP P n = none := by
  unfold statesP; rw [if_neg]; rintro ⟨-, -, h2⟩; omega
theorem prog_row {w w' : World} {a1 a2 a3 : Option Addr} {n1 c1 n2 c2 n3 c3 : Nat} {b : Nat} (h : rowAt w b 26 [.slice a1 n1 c1, .slice a2 n2 c2, .slice a3 n3 c3]) (hb : Below w.heap.size w w') :
    rowAt w' b 26 [.slice a1 n1 c1, .slice a2 n2 c2, .slice a3 n3 c3] ∧ w'.cell? ⟨b, 0, none⟩ = some (.slice a1 n1 c1) ∧ w'.cell? ⟨b, 1, none⟩ = some (.slice a2 n2 c2) ∧ w'.cell? ⟨b, 2, none⟩ = some (.slice a3 n3 c3) := by
  have h' := h.below hb h.lt
  exact ⟨h', (h'.cell 0).trans rfl, (h'.cell 1).trans rfl, (h'.cell 2).trans rfl⟩

set_option maxHeartbeats 16000000 in
theorem bounds_walk (v1 v2 v3 : Value) (P : PPr) (fb : Int) (w : World) (hp : prAt (fun _ => False) w v1 v2 v3 P) (hf : prF P) (hr : PRe P) (wb : (Lit.int .u8 fb).wf = true) (T : VeTab w) :
    Calls Tryd.prog 6 #[.agg #[v1, v2, v3], .int .u8 fb] w fun e w' => e = .returned (.bool true) ∧ Below w.heap.size w w' := by
  have hb8 : 0 ≤ fb ∧ fb < 256 := by simp [Lit.wf, IntKind.min, IntKind.max, IntKind.signed, IntKind.bits] at wb; omega
  clear wb
  obtain ⟨fn, rfl⟩ : ∃ n : Nat, fb = n := ⟨fb.toNat, by omega⟩
  have HF := Lib.hid hf
  have HR := Lib.hid hr
  have HP := Lib.hid hp
  have HT := Lib.hid T
  obtain ⟨⟨a1, c1, rfl, -⟩, ⟨a2, c2, rfl, -⟩, ⟨a3, c3, rfl, -⟩⟩ := hp
  obtain ⟨W0, hW0⟩ : ∃ W0, w.alloc (.cells #[.slice a1 P.1.length c1, .slice a2 P.2.1.length c2, .slice a3 P.2.2.length c3] 26) = W0 := ⟨_, rfl⟩
  have B0 := Lib.hid (show Below w.heap.size w W0 by rw [← hW0]; exact down_alloc (Below.refl _ _) _)
  have R0 := Lib.hid (show rowAt W0 w.heap.size 26 [.slice a1 P.1.length c1, .slice a2 P.2.1.length c2, .slice a3 P.2.2.length c3] by rw [← hW0]; exact rowAt.made _ _ _)
  have x0 : W0.cell? ⟨w.heap.size, 0, none⟩ = some (.slice a1 P.1.length c1) := (R0.out.cell 0).trans rfl
  have x1 : W0.cell? ⟨w.heap.size, 1, none⟩ = some (.slice a2 P.2.1.length c2) := (R0.out.cell 1).trans rfl
  have x2 : W0.cell? ⟨w.heap.size, 2, none⟩ = some (.slice a3 P.2.2.length c3) := (R0.out.cell 2).trans rfl
  clear hf hr T
  go_enter Tryd.func6, Tryd.ntmps6
  go_wp2_with fail
  clear hW0 x0 x1 x2
  refine (large_any (HP.out.below B0.out) HR.out HF.out.st).mono ?_
  rintro e w1 ⟨lg, rfl, hlg, hb⟩
  have B1 := Lib.hid (down_call B0.out hb)
  obtain ⟨r1, x0, x1, x2⟩ := prog_row R0.out hb
  have R1 := Lib.hid r1
  clear hb r1
  cases lg
  · have SM := Lib.hid (hlg rfl)
    clear hlg
    have n3 := SM.out.n1
    by_cases hn : P.1.length = 0
    · have hnI : ((P.1.length : Nat) : Int) = 0 := by omega
      clear hn
      go_wp2_with fail
      refine (wakes_any _ (HT.out.below B1.out)).mono ?_
      rintro e w2 ⟨rfl, hb⟩
      have B2 := Lib.hid (down_call B1.out hb)
      go_wp2_with fail
      go_ret
      exact ⟨rfl, B2.out⟩
    · have hnI : ¬ ((P.1.length : Nat) : Int) = 0 := by omega
      have hnB : (((P.1.length : Nat) : Int) == 0) = false := beq_eq_false_iff_ne.2 hnI
      obtain ⟨K, hK⟩ : ∃ K : Nat, fn % P.1.length = K := ⟨_, rfl⟩
      have hKl : K < P.1.length := hK ▸ Nat.mod_lt fn (Nat.pos_of_ne_zero hn)
      have hKI : ((fn : Int) % (P.1.length : Nat)) = (K : Int) := by rw [← hK]; exact (Int.natCast_emod fn P.1.length).symm
      have HKI := Lib.hid hKI
      have hKl2 : (K : Int) < (P.1.length : Nat) := by omega
      obtain ⟨⟨f1, f2, code⟩, hf⟩ : ∃ f, P.1[K]? = some f := ⟨_, List.getElem?_eq_getElem hKl⟩
      have HFX := Lib.hid hf
      clear hK hKI hf hn
      go_wp2_with fail
      rw [HKI.out]
      refine (states_any (HP.out.below B1.out) HF.out (HT.out.below B1.out) K).mono ?_
      rintro e w2 ⟨v, rfl, ho, hb⟩
      have B2 := Lib.hid (down_call B1.out hb)
      clear x0 x1 x2
      obtain ⟨r2, x0, x1, x2⟩ := prog_row R1.out hb
      have R2 := Lib.hid r2
      clear hb r2
      cases hst : statesP P K
      · rw [hst] at ho
        have hv : v = .slice none 0 0 := ho
        subst hv
        have HC := Lib.hid (statesP_none HFX.out hst 15)
        rw [show (none : Option (List PSt)).isSome = false from rfl]
        clear ho hst
        go_wp2_with fail
        refine (ch8 HC.out (HP.out.below B2.out) HF.out (HT.out.below B2.out)).mono ?_
        rintro e w3 ⟨rfl, hb⟩
        have B3 := Lib.hid (down_call B2.out hb)
        clear hb
        go_wp2_with fail
        refine (wakes_any _ (HT.out.below B3.out)).mono ?_
        rintro e w4 ⟨rfl, hb⟩
        have B4 := Lib.hid (down_call B3.out hb)
        go_wp2_with fail
        go_ret
        exact ⟨rfl, B4.out⟩
      · rename_i l
        rw [hst] at ho
        obtain ⟨g, rfl, hrow, hg⟩ := ho
        obtain ⟨-, -, FL⟩ := statesP_some HFX.out hst
        rw [show (some l).isSome = true from rfl]
        obtain ⟨cv, ⟨pb, po, rfl, hpb, e0, e1, e2⟩, hcv⟩ := fn_cells (HP.out.below B2.out).1 HFX.out
        obtain ⟨ca, cc, rfl⟩ := hcv.slice
        have FH := Lib.hid FL
        have hl := FL.len
        have hpos := FL.pos
        simp only at hl hpos e0 e1 e2
        have c6 : code.length ≤ 3000 := SM.out.fn _ (List.mem_of_getElem? HFX.out)
        have RG := Lib.hid hrow
        have s0 : w2.cell? ⟨g, 0, none⟩ = some (.int .i64 0) := by
          have := (hrow.cell (0 * 2)).trans (stL_get l 0 (by omega)).1
          rw [FL.first] at this; exact this
        have s1 : w2.cell? ⟨g, 1, none⟩ = some (.int .i64 0) := by
          have := (hrow.cell (0 * 2 + 1)).trans (stL_get l 0 (by omega)).2
          rw [FL.first] at this; exact this
        have q0 : ∀ w, (Op.equalIn 10000 47 (.agg #[.int .i64 0, .int .i64 0]) (.agg #[.int .i64 0, .int .i64 0])).run Tryd.prog w = .ok true w := fun w => by rw [run_st_eq]; rfl
        have h0I : ((code.length : Nat) == 0) = false := by rw [beq_eq_false_iff_ne]; omega
        have h0J : (((code.length : Nat) : Int) == 0) = false := by rw [beq_eq_false_iff_ne]; omega
        have h0K : (0 : Int) < (code.length : Nat) := by omega
        rw [hl]
        clear hst hrow FL hcv
        go_wp2_with fail
        clear s0 s1 q0 h0I h0J h0K e0 e1 e2
        go_loopw [8] (fun i wr => ∃ k q : Nat, k ≤ code.length ∧ i = .int .i64 k ∧ wr = w2.drewN q) (fun i _ => code.length - (intOf i).toNat)
        case atStart => exact ⟨0, 0, Nat.zero_le _, rfl, rfl⟩
        case round =>
          obtain ⟨k, q, hk, rfl, rfl⟩ := hrel
          by_cases hlt : k < code.length
          · have hltI : (k : Int) < code.length := by omega
            have hkl : k < l.length := by rw [hl]; exact hlt
            have hbd := FH.out.bd _ (stAt_mem hkl)
            have g0 := (RG.out.cell (k * 2)).trans (stL_get l k hkl).1
            have g1 := (RG.out.cell (k * 2 + 1)).trans (stL_get l k hkl).2
            obtain ⟨⟨X, Y⟩, hXY⟩ : ∃ s, stAt l k = s := ⟨_, rfl⟩
            rw [hXY] at hbd g0 g1
            simp only at hbd g0 g1
            clear hXY hkl
            rcases hbd with hno | ⟨hb1, hb2, hb3, hb4⟩
            · cases hno
              go_wp2_with fail
              go_quiet (fail)
              rename_i nq
              go_wp2_with fail
              go_roundw
              case rel => exact ⟨k + 1, _, by omega, by go_num, rfl⟩
              case measure => simp [intOf]; omega
            · have d1 : decide (X < 0) = false := decide_eq_false (by omega)
              have d2 : decide (Y < 0) = false := decide_eq_false (by omega)
              have d3 : decide (X < -1) = false := decide_eq_false (by omega)
              have d4 : decide (Y < -1) = false := decide_eq_false (by omega)
              have d5 : decide (100 < X) = false := decide_eq_false (by omega)
              have d6 : decide (10 < Y) = false := decide_eq_false (by omega)
              go_wp2_with fail
              go_quiet (fail)
              rename_i nq
              go_wp2_with fail
              go_roundw
              case rel => exact ⟨k + 1, _, by omega, by go_num, rfl⟩
              case measure => simp [intOf]; omega
          · obtain rfl : k = code.length := by omega
            have B3 := Lib.hid (below_draws B2.out q)
            have RN := Lib.hid (statesP_out (P := P) (n := P.1.length) (Nat.le_refl _))
            go_wp2_with fail
            refine (states_any (HP.out.below B3.out) HF.out (HT.out.below B3.out) (P.1.length : Nat)).mono ?_
            rintro e w5 ⟨v, rfl, ho, hb⟩
            rw [RN.out] at ho
            have hv : v = .slice none 0 0 := ho
            subst hv
            rw [RN.out, show (none : Option (List PSt)).isSome = false from rfl]
            have B5 := Lib.hid (down_call B3.out hb)
            clear ho hb
            go_wp2_with fail
            refine (wakes_any _ (HT.out.below B5.out)).mono ?_
            rintro e w6 ⟨rfl, hb⟩
            have B6 := Lib.hid (down_call B5.out hb)
            go_wp2_with fail
            go_ret
            exact ⟨rfl, B6.out⟩
  · clear hlg
    go_wp2_with fail
    refine (wakes_any _ (HT.out.below B1.out)).mono ?_
    rintro e w2 ⟨rfl, hb⟩
    have B2 := Lib.hid (down_call B1.out hb)
    go_wp2_with fail
    go_ret
    exact ⟨rfl, B2.out⟩
end Go.Proofs.YtlfbfnkmbceejaaDoor
