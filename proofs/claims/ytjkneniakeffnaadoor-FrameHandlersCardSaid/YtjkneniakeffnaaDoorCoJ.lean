/-
  Package code: whether programs may be.
  Conditions: as each states.
-/
import Derived.Test.YtjkneniakeffnaaDoorCoI
namespace Go.Proofs.YtjkneniakeffnaaDoor
open Go.ChangeShapes Go.WideShapes Go.ChangeAt Go.RowKit
set_option linter.unusedVariables false
set_option linter.unusedSimpArgs false
set_option maxRecDepth 100000

theorem fnK_0 (f : PFn) : fnK 0 f = (decide (f.2.1 = 0) && fnG f) := rfl
theorem fnK_s (k : Nat) (h : ¬ k = 0) (f : PFn) : fnK k f = (decide (f.1 ≠ 0) && fnG f) := by unfold fnK; rw [if_neg h]

set_option maxHeartbeats 1000000 in
theorem goodFuncs_any {S : Nat → Prop} (v : Value) (l : List PFn) (w : World) (T : OpTab w) (h : fnsAt S w v l) (hl : l.length ≤ maxLen) (hm : ∀ m ∈ l, m.2.2.length ≤ maxLen) :
    Calls Tryd.prog 23 #[v] w fun e w' => e = .returned (.bool (fnsG l)) ∧ Below w.heap.size w w' := by
  obtain ⟨a, c, rfl, h⟩ := h
  unfold maxLen at hl
  by_cases h0 : l.length = 0
  · have E := Lib.hid (show fnsG l = false by rw [List.length_eq_zero_iff.1 h0]; rfl)
    rw [h0]
    clear h0 hl hm h
    go_enter Tryd.func23, Tryd.ntmps23
    go_wp2
    go_ret
    exact ⟨ret_bool E.out.symm, Below.refl _ _⟩
  · rcases h with h0' | ⟨b, o, rfl, hS, hb, hc⟩
    · exact absurd h0' h0
    · have HC := Lib.hid hc
      have HM := Lib.hid hm
      have E0 := Lib.hid (show fnsG l = allI fnK 0 l by unfold fnsG; rw [decide_eq_true (by omega), Bool.true_and])
      have t0 : ((l.length : Int) == 0) = false := by rw [beq_eq_false_iff_ne]; omega
      clear hc hm
      go_enter Tryd.func23, Tryd.ntmps23
      go_wp2
      go_loopw [10] (fun i wr => ∃ k : Nat, k ≤ l.length ∧ i = .int .i64 k ∧ Hid (∀ j s, j < k → l[j]? = some s → fnK j s = true) ∧ Hid (Below w.heap.size w wr)) (fun i _ => l.length - (intOf i).toNat)
      case atStart => exact ⟨0, Nat.zero_le _, rfl, Lib.hid fun j s hj => absurd hj (by omega), Lib.hid (Below.refl _ _)⟩
      case round =>
        obtain ⟨k, hk, rfl, H, HB⟩ := hrel
        by_cases hlt : k < l.length
        · have hx := Lib.hid (List.getElem?_eq_getElem hlt)
          have hml := HM.out l[k] (List.getElem_mem hlt)
          have ha : fnAt S wr b (o + k * 3) l[k] := (HC.out k _ hx.out).upon (upon_of_below HB.out) (fun _ _ t => t.elim) hb (fun t => t)
          have T' := T.below HB.out
          generalize l[k] = f at *
          obtain ⟨e1, e2, v, e3, hv⟩ := ha
          obtain ⟨va, vc, rfl⟩ := hv.slice
          have fin : ∀ w', fnK k f = true → Hid (Below w.heap.size w w') → (∃ k' : Nat, k' ≤ l.length ∧ Value.int .i64 ((k : Int) + 1) = .int .i64 k' ∧ Hid (∀ j s, j < k' → l[j]? = some s → fnK j s = true) ∧ Hid (Below w.heap.size w w')) := by
            intro w' hs hb'
            refine ⟨k + 1, by omega, by go_num, Lib.hid fun j t hj ht => ?_, hb'⟩
            rcases Nat.lt_or_ge j k with h | h
            · exact H.out j t h ht
            · obtain rfl : j = k := by omega
              rw [hx.out] at ht; cases ht; exact hs
          have FIN := Lib.hid fin
          clear fin
          by_cases hk0 : k = 0
          · subst hk0
            simp only [Nat.zero_mul, Nat.add_zero] at e1 e2 e3
            by_cases hf : f.2.1 = 0
            · have t1 : (f.2.1 != 0) = false := by simpa using hf
              cases hs : fnG f
              · have E := Lib.hid (show fnsG l = false by rw [E0.out]; exact allI_false hx.out (by rw [fnK_0, hs, Bool.and_false]))
                have HS := Lib.hid hs
                clear hs hf
                go_wp2_with (go_at_call 27; refine (goodFunc_is HS.out _ _ (T'.below ((Below.refl _ _).alloc (Nat.le_refl _) _)) (hv.below ((Below.refl _ _).alloc (Nat.le_refl _) _)) hml).mono ?_; rintro e w' ⟨rfl, hb'⟩)
                go_ret
                exact ⟨ret_bool E.out.symm, down_call (down_alloc HB.out _) hb'⟩
              · have E := Lib.hid (show fnK 0 f = true by rw [fnK_0, hs, decide_eq_true hf]; rfl)
                have HS := Lib.hid hs
                clear hs hf
                go_wp2_with (go_at_call 27; refine (goodFunc_is HS.out _ _ (T'.below ((Below.refl _ _).alloc (Nat.le_refl _) _)) (hv.below ((Below.refl _ _).alloc (Nat.le_refl _) _)) hml).mono ?_; rintro e w' ⟨rfl, hb'⟩)
                go_roundw
                case rel => exact FIN.out _ E.out (Lib.hid (down_call (down_alloc HB.out _) hb'))
                case measure => simp [intOf]; omega
            · have t1 : (f.2.1 != 0) = true := by simpa using hf
              have E := Lib.hid (show fnsG l = false by rw [E0.out]; exact allI_false hx.out (by rw [fnK_0, decide_eq_false hf, Bool.false_and]))
              clear hf
              go_wp2
              go_ret
              exact ⟨ret_bool E.out.symm, down_alloc HB.out _⟩
          · have t2 : ((k : Int) == 0) = false := by rw [beq_eq_false_iff_ne]; omega
            have t3 : 0 < k := by omega
            by_cases hf : f.1 = 0
            · have t1 : (f.1 == 0) = true := by simpa using hf
              have E := Lib.hid (show fnsG l = false by rw [E0.out]; exact allI_false hx.out (by rw [fnK_s k hk0, decide_eq_false (fun h => h hf), Bool.false_and]))
              clear hf hk0
              go_wp2
              go_ret
              exact ⟨ret_bool E.out.symm, down_alloc HB.out _⟩
            · have t1 : (f.1 == 0) = false := by simpa using hf
              cases hs : fnG f
              · have E := Lib.hid (show fnsG l = false by rw [E0.out]; exact allI_false hx.out (by rw [fnK_s k hk0, hs, Bool.and_false]))
                have HS := Lib.hid hs
                clear hs hf hk0
                go_wp2_with (go_at_call 27; refine (goodFunc_is HS.out _ _ (T'.below ((Below.refl _ _).alloc (Nat.le_refl _) _)) (hv.below ((Below.refl _ _).alloc (Nat.le_refl _) _)) hml).mono ?_; rintro e w' ⟨rfl, hb'⟩)
                go_ret
                exact ⟨ret_bool E.out.symm, down_call (down_alloc HB.out _) hb'⟩
              · have E := Lib.hid (show fnK k f = true by rw [fnK_s k hk0, hs, decide_eq_true hf]; rfl)
                have HS := Lib.hid hs
                clear hs hf hk0
                go_wp2_with (go_at_call 27; refine (goodFunc_is HS.out _ _ (T'.below ((Below.refl _ _).alloc (Nat.le_refl _) _)) (hv.below ((Below.refl _ _).alloc (Nat.le_refl _) _)) hml).mono ?_; rintro e w' ⟨rfl, hb'⟩)
                go_roundw
                case rel => exact FIN.out _ E.out (Lib.hid (down_call (down_alloc HB.out _) hb'))
                case measure => simp [intOf]; omega
        · obtain rfl : k = l.length := by omega
          have E := Lib.hid (show fnsG l = true by rw [E0.out]; exact allI_true fun j x hj hx => H.out j x hj hx)
          go_wp2
          go_ret
          exact ⟨ret_bool E.out.symm, HB.out⟩

theorem goodFuncs_is {S : Nat → Prop} {v : Value} {l : List PFn} {b : Bool} (hb : fnsG l = b) (w : World) (T : OpTab w) (h : fnsAt S w v l) (hl : l.length ≤ maxLen) (hm : ∀ m ∈ l, m.2.2.length ≤ maxLen) :
    Calls Tryd.prog 23 #[v] w fun e w' => e = .returned (.bool b) ∧ Below w.heap.size w w' :=
  (goodFuncs_any v l w T h hl hm).mono fun e w' ⟨he, hw⟩ => ⟨by rw [he, hb], hw⟩
theorem goodStrs_is {S : Nat → Prop} {v : Value} {l : List ByteArray} {b : Bool} (hb : strsG l = b) (w : World) (h : rdAt S w v l.length (strL l)) (hl : l.length ≤ maxLen) :
    Calls Tryd.prog 24 #[v] w fun e w' => e = .returned (.bool b) ∧ w = w' :=
  (goodStrs_any v l w h hl).mono fun e w' ⟨he, hw⟩ => ⟨by rw [he, hb], hw⟩

theorem pr_eq (P : PPr) : prG P = (decide (P.1.length ≤ 60 ∧ P.2.1.length ≤ 40 ∧ P.2.2.length ≤ 40) && (fnsG P.1 && (strsG P.2.1 && fmsG P.2.2))) := rfl

set_option maxHeartbeats 1000000 in
theorem codeGood_any {S : Nat → Prop} (v1 v2 v3 : Value) (P : PPr) (w : World) (T : OpTab w) (h : prAt S w v1 v2 v3 P) (hF : prF P) :
    Calls Tryd.prog 17 #[.agg #[v1, v2, v3]] w fun e w' => e = .returned (.bool (prG P)) ∧ Below w.heap.size w w' := by
  obtain ⟨F, Q, M⟩ := P
  have EE := Lib.hid (pr_eq (F, Q, M))
  obtain ⟨h1, h2, h3⟩ := h
  simp only at h1 h2 h3 EE
  have m1 : F.length ≤ maxLen := hF.n1
  have m2 : Q.length ≤ maxLen := hF.n2
  have m3 : M.length ≤ maxLen := hF.n3
  have H1 := Lib.hid h1
  have H2 := Lib.hid h2
  have H3 := Lib.hid h3
  obtain ⟨a1, c1, rfl⟩ := h1.slice
  obtain ⟨a2, c2, rfl⟩ := h2.slice
  obtain ⟨a3, c3, rfl⟩ := h3.slice
  have N1 := Lib.hid m1; have N2 := Lib.hid m2; have N3 := Lib.hid m3
  have NF := Lib.hid hF
  clear h1 h2 h3 hF
  unfold maxLen at m1 m2 m3
  have b0 := Lib.hid (show Below w.heap.size w (w.alloc (.cells #[.slice a1 F.length c1, .slice a2 Q.length c2, .slice a3 M.length c3] 44)) from (Below.refl _ _).alloc (Nat.le_refl _) _)
  by_cases hn1 : F.length ≤ 60
  · by_cases hn2 : Q.length ≤ 40
    · by_cases hn3 : M.length ≤ 40
      · cases g1 : fnsG F
        · have E := Lib.hid (show prG (F, Q, M) = false by rw [EE.out, g1, Bool.false_and, Bool.and_false])
          have G1 := Lib.hid g1
          clear g1
          go_enter Tryd.func17, Tryd.ntmps17
          go_wp2_with fail
          refine (goodFuncs_is G1.out _ (T.below b0.out) (fns_below H1.out b0.out) N1.out (fun f hf => (NF.out.fn f hf).2.2.2)).mono ?_
          rintro e w' ⟨rfl, hb⟩
          go_wp2_with fail
          go_ret
          exact ⟨ret_bool E.out.symm, down_call b0.out hb⟩
        · have G1 := Lib.hid g1
          cases g2 : strsG Q
          · have E := Lib.hid (show prG (F, Q, M) = false by rw [EE.out, g1, g2, Bool.false_and, Bool.and_false, Bool.and_false])
            have G2 := Lib.hid g2
            clear g1 g2
            go_enter Tryd.func17, Tryd.ntmps17
            go_wp2_with fail
            refine (goodFuncs_is G1.out _ (T.below b0.out) (fns_below H1.out b0.out) N1.out (fun f hf => (NF.out.fn f hf).2.2.2)).mono ?_
            rintro e w1 ⟨rfl, hb⟩
            obtain ⟨hc, -⟩ := down_cell hb
            have hb1 := Lib.hid (down_call b0.out hb)
            go_wp2_with fail
            refine (goodStrs_is G2.out _ (H2.out.below hb1.out) N2.out).mono ?_
            rintro e w' ⟨rfl, rfl⟩
            go_wp2_with fail
            go_ret
            exact ⟨ret_bool E.out.symm, hb1.out⟩
          · have E := Lib.hid (show prG (F, Q, M) = fmsG M by rw [EE.out, g1, g2, decide_eq_true ⟨hn1, hn2, hn3⟩, Bool.true_and, Bool.true_and, Bool.true_and])
            have G2 := Lib.hid g2
            clear g1 g2
            go_enter Tryd.func17, Tryd.ntmps17
            go_wp2_with fail
            refine (goodFuncs_is G1.out _ (T.below b0.out) (fns_below H1.out b0.out) N1.out (fun f hf => (NF.out.fn f hf).2.2.2)).mono ?_
            rintro e w1 ⟨rfl, hb⟩
            obtain ⟨hc, -⟩ := down_cell hb
            have hb1 := Lib.hid (down_call b0.out hb)
            go_wp2_with fail
            refine (goodStrs_is G2.out _ (H2.out.below hb1.out) N2.out).mono ?_
            rintro e w' ⟨rfl, rfl⟩
            go_wp2_with fail
            refine (goodForms_any _ _ _ (fms_below H3.out hb1.out) N3.out (fun f hf => (NF.out.fm f hf).2.2.2.2)).mono ?_
            rintro e w2 ⟨rfl, hb2⟩
            go_wp2_with fail
            go_ret
            exact ⟨ret_bool E.out.symm, down_call hb1.out hb2⟩
      · have E := Lib.hid (show prG (F, Q, M) = false by rw [EE.out, decide_eq_false (fun h => hn3 h.2.2), Bool.false_and])
        go_enter Tryd.func17, Tryd.ntmps17
        go_wp2_with fail
        go_ret
        exact ⟨ret_bool E.out.symm, b0.out⟩
    · have E := Lib.hid (show prG (F, Q, M) = false by rw [EE.out, decide_eq_false (fun h => hn2 h.2.1), Bool.false_and])
      go_enter Tryd.func17, Tryd.ntmps17
      go_wp2_with fail
      go_ret
      exact ⟨ret_bool E.out.symm, b0.out⟩
  · have E := Lib.hid (show prG (F, Q, M) = false by rw [EE.out, decide_eq_false (fun h => hn1 h.1), Bool.false_and])
    go_enter Tryd.func17, Tryd.ntmps17
    go_wp2_with fail
    go_ret
    exact ⟨ret_bool E.out.symm, b0.out⟩
end Go.Proofs.YtjkneniakeffnaaDoor
