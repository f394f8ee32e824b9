/-
  Package code: whether functions, programs may be.
  Conditions: as each states.
-/
import Derived.Test.YtjkneniakeffnaaDoorCoH
namespace Go.Proofs.YtjkneniakeffnaaDoor
open Go.ChangeShapes Go.WideShapes Go.ChangeAt Go.RowKit
set_option linter.unusedVariables false
set_option linter.unusedSimpArgs false
set_option maxRecDepth 100000

theorem fn_eq (f : PFn) : fnG f = (belowB f.1 61 && (belowB f.2.1 31 && (decide (0 < f.2.2.length ∧ f.2.2.length ≤ 600) && allI (fun _ p => insG p) 0 f.2.2))) := rfl
theorem good_is' {p : PIns} {g : Bool} (h : insG p = g) (w : World) (T : OpTab w) : Calls Tryd.prog 32 #[.agg #[.int .i64 p.1, .int .i64 p.2.1, .int .i64 p.2.2]] w fun e w' => e = .returned (.bool g) ∧ Below w.heap.size w w' :=
  (opGood_any p.1 p.2.1 p.2.2 w T).mono fun e w' ⟨he, hb⟩ => ⟨by rw [he]; exact congrArg _ (congrArg _ h), hb⟩

set_option maxHeartbeats 1000000 in
theorem goodFunc_any {S : Nat → Prop} (f : PFn) (v : Value) (w : World) (T : OpTab w) (h : rdAt S w v f.2.2.length (insL f.2.2)) (hl : f.2.2.length ≤ maxLen) :
    Calls Tryd.prog 27 #[.agg #[.int .i64 f.1, .int .i64 f.2.1, v]] w fun e w' => e = .returned (.bool (fnG f)) ∧ Below w.heap.size w w' := by
  obtain ⟨loc, free, l⟩ := f
  have EE := Lib.hid (fn_eq (loc, free, l))
  simp only at h hl EE
  obtain ⟨sa, sc, rfl, h⟩ := h
  unfold maxLen at hl
  cases hA : belowB loc 61
  · have E := Lib.hid (show fnG (loc, free, l) = false by rw [EE.out, hA, Bool.false_and])
    clear h
    go_enter Tryd.func27, Tryd.ntmps27
    go_wp2_with (go_at_call 31; refine (below_is hA _).mono ?_; rintro e w' ⟨rfl, rfl⟩)
    go_ret
    exact ⟨ret_bool E.out.symm, (Below.refl _ _).alloc (Nat.le_refl _) _⟩
  · cases hB : belowB free 31
    · have E := Lib.hid (show fnG (loc, free, l) = false by rw [EE.out, hA, hB, Bool.false_and, Bool.and_false])
      clear h
      go_enter Tryd.func27, Tryd.ntmps27
      go_wp2_with (go_at_call 31; first | ((with_reducible refine (below_is hA _).mono ?_); rintro e w' ⟨rfl, rfl⟩) | ((with_reducible refine (below_is hB _).mono ?_); rintro e w' ⟨rfl, rfl⟩))
      go_ret
      exact ⟨ret_bool E.out.symm, (Below.refl _ _).alloc (Nat.le_refl _) _⟩
    · by_cases hn : 0 < l.length ∧ l.length ≤ 600
      · have E0 := Lib.hid (show fnG (loc, free, l) = allI (fun _ p => insG p) 0 l by rw [EE.out, hA, hB, decide_eq_true hn, Bool.true_and, Bool.true_and, Bool.true_and])
        obtain ⟨hn1, hn2⟩ := hn
        rcases h with h0 | ⟨b, o, rfl, -, hb, hc⟩
        · omega
        · have HC := Lib.hid hc
          have t1 : ((l.length : Int) == 0) = false := by rw [beq_eq_false_iff_ne]; omega
          clear hc
          go_enter Tryd.func27, Tryd.ntmps27
          go_wp2_with (go_at_call 31; first | ((with_reducible refine (below_is hA _).mono ?_); rintro e w' ⟨rfl, rfl⟩) | ((with_reducible refine (below_is hB _).mono ?_); rintro e w' ⟨rfl, rfl⟩))
          go_loopw [28] (fun i wr => ∃ k : Nat, k ≤ l.length ∧ i = .int .i64 k ∧ Hid (∀ j s, j < k → l[j]? = some s → insG s = true) ∧ Hid (Below w.heap.size w wr)) (fun i _ => l.length - (intOf i).toNat)
          case atStart => exact ⟨0, Nat.zero_le _, rfl, Lib.hid fun j s hj => absurd hj (by omega), Lib.hid ((Below.refl _ _).alloc (Nat.le_refl _) _)⟩
          case round =>
            obtain ⟨k, hk, rfl, H, HB⟩ := hrel
            by_cases hlt : k < l.length
            · have hx := Lib.hid (List.getElem?_eq_getElem hlt)
              obtain ⟨g0, g1, g2⟩ := insL_get l k _ hx.out
              generalize l[k] = p at *
              have cc : ∀ j, wr.cell? ⟨b, o + j, none⟩ = w.cell? ⟨b, o + j, none⟩ := fun j => HB.out.cell (p := ⟨b, o + j, none⟩) hb
              have e1 : wr.cell? ⟨b, o + k * 3, none⟩ = some (.int .i64 p.1) := by rw [cc]; exact HC.out _ _ g0
              have e2 : wr.cell? ⟨b, o + k * 3 + 1, none⟩ = some (.int .i64 p.2.1) := by rw [show o + k * 3 + 1 = o + (k * 3 + 1) by omega, cc]; exact HC.out _ _ g1
              have e3 : wr.cell? ⟨b, o + k * 3 + 2, none⟩ = some (.int .i64 p.2.2) := by rw [show o + k * 3 + 2 = o + (k * 3 + 2) by omega, cc]; exact HC.out _ _ g2
              have T' := T.below HB.out
              clear g0 g1 g2 cc
              cases hs : insG p
              · have E := Lib.hid (show fnG (loc, free, l) = false by rw [E0.out]; exact allI_false hx.out hs)
                have HS := Lib.hid hs
                clear hs
                go_wp2_with (go_at_call 32; refine (good_is' HS.out _ (T'.below ((Below.refl _ _).alloc (Nat.le_refl _) _))).mono ?_; rintro e w' ⟨rfl, hb'⟩)
                go_ret
                exact ⟨ret_bool E.out.symm, down_call (down_alloc HB.out _) hb'⟩
              · have HS := Lib.hid hs
                clear hs
                go_wp2_with (go_at_call 32; refine (good_is' HS.out _ (T'.below ((Below.refl _ _).alloc (Nat.le_refl _) _))).mono ?_; rintro e w' ⟨rfl, hb'⟩)
                go_roundw
                case rel =>
                  refine ⟨k + 1, by omega, by go_num, Lib.hid fun j t hj ht => ?_, Lib.hid (down_call (down_alloc HB.out _) hb')⟩
                  rcases Nat.lt_or_ge j k with h | h
                  · exact H.out j t h ht
                  · obtain rfl : j = k := by omega
                    rw [hx.out] at ht; cases ht; exact HS.out
                case measure => simp [intOf]; omega
            · obtain rfl : k = l.length := by omega
              have E := Lib.hid (show fnG (loc, free, l) = true by rw [E0.out]; exact allI_true fun j x hj hx => H.out j x hj hx)
              go_wp2
              go_ret
              exact ⟨ret_bool E.out.symm, HB.out⟩
      · have E := Lib.hid (show fnG (loc, free, l) = false by rw [EE.out, decide_eq_false hn, Bool.false_and, Bool.and_false, Bool.and_false])
        clear h
        by_cases h1 : l.length = 0
        · rw [h1]
          clear hn hl
          go_enter Tryd.func27, Tryd.ntmps27
          go_wp2_with (go_at_call 31; first | ((with_reducible refine (below_is hA _).mono ?_); rintro e w' ⟨rfl, rfl⟩) | ((with_reducible refine (below_is hB _).mono ?_); rintro e w' ⟨rfl, rfl⟩))
          go_ret
          exact ⟨ret_bool E.out.symm, (Below.refl _ _).alloc (Nat.le_refl _) _⟩
        · have h2 : 600 < l.length := by omega
          have t1 : ((l.length : Int) == 0) = false := by rw [beq_eq_false_iff_ne]; omega
          clear hn h1
          go_enter Tryd.func27, Tryd.ntmps27
          go_wp2_with (go_at_call 31; first | ((with_reducible refine (below_is hA _).mono ?_); rintro e w' ⟨rfl, rfl⟩) | ((with_reducible refine (below_is hB _).mono ?_); rintro e w' ⟨rfl, rfl⟩))
          go_ret
          exact ⟨ret_bool E.out.symm, (Below.refl _ _).alloc (Nat.le_refl _) _⟩
theorem goodFunc_is {S : Nat → Prop} {f : PFn} {b : Bool} (hb : fnG f = b) (v : Value) (w : World) (T : OpTab w) (h : rdAt S w v f.2.2.length (insL f.2.2)) (hl : f.2.2.length ≤ maxLen) :
    Calls Tryd.prog 27 #[.agg #[.int .i64 f.1, .int .i64 f.2.1, v]] w fun e w' => e = .returned (.bool b) ∧ Below w.heap.size w w' :=
  (goodFunc_any f v w T h hl).mono fun e w' ⟨he, hw⟩ => ⟨by rw [he, hb], hw⟩
end Go.Proofs.YtjkneniakeffnaaDoor
