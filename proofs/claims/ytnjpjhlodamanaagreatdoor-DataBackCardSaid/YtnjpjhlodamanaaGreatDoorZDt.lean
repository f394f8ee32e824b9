/-
  The statements' own helpers over messages: LargeMessage, Message; the document's skip and Good.
  Conditions: as each states.
-/
import Derived.Test.YtnjpjhlodamanaaGreatDoorZApp
import Derived.Test.YtnjpjhlodamanaaGreatDoorObD
import Derived.Test.YtnjpjhlodamanaaGreatDoorRefCut
import Derived.Test.YtnjpjhlodamanaaGreatDoorObE
import Derived.Outline
import Derived.Test.YtnjpjhlodamanaaGreatDoorZDr
import Derived.Deep.RegionHeld3
namespace Go.Proofs.YtnjpjhlodamanaaGreatDoor
set_option linter.unusedVariables false
set_option linter.unusedSimpArgs false
open Go.ChangeShapes Go.WideShapes Go.ChangeAt Go.RowKit
set_option maxRecDepth 100000

def SomeB (w : World) (e : Ending) (w' : World) : Prop := ∃ b : Bool, e = .returned (.bool b) ∧ Below w.heap.size w w'
set_option maxHeartbeats 4000000 in
theorem largeMsg_any {S : Nat → Prop} {w : World} {v : Value} {m : List PCe} (h : rdAt S w v m.length (ceL m)) :
    Calls Tryz.prog 9 #[v] w (SomeB w) := by
  have H := Lib.hid h
  obtain ⟨a, cap, rfl⟩ := h.slice
  clear h
  go_enter Tryz.func9, Tryz.ntmps9
  go_wp2_with fail
  go_loop [3, 4] (fun n i => ∃ k j : Nat, i = .int .i64 k ∧ n = .int .i64 j ∧ k ≤ m.length ∧ k ≤ j ∧ j ≤ 7000) (fun _ i => m.length - (intOf i).toNat)
  case atStart => exact ⟨0, 0, rfl, rfl, Nat.zero_le _, Nat.le_refl _, by omega⟩
  case round =>
    obtain ⟨k, j, rfl, rfl, hk, hkj, hj⟩ := hrel
    by_cases hlt : k < m.length
    · by_cases hj3 : j ≤ 3000
      · have hx := Lib.hid (List.getElem?_eq_getElem hlt)
        generalize m[k] = c at *
        obtain ⟨b, o, cap', e, hb, -, c0, c1, c2, c3⟩ := ce_cells H.out hx.out
        cases e
        obtain ⟨ck, ct, cn, cs⟩ := c
        simp only at c0 c1 c2 c3
        have hkI : (k : Int) < m.length := by omega
        have hjI : (j : Int) ≤ 3000 := by omega
        by_cases hs : cs.size ≤ 3000
        · have hsI : (cs.size : Int) ≤ 3000 := by omega
          go_wp2_with fail
          go_round
          case rel => exact ⟨k + 1, j + (1 + cs.size), by go_num, by go_num, by omega, by omega, by omega⟩
          case measure => simp [intOf]; omega
        · have hsI : ¬ (cs.size : Int) ≤ 3000 := by omega
          go_wp2_with fail
          go_round
          case rel => exact ⟨k + 1, j + (1 + 3000), by go_num, by go_num, by omega, by omega, by omega⟩
          case measure => simp [intOf]; omega
      · have hjI : ¬ (j : Int) ≤ 3000 := by omega
        have hkI : (k : Int) < m.length := by omega
        go_wp2_with fail
        go_ret
        exact ⟨_, rfl, Below.refl _ _⟩
    · have hkI : ¬ (k : Int) < m.length := by omega
      go_wp2_with fail
      go_ret
      exact ⟨_, rfl, Below.refl _ _⟩

/-- What the document's skip tells, of cells that may be: it goes to the end just where they are one whole. -/
def SkipT (m : List PCe) (w : World) (e : Ending) (w' : World) : Prop := ∃ r : Int, e = .returned (.int .i64 r) ∧ decide (r = (m.length : Int)) = whB 1 m ∧ w' = w
set_option maxHeartbeats 4000000 in
theorem skip_any {S : Nat → Prop} {w : World} {v : Value} {m : List PCe} (h : rdAt S w v m.length (ceL m)) (hl : m.length ≤ 100) (hg : ∀ c ∈ m, goodC c = true) :
    Calls Tryz.prog 34 #[v, .int .i64 0] w (SkipT m w) := by
  have H := Lib.hid h
  have HG := Lib.hid hg
  obtain ⟨a, cap, rfl⟩ := h.slice
  clear h hg
  obtain ⟨g, hg⟩ : ∃ g, whB 1 m = g := ⟨_, rfl⟩
  have EG := Lib.hid (show g = whB 1 m from hg.symm)
  unfold SkipT
  rw [hg]
  clear hg
  go_enter Tryz.func34, Tryz.ntmps34
  go_wp2_with fail
  go_loop [1, 5] (fun i x => ∃ (k : Nat) (W : Int), i = .int .i64 k ∧ x = .int .i64 W ∧ k ≤ m.length ∧ 0 ≤ W ∧ W ≤ 1 + 8 * (k : Int) ∧ Hid (g = whB W (m.drop k))) (fun i _ => m.length - (intOf i).toNat)
  case atStart => exact ⟨0, 1, rfl, rfl, Nat.zero_le _, by omega, by omega, EG⟩
  case round =>
    obtain ⟨k, W, rfl, rfl, hk, hW0, hW1, HR⟩ := hrel
    by_cases hW : W = 0
    · have E := Lib.hid (show decide ((k : Int) = (m.length : Int)) = g by
        rw [HR.out, hW]
        by_cases hk2 : k = m.length
        · rw [hk2, List.drop_length, decide_eq_true rfl]; rfl
        · rw [decide_eq_false (by omega), whB_zero (by intro h; have := congrArg List.length h; simp at this; omega)])
      subst hW
      clear hW0 hW1
      go_wp2_with fail
      go_ret
      exact ⟨_, rfl, E.out, rfl⟩
    · have hWp : 0 < W := by omega
      by_cases hlt : k < m.length
      · have hx := Lib.hid (List.getElem?_eq_getElem hlt)
        have hd := List.drop_eq_getElem_cons hlt
        rw [hd] at HR
        have hgc := HG.out _ (List.getElem_mem hlt)
        clear hd
        generalize m[k] = c at *
        obtain ⟨b, o, cap', e, hb, -, c0, c1, c2, c3⟩ := ce_cells H.out hx.out
        cases e
        have hj := hasC_nn hgc
        have E := Lib.hid (show g = whB (W + (hasC c - 1)) (m.drop (k + 1)) by rw [HR.out, whB, hgc, Bool.true_and, show decide (W ≠ 0) = true from decide_eq_true hW, Bool.true_and])
        obtain ⟨ck, ct, cn, cs⟩ := c
        simp only at c0 c1 c2 c3
        have hkI : (k : Int) < m.length := by omega
        clear hgc
        by_cases h1 : ck = 1
        · subst h1
          have e1 : hasC (1, ct, cn, cs) = cn := rfl
          rw [e1] at E hj
          clear e1
          go_wp2_with fail
          go_round
          case rel => exact ⟨k + 1, W + (cn - 1), by go_num, by go_num, by omega, by omega, by omega, E⟩
          case measure => simp [intOf]; omega
        · have e1 : hasC (ck, ct, cn, cs) = 0 := by unfold hasC; rw [if_neg h1]
          rw [e1] at E hj
          have t1 : (ck == 1) = false := beq_eq_false_iff_ne.2 h1
          clear e1 h1
          go_wp2_with fail
          go_round
          case rel => exact ⟨k + 1, W + (0 - 1), by go_num, by go_num, by omega, by omega, by omega, E⟩
          case measure => simp [intOf]; omega
      · obtain rfl : k = m.length := by omega
        have E := Lib.hid (show decide ((-1 : Int) = (m.length : Int)) = g by
          rw [HR.out, List.drop_length, decide_eq_false (by omega)]; simp [whB, hW])
        clear HR
        go_wp2_with fail
        go_ret
        exact ⟨_, rfl, E.out, rfl⟩
end Go.Proofs.YtnjpjhlodamanaaGreatDoor

/-
  The document's Good of messages.
  Conditions: as each states.
-/
namespace Go.Proofs.YtnjpjhlodamanaaGreatDoor
set_option linter.unusedVariables false
set_option linter.unusedSimpArgs false
open Go.ChangeShapes Go.WideShapes Go.ChangeAt Go.RowKit
set_option maxRecDepth 100000

theorem goodMs_bad {m : List PCe} {k : Nat} {c : PCe} (hk : m[k]? = some c) (h : goodC c = false) : goodMs m = false := by
  cases hg : goodMs m
  · rfl
  · have := whB_all m 1 (goodMs_iff.1 hg).2 c (List.mem_of_getElem? hk)
    rw [h] at this
    cases this
theorem take_good {m : List PCe} {k : Nat} {c : PCe} (h : ∀ c ∈ m.take k, goodC c = true) (hk : m[k]? = some c) (hc : goodC c = true) : ∀ c ∈ m.take (k + 1), goodC c = true := by
  obtain ⟨hlt, e⟩ := List.getElem?_eq_some_iff.1 hk
  intro d hd
  rw [List.take_succ_eq_append_getElem hlt, List.mem_append] at hd
  rcases hd with hd | hd
  · exact h d hd
  · rw [List.mem_singleton] at hd
    rw [hd, e]; exact hc

theorem good_num' (t n : Int) (s : ByteArray) : goodC (0, t, n, s) = (decide (t = 0) && (decide (s.size = 0) && (n == wWrap n))) := by
  rw [wrap_fit]
  unfold goodC
  rw [if_pos rfl]
  by_cases h1 : t = 0 <;> by_cases h2 : s.size = 0 <;> by_cases h3 : fit63 n <;> simp [h1, h2, h3]
theorem good_str' (t n : Int) (s : ByteArray) : goodC (2, t, n, s) = decide (t = 0 ∧ n = 0 ∧ s.size ≤ 400) := by
  unfold goodC
  rw [if_neg (show ¬ (2 : Int) = 0 by decide), if_neg (show ¬ (2 : Int) = 1 by decide), if_pos rfl]

set_option maxHeartbeats 16000000 in
theorem rgoodMs_any {S : Nat → Prop} {w : World} {v : Value} {m : List PCe} (h : rdAt S w v m.length (ceL m)) :
    Calls Tryz.prog 11 #[v] w fun e w' => e = .returned (.bool (goodMs m)) ∧ Below w.heap.size w w' := by
  have H := Lib.hid h
  obtain ⟨a, cap, rfl⟩ := h.slice
  clear h
  by_cases hl0 : m.length < 1
  · have E := Lib.hid (show false = goodMs m by have : m = [] := List.length_eq_zero_iff.1 (by omega); rw [this]; rfl)
    obtain ⟨g, hg⟩ : ∃ g, goodMs m = g := ⟨_, rfl⟩
    rw [hg] at E ⊢
    have hI : (m.length : Int) < 1 := by omega
    clear hg hl0
    go_enter Tryz.func11, Tryz.ntmps11
    go_wp2_with fail
    go_ret
    exact ⟨ret_bool E.out, Below.refl _ _⟩
  · by_cases hl1 : 100 < m.length
    · have E := Lib.hid (show false = goodMs m by unfold goodMs; rw [decide_eq_false (by omega), Bool.false_and])
      obtain ⟨g, hg⟩ : ∃ g, goodMs m = g := ⟨_, rfl⟩
      rw [hg] at E ⊢
      have hI0 : ¬ (m.length : Int) < 1 := by omega
      have hI1 : (100 : Int) < m.length := by omega
      clear hg hl0 hl1
      go_enter Tryz.func11, Tryz.ntmps11
      go_wp2_with fail
      go_ret
      exact ⟨ret_bool E.out, Below.refl _ _⟩
    · have EG := Lib.hid (show goodMs m = whB 1 m by unfold goodMs; rw [decide_eq_true (by omega), Bool.true_and])
      have EB := Lib.hid (fun k c => goodMs_bad (m := m) (k := k) (c := c))
      obtain ⟨g, hg⟩ : ∃ g, goodMs m = g := ⟨_, rfl⟩
      rw [hg] at EG EB ⊢
      have hI0 : ¬ (m.length : Int) < 1 := by omega
      have hI1 : ¬ (100 : Int) < m.length := by omega
      clear hg
      go_enter Tryz.func11, Tryz.ntmps11
      go_wp2_with fail
      go_loopw [3] (fun i wr => ∃ k : Nat, i = .int .i64 k ∧ k ≤ m.length ∧ Hid (∀ c ∈ m.take k, goodC c = true) ∧ Hid (Below w.heap.size w wr)) (fun i _ => m.length - (intOf i).toNat)
      case atStart => exact ⟨0, rfl, Nat.zero_le _, Lib.hid (by simp), Lib.hid (Below.refl _ _)⟩
      case round =>
        obtain ⟨k, rfl, hk, HG, HB⟩ := hrel
        by_cases hlt : k < m.length
        · have hx := Lib.hid (List.getElem?_eq_getElem hlt)
          generalize m[k] = c at *
          obtain ⟨b, o, cap', e, hb, -, c0, c1, c2, c3⟩ := ce_cells (H.out.below HB.out) hx.out
          cases e
          obtain ⟨ck, t, n, s⟩ := c
          simp only at c0 c1 c2 c3
          have hkI : (k : Int) < m.length := by omega
          have HE := text_emptyD s
          have BA := Lib.hid (fun o => bl_alloc HB.out o)
          by_cases k0 : ck = 0
          · subst k0
            have GN := Lib.hid (good_num' t n s)
            by_cases d0 : t = 0
            · subst d0
              by_cases d1 : s.size = 0
              · rw [decide_eq_true d1] at HE
                cases d2 : (n == wWrap n)
                · have E := Lib.hid (show false = g from (EB.out k _ hx.out (by rw [GN.out, d2]; simp)).symm)
                  have D2 := d2
                  clear GN
                  go_wp2_with fail
                  go_quiet ((go_at_call 33; exact Calls.quiet_of_same ((refWrap_any _ _).mono fun e w' ⟨h1, h2⟩ => ⟨h1, h2.symm⟩)))
                  go_wp2_with fail
                  go_ret
                  exact ⟨ret_bool E.out, by first | exact BA.out _ | exact below_draws (BA.out _) _⟩
                · have E := Lib.hid (show goodC (0, 0, n, s) = true by rw [GN.out, d2, decide_eq_true d1]; rfl)
                  clear GN d1
                  go_wp2_with fail
                  go_quiet ((go_at_call 33; exact Calls.quiet_of_same ((refWrap_any _ _).mono fun e w' ⟨h1, h2⟩ => ⟨h1, h2.symm⟩)))
                  go_wp2_with fail
                  go_roundw
                  case rel => exact ⟨k + 1, by go_num, by omega, Lib.hid (take_good HG.out hx.out E.out), Lib.hid (by first | exact BA.out _ | exact below_draws (BA.out _) _)⟩
                  case measure => simp [intOf]; omega
              · rw [decide_eq_false d1] at HE
                have E := Lib.hid (show false = g from (EB.out k _ hx.out (by rw [GN.out, decide_eq_false d1]; simp)).symm)
                clear GN d1
                go_wp2_with fail
                go_quiet ((go_at_call 33; exact Calls.quiet_of_same ((refWrap_any _ _).mono fun e w' ⟨h1, h2⟩ => ⟨h1, h2.symm⟩)))
                go_wp2_with fail
                go_ret
                exact ⟨ret_bool E.out, by first | exact BA.out _ | exact below_draws (BA.out _) _⟩
            · have u0 : (t == 0) = false := beq_eq_false_iff_ne.2 d0
              have E := Lib.hid (show false = g from (EB.out k _ hx.out (by rw [GN.out, decide_eq_false d0]; simp)).symm)
              clear GN d0 HE
              go_wp2_with fail
              go_quiet ((go_at_call 33; exact Calls.quiet_of_same ((refWrap_any _ _).mono fun e w' ⟨h1, h2⟩ => ⟨h1, h2.symm⟩)))
              go_wp2_with fail
              go_ret
              exact ⟨ret_bool E.out, by first | exact BA.out _ | exact below_draws (BA.out _) _⟩
          · have v0 : (ck == 0) = false := beq_eq_false_iff_ne.2 k0
            by_cases k1 : ck = 1
            · subst k1
              by_cases d0 : 0 ≤ t
              · by_cases d1 : t ≤ 255
                · by_cases d2 : 1 ≤ n
                  · by_cases d3 : n ≤ 8
                    · by_cases d4 : s.size = 0
                      · rw [decide_eq_true d4] at HE
                        have E := Lib.hid (show goodC (1, t, n, s) = true by rw [good_blk]; exact decide_eq_true ⟨d0, d1, d2, d3, d4⟩)
                        go_wp2_with fail
                        go_roundw
                        case rel => exact ⟨k + 1, by go_num, by omega, Lib.hid (take_good HG.out hx.out E.out), Lib.hid (by first | exact BA.out _ | exact below_draws (BA.out _) _)⟩
                        case measure => simp [intOf]; omega
                      · rw [decide_eq_false d4] at HE
                        have E := Lib.hid (show false = g from (EB.out k _ hx.out (by rw [good_blk]; exact decide_eq_false fun h => d4 h.2.2.2.2)).symm)
                        go_wp2_with fail
                        go_ret
                        exact ⟨ret_bool E.out, by first | exact BA.out _ | exact below_draws (BA.out _) _⟩
                    · have E := Lib.hid (show false = g from (EB.out k _ hx.out (by rw [good_blk]; exact decide_eq_false fun h => d3 h.2.2.2.1)).symm)
                      go_wp2_with fail
                      go_ret
                      exact ⟨ret_bool E.out, by first | exact BA.out _ | exact below_draws (BA.out _) _⟩
                  · have E := Lib.hid (show false = g from (EB.out k _ hx.out (by rw [good_blk]; exact decide_eq_false fun h => d2 h.2.2.1)).symm)
                    go_wp2_with fail
                    go_ret
                    exact ⟨ret_bool E.out, by first | exact BA.out _ | exact below_draws (BA.out _) _⟩
                · have E := Lib.hid (show false = g from (EB.out k _ hx.out (by rw [good_blk]; exact decide_eq_false fun h => d1 h.2.1)).symm)
                  go_wp2_with fail
                  go_ret
                  exact ⟨ret_bool E.out, by first | exact BA.out _ | exact below_draws (BA.out _) _⟩
              · have E := Lib.hid (show false = g from (EB.out k _ hx.out (by rw [good_blk]; exact decide_eq_false fun h => d0 h.1)).symm)
                go_wp2_with fail
                go_ret
                exact ⟨ret_bool E.out, by first | exact BA.out _ | exact below_draws (BA.out _) _⟩
            · have v1 : (ck == 1) = false := beq_eq_false_iff_ne.2 k1
              by_cases k2 : ck = 2
              · subst k2
                by_cases d0 : t = 0
                · have u0 : (t == 0) = true := beq_iff_eq.2 d0
                  have U0 := Lib.hid d0
                  clear d0
                  have d0 : Hid (t = 0) := U0
                  by_cases d1 : n = 0
                  · have u1 : (n == 0) = true := beq_iff_eq.2 d1
                    have U1 := Lib.hid d1
                    clear d1
                    have d1 : Hid (n = 0) := U1
                    by_cases d2 : s.size ≤ 400
                    · have u2 : (s.size : Int) ≤ 400 := by omega
                      have E := Lib.hid (show goodC (2, t, n, s) = true by rw [good_str']; exact decide_eq_true ⟨d0, d1, d2⟩)
                      go_wp2_with fail
                      go_roundw
                      case rel => exact ⟨k + 1, by go_num, by omega, Lib.hid (take_good HG.out hx.out E.out), Lib.hid (by first | exact BA.out _ | exact below_draws (BA.out _) _)⟩
                      case measure => simp [intOf]; omega
                    · have u2 : ¬ (s.size : Int) ≤ 400 := by omega
                      have E := Lib.hid (show false = g from (EB.out k _ hx.out (by rw [good_str']; exact decide_eq_false fun h => d2 h.2.2)).symm)
                      go_wp2_with fail
                      go_ret
                      exact ⟨ret_bool E.out, by first | exact BA.out _ | exact below_draws (BA.out _) _⟩
                  · have u1 : (n == 0) = false := beq_eq_false_iff_ne.2 d1
                    have E := Lib.hid (show false = g from (EB.out k _ hx.out (by rw [good_str']; exact decide_eq_false fun h => d1 h.2.1)).symm)
                    go_wp2_with fail
                    go_ret
                    exact ⟨ret_bool E.out, by first | exact BA.out _ | exact below_draws (BA.out _) _⟩
                · have u0 : (t == 0) = false := beq_eq_false_iff_ne.2 d0
                  have E := Lib.hid (show false = g from (EB.out k _ hx.out (by rw [good_str']; exact decide_eq_false fun h => d0 h.1)).symm)
                  go_wp2_with fail
                  go_ret
                  exact ⟨ret_bool E.out, by first | exact BA.out _ | exact below_draws (BA.out _) _⟩
              · have v2 : (ck == 2) = false := beq_eq_false_iff_ne.2 k2
                have E := Lib.hid (show false = g from (EB.out k _ hx.out (by unfold goodC; rw [if_neg k0, if_neg k1, if_neg k2])).symm)
                clear k0 k1 k2 HE
                go_wp2_with fail
                go_ret
                exact ⟨ret_bool E.out, BA.out _⟩
        · have hkI : ¬ (k : Int) < m.length := by omega
          obtain rfl : k = m.length := by omega
          have AL := Lib.hid (show ∀ c ∈ m, goodC c = true by have := HG.out; rwa [List.take_length] at this)
          go_wp2_with fail
          refine (skip_any (H.out.below HB.out) (by omega) AL.out).mono ?_
          rintro e w' ⟨r, rfl, hr, rfl⟩
          rw [← EG.out] at hr
          have HR := Lib.hid hr
          clear hr
          go_wp2_with fail
          go_ret
          exact ⟨ret_bool (by rw [← HR.out]; by_cases h : r = (m.length : Int) <;> simp [h]), HB.out⟩
end Go.Proofs.YtnjpjhlodamanaaGreatDoor

/-
  The document's answers on an object alone (stockpotref03: May, Words).
  Conditions: as each states.
-/
namespace Go.Proofs.YtnjpjhlodamanaaGreatDoor
set_option linter.unusedVariables false
set_option linter.unusedSimpArgs false
open Go.ChangeShapes Go.WideShapes Go.ChangeAt Go.RowKit
set_option maxRecDepth 100000

theorem text_empty (s : ByteArray) : s.toList.isEmpty = decide (s.size = 0) := by
  rw [Lib.toList_data, Lib.size_eq]
  cases s.data.toList <;> simp

/-- 'headR', read as the document writes it. -/
theorem headR_1 (t : Int) (nf nt : Nat) : headR 1 t nf nt = decide (0 ≤ t ∧ t ≤ 255 ∧ 1 ≤ nf ∧ nf ≤ 8 ∧ nt = 0) := by
  unfold headR hasH sizeH mayH
  rw [if_neg (by decide), if_neg (by decide), Bool.eq_iff_iff, Bool.and_eq_true, decide_eq_true_eq, decide_eq_true_eq, decide_eq_true_eq]
  omega
theorem headR_2 (t : Int) (nf nt : Nat) : headR 2 t nf nt = decide (t = 0 ∧ nf = 0 ∧ nt ≤ 400) := by
  unfold headR hasH sizeH mayH
  rw [if_pos rfl, if_pos rfl, Bool.eq_iff_iff, Bool.and_eq_true, decide_eq_true_eq, decide_eq_true_eq, decide_eq_true_eq]
  omega
theorem headR_3 (t : Int) (nf nt : Nat) : headR 3 t nf nt = decide (t = 0 ∧ nf ≤ 400 ∧ nt = 0) := by
  unfold headR hasH sizeH mayH
  rw [if_neg (by decide), if_neg (by decide), Bool.eq_iff_iff, Bool.and_eq_true, decide_eq_true_eq, decide_eq_true_eq, decide_eq_true_eq]
  omega
theorem headR_4 (t : Int) (nf nt : Nat) : headR 4 t nf nt = decide (0 ≤ t ∧ t < 60 ∧ nf ≤ 30 ∧ nt = 0) := by
  unfold headR hasH sizeH mayH
  rw [if_neg (by decide), if_neg (by decide), Bool.eq_iff_iff, Bool.and_eq_true, decide_eq_true_eq, decide_eq_true_eq, decide_eq_true_eq]
  omega
theorem headR_other (k t : Int) (nf nt : Nat) (h1 : k ≠ 1) (h2 : k ≠ 2) (h3 : k ≠ 3) (h4 : k ≠ 4) : headR k t nf nt = false := by
  cases h : headR k t nf nt with
  | false => rfl
  | true =>
    rcases headR_kind h with e | e | e | e
    · exact absurd e h1
    · exact absurd e h2
    · exact absurd e h3
    · exact absurd e h4

set_option maxHeartbeats 2000000 in
theorem refMay_1 (t : Int) (a : Option Addr) (nf c : Nat) (s : ByteArray) (w : World) :
    Calls Tryz.prog 57 #[obj 1 t a nf c s] w fun e w' => e = .returned (.bool (headR 1 t nf s.size)) ∧ Below w.heap.size w w' := by
  have HE := Lib.hid (text_empty s)
  have HR := Lib.hid (fun t => headR_1 t nf s.size)
  go_enter Tryz.func57, Tryz.ntmps57
  go_wp2
  all_goals
    go_ret
    refine ⟨ret_bool ?_, bl_alloc (Below.refl _ _) _⟩
    rw [HR.out]
    first | (rw [HE.out]; exact decide_eq_decide.2 (by omega)) | (symm; exact decide_eq_false (by omega))
set_option maxHeartbeats 2000000 in
theorem refMay_2 (t : Int) (a : Option Addr) (nf c : Nat) (s : ByteArray) (w : World) :
    Calls Tryz.prog 57 #[obj 2 t a nf c s] w fun e w' => e = .returned (.bool (headR 2 t nf s.size)) ∧ Below w.heap.size w w' := by
  have HR := Lib.hid (fun t => headR_2 t nf s.size)
  go_enter Tryz.func57, Tryz.ntmps57
  go_wp2
  all_goals
    go_ret
    refine ⟨ret_bool ?_, bl_alloc (Below.refl _ _) _⟩
    rw [HR.out]
    first | exact decide_eq_decide.2 (by omega) | (symm; exact decide_eq_false (by omega))
set_option maxHeartbeats 2000000 in
theorem refMay_3 (t : Int) (a : Option Addr) (nf c : Nat) (s : ByteArray) (w : World) :
    Calls Tryz.prog 57 #[obj 3 t a nf c s] w fun e w' => e = .returned (.bool (headR 3 t nf s.size)) ∧ Below w.heap.size w w' := by
  have HE := Lib.hid (text_empty s)
  have HR := Lib.hid (fun t => headR_3 t nf s.size)
  go_enter Tryz.func57, Tryz.ntmps57
  go_wp2
  all_goals
    go_ret
    refine ⟨ret_bool ?_, bl_alloc (Below.refl _ _) _⟩
    rw [HR.out]
    first | (rw [HE.out]; exact decide_eq_decide.2 (by omega)) | (symm; exact decide_eq_false (by omega))
set_option maxHeartbeats 2000000 in
theorem refMay_4 (t : Int) (a : Option Addr) (nf c : Nat) (s : ByteArray) (w : World) :
    Calls Tryz.prog 57 #[obj 4 t a nf c s] w fun e w' => e = .returned (.bool (headR 4 t nf s.size)) ∧ Below w.heap.size w w' := by
  have HE := Lib.hid (text_empty s)
  have HR := Lib.hid (fun t => headR_4 t nf s.size)
  go_enter Tryz.func57, Tryz.ntmps57
  go_wp2
  all_goals
    go_ret
    refine ⟨ret_bool ?_, bl_alloc (Below.refl _ _) _⟩
    rw [HR.out]
    first | (rw [HE.out]; exact decide_eq_decide.2 (by omega)) | (symm; exact decide_eq_false (by omega))
theorem refMay_other (k t : Int) (a : Option Addr) (nf c : Nat) (s : ByteArray) (w : World) (h1 : k ≠ 1) (h2 : k ≠ 2) (h3 : k ≠ 3) (h4 : k ≠ 4) :
    Calls Tryz.prog 57 #[obj k t a nf c s] w fun e w' => e = .returned (.bool (headR k t nf s.size)) ∧ Below w.heap.size w w' := by
  rw [headR_other k t nf s.size h1 h2 h3 h4]
  have e1 : (k == 1) = false := by simpa using h1
  have e2 : (k == 2) = false := by simpa using h2
  have e3 : (k == 3) = false := by simpa using h3
  have e4 : (k == 4) = false := by simpa using h4
  clear h1 h2 h3 h4
  go_enter Tryz.func57, Tryz.ntmps57
  go_wp2
  go_ret
  exact ⟨rfl, bl_alloc (Below.refl _ _) _⟩

theorem refMay_any (k t : Int) (a : Option Addr) (nf c : Nat) (s : ByteArray) (w : World) :
    Calls Tryz.prog 57 #[obj k t a nf c s] w fun e w' => e = .returned (.bool (headR k t nf s.size)) ∧ Below w.heap.size w w' := by
  by_cases h1 : k = 1
  · subst h1; exact refMay_1 t a nf c s w
  by_cases h2 : k = 2
  · subst h2; exact refMay_2 t a nf c s w
  by_cases h3 : k = 3
  · subst h3; exact refMay_3 t a nf c s w
  by_cases h4 : k = 4
  · subst h4; exact refMay_4 t a nf c s w
  exact refMay_other k t a nf c s w h1 h2 h3 h4
end Go.Proofs.YtnjpjhlodamanaaGreatDoor

/-
  The document's answers on an object alone (stockpotref03: Head, Words, Lay).
  Conditions: as each states.
-/
namespace Go.Proofs.YtnjpjhlodamanaaGreatDoor
set_option linter.unusedVariables false
set_option linter.unusedSimpArgs false
open Go.ChangeShapes Go.WideShapes Go.ChangeAt Go.RowKit
set_option maxRecDepth 100000

section
variable {P : Program}
/-- append onto a row of the call's own, of whatever slice (nil and empty ones too), in a walk. -/
theorem wpList_append_any {w : World} {ops : Array Oper} {rest : List Oper} {o : Oper} {a : Act} {Q : Exit → Act → World → Prop} (hgd : o.guard = none) (s x : Operand) (t : TypeId)
    (ho : o.op = .call { callee := .builtin .append, args := #[s, x], argTypes := #[t, t] })
    (base : Nat) (e : TypeId) (i : TypeInfo) (z : Value) (size bytes : Nat) (ht : P.underlying t = some (.slice e)) (hi : P.info? e = some i) (hz : i.zero = some z)
    (hsize : i.size = size) (hby : i.bytes = bytes) (hzs : z.cells.size = size) (hsz : 0 < size)
    (v : Value) (n : Nat) (xs : List Value) (hs : a.eval s = v) (hown : w.ownsRow base e size v n xs)
    (xa : Option Addr) (m c : Nat) (news : List Value) (hx : a.eval x = .slice xa m c) (hl : news.length = m * size) (hsrc : m = 0 ∨ ∃ ad, xa = some ad ∧ ∀ j u, news[j]? = some u → w.cell? (ad.add j) = some u) (h1 : ∀ u ∈ news, u.oneCell' = true)
    (h63 : n + m ≤ maxLen) (hbytes : (n + m) * bytes ≤ 140737488355328) (hbase : base ≤ w.heap.size)
    (h : ∀ v' w', w'.ownsRow base e size v' (n + m) (xs ++ news) → w.grownBy w' v.ownBlock → (v'.ownBlock = v.ownBlock ∨ v'.ownBlock = some w.heap.size) → wpList P ops Q rest (a.put o.dst v') w') : wpList P ops Q (o :: rest) a w :=
  wpList_plain hgd fun K hK => by
    obtain ⟨v', w', hr, h2, h3, h4⟩ := run_append_any (P := P) w t o.type base e i z size bytes ht hi hz hsize hby hzs hsz v n xs hown xa m c news hl hsrc h1 h63 hbytes hbase
    unfold Oper.wp execOp
    simp only [ho, resolve, invoke, builtin, Sem.run_bind, Sem.run_pure, Result.andThen_ok, List.map_toArray, List.map_cons, List.map_nil, hs, hx, hr]
    exact hK _ _ (h v' w' h2 h3 h4)
end

set_option maxHeartbeats 2000000 in
theorem reWords_any (k t : Int) (a : Option Addr) (nf c : Nat) (s : ByteArray) (w : World) :
    Calls Tryz.prog 35 #[obj k t a nf c s] w fun e w' => e = .returned (.int .i64 (wordsR k t nf s.size : Nat)) ∧ Below w.heap.size w w' := by
  cases h : headR k t nf s.size with
  | true =>
    have h' := h
    simp only [headR, Bool.and_eq_true] at h'
    have hb := mayH_bounds h'.2
    have HM := Lib.hid (refMay_any k t a nf c s)
    rw [h] at HM
    by_cases hk : k = 2
    · subst hk
      have e : sizeH 2 nf s.size = s.size := rfl
      have e1 : wordsR 2 t nf s.size = 1 + (s.size + 7) / 8 := by rw [wordsR, if_pos h]; rfl
      rw [e] at hb
      rw [e1]
      clear e e1 h h'
      go_enter Tryz.func35, Tryz.ntmps35
      go_wp2_with fail
      refine (HM.out _).mono ?_
      rintro e w1 ⟨rfl, b1⟩
      have hc := (bcell b1).1 w.heap.size
      have hz := b1.size
      simp at hz
      have hz1 : w.heap.size < w1.heap.size := by omega
      have HB := Lib.hid (bl_call (bl_alloc (Below.refl _ _) _) b1)
      have c0 := hc 0 (by simp)
      have c1 := hc 1 (by simp)
      have c2 := hc 2 (by simp)
      have c3 := hc 3 (by simp)
      clear hc b1
      simp [go_sem] at c0 c1 c2 c3
      go_wp2
      go_ret
      exact ⟨ret_int (by omega), HB.out⟩
    · have e : sizeH k nf s.size = nf := by simp [sizeH, hk]
      have e1 : wordsR k t nf s.size = 1 + nf := by rw [wordsR, if_pos h, e]; simp [longH, hk]
      rw [e] at hb
      rw [e1]
      have hkb : (k == 2) = false := by simpa using hk
      clear e e1 h h' hk
      go_enter Tryz.func35, Tryz.ntmps35
      go_wp2_with fail
      refine (HM.out _).mono ?_
      rintro e w1 ⟨rfl, b1⟩
      have hc := (bcell b1).1 w.heap.size
      have hz := b1.size
      simp at hz
      have hz1 : w.heap.size < w1.heap.size := by omega
      have HB := Lib.hid (bl_call (bl_alloc (Below.refl _ _) _) b1)
      have c0 := hc 0 (by simp)
      have c1 := hc 1 (by simp)
      have c2 := hc 2 (by simp)
      have c3 := hc 3 (by simp)
      clear hc b1
      simp [go_sem] at c0 c1 c2 c3
      go_wp2
      go_ret
      exact ⟨ret_int (by omega), HB.out⟩
  | false =>
    have e1 : wordsR k t nf s.size = 0 := by rw [wordsR, if_neg (by rw [h]; decide)]
    rw [e1]
    have HM := Lib.hid (refMay_any k t a nf c s)
    rw [h] at HM
    clear h e1
    go_enter Tryz.func35, Tryz.ntmps35
    go_wp2_with fail
    refine (HM.out _).mono ?_
    rintro e w1 ⟨rfl, b1⟩
    have HB := Lib.hid (bl_call (bl_alloc (Below.refl _ _) _) b1)
    clear b1
    go_wp2
    go_ret
    exact ⟨rfl, HB.out⟩
end Go.Proofs.YtnjpjhlodamanaaGreatDoor

/-
  Package data: how many words a message takes; the document's.
  Conditions: as each states.
-/
namespace Go.Proofs.YtnjpjhlodamanaaGreatDoor
set_option linter.unusedVariables false
set_option linter.unusedSimpArgs false
open Go.ChangeShapes Go.WideShapes Go.ChangeAt Go.RowKit
set_option maxRecDepth 100000

theorem wordsR_le (k t : Int) (nf nt : Nat) : wordsR k t nf nt ≤ 401 := by
  unfold wordsR
  split
  · rename_i h
    have := headR_len h
    unfold longH
    split <;> omega
  · omega
theorem wordsM_take {m : List PCe} {k : Nat} {c : PCe} (hk : m[k]? = some c) : wordsM (m.take (k + 1)) = wordsM (m.take k) + wordsC c := by
  obtain ⟨hlt, e⟩ := List.getElem?_eq_some_iff.1 hk
  rw [List.take_succ_eq_append_getElem hlt, wordsM_app, e]
  simp [wordsM]
def wordsX (m : List PCe) : Nat := if goodMs m = true then wordsM m else 0
set_option maxHeartbeats 8000000 in
theorem dwords_any {S : Nat → Prop} {w : World} {v : Value} {m : List PCe} (h : rdAt S w v m.length (ceL m)) :
    Calls Tryz.prog 13 #[v] w fun e w' => e = .returned (.int .i64 (wordsX m : Nat)) ∧ Below w.heap.size w w' := by
  have H := Lib.hid h
  obtain ⟨a, cap, rfl⟩ := h.slice
  clear h
  cases hg : goodMs m
  · have E := Lib.hid (show 0 = wordsX m by unfold wordsX; rw [hg]; rfl)
    have HG := Lib.hid hg
    clear hg
    go_enter Tryz.func13, Tryz.ntmps13
    go_wp2_with fail
    refine (dgood_is HG.out H.out).mono ?_
    rintro e w1 ⟨rfl, b1⟩
    have B1 := Lib.hid b1
    clear b1
    go_wp2_with fail
    go_ret
    exact ⟨by rw [← E.out]; rfl, B1.out⟩
  · have E := Lib.hid (show wordsM m = wordsX m by unfold wordsX; rw [hg]; rfl)
    have hl := (goodMs_iff.1 hg).1
    have HG := Lib.hid hg
    have AL := Lib.hid (whB_all m 1 (goodMs_iff.1 hg).2)
    clear hg
    go_enter Tryz.func13, Tryz.ntmps13
    go_wp2_with fail
    refine (dgood_is HG.out H.out).mono ?_
    rintro e w1 ⟨rfl, b1⟩
    have B1 := Lib.hid b1
    clear b1
    go_wp2_with fail
    go_loopw [3, 11] (fun x i wr => ∃ k n : Nat, i = .int .i64 k ∧ x = .int .i64 n ∧ k ≤ m.length ∧ n ≤ 401 * k ∧ Hid (n = wordsM (m.take k)) ∧ Hid (Below w.heap.size w wr)) (fun _ i _ => m.length - (intOf i).toNat)
    case atStart => exact ⟨0, 0, rfl, rfl, Nat.zero_le _, by omega, Lib.hid (by simp [wordsM]), B1⟩
    case round =>
      obtain ⟨k, n, rfl, rfl, hk, hn, HN, HB⟩ := hrel
      by_cases hlt : k < m.length
      · have hx := Lib.hid (List.getElem?_eq_getElem hlt)
        have hgc := AL.out _ (List.getElem_mem hlt)
        generalize m[k] = c at *
        obtain ⟨b, o, cap', e, hb, -, c0, c1, c2, c3⟩ := ce_cells (H.out.below HB.out) hx.out
        cases e
        have hj := hasC_nn hgc
        obtain ⟨j, hj1⟩ : ∃ j : Nat, hasC c = (j : Int) := ⟨(hasC c).toNat, by omega⟩
        have hj8 : j ≤ 8 := by omega
        have EW := Lib.hid (show wordsC c = wordsR c.1 c.2.1 j c.2.2.2.size by unfold wordsC; rw [hj1]; rfl)
        have hle := wordsR_le c.1 c.2.1 j c.2.2.2.size
        obtain ⟨ck, ct, cn, cs⟩ := c
        simp only at c0 c1 c2 c3 EW hle
        have HJ := Lib.hid hj1
        clear hj hj1 hgc
        obtain ⟨q, hq⟩ : ∃ q, wordsR ck ct j cs.size = q := ⟨_, rfl⟩
        rw [hq] at EW hle
        have HQ := Lib.hid hq
        clear hq
        go_wp2_with fail
        refine (objectOf_any ck ct cn cs j HJ.out hj8 _).mono ?_
        rintro e w2 ⟨rb, rfl, hrb, hrow, b2⟩
        have B2 := Lib.hid (bl_call (bl_alloc HB.out _) b2)
        clear hrb hrow b2
        go_wp2_with fail
        refine (owords_any ck ct _ j j cs _).mono ?_
        rintro e w3 ⟨rfl, b3⟩
        have B3 := Lib.hid (bl_call B2.out b3)
        rw [HQ.out]
        clear b3
        go_wp2_with fail
        go_roundw
        case rel => exact ⟨k + 1, n + q, by go_num, by go_num, by omega, by omega, Lib.hid (by rw [wordsM_take hx.out, HN.out, EW.out]), B3⟩
        case measure => simp [intOf]; omega
      · obtain rfl : k = m.length := by omega
        have E2 := Lib.hid (show n = wordsX m by rw [HN.out, List.take_length, E.out])
        clear HN
        go_wp2_with fail
        go_ret
        exact ⟨by rw [← E2.out]; rfl, HB.out⟩

/-! the document's -/
def ObRefT (c : PCe) (j : Nat) (w : World) (e : Ending) (w' : World) : Prop := ∃ a, e = .returned (.agg #[.int .i64 c.1, .int .i64 c.2.1, .slice a j j, .string c.2.2.2]) ∧ Below w.heap.size w w'
set_option maxHeartbeats 4000000 in
theorem robject_str (s : ByteArray) (w : World) :
    Calls Tryz.prog 36 #[.agg #[.int .i64 2, .int .i64 0, .int .i64 0, .string s]] w (ObRefT (strCe s) 0 w) := by
  go_enter Tryz.func36, Tryz.ntmps36
  go_wp2_with fail
  refine bodyPost_ret (v := .agg #[.int .i64 2, .int .i64 0, .slice none 0 0, .string s]) (by simp [results, Tryz.results36, go_sem]) rfl ⟨_, rfl, ?_⟩
  repeat (first | exact Below.refl _ _ | refine bl_alloc ?_ _ | refine bl_set ?_ (by simp) _)
set_option maxHeartbeats 8000000 in
theorem robject_blk (t : Int) (j : Nat) (hj : j ≤ 8) (w : World) :
    Calls Tryz.prog 36 #[.agg #[.int .i64 1, .int .i64 t, .int .i64 j, .string ⟨#[]⟩]] w (ObRefT (blkCe t j) j w) := by
  have hmk := fun w => make_words j (by omega) w
  go_enter Tryz.func36, Tryz.ntmps36
  go_wp2_with fail
  go_region
  all_goals
    go_wp2_with fail
    refine bodyPost_ret (v := .agg #[.int .i64 1, .int .i64 t, .slice (some ⟨_, 0, none⟩) j j, .string ⟨#[]⟩]) (by simp [results, Tryz.results36, go_sem]; rfl) rfl ⟨_, rfl, ?_⟩
    repeat (first | exact Below.refl _ _ | refine bl_alloc ?_ _ | refine bl_set ?_ (by simp) _ | refine bl_drew ?_ | refine bl_drewN ?_ _)
theorem robject_any {c : PCe} (hg : goodC c = true) (h0 : c.1 ≠ 0) {j : Nat} (hj : hasC c = (j : Int)) (w : World) :
    Calls Tryz.prog 36 #[.agg #[.int .i64 c.1, .int .i64 c.2.1, .int .i64 c.2.2.1, .string c.2.2.2]] w (ObRefT c j w) := by
  by_cases h1 : c.1 = 1
  · obtain ⟨e, a1, a2, a3, a4⟩ := blk_cell hg h1
    have hn : c.2.2.1 = (j : Int) := by unfold hasC at hj; rw [if_pos h1] at hj; exact hj
    rw [hn] at e a3 a4
    rw [e]
    exact robject_blk c.2.1 j (by omega) w
  · obtain ⟨e, _⟩ := str_cell hg h0 h1
    have hz : j = 0 := by unfold hasC at hj; rw [if_neg h1] at hj; omega
    subst hz
    rw [e]
    exact robject_str c.2.2.2 w
set_option maxHeartbeats 8000000 in
theorem rwordsM_any {S : Nat → Prop} {w : World} {v : Value} {m : List PCe} (h : rdAt S w v m.length (ceL m)) (hg : goodMs m = true) :
    Calls Tryz.prog 12 #[v] w fun e w' => e = .returned (.int .i64 (wordsM m : Nat)) ∧ Below w.heap.size w w' := by
  have H := Lib.hid h
  obtain ⟨a, cap, rfl⟩ := h.slice
  clear h
  have hl := (goodMs_iff.1 hg).1
  have AL := Lib.hid (whB_all m 1 (goodMs_iff.1 hg).2)
  clear hg
  obtain ⟨X, hX⟩ : ∃ X, wordsM m = X := ⟨_, rfl⟩
  have E := Lib.hid hX
  rw [hX]
  clear hX
  go_enter Tryz.func12, Tryz.ntmps12
  go_wp2_with fail
  go_loopw [3, 4] (fun x i wr => ∃ k n : Nat, i = .int .i64 k ∧ x = .int .i64 n ∧ k ≤ m.length ∧ n ≤ 401 * k ∧ Hid (n = wordsM (m.take k)) ∧ Hid (Below w.heap.size w wr)) (fun _ i _ => m.length - (intOf i).toNat)
  case atStart => exact ⟨0, 0, rfl, rfl, Nat.zero_le _, by omega, Lib.hid (by simp [wordsM]), Lib.hid (Below.refl _ _)⟩
  case round =>
    obtain ⟨k, n, rfl, rfl, hk, hn, HN, HB⟩ := hrel
    by_cases hlt : k < m.length
    · have hx := Lib.hid (List.getElem?_eq_getElem hlt)
      have hgc := AL.out _ (List.getElem_mem hlt)
      generalize m[k] = c at *
      obtain ⟨b, o, cap', e, hb, -, c0, c1, c2, c3⟩ := ce_cells (H.out.below HB.out) hx.out
      cases e
      have hkI : (k : Int) < m.length := by omega
      by_cases h0 : c.1 = 0
      · have EW := Lib.hid (show wordsC c = 0 by obtain ⟨ck, ct, cn, cs⟩ := c; simp only at h0; subst h0; exact wordsC_num _ _ _)
        rw [h0] at c0
        clear hgc h0
        go_wp2_with fail
        go_roundw
        case rel => exact ⟨k + 1, n, by go_num, rfl, by omega, by omega, Lib.hid (by rw [wordsM_take hx.out, HN.out, EW.out, Nat.add_zero]), HB⟩
        case measure => simp [intOf]; omega
      · have t0 : (c.1 != 0) = true := by simpa using h0
        have hj := hasC_nn hgc
        obtain ⟨j, hj1⟩ : ∃ j : Nat, hasC c = (j : Int) := ⟨(hasC c).toNat, by omega⟩
        have hj8 : j ≤ 8 := by omega
        have EW := Lib.hid (show wordsC c = wordsR c.1 c.2.1 j c.2.2.2.size by unfold wordsC; rw [hj1]; rfl)
        have hle := wordsR_le c.1 c.2.1 j c.2.2.2.size
        have RO := Lib.hid (fun W => robject_any hgc h0 hj1 W)
        clear hgc h0 hj hj1
        obtain ⟨ck, ct, cn, cs⟩ := c
        simp only [ObRefT] at c0 c1 c2 c3 EW hle t0 RO
        obtain ⟨q, hq⟩ : ∃ q, wordsR ck ct j cs.size = q := ⟨_, rfl⟩
        rw [hq] at EW hle
        have HQ := Lib.hid hq
        clear hq
        go_wp2_with fail
        refine (RO.out _).mono ?_
        rintro e w2 ⟨oa, rfl, b2⟩
        have B2 := Lib.hid (bl_call HB.out b2)
        clear b2
        go_wp2_with fail
        refine (reWords_any ck ct oa j j cs _).mono ?_
        rintro e w3 ⟨rfl, b3⟩
        have B3 := Lib.hid (bl_call B2.out b3)
        rw [HQ.out]
        clear b3
        go_wp2_with fail
        go_roundw
        case rel => exact ⟨k + 1, n + q, by go_num, by go_num, by omega, by omega, Lib.hid (by rw [wordsM_take hx.out, HN.out, EW.out]), B3⟩
        case measure => simp [intOf]; omega
    · obtain rfl : k = m.length := by omega
      have E2 := Lib.hid (show n = X by rw [HN.out, List.take_length, E.out])
      have hkI : ¬ ((m.length : Nat) : Int) < m.length := by omega
      clear HN
      go_wp2_with fail
      go_ret
      exact ⟨by rw [← E2.out]; rfl, HB.out⟩
end Go.Proofs.YtnjpjhlodamanaaGreatDoor

/-
  Package data: what 'In' goes through, in memory.
  Conditions: as each states.
-/
namespace Go.Proofs.YtnjpjhlodamanaaGreatDoor
set_option linter.unusedVariables false
set_option linter.unusedSimpArgs false
open Go.ChangeShapes Go.WideShapes Go.ChangeAt Go.RowKit
set_option maxRecDepth 100000

def gapV (first : Int) (q : Nat × Nat) : List Value := gapC (wPlace (first + (q.1 : Int))) q.2
def gapsV (first : Int) (G : List (Nat × Nat)) : List Value := G.reverse.flatMap (gapV first)
theorem gapsV_cons (first : Int) (q : Nat × Nat) (G : List (Nat × Nat)) : gapsV first (q :: G) = gapsV first G ++ gapV first q := by simp [gapsV]
theorem gapsV_app (first : Int) (H G : List (Nat × Nat)) : gapsV first (H ++ G) = gapsV first G ++ gapsV first H := by simp [gapsV]
theorem gapsV_new (first : Int) (p j : Nat) : gapsV first (gapsOf p j) = gapDn (wPlace (first + (p : Int))) j j := by
  unfold gapsV gapsOf gapDn
  have e : ((List.range j).map fun f => ((p, f) : Nat × Nat)).reverse = (List.range j).map fun i => (p, j - 1 - i) := by
    apply List.ext_getElem
    · simp
    · intro i h1 h2
      simp
  rw [e, List.flatMap_map]
  rfl
/-- What stands in memory while 'In' goes on: the heap's variable, the result's, the gaps, the arena. -/
structure InW (first base half space tp : Int) (w : World) (g p : Nat) (F : Nat → Prop) (A : Ar) (G : List (Nat × Nat)) (wr : World) : Prop where
  u : Step F F w wr
  hp : rowAt wr w.heap.size 24 [.int .i64 base, .int .i64 half, .int .i64 space, .int .i64 tp]
  rs : rowAt wr (w.heap.size + 1) 24 [.int .i64 0, .int .i64 0, .int .i64 0, .int .i64 0]
  t : roomA wr g 78 2 G.length (gapsV first G)
  held : Held wr p F A
  gl : w.heap.size + 1 < g
  fl : ∀ k, F k → k < w.heap.size
section
variable {first base half space tp : Int} {w : World} {g p : Nat} {F : Nat → Prop} {A A' : Ar} {G : List (Nat × Nat)} {wr wr' : World}
theorem InW.below (h : InW first base half space tp w g p F A G wr) (hb : Below wr.heap.size wr wr') : InW first base half space tp w g p F A G wr' :=
  ⟨h.u.chain (Step.of_below hb), h.hp.below hb h.hp.lt, h.rs.below hb h.rs.lt, h.t.below hb, h.held.below hb, h.gl, h.fl⟩
theorem InW.step (h : InW first base half space tp w g p F A G wr) (hs : Step F F wr wr') (hh : Held wr' p F A') : InW first base half space tp w g p F A' G wr' :=
  ⟨h.u.chain hs, h.hp.upon hs.upon fun e => by have := h.fl _ e; omega, h.rs.upon hs.upon fun e => by have := h.fl _ e; omega, h.t.upon hs.upon fun e => by have := h.fl _ e; have := h.gl; omega, hh, h.gl, h.fl⟩
theorem step_new {S : Nat → Prop} (h : Step F F w wr) (hu : Upon S wr wr') (hS : ∀ k, S k → w.heap.size ≤ k) : Step F F w wr' :=
  ⟨h.upon.trans hu fun i hi hs => by have := hS i hs; omega, fun k hk => .inl hk⟩
theorem InW.heap (h : InW first base half space tp w g p F A G wr) (tp' : Int) :
    InW first base half space tp' w g p F A G ((((wr.setCell ⟨w.heap.size, 0, none⟩ (.int .i64 base)).setCell ⟨w.heap.size, 1, none⟩ (.int .i64 half)).setCell ⟨w.heap.size, 2, none⟩ (.int .i64 space)).setCell ⟨w.heap.size, 3, none⟩ (.int .i64 tp')) := by
  have hu : Upon (fun k => k = w.heap.size) wr _ := upon_set4 (S := fun k => k = w.heap.size) (w := wr) (b := w.heap.size) rfl (a := .int .i64 base) (c := .int .i64 half) (d := .int .i64 space) (e := .int .i64 tp')
  refine ⟨step_new h.u hu (fun k e => by omega), ((((h.hp.set 0 _).set 1 _).set 2 _).set 3 _), h.rs.upon hu (fun e => by omega), h.t.upon hu (fun e => by have := h.gl; omega), h.held.upon hu (fun k hk e => by have := h.fl k hk; omega), h.gl, h.fl⟩
theorem InW.todo (h : InW first base half space tp w g p F A G wr) {G' : List (Nat × Nat)} {n : Nat} (ht : roomA wr' g 78 2 n (gapsV first G')) (hn : n = G'.length) (hu : Upon (fun k => k = g) wr wr') : InW first base half space tp w g p F A G' wr' := by
  subst hn
  exact ⟨step_new h.u hu (fun k e => by have := h.gl; omega), h.hp.upon hu (fun e => by have := h.gl; omega), h.rs.upon hu (fun e => by have := h.gl; omega), ht, h.held.upon hu (fun k hk e => by have := h.fl k hk; have := h.gl; omega), h.gl, h.fl⟩
theorem InW.pop {q : Nat × Nat} (h : InW first base half space tp w g p F A (q :: G) wr) : roomA wr g 78 2 G.length (gapsV first G) ∧ wr.cell? ⟨g, G.length * 2, none⟩ = some (.int .u64 (wPlace (first + (q.1 : Int)))) ∧ wr.cell? ⟨g, G.length * 2 + 1, none⟩ = some (.int .i64 q.2) := by
  have ht := h.t
  rw [gapsV_cons] at ht
  obtain ⟨h1, h2⟩ := ht.pop (n := G.length) rfl
  exact ⟨h1, by have := h2 0 _ rfl; simpa using this, h2 1 _ rfl⟩
end
/-- What 'In' tells. -/
def InT (A : Ar) (base half space top : Int) (m : List PCe) (p : Nat) (F : Nat → Prop) (w : World) (e : Ending) (w' : World) : Prop :=
  Step F F w w' ∧ ((∃ obs A' X w0, A.objs base half space top = some obs ∧ goodMs m = true ∧ (wordsM m : Int) ≤ half - top ∧
      e = .returned (.tuple #[heapV base half space (top + (wordsM m : Nat)), .int .u64 w0, .bool true]) ∧ Held w' p F A' ∧ A'.objs base half space (top + (wordsM m : Nat)) = some (obs ++ X) ∧
      outL (space * half) (obs ++ X) [w0] m ∧ (flat X).length = wordsM m ∧ (∃ c r, m = c :: r ∧ w0 = wordOf (space * half) (flat obs).length c)) ∨
    (((A.objs base half space top).isSome && (goodMs m && decide ((wordsM m : Int) ≤ half - top))) = false ∧ e = .returned (.tuple #[heapV 0 0 0 0, .int .u64 0, .bool false]) ∧ Held w' p F A))
theorem wordOf_fit (first : Int) (n : Nat) (c : PCe) (h0 : 0 ≤ first) (h1 : first + (n : Int) ≤ 4294967295) : fitW (wordOf first n c) := by
  unfold wordOf
  split
  · exact wInt_fit _
  · rw [(place_two (x := first + (n : Int)) (by omega) h1).1]
    constructor <;> omega
end Go.Proofs.YtnjpjhlodamanaaGreatDoor

/-
  Package data: what comes in ('In'): its first test; where it may not be.
  Conditions: as each states.
-/
namespace Go.Proofs.YtnjpjhlodamanaaGreatDoor
set_option linter.unusedVariables false
set_option linter.unusedSimpArgs false
open Go.ChangeShapes Go.WideShapes Go.ChangeAt Go.RowKit
set_option maxRecDepth 100000

theorem dwords_is {S : Nat → Prop} {w : World} {v : Value} {m : List PCe} {n : Nat} (hn : wordsX m = n) (h : rdAt S w v m.length (ceL m)) :
    Calls Tryz.prog 13 #[v] w fun e w' => e = .returned (.int .i64 (n : Nat)) ∧ Below w.heap.size w w' := hn ▸ dwords_any h
set_option maxHeartbeats 16000000 in
theorem in_heap {w : World} {p : Nat} {F : Nat → Prop} {A : Ar} (hA : Held w p F A) (base half space top : Int) {v : Value} {m : List PCe} (hr : rdAt F w v m.length (ceL m)) (ho : A.objs base half space top = none) :
    Calls Tryz.prog 10 #[.pointer (some ⟨p, 0, none⟩), heapV base half space top, v] w (InT A base half space top m p F w) := by
  have E := Lib.hid (show ((A.objs base half space top).isSome && (goodMs m && decide ((wordsM m : Int) ≤ half - top))) = false by rw [ho]; rfl)
  obtain ⟨W, hW⟩ : ∃ W, W = (w.alloc (.cells #[.int .i64 base, .int .i64 half, .int .i64 space, .int .i64 top] 24)).alloc (.cells #[.int .i64 0, .int .i64 0, .int .i64 0, .int .i64 0] 24) := ⟨_, rfl⟩
  have R1 := Lib.hid (show rowAt W w.heap.size 24 [.int .i64 base, .int .i64 half, .int .i64 space, .int .i64 top] by rw [hW]; exact (rowAt.made _ _ _).alloc _)
  have R2 := Lib.hid (show rowAt W (w.heap.size + 1) 24 [.int .i64 0, .int .i64 0, .int .i64 0, .int .i64 0] by rw [hW]; exact rowAt.made_at _ _ (by simp))
  have BW := Lib.hid (show Below w.heap.size w W by rw [hW]; exact bl_alloc (bl_alloc (Below.refl _ _) _) _)
  have HR := Lib.hid hr
  have HA := Lib.hid hA
  have HG := Lib.hid (fun (W' : World) (hb : Below W.heap.size W W') => good_any (hA.below (bl_call BW.out hb)) base half space top)
  rw [ho] at HG
  clear ho
  clear hr hA
  go_enter Tryz.func10, Tryz.ntmps10
  go_wp2_with fail
  rw [← hW]
  clear hW
  refine wp_region_held_drew (S := fun w' => w'.cell? ⟨w.heap.size, 0, none⟩ = some (.int .i64 base) ∧ w'.cell? ⟨w.heap.size, 1, none⟩ = some (.int .i64 half) ∧ w'.cell? ⟨w.heap.size, 2, none⟩ = some (.int .i64 space) ∧ w'.cell? ⟨w.heap.size, 3, none⟩ = some (.int .i64 top)) (by kernel_rfl) (cells4 R1.out) (fun hH0 => ?_)
  refine wpAnyH_take (i := 0) (oi := _) (v := ?_) (by simp only [List.getElem?_toArray, List.getElem?_cons_succ, List.getElem?_cons_zero]; rfl) (by kernel_rfl) (by kernel_rfl) (by kernel_rfl) (by exact fun _ _ _ h => h) (Or.inl ⟨by rfl, ?_⟩) (by assumption) ?_
  rotate_left
  · (intro w hSw; (try dsimp only at hSw); go_simp; try with_reducible rfl)
  try simp only [Act.put, List.setIfInBounds_toArray, List.set_cons_zero, List.set_cons_succ]
  refine wpAnyH_take (i := 1) (oi := _) (v := ?_) (by simp only [List.getElem?_toArray, List.getElem?_cons_succ, List.getElem?_cons_zero]; rfl) (by kernel_rfl) (by kernel_rfl) (by kernel_rfl) (by exact fun _ _ _ h => h) (Or.inl ⟨by rfl, ?_⟩) (by assumption) ?_
  rotate_left
  · (intro w hSw; (try dsimp only at hSw); go_simp; try with_reducible rfl)
  try simp only [Act.put, List.setIfInBounds_toArray, List.set_cons_zero, List.set_cons_succ]
  refine wpAnyH_ready (rs := [2]) (by kernel_rfl) (by simp) ?_
  refine AllReadyH.cons rfl (fun K hK => ?_) AllReadyH.nil
  go_simp
  refine (HG.out _ (bl_drew (Below.refl _ _))).mono ?_
  rintro e v1 ⟨rfl, b1⟩
  have B1 := Lib.hid (bl_call (bl_drew (Below.refl W.heap.size W)) b1)
  have S1 := Lib.hid (R1.out.below B1.out R1.out.lt)
  clear b1
  go_wp2_with fail
  refine hK.out _ _ (cells4 S1.out) (fun hH1 => ?_)
  clear hK K hH0
  try simp only [Act.put, List.setIfInBounds_toArray, List.set_cons_zero, List.set_cons_succ]
  refine wpAnyH_take (i := 3) (oi := _) (v := ?_) (by simp only [List.getElem?_toArray, List.getElem?_cons_succ, List.getElem?_cons_zero]; rfl) (by kernel_rfl) (by kernel_rfl) (by kernel_rfl) (by exact fun _ _ _ h => h) (Or.inl ⟨by rfl, ?_⟩) (by assumption) ?_
  rotate_left
  · (intro w hSw; (try dsimp only at hSw); go_simp; try with_reducible rfl)
  try simp only [Act.put, List.setIfInBounds_toArray, List.set_cons_zero, List.set_cons_succ]
  refine wpAnyH_take (i := 4) (oi := _) (v := ?_) (by simp only [List.getElem?_toArray, List.getElem?_cons_succ, List.getElem?_cons_zero]; rfl) (by kernel_rfl) (by kernel_rfl) (by kernel_rfl) (by exact fun _ _ _ h => h) (Or.inl ⟨by rfl, ?_⟩) (by assumption) ?_
  rotate_left
  · (intro w hSw; (try dsimp only at hSw); go_simp; try with_reducible rfl)
  try simp only [Act.put, List.setIfInBounds_toArray, List.set_cons_zero, List.set_cons_succ]
  refine wpAnyH_take (i := 5) (oi := _) (v := undef) (by simp only [List.getElem?_toArray, List.getElem?_cons_succ, List.getElem?_cons_zero]; rfl) (by kernel_rfl) (by kernel_rfl) (by kernel_rfl) (by exact fun _ _ _ h => h) (Or.inr ⟨by rfl, rfl⟩) (by assumption) ?_
  try simp only [Act.put, List.setIfInBounds_toArray, List.set_cons_zero, List.set_cons_succ]
  refine wpAnyH_take (i := 6) (oi := _) (v := undef) (by simp only [List.getElem?_toArray, List.getElem?_cons_succ, List.getElem?_cons_zero]; rfl) (by kernel_rfl) (by kernel_rfl) (by kernel_rfl) (by exact fun _ _ _ h => h) (Or.inr ⟨by rfl, rfl⟩) (by assumption) ?_
  try simp only [Act.put, List.setIfInBounds_toArray, List.set_cons_zero, List.set_cons_succ]
  refine wpAnyH_take (i := 7) (oi := _) (v := undef) (by simp only [List.getElem?_toArray, List.getElem?_cons_succ, List.getElem?_cons_zero]; rfl) (by kernel_rfl) (by kernel_rfl) (by kernel_rfl) (by exact fun _ _ _ h => h) (Or.inr ⟨by rfl, rfl⟩) (by assumption) ?_
  try simp only [Act.put, List.setIfInBounds_toArray, List.set_cons_zero, List.set_cons_succ]
  refine wpAnyH_take (i := 8) (oi := _) (v := ?_) (by simp only [List.getElem?_toArray, List.getElem?_cons_succ, List.getElem?_cons_zero]; rfl) (by kernel_rfl) (by kernel_rfl) (by kernel_rfl) (by exact fun _ _ _ h => h) (Or.inl ⟨by rfl, ?_⟩) (by assumption) ?_
  rotate_left
  · (intro w hSw; (try dsimp only at hSw); go_simp; try with_reducible rfl)
  try simp only [Act.put, List.setIfInBounds_toArray, List.set_cons_zero, List.set_cons_succ]
  refine wpAnyH_take (i := 9) (oi := _) (v := ?_) (by simp only [List.getElem?_toArray, List.getElem?_cons_succ, List.getElem?_cons_zero]; rfl) (by kernel_rfl) (by kernel_rfl) (by kernel_rfl) (by exact fun _ _ _ h => h) (Or.inl ⟨by rfl, ?_⟩) (by assumption) ?_
  rotate_left
  · (intro w hSw; (try dsimp only at hSw); go_simp; try with_reducible rfl)
  try simp only [Act.put, List.setIfInBounds_toArray, List.set_cons_zero, List.set_cons_succ]
  refine wpAnyH_take (i := 10) (oi := _) (v := undef) (by simp only [List.getElem?_toArray, List.getElem?_cons_succ, List.getElem?_cons_zero]; rfl) (by kernel_rfl) (by kernel_rfl) (by kernel_rfl) (by exact fun _ _ _ h => h) (Or.inr ⟨by rfl, rfl⟩) (by assumption) ?_
  try simp only [Act.put, List.setIfInBounds_toArray, List.set_cons_zero, List.set_cons_succ]
  refine wpAnyH_take (i := 11) (oi := _) (v := undef) (by simp only [List.getElem?_toArray, List.getElem?_cons_succ, List.getElem?_cons_zero]; rfl) (by kernel_rfl) (by kernel_rfl) (by kernel_rfl) (by exact fun _ _ _ h => h) (Or.inr ⟨by rfl, rfl⟩) (by assumption) ?_
  try simp only [Act.put, List.setIfInBounds_toArray, List.set_cons_zero, List.set_cons_succ]
  refine wpAnyH_take (i := 12) (oi := _) (v := undef) (by simp only [List.getElem?_toArray, List.getElem?_cons_succ, List.getElem?_cons_zero]; rfl) (by kernel_rfl) (by kernel_rfl) (by kernel_rfl) (by exact fun _ _ _ h => h) (Or.inr ⟨by rfl, rfl⟩) (by assumption) ?_
  try simp only [Act.put, List.setIfInBounds_toArray, List.set_cons_zero, List.set_cons_succ]
  refine wpAnyH_take (i := 13) (oi := _) (v := undef) (by simp only [List.getElem?_toArray, List.getElem?_cons_succ, List.getElem?_cons_zero]; rfl) (by kernel_rfl) (by kernel_rfl) (by kernel_rfl) (by exact fun _ _ _ h => h) (Or.inr ⟨by rfl, rfl⟩) (by assumption) ?_
  try simp only [Act.put, List.setIfInBounds_toArray, List.set_cons_zero, List.set_cons_succ]
  refine wpAnyH_take (i := 14) (oi := _) (v := undef) (by simp only [List.getElem?_toArray, List.getElem?_cons_succ, List.getElem?_cons_zero]; rfl) (by kernel_rfl) (by kernel_rfl) (by kernel_rfl) (by exact fun _ _ _ h => h) (Or.inr ⟨by rfl, rfl⟩) (by assumption) ?_
  try simp only [Act.put, List.setIfInBounds_toArray, List.set_cons_zero, List.set_cons_succ]
  refine wpAnyH_take (i := 15) (oi := _) (v := undef) (by simp only [List.getElem?_toArray, List.getElem?_cons_succ, List.getElem?_cons_zero]; rfl) (by kernel_rfl) (by kernel_rfl) (by kernel_rfl) (by exact fun _ _ _ h => h) (Or.inr ⟨by rfl, rfl⟩) (by assumption) ?_
  try simp only [Act.put, List.setIfInBounds_toArray, List.set_cons_zero, List.set_cons_succ]
  refine wpAnyH_take (i := 16) (oi := _) (v := undef) (by simp only [List.getElem?_toArray, List.getElem?_cons_succ, List.getElem?_cons_zero]; rfl) (by kernel_rfl) (by kernel_rfl) (by kernel_rfl) (by exact fun _ _ _ h => h) (Or.inr ⟨by rfl, rfl⟩) (by assumption) ?_
  try simp only [Act.put, List.setIfInBounds_toArray, List.set_cons_zero, List.set_cons_succ]
  refine wpAnyH_take (i := 17) (oi := _) (v := undef) (by simp only [List.getElem?_toArray, List.getElem?_cons_succ, List.getElem?_cons_zero]; rfl) (by kernel_rfl) (by kernel_rfl) (by kernel_rfl) (by exact fun _ _ _ h => h) (Or.inr ⟨by rfl, rfl⟩) (by assumption) ?_
  try simp only [Act.put, List.setIfInBounds_toArray, List.set_cons_zero, List.set_cons_succ]
  refine wpAnyH_take (i := 18) (oi := _) (v := ?_) (by simp only [List.getElem?_toArray, List.getElem?_cons_succ, List.getElem?_cons_zero]; rfl) (by kernel_rfl) (by kernel_rfl) (by kernel_rfl) (by exact fun _ _ _ h => h) (Or.inl ⟨by rfl, ?_⟩) (by assumption) ?_
  rotate_left
  · (intro w hSw; (try dsimp only at hSw); go_simp; try with_reducible rfl)
  try simp only [Act.put, List.setIfInBounds_toArray, List.set_cons_zero, List.set_cons_succ]
  refine wpAnyH_done (by kernel_rfl) ?_ _
  have Q2 := Lib.hid (R2.out.below B1.out R2.out.lt)
  obtain ⟨z0, z1, z2, z3⟩ := cells4 Q2.out
  have f0 := Q2.out.free 0
  have f1 := Q2.out.free 1
  have f2 := Q2.out.free 2
  have f3 := Q2.out.free 3
  have l4 := Q2.out.lt
  go_wp2_with fail
  have BF := Lib.hid (bl_call BW.out B1.out)
  refine bodyPost_ret (v := .tuple #[heapV 0 0 0 0, .int .u64 0, .bool false]) ?_ rfl ⟨Step.of_below ?_, .inr ⟨E.out, rfl, HA.out.below ?_⟩⟩
  · simp [results, Tryz.results10, go_sem, z0, z1, z2, z3, l4]
  · repeat (first | with_reducible exact BF.out | refine bl_set ?_ (by simp) _)
  · repeat (first | with_reducible exact BF.out | refine bl_set ?_ (by simp) _)
set_option maxHeartbeats 16000000 in
theorem in_msg {w : World} {p : Nat} {F : Nat → Prop} {A : Ar} (hA : Held w p F A) (base half space top : Int) {v : Value} {m : List PCe} (hr : rdAt F w v m.length (ceL m)) (ho : (A.objs base half space top).isSome = true) (hg : goodMs m = false) :
    Calls Tryz.prog 10 #[.pointer (some ⟨p, 0, none⟩), heapV base half space top, v] w (InT A base half space top m p F w) := by
  have E := Lib.hid (show ((A.objs base half space top).isSome && (goodMs m && decide ((wordsM m : Int) ≤ half - top))) = false by rw [hg, Bool.false_and, Bool.and_false])
  obtain ⟨W, hW⟩ : ∃ W, W = (w.alloc (.cells #[.int .i64 base, .int .i64 half, .int .i64 space, .int .i64 top] 24)).alloc (.cells #[.int .i64 0, .int .i64 0, .int .i64 0, .int .i64 0] 24) := ⟨_, rfl⟩
  have R1 := Lib.hid (show rowAt W w.heap.size 24 [.int .i64 base, .int .i64 half, .int .i64 space, .int .i64 top] by rw [hW]; exact (rowAt.made _ _ _).alloc _)
  have R2 := Lib.hid (show rowAt W (w.heap.size + 1) 24 [.int .i64 0, .int .i64 0, .int .i64 0, .int .i64 0] by rw [hW]; exact rowAt.made_at _ _ (by simp))
  have BW := Lib.hid (show Below w.heap.size w W by rw [hW]; exact bl_alloc (bl_alloc (Below.refl _ _) _) _)
  have HR := Lib.hid hr
  have HA := Lib.hid hA
  have HG := Lib.hid (fun (W' : World) (hb : Below W.heap.size W W') => good_any (hA.below (bl_call BW.out hb)) base half space top)
  rw [ho] at HG
  have HM := Lib.hid hg
  clear ho hg
  clear hr hA
  go_enter Tryz.func10, Tryz.ntmps10
  go_wp2_with fail
  rw [← hW]
  clear hW
  refine wp_region_held_drew (S := fun w' => w'.cell? ⟨w.heap.size, 0, none⟩ = some (.int .i64 base) ∧ w'.cell? ⟨w.heap.size, 1, none⟩ = some (.int .i64 half) ∧ w'.cell? ⟨w.heap.size, 2, none⟩ = some (.int .i64 space) ∧ w'.cell? ⟨w.heap.size, 3, none⟩ = some (.int .i64 top)) (by kernel_rfl) (cells4 R1.out) (fun hH0 => ?_)
  refine wpAnyH_take (i := 0) (oi := _) (v := ?_) (by simp only [List.getElem?_toArray, List.getElem?_cons_succ, List.getElem?_cons_zero]; rfl) (by kernel_rfl) (by kernel_rfl) (by kernel_rfl) (by exact fun _ _ _ h => h) (Or.inl ⟨by rfl, ?_⟩) (by assumption) ?_
  rotate_left
  · (intro w hSw; (try dsimp only at hSw); go_simp; try with_reducible rfl)
  try simp only [Act.put, List.setIfInBounds_toArray, List.set_cons_zero, List.set_cons_succ]
  refine wpAnyH_take (i := 1) (oi := _) (v := ?_) (by simp only [List.getElem?_toArray, List.getElem?_cons_succ, List.getElem?_cons_zero]; rfl) (by kernel_rfl) (by kernel_rfl) (by kernel_rfl) (by exact fun _ _ _ h => h) (Or.inl ⟨by rfl, ?_⟩) (by assumption) ?_
  rotate_left
  · (intro w hSw; (try dsimp only at hSw); go_simp; try with_reducible rfl)
  try simp only [Act.put, List.setIfInBounds_toArray, List.set_cons_zero, List.set_cons_succ]
  refine wpAnyH_ready (rs := [2]) (by kernel_rfl) (by simp) ?_
  refine AllReadyH.cons rfl (fun K hK => ?_) AllReadyH.nil
  go_simp
  refine (HG.out _ (bl_drew (Below.refl _ _))).mono ?_
  rintro e v1 ⟨rfl, b1⟩
  have B1 := Lib.hid (bl_call (bl_drew (Below.refl W.heap.size W)) b1)
  have S1 := Lib.hid (R1.out.below B1.out R1.out.lt)
  clear b1
  go_wp2_with fail
  refine hK.out _ _ (cells4 S1.out) (fun hH1 => ?_)
  clear hK K hH0
  try simp only [Act.put, List.setIfInBounds_toArray, List.set_cons_zero, List.set_cons_succ]
  refine wpAnyH_take (i := 3) (oi := _) (v := ?_) (by simp only [List.getElem?_toArray, List.getElem?_cons_succ, List.getElem?_cons_zero]; rfl) (by kernel_rfl) (by kernel_rfl) (by kernel_rfl) (by exact fun _ _ _ h => h) (Or.inl ⟨by rfl, ?_⟩) (by assumption) ?_
  rotate_left
  · (intro w hSw; (try dsimp only at hSw); go_simp; try with_reducible rfl)
  try simp only [Act.put, List.setIfInBounds_toArray, List.set_cons_zero, List.set_cons_succ]
  refine wpAnyH_take (i := 4) (oi := _) (v := ?_) (by simp only [List.getElem?_toArray, List.getElem?_cons_succ, List.getElem?_cons_zero]; rfl) (by kernel_rfl) (by kernel_rfl) (by kernel_rfl) (by exact fun _ _ _ h => h) (Or.inl ⟨by rfl, ?_⟩) (by assumption) ?_
  rotate_left
  · (intro w hSw; (try dsimp only at hSw); go_simp; try with_reducible rfl)
  try simp only [Act.put, List.setIfInBounds_toArray, List.set_cons_zero, List.set_cons_succ]
  refine wpAnyH_take (i := 5) (oi := _) (v := ?_) (by simp only [List.getElem?_toArray, List.getElem?_cons_succ, List.getElem?_cons_zero]; rfl) (by kernel_rfl) (by kernel_rfl) (by kernel_rfl) (by exact fun _ _ _ h => h) (Or.inl ⟨by rfl, ?_⟩) (by assumption) ?_
  rotate_left
  · (intro w hSw; (try dsimp only at hSw); go_simp; try with_reducible rfl)
  try simp only [Act.put, List.setIfInBounds_toArray, List.set_cons_zero, List.set_cons_succ]
  refine wpAnyH_ready (rs := [6]) (by kernel_rfl) (by simp) ?_
  refine AllReadyH.cons rfl (fun K hK => ?_) AllReadyH.nil
  go_simp
  refine (dgood_is HM.out (HR.out.below (bl_call BW.out B1.out))).mono ?_
  rintro e v2 ⟨rfl, b2⟩
  have B2 := Lib.hid (bl_call (B1.out) b2)
  have S2 := Lib.hid (R1.out.below B2.out R1.out.lt)
  clear b2
  go_wp2_with fail
  refine hK.out _ _ (cells4 S2.out) (fun hH2 => ?_)
  clear hK K hH1
  try simp only [Act.put, List.setIfInBounds_toArray, List.set_cons_zero, List.set_cons_succ]
  refine wpAnyH_take (i := 7) (oi := _) (v := ?_) (by simp only [List.getElem?_toArray, List.getElem?_cons_succ, List.getElem?_cons_zero]; rfl) (by kernel_rfl) (by kernel_rfl) (by kernel_rfl) (by exact fun _ _ _ h => h) (Or.inl ⟨by rfl, ?_⟩) (by assumption) ?_
  rotate_left
  · (intro w hSw; (try dsimp only at hSw); go_simp; try with_reducible rfl)
  try simp only [Act.put, List.setIfInBounds_toArray, List.set_cons_zero, List.set_cons_succ]
  refine wpAnyH_take (i := 8) (oi := _) (v := ?_) (by simp only [List.getElem?_toArray, List.getElem?_cons_succ, List.getElem?_cons_zero]; rfl) (by kernel_rfl) (by kernel_rfl) (by kernel_rfl) (by exact fun _ _ _ h => h) (Or.inl ⟨by rfl, ?_⟩) (by assumption) ?_
  rotate_left
  · (intro w hSw; (try dsimp only at hSw); go_simp; try with_reducible rfl)
  try simp only [Act.put, List.setIfInBounds_toArray, List.set_cons_zero, List.set_cons_succ]
  refine wpAnyH_take (i := 9) (oi := _) (v := ?_) (by simp only [List.getElem?_toArray, List.getElem?_cons_succ, List.getElem?_cons_zero]; rfl) (by kernel_rfl) (by kernel_rfl) (by kernel_rfl) (by exact fun _ _ _ h => h) (Or.inl ⟨by rfl, ?_⟩) (by assumption) ?_
  rotate_left
  · (intro w hSw; (try dsimp only at hSw); go_simp; try with_reducible rfl)
  try simp only [Act.put, List.setIfInBounds_toArray, List.set_cons_zero, List.set_cons_succ]
  refine wpAnyH_take (i := 10) (oi := _) (v := undef) (by simp only [List.getElem?_toArray, List.getElem?_cons_succ, List.getElem?_cons_zero]; rfl) (by kernel_rfl) (by kernel_rfl) (by kernel_rfl) (by exact fun _ _ _ h => h) (Or.inr ⟨by rfl, rfl⟩) (by assumption) ?_
  try simp only [Act.put, List.setIfInBounds_toArray, List.set_cons_zero, List.set_cons_succ]
  refine wpAnyH_take (i := 11) (oi := _) (v := undef) (by simp only [List.getElem?_toArray, List.getElem?_cons_succ, List.getElem?_cons_zero]; rfl) (by kernel_rfl) (by kernel_rfl) (by kernel_rfl) (by exact fun _ _ _ h => h) (Or.inr ⟨by rfl, rfl⟩) (by assumption) ?_
  try simp only [Act.put, List.setIfInBounds_toArray, List.set_cons_zero, List.set_cons_succ]
  refine wpAnyH_take (i := 12) (oi := _) (v := undef) (by simp only [List.getElem?_toArray, List.getElem?_cons_succ, List.getElem?_cons_zero]; rfl) (by kernel_rfl) (by kernel_rfl) (by kernel_rfl) (by exact fun _ _ _ h => h) (Or.inr ⟨by rfl, rfl⟩) (by assumption) ?_
  try simp only [Act.put, List.setIfInBounds_toArray, List.set_cons_zero, List.set_cons_succ]
  refine wpAnyH_take (i := 13) (oi := _) (v := undef) (by simp only [List.getElem?_toArray, List.getElem?_cons_succ, List.getElem?_cons_zero]; rfl) (by kernel_rfl) (by kernel_rfl) (by kernel_rfl) (by exact fun _ _ _ h => h) (Or.inr ⟨by rfl, rfl⟩) (by assumption) ?_
  try simp only [Act.put, List.setIfInBounds_toArray, List.set_cons_zero, List.set_cons_succ]
  refine wpAnyH_take (i := 14) (oi := _) (v := undef) (by simp only [List.getElem?_toArray, List.getElem?_cons_succ, List.getElem?_cons_zero]; rfl) (by kernel_rfl) (by kernel_rfl) (by kernel_rfl) (by exact fun _ _ _ h => h) (Or.inr ⟨by rfl, rfl⟩) (by assumption) ?_
  try simp only [Act.put, List.setIfInBounds_toArray, List.set_cons_zero, List.set_cons_succ]
  refine wpAnyH_take (i := 15) (oi := _) (v := undef) (by simp only [List.getElem?_toArray, List.getElem?_cons_succ, List.getElem?_cons_zero]; rfl) (by kernel_rfl) (by kernel_rfl) (by kernel_rfl) (by exact fun _ _ _ h => h) (Or.inr ⟨by rfl, rfl⟩) (by assumption) ?_
  try simp only [Act.put, List.setIfInBounds_toArray, List.set_cons_zero, List.set_cons_succ]
  refine wpAnyH_take (i := 16) (oi := _) (v := undef) (by simp only [List.getElem?_toArray, List.getElem?_cons_succ, List.getElem?_cons_zero]; rfl) (by kernel_rfl) (by kernel_rfl) (by kernel_rfl) (by exact fun _ _ _ h => h) (Or.inr ⟨by rfl, rfl⟩) (by assumption) ?_
  try simp only [Act.put, List.setIfInBounds_toArray, List.set_cons_zero, List.set_cons_succ]
  refine wpAnyH_take (i := 17) (oi := _) (v := undef) (by simp only [List.getElem?_toArray, List.getElem?_cons_succ, List.getElem?_cons_zero]; rfl) (by kernel_rfl) (by kernel_rfl) (by kernel_rfl) (by exact fun _ _ _ h => h) (Or.inr ⟨by rfl, rfl⟩) (by assumption) ?_
  try simp only [Act.put, List.setIfInBounds_toArray, List.set_cons_zero, List.set_cons_succ]
  refine wpAnyH_take (i := 18) (oi := _) (v := ?_) (by simp only [List.getElem?_toArray, List.getElem?_cons_succ, List.getElem?_cons_zero]; rfl) (by kernel_rfl) (by kernel_rfl) (by kernel_rfl) (by exact fun _ _ _ h => h) (Or.inl ⟨by rfl, ?_⟩) (by assumption) ?_
  rotate_left
  · (intro w hSw; (try dsimp only at hSw); go_simp; try with_reducible rfl)
  try simp only [Act.put, List.setIfInBounds_toArray, List.set_cons_zero, List.set_cons_succ]
  refine wpAnyH_done (by kernel_rfl) ?_ _
  have Q2 := Lib.hid (R2.out.below B2.out R2.out.lt)
  obtain ⟨z0, z1, z2, z3⟩ := cells4 Q2.out
  have f0 := Q2.out.free 0
  have f1 := Q2.out.free 1
  have f2 := Q2.out.free 2
  have f3 := Q2.out.free 3
  have l4 := Q2.out.lt
  go_wp2_with fail
  have BF := Lib.hid (bl_call BW.out B2.out)
  refine bodyPost_ret (v := .tuple #[heapV 0 0 0 0, .int .u64 0, .bool false]) ?_ rfl ⟨Step.of_below ?_, .inr ⟨E.out, rfl, HA.out.below ?_⟩⟩
  · simp [results, Tryz.results10, go_sem, z0, z1, z2, z3, l4]
  · repeat (first | with_reducible exact BF.out | refine bl_set ?_ (by simp) _)
  · repeat (first | with_reducible exact BF.out | refine bl_set ?_ (by simp) _)
set_option maxHeartbeats 16000000 in
theorem in_room {w : World} {p : Nat} {F : Nat → Prop} {A : Ar} (hA : Held w p F A) (base half space top : Int) {v : Value} {m : List PCe} (hr : rdAt F w v m.length (ceL m)) (ho : (A.objs base half space top).isSome = true) (hg : goodMs m = true) (hw : half - top < (wordsM m : Int)) (hwr : IntKind.i64.wrap (half - top) = half - top) :
    Calls Tryz.prog 10 #[.pointer (some ⟨p, 0, none⟩), heapV base half space top, v] w (InT A base half space top m p F w) := by
  have E := Lib.hid (show ((A.objs base half space top).isSome && (goodMs m && decide ((wordsM m : Int) ≤ half - top))) = false by rw [decide_eq_false (by omega), Bool.and_false, Bool.and_false])
  obtain ⟨W, hW⟩ : ∃ W, W = (w.alloc (.cells #[.int .i64 base, .int .i64 half, .int .i64 space, .int .i64 top] 24)).alloc (.cells #[.int .i64 0, .int .i64 0, .int .i64 0, .int .i64 0] 24) := ⟨_, rfl⟩
  have R1 := Lib.hid (show rowAt W w.heap.size 24 [.int .i64 base, .int .i64 half, .int .i64 space, .int .i64 top] by rw [hW]; exact (rowAt.made _ _ _).alloc _)
  have R2 := Lib.hid (show rowAt W (w.heap.size + 1) 24 [.int .i64 0, .int .i64 0, .int .i64 0, .int .i64 0] by rw [hW]; exact rowAt.made_at _ _ (by simp))
  have BW := Lib.hid (show Below w.heap.size w W by rw [hW]; exact bl_alloc (bl_alloc (Below.refl _ _) _) _)
  have HR := Lib.hid hr
  have HA := Lib.hid hA
  have HG := Lib.hid (fun (W' : World) (hb : Below W.heap.size W W') => good_any (hA.below (bl_call BW.out hb)) base half space top)
  rw [ho] at HG
  have HM := Lib.hid hg
  obtain ⟨n, hn⟩ : ∃ n, wordsM m = n := ⟨_, rfl⟩
  have HW := Lib.hid (show wordsX m = n by unfold wordsX; rw [hg, ← hn]; rfl)
  rw [hn] at hw
  clear ho hg hn
  clear hr hA
  go_enter Tryz.func10, Tryz.ntmps10
  go_wp2_with fail
  rw [← hW]
  clear hW
  refine wp_region_held_drew (S := fun w' => w'.cell? ⟨w.heap.size, 0, none⟩ = some (.int .i64 base) ∧ w'.cell? ⟨w.heap.size, 1, none⟩ = some (.int .i64 half) ∧ w'.cell? ⟨w.heap.size, 2, none⟩ = some (.int .i64 space) ∧ w'.cell? ⟨w.heap.size, 3, none⟩ = some (.int .i64 top)) (by kernel_rfl) (cells4 R1.out) (fun hH0 => ?_)
  refine wpAnyH_take (i := 0) (oi := _) (v := ?_) (by simp only [List.getElem?_toArray, List.getElem?_cons_succ, List.getElem?_cons_zero]; rfl) (by kernel_rfl) (by kernel_rfl) (by kernel_rfl) (by exact fun _ _ _ h => h) (Or.inl ⟨by rfl, ?_⟩) (by assumption) ?_
  rotate_left
  · (intro w hSw; (try dsimp only at hSw); go_simp; try with_reducible rfl)
  try simp only [Act.put, List.setIfInBounds_toArray, List.set_cons_zero, List.set_cons_succ]
  refine wpAnyH_take (i := 1) (oi := _) (v := ?_) (by simp only [List.getElem?_toArray, List.getElem?_cons_succ, List.getElem?_cons_zero]; rfl) (by kernel_rfl) (by kernel_rfl) (by kernel_rfl) (by exact fun _ _ _ h => h) (Or.inl ⟨by rfl, ?_⟩) (by assumption) ?_
  rotate_left
  · (intro w hSw; (try dsimp only at hSw); go_simp; try with_reducible rfl)
  try simp only [Act.put, List.setIfInBounds_toArray, List.set_cons_zero, List.set_cons_succ]
  refine wpAnyH_ready (rs := [2]) (by kernel_rfl) (by simp) ?_
  refine AllReadyH.cons rfl (fun K hK => ?_) AllReadyH.nil
  go_simp
  refine (HG.out _ (bl_drew (Below.refl _ _))).mono ?_
  rintro e v1 ⟨rfl, b1⟩
  have B1 := Lib.hid (bl_call (bl_drew (Below.refl W.heap.size W)) b1)
  have S1 := Lib.hid (R1.out.below B1.out R1.out.lt)
  clear b1
  go_wp2_with fail
  refine hK.out _ _ (cells4 S1.out) (fun hH1 => ?_)
  clear hK K hH0
  try simp only [Act.put, List.setIfInBounds_toArray, List.set_cons_zero, List.set_cons_succ]
  refine wpAnyH_take (i := 3) (oi := _) (v := ?_) (by simp only [List.getElem?_toArray, List.getElem?_cons_succ, List.getElem?_cons_zero]; rfl) (by kernel_rfl) (by kernel_rfl) (by kernel_rfl) (by exact fun _ _ _ h => h) (Or.inl ⟨by rfl, ?_⟩) (by assumption) ?_
  rotate_left
  · (intro w hSw; (try dsimp only at hSw); go_simp; try with_reducible rfl)
  try simp only [Act.put, List.setIfInBounds_toArray, List.set_cons_zero, List.set_cons_succ]
  refine wpAnyH_take (i := 4) (oi := _) (v := ?_) (by simp only [List.getElem?_toArray, List.getElem?_cons_succ, List.getElem?_cons_zero]; rfl) (by kernel_rfl) (by kernel_rfl) (by kernel_rfl) (by exact fun _ _ _ h => h) (Or.inl ⟨by rfl, ?_⟩) (by assumption) ?_
  rotate_left
  · (intro w hSw; (try dsimp only at hSw); go_simp; try with_reducible rfl)
  try simp only [Act.put, List.setIfInBounds_toArray, List.set_cons_zero, List.set_cons_succ]
  refine wpAnyH_take (i := 5) (oi := _) (v := ?_) (by simp only [List.getElem?_toArray, List.getElem?_cons_succ, List.getElem?_cons_zero]; rfl) (by kernel_rfl) (by kernel_rfl) (by kernel_rfl) (by exact fun _ _ _ h => h) (Or.inl ⟨by rfl, ?_⟩) (by assumption) ?_
  rotate_left
  · (intro w hSw; (try dsimp only at hSw); go_simp; try with_reducible rfl)
  try simp only [Act.put, List.setIfInBounds_toArray, List.set_cons_zero, List.set_cons_succ]
  refine wpAnyH_ready (rs := [6]) (by kernel_rfl) (by simp) ?_
  refine AllReadyH.cons rfl (fun K hK => ?_) AllReadyH.nil
  go_simp
  refine (dgood_is HM.out (HR.out.below (bl_call BW.out B1.out))).mono ?_
  rintro e v2 ⟨rfl, b2⟩
  have B2 := Lib.hid (bl_call (B1.out) b2)
  have S2 := Lib.hid (R1.out.below B2.out R1.out.lt)
  clear b2
  go_wp2_with fail
  refine hK.out _ _ (cells4 S2.out) (fun hH2 => ?_)
  clear hK K hH1
  try simp only [Act.put, List.setIfInBounds_toArray, List.set_cons_zero, List.set_cons_succ]
  refine wpAnyH_take (i := 7) (oi := _) (v := ?_) (by simp only [List.getElem?_toArray, List.getElem?_cons_succ, List.getElem?_cons_zero]; rfl) (by kernel_rfl) (by kernel_rfl) (by kernel_rfl) (by exact fun _ _ _ h => h) (Or.inl ⟨by rfl, ?_⟩) (by assumption) ?_
  rotate_left
  · (intro w hSw; (try dsimp only at hSw); go_simp; try with_reducible rfl)
  try simp only [Act.put, List.setIfInBounds_toArray, List.set_cons_zero, List.set_cons_succ]
  refine wpAnyH_take (i := 8) (oi := _) (v := ?_) (by simp only [List.getElem?_toArray, List.getElem?_cons_succ, List.getElem?_cons_zero]; rfl) (by kernel_rfl) (by kernel_rfl) (by kernel_rfl) (by exact fun _ _ _ h => h) (Or.inl ⟨by rfl, ?_⟩) (by assumption) ?_
  rotate_left
  · (intro w hSw; (try dsimp only at hSw); go_simp; try with_reducible rfl)
  try simp only [Act.put, List.setIfInBounds_toArray, List.set_cons_zero, List.set_cons_succ]
  refine wpAnyH_take (i := 9) (oi := _) (v := ?_) (by simp only [List.getElem?_toArray, List.getElem?_cons_succ, List.getElem?_cons_zero]; rfl) (by kernel_rfl) (by kernel_rfl) (by kernel_rfl) (by exact fun _ _ _ h => h) (Or.inl ⟨by rfl, ?_⟩) (by assumption) ?_
  rotate_left
  · (intro w hSw; (try dsimp only at hSw); go_simp; try with_reducible rfl)
  try simp only [Act.put, List.setIfInBounds_toArray, List.set_cons_zero, List.set_cons_succ]
  refine wpAnyH_take (i := 10) (oi := _) (v := ?_) (by simp only [List.getElem?_toArray, List.getElem?_cons_succ, List.getElem?_cons_zero]; rfl) (by kernel_rfl) (by kernel_rfl) (by kernel_rfl) (by exact fun _ _ _ h => h) (Or.inl ⟨by rfl, ?_⟩) (by assumption) ?_
  rotate_left
  · (intro w hSw; (try dsimp only at hSw); go_simp; try with_reducible rfl)
  try simp only [Act.put, List.setIfInBounds_toArray, List.set_cons_zero, List.set_cons_succ]
  refine wpAnyH_take (i := 12) (oi := _) (v := ?_) (by simp only [List.getElem?_toArray, List.getElem?_cons_succ, List.getElem?_cons_zero]; rfl) (by kernel_rfl) (by kernel_rfl) (by kernel_rfl) (by exact fun _ _ _ h => h) (Or.inl ⟨by rfl, ?_⟩) (by assumption) ?_
  rotate_left
  · (intro w hSw; (try dsimp only at hSw); go_simp; try with_reducible rfl)
  try simp only [Act.put, List.setIfInBounds_toArray, List.set_cons_zero, List.set_cons_succ]
  refine wpAnyH_take (i := 13) (oi := _) (v := ?_) (by simp only [List.getElem?_toArray, List.getElem?_cons_succ, List.getElem?_cons_zero]; rfl) (by kernel_rfl) (by kernel_rfl) (by kernel_rfl) (by exact fun _ _ _ h => h) (Or.inl ⟨by rfl, ?_⟩) (by assumption) ?_
  rotate_left
  · (intro w hSw; (try dsimp only at hSw); go_simp; try with_reducible rfl)
  try simp only [Act.put, List.setIfInBounds_toArray, List.set_cons_zero, List.set_cons_succ]
  refine wpAnyH_take (i := 14) (oi := _) (v := ?_) (by simp only [List.getElem?_toArray, List.getElem?_cons_succ, List.getElem?_cons_zero]; rfl) (by kernel_rfl) (by kernel_rfl) (by kernel_rfl) (by exact fun _ _ _ h => h) (Or.inl ⟨by rfl, ?_⟩) (by assumption) ?_
  rotate_left
  · (intro w hSw; (try dsimp only at hSw); go_simp; try with_reducible rfl)
  try simp only [Act.put, List.setIfInBounds_toArray, List.set_cons_zero, List.set_cons_succ]
  refine wpAnyH_take (i := 15) (oi := _) (v := ?_) (by simp only [List.getElem?_toArray, List.getElem?_cons_succ, List.getElem?_cons_zero]; rfl) (by kernel_rfl) (by kernel_rfl) (by kernel_rfl) (by exact fun _ _ _ h => h) (Or.inl ⟨by rfl, ?_⟩) (by assumption) ?_
  rotate_left
  · (intro w hSw; (try dsimp only at hSw); go_simp; try with_reducible rfl)
  try simp only [Act.put, List.setIfInBounds_toArray, List.set_cons_zero, List.set_cons_succ]
  refine wpAnyH_take (i := 16) (oi := _) (v := ?_) (by simp only [List.getElem?_toArray, List.getElem?_cons_succ, List.getElem?_cons_zero]; rfl) (by kernel_rfl) (by kernel_rfl) (by kernel_rfl) (by exact fun _ _ _ h => h) (Or.inl ⟨by rfl, ?_⟩) (by assumption) ?_
  rotate_left
  · (intro w hSw; (try dsimp only at hSw); go_simp; try with_reducible rfl)
  try simp only [Act.put, List.setIfInBounds_toArray, List.set_cons_zero, List.set_cons_succ]
  refine wpAnyH_ready (rs := [11]) (by kernel_rfl) (by simp) ?_
  refine AllReadyH.cons rfl (fun K hK => ?_) AllReadyH.nil
  go_simp
  refine (dwords_is HW.out (HR.out.below (bl_call BW.out B2.out))).mono ?_
  rintro e v3 ⟨rfl, b3⟩
  have B3 := Lib.hid (bl_call (B2.out) b3)
  have S3 := Lib.hid (R1.out.below B3.out R1.out.lt)
  clear b3
  go_wp2_with fail
  refine hK.out _ _ (cells4 S3.out) (fun hH3 => ?_)
  clear hK K hH2
  try simp only [Act.put, List.setIfInBounds_toArray, List.set_cons_zero, List.set_cons_succ]
  refine wpAnyH_take (i := 17) (oi := _) (v := ?_) (by simp only [List.getElem?_toArray, List.getElem?_cons_succ, List.getElem?_cons_zero]; rfl) (by kernel_rfl) (by kernel_rfl) (by kernel_rfl) (by exact fun _ _ _ h => h) (Or.inl ⟨by rfl, ?_⟩) (by assumption) ?_
  rotate_left
  · (intro w hSw; (try dsimp only at hSw); go_simp; try with_reducible rfl)
  try simp only [Act.put, List.setIfInBounds_toArray, List.set_cons_zero, List.set_cons_succ]
  refine wpAnyH_take (i := 18) (oi := _) (v := ?_) (by simp only [List.getElem?_toArray, List.getElem?_cons_succ, List.getElem?_cons_zero]; rfl) (by kernel_rfl) (by kernel_rfl) (by kernel_rfl) (by exact fun _ _ _ h => h) (Or.inl ⟨by rfl, ?_⟩) (by assumption) ?_
  rotate_left
  · (intro w hSw; (try dsimp only at hSw); go_simp; try with_reducible rfl)
  try simp only [Act.put, List.setIfInBounds_toArray, List.set_cons_zero, List.set_cons_succ]
  refine wpAnyH_done (by kernel_rfl) ?_ _
  have Q2 := Lib.hid (R2.out.below B3.out R2.out.lt)
  obtain ⟨z0, z1, z2, z3⟩ := cells4 Q2.out
  have f0 := Q2.out.free 0
  have f1 := Q2.out.free 1
  have f2 := Q2.out.free 2
  have f3 := Q2.out.free 3
  have l4 := Q2.out.lt
  go_wp2_with fail
  have BF := Lib.hid (bl_call BW.out B3.out)
  refine bodyPost_ret (v := .tuple #[heapV 0 0 0 0, .int .u64 0, .bool false]) ?_ rfl ⟨Step.of_below ?_, .inr ⟨E.out, rfl, HA.out.below ?_⟩⟩
  · simp [results, Tryz.results10, go_sem, z0, z1, z2, z3, l4]
  · repeat (first | with_reducible exact BF.out | refine bl_set ?_ (by simp) _)
  · repeat (first | with_reducible exact BF.out | refine bl_set ?_ (by simp) _)
end Go.Proofs.YtnjpjhlodamanaaGreatDoor
