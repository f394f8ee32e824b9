/-
  container/heap over a row: down.
  Conditions: as stated.
-/
import Derived.Test.YtgcmkhbpkmfpkaaQE
namespace Go.Proofs.Ytgcmkhbpkmfpkaa
open Go.ChangeShapes Go.WideShapes Go.ChangeAt Go.RowKit
set_option linter.unusedVariables false
set_option linter.unusedSimpArgs false
set_option maxRecDepth 100000

def DnPost (p : Nat) (F : Nat → Prop) (l : List En) (n s : Nat) (w : World) (e : Ending) (w' : World) : Prop :=
  ∃ b l', e = .returned (.bool b) ∧ HQ w' p F l' ∧ Moved l l' n ∧ Upon F w w' ∧ (b = true → HeapF (atE l') n) ∧ (b = false → UpInv (atE l') n s)

theorem child_of {a : Nat → En} {n i : Nat} (h : 2 * i + 1 < n) :
    (2 * i + 2 < n ∧ ltE (a (2 * i + 2)) (a (2 * i + 1)) ∧ Child a n i (2 * i + 2)) ∨ (2 * i + 2 < n ∧ ¬ ltE (a (2 * i + 2)) (a (2 * i + 1)) ∧ Child a n i (2 * i + 1)) ∨ (n ≤ 2 * i + 2 ∧ Child a n i (2 * i + 1)) := by
  have hc : ∀ c, 0 < c → (c - 1) / 2 = i → c = 2 * i + 1 ∨ c = 2 * i + 2 := fun c h1 h2 => by omega
  by_cases h2 : 2 * i + 2 < n
  · by_cases hl : ltE (a (2 * i + 2)) (a (2 * i + 1))
    · refine .inl ⟨h2, hl, by omega, h2, by omega, fun c h1 h3 h4 => ?_⟩
      rcases hc c h1 h4 with rfl | rfl
      · exact leE_of_lt hl
      · exact leE_refl _
    · refine .inr (.inl ⟨h2, hl, by omega, h, by omega, fun c h1 h3 h4 => ?_⟩)
      rcases hc c h1 h4 with rfl | rfl
      · exact leE_refl _
      · exact leE_of_not hl
  · refine .inr (.inr ⟨by omega, by omega, h, by omega, fun c h1 h3 h4 => ?_⟩)
    rcases hc c h1 h4 with rfl | rfl
    · exact leE_refl _
    · omega

set_option maxHeartbeats 6400000 in
theorem down_any {w : World} {p : Nat} {F : Nat → Prop} {l : List En} (h : HQ w p F l) {n s : Nat} (hn : n ≤ l.length) (hs : s < n) (hinv : DnInv (atE l) n s s) :
    Calls Try.prog 21 #[.iface 46 (.pointer (some ⟨p, 0, none⟩)), .int .i64 s, .int .i64 n] w (DnPost p F l n s w) := by
  have hmax := h.max
  have H := Lib.hid h
  have HI := Lib.hid hinv
  clear h hinv
  go_enter Try.func21, Try.ntmps21
  go_wp2_with fail
  go_loopw [7] (fun iv wr => ∃ (i : Nat), iv = .int .i64 i ∧ i < n ∧ Hid (∃ l', HQ wr p F l' ∧ Moved l l' n ∧ DnInv (atE l') n s i ∧ Upon F w wr)) (fun iv _ => n - (intOf iv).toNat)
  case atStart => exact ⟨s, rfl, hs, l, H.out, Moved.refl _ _, HI.out, Upon.refl _ _⟩
  case round =>
    obtain ⟨i, rfl, hin, HR⟩ := hrel
    obtain ⟨l', hq, hmv, hinv', hup⟩ := HR.out
    have hl' := hmv.len
    have HM := Lib.hid (And.intro hmv (And.intro hinv' hup))
    have hsi : s ≤ i := hinv'.1
    obtain ⟨j1, hj1⟩ : ∃ j1, j1 = 2 * i + 1 := ⟨_, rfl⟩
    have e1 : 2 * (i : Int) + 1 = (j1 : Int) := by omega
    by_cases hleaf : n ≤ j1
    · have hen := dn_end hinv' (.inl (by omega))
      have HEN := Lib.hid hen
      have HQ' := Lib.hid hq
      have HJ := Lib.hid hj1
      clear hmv hinv' hup hq hl' hen hj1
      by_cases hsl : s < i
      · go_wp2_with fail
        go_ret
        exact ⟨true, l', rfl, HQ'.out, HM.out.1, HM.out.2.2, fun _ => HEN.out.1 hsl, fun h => by cases h⟩
      · have hse : s = i := by omega
        have HSE := Lib.hid hse
        clear hse
        go_wp2_with fail
        go_ret
        exact ⟨false, l', rfl, HQ'.out, HM.out.1, HM.out.2.2, (fun h => by cases h), fun _ => by rw [HSE.out]; exact HEN.out.2 HSE.out⟩
    · have hj1n : j1 < n := by omega
      have hj1p : 0 < j1 := by omega
      clear hleaf
      obtain ⟨j2, hj2⟩ : ∃ j2, j2 = 2 * i + 2 := ⟨_, rfl⟩
      have e2 : (j1 : Int) + 1 = (j2 : Int) := by omega
      have hco := child_of (a := atE l') (n := n) (i := i) (by omega)
      rw [← hj1, ← hj2] at hco
      have HJ1 := Lib.hid hj1
      have HJ2 := Lib.hid hj2
      have HQ' := Lib.hid hq
      have HL := Lib.hid hl'
      rcases hco with ⟨h2n, hcl, hch⟩ | ⟨h2n, hcl, hch⟩ | ⟨h2n, hch⟩
      · by_cases hlt : ltE (atE l' j2) (atE l' i)
        · have HD := Lib.hid (decide_eq_true hlt)
          have HST := Lib.hid (dn_step hinv' hch hlt)
          have HC := Lib.hid (decide_eq_true hcl)
          clear hmv hinv' hup hq hl' hlt hj1 hj2 hcl hch
          go_wp2_with fail
          refine (less_q HQ'.out (i := j2) (j := j1) (by have := HL.out; omega) (by have := HL.out; omega) HC.out).mono ?_
          rintro e w0 ⟨rfl, hb0⟩
          have HB0 := Lib.hid hb0
          have HQ0 := Lib.hid (HQ'.out.below hb0)
          have HU0 := Lib.hid (HM.out.2.2.trans (Upon.of_below (S := F) HB0.out) fun _ _ h => h)
          clear hb0
          go_wp2_with fail
          refine (less_q HQ0.out (i := j2) (j := i) (by have := HL.out; omega) (by have := HL.out; omega) HD.out).mono ?_
          rintro e w1 ⟨rfl, hb1⟩
          have HB1 := Lib.hid hb1
          have HQ1 := Lib.hid (HQ0.out.below hb1)
          have HU1 := Lib.hid ((HU0.out).trans (Upon.of_below (S := F) HB1.out) fun _ _ h => h)
          clear hb1
          go_wp2_with fail
          refine (swap_q HQ1.out (i := i) (j := j2) (by have := HL.out; omega) (by have := HL.out; omega) (by have := HJ1.out; have := HJ2.out; omega)).mono ?_
          rintro e w2 ⟨rfl, hq2, hu2⟩
          have HQ2 := Lib.hid hq2
          have HU2 := Lib.hid (HU1.out.trans hu2 fun _ _ h => h)
          clear hq2 hu2
          go_wp2_with fail
          go_roundw
          case rel =>
            refine ⟨j2, rfl, by omega, swp l' i j2, HQ2.out, HM.out.1.trans (Moved.swp (by have := HL.out; omega) hin (by omega)), ?_, HU2.out⟩
            rw [atE_swp (by have := HL.out; omega) (by have := HL.out; omega)]
            exact HST.out
          case measure => simp [intOf]; have := HJ1.out; have := HJ2.out; omega
        · have HD := Lib.hid (decide_eq_false hlt)
          have HST := Lib.hid (dn_end hinv' (.inr ⟨_, hch, hlt⟩))
          have HC := Lib.hid (decide_eq_true hcl)
          clear hmv hinv' hup hq hl' hlt hj1 hj2 hcl hch
          go_wp2_with fail
          refine (less_q HQ'.out (i := j2) (j := j1) (by have := HL.out; omega) (by have := HL.out; omega) HC.out).mono ?_
          rintro e w0 ⟨rfl, hb0⟩
          have HB0 := Lib.hid hb0
          have HQ0 := Lib.hid (HQ'.out.below hb0)
          have HU0 := Lib.hid (HM.out.2.2.trans (Upon.of_below (S := F) HB0.out) fun _ _ h => h)
          clear hb0
          go_wp2_with fail
          refine (less_q HQ0.out (i := j2) (j := i) (by have := HL.out; omega) (by have := HL.out; omega) HD.out).mono ?_
          rintro e w1 ⟨rfl, hb1⟩
          have HB1 := Lib.hid hb1
          have HQ1 := Lib.hid (HQ0.out.below hb1)
          have HU1 := Lib.hid ((HU0.out).trans (Upon.of_below (S := F) HB1.out) fun _ _ h => h)
          clear hb1
          by_cases hsl : s < i
          · go_wp2_with fail
            go_ret
            exact ⟨true, l', rfl, HQ1.out, HM.out.1, HU1.out, fun _ => HST.out.1 hsl, fun h => by cases h⟩
          · have hse : s = i := by omega
            have HSE := Lib.hid hse
            clear hse
            go_wp2_with fail
            go_ret
            exact ⟨false, l', rfl, HQ1.out, HM.out.1, HU1.out, (fun h => by cases h), fun _ => by rw [HSE.out]; exact HST.out.2 HSE.out⟩
      · by_cases hlt : ltE (atE l' j1) (atE l' i)
        · have HD := Lib.hid (decide_eq_true hlt)
          have HST := Lib.hid (dn_step hinv' hch hlt)
          have HC := Lib.hid (decide_eq_false hcl)
          clear hmv hinv' hup hq hl' hlt hj1 hj2 hcl hch
          go_wp2_with fail
          refine (less_q HQ'.out (i := j2) (j := j1) (by have := HL.out; omega) (by have := HL.out; omega) HC.out).mono ?_
          rintro e w0 ⟨rfl, hb0⟩
          have HB0 := Lib.hid hb0
          have HQ0 := Lib.hid (HQ'.out.below hb0)
          have HU0 := Lib.hid (HM.out.2.2.trans (Upon.of_below (S := F) HB0.out) fun _ _ h => h)
          clear hb0
          go_wp2_with fail
          refine (less_q HQ0.out (i := j1) (j := i) (by have := HL.out; omega) (by have := HL.out; omega) HD.out).mono ?_
          rintro e w1 ⟨rfl, hb1⟩
          have HB1 := Lib.hid hb1
          have HQ1 := Lib.hid (HQ0.out.below hb1)
          have HU1 := Lib.hid ((HU0.out).trans (Upon.of_below (S := F) HB1.out) fun _ _ h => h)
          clear hb1
          go_wp2_with fail
          refine (swap_q HQ1.out (i := i) (j := j1) (by have := HL.out; omega) (by have := HL.out; omega) (by have := HJ1.out; have := HJ2.out; omega)).mono ?_
          rintro e w2 ⟨rfl, hq2, hu2⟩
          have HQ2 := Lib.hid hq2
          have HU2 := Lib.hid (HU1.out.trans hu2 fun _ _ h => h)
          clear hq2 hu2
          go_wp2_with fail
          go_roundw
          case rel =>
            refine ⟨j1, rfl, by omega, swp l' i j1, HQ2.out, HM.out.1.trans (Moved.swp (by have := HL.out; omega) hin (by omega)), ?_, HU2.out⟩
            rw [atE_swp (by have := HL.out; omega) (by have := HL.out; omega)]
            exact HST.out
          case measure => simp [intOf]; have := HJ1.out; have := HJ2.out; omega
        · have HD := Lib.hid (decide_eq_false hlt)
          have HST := Lib.hid (dn_end hinv' (.inr ⟨_, hch, hlt⟩))
          have HC := Lib.hid (decide_eq_false hcl)
          clear hmv hinv' hup hq hl' hlt hj1 hj2 hcl hch
          go_wp2_with fail
          refine (less_q HQ'.out (i := j2) (j := j1) (by have := HL.out; omega) (by have := HL.out; omega) HC.out).mono ?_
          rintro e w0 ⟨rfl, hb0⟩
          have HB0 := Lib.hid hb0
          have HQ0 := Lib.hid (HQ'.out.below hb0)
          have HU0 := Lib.hid (HM.out.2.2.trans (Upon.of_below (S := F) HB0.out) fun _ _ h => h)
          clear hb0
          go_wp2_with fail
          refine (less_q HQ0.out (i := j1) (j := i) (by have := HL.out; omega) (by have := HL.out; omega) HD.out).mono ?_
          rintro e w1 ⟨rfl, hb1⟩
          have HB1 := Lib.hid hb1
          have HQ1 := Lib.hid (HQ0.out.below hb1)
          have HU1 := Lib.hid ((HU0.out).trans (Upon.of_below (S := F) HB1.out) fun _ _ h => h)
          clear hb1
          by_cases hsl : s < i
          · go_wp2_with fail
            go_ret
            exact ⟨true, l', rfl, HQ1.out, HM.out.1, HU1.out, fun _ => HST.out.1 hsl, fun h => by cases h⟩
          · have hse : s = i := by omega
            have HSE := Lib.hid hse
            clear hse
            go_wp2_with fail
            go_ret
            exact ⟨false, l', rfl, HQ1.out, HM.out.1, HU1.out, (fun h => by cases h), fun _ => by rw [HSE.out]; exact HST.out.2 HSE.out⟩
      · by_cases hlt : ltE (atE l' j1) (atE l' i)
        · have HD := Lib.hid (decide_eq_true hlt)
          have HST := Lib.hid (dn_step hinv' hch hlt)
          clear hmv hinv' hup hq hl' hlt hj1 hj2 hch
          go_wp2_with fail
          refine (less_q HQ'.out (i := j1) (j := i) (by have := HL.out; omega) (by have := HL.out; omega) HD.out).mono ?_
          rintro e w1 ⟨rfl, hb1⟩
          have HB1 := Lib.hid hb1
          have HQ1 := Lib.hid (HQ'.out.below hb1)
          have HU1 := Lib.hid ((HM.out.2.2).trans (Upon.of_below (S := F) HB1.out) fun _ _ h => h)
          clear hb1
          go_wp2_with fail
          refine (swap_q HQ1.out (i := i) (j := j1) (by have := HL.out; omega) (by have := HL.out; omega) (by have := HJ1.out; have := HJ2.out; omega)).mono ?_
          rintro e w2 ⟨rfl, hq2, hu2⟩
          have HQ2 := Lib.hid hq2
          have HU2 := Lib.hid (HU1.out.trans hu2 fun _ _ h => h)
          clear hq2 hu2
          go_wp2_with fail
          go_roundw
          case rel =>
            refine ⟨j1, rfl, by omega, swp l' i j1, HQ2.out, HM.out.1.trans (Moved.swp (by have := HL.out; omega) hin (by omega)), ?_, HU2.out⟩
            rw [atE_swp (by have := HL.out; omega) (by have := HL.out; omega)]
            exact HST.out
          case measure => simp [intOf]; have := HJ1.out; have := HJ2.out; omega
        · have HD := Lib.hid (decide_eq_false hlt)
          have HST := Lib.hid (dn_end hinv' (.inr ⟨_, hch, hlt⟩))
          clear hmv hinv' hup hq hl' hlt hj1 hj2 hch
          go_wp2_with fail
          refine (less_q HQ'.out (i := j1) (j := i) (by have := HL.out; omega) (by have := HL.out; omega) HD.out).mono ?_
          rintro e w1 ⟨rfl, hb1⟩
          have HB1 := Lib.hid hb1
          have HQ1 := Lib.hid (HQ'.out.below hb1)
          have HU1 := Lib.hid ((HM.out.2.2).trans (Upon.of_below (S := F) HB1.out) fun _ _ h => h)
          clear hb1
          by_cases hsl : s < i
          · go_wp2_with fail
            go_ret
            exact ⟨true, l', rfl, HQ1.out, HM.out.1, HU1.out, fun _ => HST.out.1 hsl, fun h => by cases h⟩
          · have hse : s = i := by omega
            have HSE := Lib.hid hse
            clear hse
            go_wp2_with fail
            go_ret
            exact ⟨false, l', rfl, HQ1.out, HM.out.1, HU1.out, (fun h => by cases h), fun _ => by rw [HSE.out]; exact HST.out.2 HSE.out⟩

end Go.Proofs.Ytgcmkhbpkmfpkaa
