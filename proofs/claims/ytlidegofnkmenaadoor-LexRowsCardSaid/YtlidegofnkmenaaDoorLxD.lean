/-
  Package lex: the token that is an int, a sign.
  Conditions: the tables of package lex and the library's variables read as the program's text lays them; texts of no more than 100,000 bytes.
-/
import Derived.Test.YtlidegofnkmenaaDoorLxC
namespace Go.Proofs.YtlidegofnkmenaaDoor
open Go.ChangeShapes Go.WideShapes Go.ChangeAt Go.RowKit
set_option linter.unusedVariables false
set_option linter.unusedSimpArgs false
set_option maxRecDepth 100000
set_option maxHeartbeats 400000

theorem firstInt_any (s : ByteArray) (h0 : 0 < s.size) (hs : s.size ≤ 100000) (hl : ltN (byN (Ls s) 0) = false) (hd : dgN (byN (Ls s) 0) = true) (w : World) (T : LxTab w) :
    Calls Tryd.prog 36 #[.string s] w fun e w' => FtRet (firstP (Ls s)) e ∧ Below w.heap.size w w' := by
  obtain ⟨n, hn⟩ : ∃ n, lenW dgB (Ls s) = n := ⟨_, rfl⟩
  have hnl : n ≤ s.size := by rw [← hn, ← ls_len]; exact lenW_le _ _
  have h0' : (Ls s).length ≠ 0 := by rw [ls_len]; omega
  have HI : Hid (∀ j, j < n → dgN (byN (Ls s) j) = true) := Lib.hid fun j hj => by
    have hj' : j < (Ls s).length := by rw [ls_len]; omega
    have := lenW_in dgB (Ls s) j (Ls s)[j] (by omega) (List.getElem?_eq_getElem hj')
    unfold byN; rw [List.getD_eq_getElem?_getD, List.getElem?_eq_getElem hj']; exact this
  have HO : Hid (n < s.size → dgN (byN (Ls s) n) = false) := Lib.hid fun h => by
    have hj' : n < (Ls s).length := by rw [ls_len]; omega
    have := lenW_at dgB (Ls s) (Ls s)[n] (by rw [hn]; exact List.getElem?_eq_getElem hj')
    unfold byN; rw [List.getD_eq_getElem?_getD, List.getElem?_eq_getElem hj']; exact this
  have hF := firstP_int h0' hl hd
  rw [hn] at hF
  have HF := Lib.hid hF
  have HT := Lib.hid T
  clear hF hl hd hn h0' T
  go_enter Tryd.func36, Tryd.ntmps36
  go_wp2_with fail
  go_loop [4] (fun v => ∃ k : Nat, v = .int .i64 k ∧ k ≤ n) (fun v => n - (intOf v).toNat)
  case atStart => exact ⟨0, rfl, by omega⟩
  case round =>
    obtain ⟨k, rfl, hk⟩ := hrel
    by_cases hlt : k < n
    · have hks : k < s.size := by omega
      have i1 : (k : Int) < s.size := by omega
      obtain ⟨c, hc⟩ : ∃ c, byN (Ls s) k = c := ⟨_, rfl⟩
      have hg : s[k].toNat = c := by rw [get_byN s k hks, hc]
      have H2 : Hid (dgN c = true) := Lib.hid (by rw [← hc]; exact HI.out k hlt)
      clear hc HI HO HF HT
      go_wp2_with (go_at_call 35; refine (isDigit_is H2.out _).mono ?_; rintro e w' ⟨rfl, rfl⟩)
      exact ⟨⟨k + 1, rfl, by omega⟩, by simp [intOf]; omega⟩
    · obtain rfl : k = n := by omega
      have i2 : (k : Int) ≤ s.size := by omega
      have HST := Lib.hid (str_to s k)
      have HP := fun w T => parse_to s k w T
      obtain ⟨ok, hok⟩ : ∃ ok, paO ((Ls s).take k) = ok := ⟨_, rfl⟩
      obtain ⟨pv, hpv⟩ : ∃ pv, paV ((Ls s).take k) = pv := ⟨_, rfl⟩
      rw [hok, hpv] at HP
      have HB := fun (W : World) (hW : Below w.heap.size w W) => HP W (HT.out.below hW)
      clear HI HP
      by_cases hks : k < s.size
      · have i1 : (k : Int) < s.size := by omega
        obtain ⟨c, hc⟩ : ∃ c, byN (Ls s) k = c := ⟨_, rfl⟩
        have hg : s[k].toNat = c := by rw [get_byN s k hks, hc]
        have H2 : Hid (dgN c = false) := Lib.hid (by rw [← hc]; exact HO.out hks)
        cases h1 : ltN c
        · have H1 := Lib.hid h1
          cases ok
          · have HF2 : Hid (firstP (Ls s) = none) := Lib.hid (by rw [HF.out, hc, h1, hok]; rfl)
            clear hc HO HF hok hpv h1 HT
            go_wp2_with (first | (go_at_call 33; refine (isLetter_is H1.out _).mono ?_; rintro e w' ⟨rfl, rfl⟩) | (go_at_call 35; refine (isDigit_is H2.out _).mono ?_; rintro e w' ⟨rfl, rfl⟩) | (go_at_call 42; refine (HB _ (below_alloc _)).mono ?_; rintro e w1 ⟨rfl, b1⟩; have R1 := (tok_made w (.int .i64 0) (.string ⟨#[]⟩) (.int .i64 0)).below b1 (by simp); have B1 := (below_alloc (w := w) (.cells #[.int .i64 0, .string ⟨#[]⟩, .int .i64 0] 39)).trans (b1.mono (by simp)); have e0 := R1.cell 0; have e1 := R1.cell 1; have e2 := R1.cell 2; have f0 := R1.free 0; have f1 := R1.free 1; have f2 := R1.free 2; simp only [List.getElem?_cons_zero, List.getElem?_cons_succ] at e0 e1 e2; replace R1 := Lib.hid R1; replace B1 := Lib.hid B1; clear b1))
            (refine bodyPost_ret (results_cell_tmp Tryd.results36 (by rfl) (by rfl) (row3_set R1.out _ _ _) Tryd.underlying39 rfl info_tok) rfl ⟨ft_none HF2.out, ?_⟩; exact below_set (below_set (below_set B1.out (Nat.le_refl _) _) (Nat.le_refl _) _) (Nat.le_refl _) _)
          · have HF2 : Hid (firstP (Ls s) = some (3, (Ls s).take k, k)) := Lib.hid (by rw [HF.out, hc, h1, hok]; rfl)
            clear hc HO HF hok hpv h1 HT
            go_wp2_with (first | (go_at_call 33; refine (isLetter_is H1.out _).mono ?_; rintro e w' ⟨rfl, rfl⟩) | (go_at_call 35; refine (isDigit_is H2.out _).mono ?_; rintro e w' ⟨rfl, rfl⟩) | (go_at_call 42; refine (HB _ (below_alloc _)).mono ?_; rintro e w1 ⟨rfl, b1⟩; have R1 := (tok_made w (.int .i64 0) (.string ⟨#[]⟩) (.int .i64 0)).below b1 (by simp); have B1 := (below_alloc (w := w) (.cells #[.int .i64 0, .string ⟨#[]⟩, .int .i64 0] 39)).trans (b1.mono (by simp)); have e0 := R1.cell 0; have e1 := R1.cell 1; have e2 := R1.cell 2; have f0 := R1.free 0; have f1 := R1.free 1; have f2 := R1.free 2; simp only [List.getElem?_cons_zero, List.getElem?_cons_succ] at e0 e1 e2; replace R1 := Lib.hid R1; replace B1 := Lib.hid B1; clear b1))
            (refine bodyPost_ret (results_cell_tmp Tryd.results36 (by rfl) (by rfl) (row3_set R1.out _ _ _) Tryd.underlying39 rfl info_tok) rfl ⟨ft_some HF2.out HST.out, ?_⟩; exact below_set (below_set (below_set B1.out (Nat.le_refl _) _) (Nat.le_refl _) _) (Nat.le_refl _) _)
        · have H1 := Lib.hid h1
          have HF2 : Hid (firstP (Ls s) = none) := Lib.hid (by rw [HF.out, hc, h1]; rfl)
          clear hc HO HF hok hpv h1 HT HB
          go_wp2_with (first | (go_at_call 33; refine (isLetter_is H1.out _).mono ?_; rintro e w' ⟨rfl, rfl⟩) | (go_at_call 35; refine (isDigit_is H2.out _).mono ?_; rintro e w' ⟨rfl, rfl⟩))
          refine bodyPost_ret (results_cell_tmp Tryd.results36 (by rfl) (by rfl) (tok_made w _ _ _) Tryd.underlying39 rfl info_tok) rfl ⟨ft_none HF2.out, ?_⟩
          exact below_alloc _
      · have i1 : (s.size : Int) ≤ k := by omega
        have hc : ltN (byN (Ls s) k) = false := by rw [byN_out (by rw [ls_len]; omega)]; rfl
        cases ok
        · have HF2 : Hid (firstP (Ls s) = none) := Lib.hid (by rw [HF.out, hc, hok]; rfl)
          clear hc HO HF hok hpv HT
          go_wp2_with (go_at_call 42; refine (HB _ (below_alloc _)).mono ?_; rintro e w1 ⟨rfl, b1⟩; have R1 := (tok_made w (.int .i64 0) (.string ⟨#[]⟩) (.int .i64 0)).below b1 (by simp); have B1 := (below_alloc (w := w) (.cells #[.int .i64 0, .string ⟨#[]⟩, .int .i64 0] 39)).trans (b1.mono (by simp)); have e0 := R1.cell 0; have e1 := R1.cell 1; have e2 := R1.cell 2; have f0 := R1.free 0; have f1 := R1.free 1; have f2 := R1.free 2; simp only [List.getElem?_cons_zero, List.getElem?_cons_succ] at e0 e1 e2; replace R1 := Lib.hid R1; replace B1 := Lib.hid B1; clear b1)
          (refine bodyPost_ret (results_cell_tmp Tryd.results36 (by rfl) (by rfl) (row3_set R1.out _ _ _) Tryd.underlying39 rfl info_tok) rfl ⟨ft_none HF2.out, ?_⟩; exact below_set (below_set (below_set B1.out (Nat.le_refl _) _) (Nat.le_refl _) _) (Nat.le_refl _) _)
        · have HF2 : Hid (firstP (Ls s) = some (3, (Ls s).take k, k)) := Lib.hid (by rw [HF.out, hc, hok]; rfl)
          clear hc HO HF hok hpv HT
          go_wp2_with (go_at_call 42; refine (HB _ (below_alloc _)).mono ?_; rintro e w1 ⟨rfl, b1⟩; have R1 := (tok_made w (.int .i64 0) (.string ⟨#[]⟩) (.int .i64 0)).below b1 (by simp); have B1 := (below_alloc (w := w) (.cells #[.int .i64 0, .string ⟨#[]⟩, .int .i64 0] 39)).trans (b1.mono (by simp)); have e0 := R1.cell 0; have e1 := R1.cell 1; have e2 := R1.cell 2; have f0 := R1.free 0; have f1 := R1.free 1; have f2 := R1.free 2; simp only [List.getElem?_cons_zero, List.getElem?_cons_succ] at e0 e1 e2; replace R1 := Lib.hid R1; replace B1 := Lib.hid B1; clear b1)
          (refine bodyPost_ret (results_cell_tmp Tryd.results36 (by rfl) (by rfl) (row3_set R1.out _ _ _) Tryd.underlying39 rfl info_tok) rfl ⟨ft_some HF2.out HST.out, ?_⟩; exact below_set (below_set (below_set B1.out (Nat.le_refl _) _) (Nat.le_refl _) _) (Nat.le_refl _) _)
end Go.Proofs.YtlidegofnkmenaaDoor
