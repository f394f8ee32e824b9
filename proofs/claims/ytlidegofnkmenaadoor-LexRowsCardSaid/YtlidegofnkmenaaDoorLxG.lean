/-
  Package lex: the token that bytes begin with; all tokens of a source.
  Conditions: the tables of package lex and the library's variables read as the program's text lays them; texts of no more than 100,000 bytes.
-/
import Derived.Test.YtlidegofnkmenaaDoorLxD
import Derived.Test.YtlidegofnkmenaaDoorLxE
import Derived.Test.YtlidegofnkmenaaDoorLxF
namespace Go.Proofs.YtlidegofnkmenaaDoor
open Go.ChangeShapes Go.WideShapes Go.ChangeAt Go.RowKit
set_option linter.unusedVariables false
set_option linter.unusedSimpArgs false
set_option maxRecDepth 100000
set_option maxHeartbeats 400000

theorem ft_inv {x : Option (Int × List UInt8 × Nat)} {e : Ending} (h : FtRet x e) : e = .returned (ftV x) := h
theorem first_one (s : ByteArray) (F : FuncId) (w : World) (k : Int) (t : ByteArray) (n : Int) (x : Option (Int × List UInt8 × Nat)) (hx : ftV x = .tuple #[.agg #[.int .i64 k, .string t, .int .i64 0], .int .i64 n])
    (H : ∀ W, Below w.heap.size w W → Calls Tryd.prog F #[.string s] W fun e w' => FtRet x e ∧ Below W.heap.size W w') (W : World) (hW : Below w.heap.size w W) :
    Calls Tryd.prog F #[.string s] W fun e w' => e = .returned (.tuple #[.agg #[.int .i64 k, .string t, .int .i64 0], .int .i64 n]) ∧ Below W.heap.size W w' :=
  (H W hW).mono fun e w' ⟨he, hb⟩ => ⟨by rw [ft_inv he, hx], hb⟩
theorem ftV_is (x : Option (Int × List UInt8 × Nat)) : ∃ k t n, ftV x = .tuple #[.agg #[.int .i64 k, .string t, .int .i64 0], .int .i64 n] := by
  cases x with
  | none => exact ⟨_, _, _, rfl⟩
  | some x => obtain ⟨k, t, n⟩ := x; exact ⟨_, _, _, rfl⟩
theorem ft_mk {x : Option (Int × List UInt8 × Nat)} {k : Int} {t : ByteArray} {n : Int} (hx : ftV x = .tuple #[.agg #[.int .i64 k, .string t, .int .i64 0], .int .i64 n]) : FtRet x (.returned (.tuple #[.agg #[.int .i64 k, .string t, .int .i64 0], .int .i64 n])) := by
  rw [← hx]; rfl

theorem first_any (s : ByteArray) (h0 : 0 < s.size) (hs : s.size ≤ 100000) (w : World) (T : LxTab w) :
    Calls Tryd.prog 20 #[.string s] w fun e w' => FtRet (firstP (Ls s)) e ∧ Below w.heap.size w w' := by
  obtain ⟨k, t, n, hx⟩ := ftV_is (firstP (Ls s))
  have HX := Lib.hid hx
  obtain ⟨c, hc⟩ : ∃ c, byN (Ls s) 0 = c := ⟨_, rfl⟩
  have hg : s[0].toNat = c := by rw [get_byN s 0 h0, hc]
  cases h1 : ltN c
  · cases h2 : dgN c
    · by_cases h3 : c = 34
      · subst h3
        have HC := first_one s 37 w k t n _ hx fun W hW => firstText_any s h0 hs hc W
        have H1 := Lib.hid h1
        have H2 := Lib.hid h2
        clear hx h1 h2 hc T
        go_enter Tryd.func20, Tryd.ntmps20
        go_wp2_with (first | (go_at_call 33; refine (isLetter_is H1.out _).mono ?_; rintro e w' ⟨rfl, rfl⟩) | (go_at_call 35; refine (isDigit_is H2.out _).mono ?_; rintro e w' ⟨rfl, rfl⟩) | (go_at_call 37; refine (HC _ (below_alloc _)).mono ?_; rintro e w1 ⟨rfl, b1⟩; have R1 := (tok_made w (.int .i64 0) (.string ⟨#[]⟩) (.int .i64 0)).below b1 (by simp); have B1 := (below_alloc (w := w) (.cells #[.int .i64 0, .string ⟨#[]⟩, .int .i64 0] 39)).trans (b1.mono (by simp)); have e0 := R1.cell 0; have e1 := R1.cell 1; have e2 := R1.cell 2; have f0 := R1.free 0; have f1 := R1.free 1; have f2 := R1.free 2; simp only [List.getElem?_cons_zero, List.getElem?_cons_succ] at e0 e1 e2; replace R1 := Lib.hid R1; replace B1 := Lib.hid B1; clear b1))
        (refine bodyPost_ret (results_cell_tmp Tryd.results20 (by rfl) (by rfl) (row3_set R1.out _ _ _) Tryd.underlying39 rfl info_tok) rfl ⟨ft_mk HX.out, ?_⟩; exact below_set (below_set (below_set B1.out (Nat.le_refl _) _) (Nat.le_refl _) _) (Nat.le_refl _) _)
      · have HC := first_one s 38 w k t n _ hx fun W hW => firstSign_any s h0 (by rw [hc]; exact h1) (by rw [hc]; exact h2) (by rw [hc]; exact h3) W (T.below hW)
        have H1 := Lib.hid h1
        have H2 := Lib.hid h2
        have i3 : ¬ (c : Int) = 34 := by omega
        clear hx h1 h2 hc T h3
        go_enter Tryd.func20, Tryd.ntmps20
        go_wp2_with (first | (go_at_call 33; refine (isLetter_is H1.out _).mono ?_; rintro e w' ⟨rfl, rfl⟩) | (go_at_call 35; refine (isDigit_is H2.out _).mono ?_; rintro e w' ⟨rfl, rfl⟩) | (go_at_call 38; refine (HC _ (below_alloc _)).mono ?_; rintro e w1 ⟨rfl, b1⟩; have R1 := (tok_made w (.int .i64 0) (.string ⟨#[]⟩) (.int .i64 0)).below b1 (by simp); have B1 := (below_alloc (w := w) (.cells #[.int .i64 0, .string ⟨#[]⟩, .int .i64 0] 39)).trans (b1.mono (by simp)); have e0 := R1.cell 0; have e1 := R1.cell 1; have e2 := R1.cell 2; have f0 := R1.free 0; have f1 := R1.free 1; have f2 := R1.free 2; simp only [List.getElem?_cons_zero, List.getElem?_cons_succ] at e0 e1 e2; replace R1 := Lib.hid R1; replace B1 := Lib.hid B1; clear b1))
        (refine bodyPost_ret (results_cell_tmp Tryd.results20 (by rfl) (by rfl) (row3_set R1.out _ _ _) Tryd.underlying39 rfl info_tok) rfl ⟨ft_mk HX.out, ?_⟩; exact below_set (below_set (below_set B1.out (Nat.le_refl _) _) (Nat.le_refl _) _) (Nat.le_refl _) _)
    · have HC := first_one s 36 w k t n _ hx fun W hW => firstInt_any s h0 hs (by rw [hc]; exact h1) (by rw [hc]; exact h2) W (T.below hW)
      have H1 := Lib.hid h1
      have H2 := Lib.hid h2
      clear hx h1 h2 hc T
      go_enter Tryd.func20, Tryd.ntmps20
      go_wp2_with (first | (go_at_call 33; refine (isLetter_is H1.out _).mono ?_; rintro e w' ⟨rfl, rfl⟩) | (go_at_call 35; refine (isDigit_is H2.out _).mono ?_; rintro e w' ⟨rfl, rfl⟩) | (go_at_call 36; refine (HC _ (below_alloc _)).mono ?_; rintro e w1 ⟨rfl, b1⟩; have R1 := (tok_made w (.int .i64 0) (.string ⟨#[]⟩) (.int .i64 0)).below b1 (by simp); have B1 := (below_alloc (w := w) (.cells #[.int .i64 0, .string ⟨#[]⟩, .int .i64 0] 39)).trans (b1.mono (by simp)); have e0 := R1.cell 0; have e1 := R1.cell 1; have e2 := R1.cell 2; have f0 := R1.free 0; have f1 := R1.free 1; have f2 := R1.free 2; simp only [List.getElem?_cons_zero, List.getElem?_cons_succ] at e0 e1 e2; replace R1 := Lib.hid R1; replace B1 := Lib.hid B1; clear b1))
      (refine bodyPost_ret (results_cell_tmp Tryd.results20 (by rfl) (by rfl) (row3_set R1.out _ _ _) Tryd.underlying39 rfl info_tok) rfl ⟨ft_mk HX.out, ?_⟩; exact below_set (below_set (below_set B1.out (Nat.le_refl _) _) (Nat.le_refl _) _) (Nat.le_refl _) _)
  · have HC := first_one s 34 w k t n _ hx fun W hW => firstWord_any s h0 hs (by rw [hc]; exact h1) W (T.below hW)
    have H1 := Lib.hid h1
    clear hx h1 hc T
    go_enter Tryd.func20, Tryd.ntmps20
    go_wp2_with (first | (go_at_call 33; refine (isLetter_is H1.out _).mono ?_; rintro e w' ⟨rfl, rfl⟩) | (go_at_call 34; refine (HC _ (below_alloc _)).mono ?_; rintro e w1 ⟨rfl, b1⟩; have R1 := (tok_made w (.int .i64 0) (.string ⟨#[]⟩) (.int .i64 0)).below b1 (by simp); have B1 := (below_alloc (w := w) (.cells #[.int .i64 0, .string ⟨#[]⟩, .int .i64 0] 39)).trans (b1.mono (by simp)); have e0 := R1.cell 0; have e1 := R1.cell 1; have e2 := R1.cell 2; have f0 := R1.free 0; have f1 := R1.free 1; have f2 := R1.free 2; simp only [List.getElem?_cons_zero, List.getElem?_cons_succ] at e0 e1 e2; replace R1 := Lib.hid R1; replace B1 := Lib.hid B1; clear b1))
    (refine bodyPost_ret (results_cell_tmp Tryd.results20 (by rfl) (by rfl) (row3_set R1.out _ _ _) Tryd.underlying39 rfl info_tok) rfl ⟨ft_mk HX.out, ?_⟩; exact below_set (below_set (below_set B1.out (Nat.le_refl _) _) (Nat.le_refl _) _) (Nat.le_refl _) _)
end Go.Proofs.YtlidegofnkmenaaDoor
