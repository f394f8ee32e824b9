/-
  Package lex: all tokens of a source.
  Conditions: the tables of package lex and the library's variables read as the program's text lays them; texts of no more than 100,000 bytes.
-/
import Derived.Test.YtlidegofnkmenaaDoorLxG
namespace Go.Proofs.YtlidegofnkmenaaDoor
open Go.ChangeShapes Go.WideShapes Go.ChangeAt Go.RowKit
set_option linter.unusedVariables false
set_option linter.unusedSimpArgs false
set_option maxRecDepth 100000
set_option maxHeartbeats 400000

/-! ## Tokens in memory -/
def tkC (t : PTk) : List Value := [.int .i64 t.1, .string ⟨t.2.1.toArray⟩, .int .i64 (t.2.2 : Nat)]
def tkLs (l : List PTk) : List Value := l.flatMap tkC
theorem tkLs_length (l : List PTk) : (tkLs l).length = l.length * 3 := by
  induction l with
  | nil => rfl
  | cons x l ih => simp [tkLs, tkC] at ih ⊢; omega
theorem tkLs_snoc (l : List PTk) (t : PTk) : tkLs (l ++ [t]) = tkLs l ++ tkC t := by simp [tkLs]
theorem tkLs_get : ∀ (xs : List PTk) (k : Nat) (c : PTk), xs[k]? = some c →
    (tkLs xs)[k * 3]? = some (.int .i64 c.1) ∧ (tkLs xs)[k * 3 + 1]? = some (.string ⟨c.2.1.toArray⟩) ∧ (tkLs xs)[k * 3 + 2]? = some (.int .i64 (c.2.2 : Nat))
  | [], k, c, h => by simp at h
  | x :: xs, 0, c, h => by simp at h; subst h; simp [tkLs, tkC]
  | x :: xs, k + 1, c, h => by
    have ih := tkLs_get xs k c (by simpa using h)
    rw [show (k + 1) * 3 = k * 3 + 1 + 1 + 1 by omega]
    simpa [tkLs, tkC] using ih
theorem under_toks : Tryd.prog.underlying 23 = some (.slice 39) := by kernel_rfl
theorem info_toks : (Tryd.prog.info? 39).map (fun i => (i.zero, i.size, i.bytes)) = some (some (.agg #[.int .i64 0, .string ⟨#[]⟩, .int .i64 0]), 3, 32) := by kernel_rfl
theorem info_fault : (Tryd.prog.info? 26).map (·.size) = some 2 := by kernel_rfl

/-- Tokens, under way. -/
structure TkIn (w : World) (l : List PTk) (v : Value) (wr : World) : Prop where
  own : wr.ownsRow (w.heap.size + 1) 39 3 v l.length (tkLs l)
  bel : Below w.heap.size w wr
  flt : rowAt wr w.heap.size 26 [.int .i64 0, .int .i64 0]
theorem TkIn.lt {w wr : World} {l : List PTk} {v : Value} (h : TkIn w l v wr) : w.heap.size + 1 ≤ wr.heap.size := h.flt.lt
theorem TkIn.below {w wr wr' : World} {l : List PTk} {v : Value} (h : TkIn w l v wr) (hb : Below wr.heap.size wr wr') : TkIn w l v wr' where
  own := owns_upon h.own (Upon.of_below (S := fun _ => False) hb) fun _ _ t => t
  bel := h.bel.trans (hb.mono (by have := h.lt; omega))
  flt := h.flt.below hb h.flt.lt
theorem TkIn.grow {w wr wr' : World} {l l' : List PTk} {v v' : Value} (h : TkIn w l v wr) (ho : wr'.ownsRow (w.heap.size + 1) 39 3 v' l'.length (tkLs l')) (hg : wr.grownBy wr' v.ownBlock) : TkIn w l' v' wr' where
  own := ho
  bel := by
    have hu : Upon (fun g => v.ownBlock = some g) wr wr' := ⟨hg.os, hg.tape, hg.output, hg.size, fun k hk h => hg.block k hk fun e => h e.symm⟩
    exact h.bel.trans (hu.belowB (by have := h.lt; omega) fun k e => by have := own_geL h.own k e; omega)
  flt := by
    have hu : Upon (fun g => v.ownBlock = some g) wr wr' := ⟨hg.os, hg.tape, hg.output, hg.size, fun k hk h => hg.block k hk fun e => h e.symm⟩
    exact h.flt.upon hu fun e => by have := own_geL h.own _ e; omega

/-- What Tokens hands back. -/
def TkPost (w : World) (l : List UInt8) (e : Ending) (w' : World) : Prop :=
  ∃ v, e = .returned (.tuple #[v, .agg #[.int .i64 (tkE l), .int .i64 (tkA l : Nat)]]) ∧ w'.ownsRow w.heap.size 39 3 v (tkL l).length (tkLs (tkL l)) ∧ Below w.heap.size w w'
theorem tk_mk {w w' : World} {l : List UInt8} {v : Value} {E A : Int} {D : List PTk} (hE : tkE l = E) (hA : ((tkA l : Nat) : Int) = A) (hD : tkL l = D) (ho : w'.ownsRow w.heap.size 39 3 v D.length (tkLs D)) (hb : Below w.heap.size w w') :
    TkPost w l (.returned (.tuple #[v, .agg #[.int .i64 E, .int .i64 A]])) w' := by
  subst hE; subst hA; subst hD; exact ⟨v, rfl, ho, hb⟩
theorem owns_nil (w : World) (B : Nat) : w.ownsRow B 39 3 (.slice none 0 0) ([] : List PTk).length (tkLs []) := ⟨by simp [tkLs], .inl ⟨rfl, rfl⟩⟩
theorem results_tmp_cell {P : Program} {fn : Func} {p q : Tmp} {ty : TypeId} (h : fn.results = #[.tmp q, .cell p ty]) {tmps : Array Value} {w : World} {g : Nat} {t : TypeId} {cs : List Value} {x : Value} {d : TypeDesc}
    (hp : tmps.getD p undef = .pointer (some ⟨g, 0, none⟩)) (hq : tmps.getD q undef = x) (hr : rowAt w g t cs)
    (hu : P.underlying ty = some d) (hd : (match d with | .struct _ | .array _ _ => true | _ => false) = true) (hi : (P.info? ty).map (·.size) = some cs.length) :
    (results fn tmps).run P w = .ok (.tuple #[x, .agg cs.toArray]) w := by
  have hp' : tmps[p]?.getD undef = .pointer (some ⟨g, 0, none⟩) := by simpa using hp
  have hq' : tmps[q]?.getD undef = x := by simpa using hq
  simp [results, h, hp', hq', asAddr, run_loadVar_cells w g ty cs.toArray d (fun j v hv => by rw [hr.cell]; simpa using hv) hu hd (by simpa using hi)]
theorem flt_made (w : World) (x y : Value) : rowAt (w.alloc (.cells #[x, y] 26)) w.heap.size 26 [x, y] := rowAt.made w 26 [x, y]
theorem row2_put {w : World} {n : Nat} {T : TypeId} {x y : Value} (h : rowAt w n T [x, y]) (a b : Value) : rowAt ((w.setCell ⟨n, 0, none⟩ a).setCell ⟨n, 1, none⟩ b) n T [a, b] := (h.set 0 a).set 1 b

theorem first_none {s : ByteArray} (h0 : 0 < s.size) (hs : s.size ≤ 100000) (h : firstP (Ls s) = none) (w : World) (T : LxTab w) : Calls Tryd.prog 20 #[.string s] w fun e w' => e = .returned (.tuple #[.agg #[.int .i64 0, .string ⟨#[]⟩, .int .i64 0], .int .i64 0]) ∧ Below w.heap.size w w' := by
  have := first_any s h0 hs w T; rw [h] at this; exact this
theorem first_some {s : ByteArray} {k : Int} {t : List UInt8} {n : Nat} {b : ByteArray} (h0 : 0 < s.size) (hs : s.size ≤ 100000) (h : firstP (Ls s) = some (k, t, n)) (hb : b = ⟨t.toArray⟩) (w : World) (T : LxTab w) :
    Calls Tryd.prog 20 #[.string s] w fun e w' => e = .returned (.tuple #[.agg #[.int .i64 k, .string b, .int .i64 0], .int .i64 n]) ∧ Below w.heap.size w w' := by
  have := first_any s h0 hs w T; rw [h] at this; subst hb; exact this
theorem skipped_is {s : ByteArray} {o k : Nat} (hs : s.size ≤ 100000) (ho : o ≤ s.size) (hk : o + skP false ((Ls s).drop o) = k) (w : World) : Calls Tryd.prog 19 #[.string s, .int .i64 o] w fun e w' => e = .returned (.int .i64 k) ∧ w = w' := by
  have := skipped_any s hs o ho w; rw [hk] at this; exact this

theorem tokens_any (s : ByteArray) (hs : s.size ≤ 100000) (w : World) (T : LxTab w) :
    Calls Tryd.prog 10 #[.string s] w (TkPost w (Ls s)) := by
  by_cases hbig : 2000 < s.size
  · have i0 : (2000 : Int) < s.size := by omega
    have HE : Hid (tkE (Ls s) = 10 ∧ tkA (Ls s) = 0 ∧ tkL (Ls s) = []) := Lib.hid (by
      have hl : 2000 < (Ls s).length := by rw [ls_len]; exact hbig
      exact ⟨by unfold tkE; rw [if_pos hl], by unfold tkA; rw [if_pos hl], by unfold tkL; rw [if_pos hl]⟩)
    clear hbig T
    go_enter Tryd.func10, Tryd.ntmps10
    go_wp2_with fail
    refine bodyPost_ret (results_tmp_cell Tryd.results10 (by rfl) (by rfl) (flt_made w _ _) Tryd.underlying26 rfl info_fault) rfl (tk_mk HE.out.1 (by rw [HE.out.2.1]; rfl) HE.out.2.2 (owns_nil _ _) (below_alloc _))
  · have i0 : (s.size : Int) ≤ 2000 := by omega
    have hl : ¬ 2000 < (Ls s).length := by rw [ls_len]; exact hbig
    have HF : Hid (∀ a, (toks 0 (Ls s)).2 = some a → tkE (Ls s) = 11 ∧ tkA (Ls s) = a ∧ tkL (Ls s) = []) := Lib.hid fun a ha =>
      ⟨by unfold tkE; rw [if_neg hl, ha]; rfl, by unfold tkA; rw [if_neg hl, ha]; rfl, by unfold tkL; rw [if_neg hl, ha]; rfl⟩
    have HG : Hid (∀ D, toks 0 (Ls s) = (D, none) → tkE (Ls s) = 0 ∧ tkA (Ls s) = 0 ∧ tkL (Ls s) = D) := Lib.hid fun D hD =>
      ⟨by unfold tkE; rw [if_neg hl, hD]; rfl, by unfold tkA; rw [if_neg hl, hD]; rfl, by unfold tkL; rw [if_neg hl, hD]; rfl⟩
    obtain ⟨j0, hi, hz0, hz1, hz2⟩ := info_parts info_toks
    have HT := Lib.hid T
    obtain ⟨k0, hk0⟩ : ∃ k0, 0 + skP false ((Ls s).drop 0) = k0 := ⟨_, rfl⟩
    have HS0 := fun w => skipped_is (s := s) hs (Nat.zero_le _) hk0 w
    have HK0 := Lib.hid hk0
    clear hl hk0 T
    go_enter Tryd.func10, Tryd.ntmps10
    go_wp2_with (go_at_call 19; refine (HS0 _).mono ?_; rintro e w' ⟨rfl, rfl⟩)
    go_loopw [4, 5] (fun v i wr => ∃ (D : List PTk) (o k : Nat), i = .int .i64 k ∧ Hid (o + skP false ((Ls s).drop o) = k) ∧ o ≤ s.size ∧ D.length ≤ o ∧ Hid (TkIn w D v wr) ∧ Hid (toks 0 (Ls s) = (D ++ (toks o ((Ls s).drop o)).1, (toks o ((Ls s).drop o)).2))) (fun _ i _ => s.size - (intOf i).toNat)
    case atStart =>
      exact ⟨[], 0, k0, rfl, HK0, by omega, by simp, Lib.hid ⟨owns_nil _ _, below_alloc _, flt_made w _ _⟩, Lib.hid (by simp)⟩
    case round =>
      obtain ⟨D, o, k, rfl, HK, ho, hD, HI, HX⟩ := hrel
      have hko := HK.out
      have hkl := skP_le false ((Ls s).drop o)
      rw [List.length_drop, ls_len] at hkl
      have hks : k ≤ s.size := by omega
      obtain ⟨a, c, rfl⟩ := owns_slice HI.out.own
      by_cases hlt : k < s.size
      · have i1 : (k : Int) < s.size := by omega
        have hsz : (s.extract k s.size).size = s.size - k := by rw [← ls_len, ls_from, List.length_drop, ls_len]
        have hdd : ((Ls s).drop o).drop (skP false ((Ls s).drop o)) = (Ls s).drop k := by rw [List.drop_drop, hko]
        cases hx : firstP ((Ls s).drop k) with
        | none =>
          have hb := toks_bad o (l := (Ls s).drop o) (by rw [List.length_drop, ls_len]; omega) (by rw [hdd]; exact hx)
          have HE := Lib.hid (HF.out k (by rw [HX.out, hb]; simp only; rw [hko]))
          have HC := fun (W : World) (hW : Below w.heap.size w W) => first_none (s := s.extract k s.size) (by rw [hsz]; omega) (by rw [hsz]; omega) (by rw [ls_from]; exact hx) W (HT.out.below hW)
          clear hko hkl hsz hdd hx hb HX HK HF HG
          go_wp2_with (go_at_call 20; refine (HC _ HI.out.bel).mono ?_; rintro e w1 ⟨rfl, b1⟩; have I1 := HI.out.below b1; have e0 := I1.flt.cell 0; have e1 := I1.flt.cell 1; have f0 := I1.flt.free 0; have f1 := I1.flt.free 1; simp only [List.getElem?_cons_zero, List.getElem?_cons_succ] at e0 e1; have h1 : w.heap.size < w1.heap.size := I1.lt; replace I1 := Lib.hid I1; clear b1)
          refine bodyPost_ret (results_tmp_cell Tryd.results10 (by rfl) (by rfl) ((row2_put I1.out.flt _ _).alloc _) Tryd.underlying26 rfl info_fault) rfl (tk_mk HE.out.1 (by rw [HE.out.2.1]) HE.out.2.2 (owns_nil _ _) ?_)
          exact ((I1.out.bel.setCell (Nat.le_refl _) _).setCell (Nat.le_refl _) _).alloc (by simp; omega) _
        | some x =>
          obtain ⟨kd, t, n⟩ := x
          obtain ⟨hn0, hn1⟩ := firstP_le hx
          rw [List.length_drop, ls_len] at hn1
          have hb := toks_some o (l := (Ls s).drop o) (by rw [hdd]; exact hx)
          rw [hko] at hb
          obtain ⟨b, hbt⟩ : ∃ b : ByteArray, b = ⟨t.toArray⟩ := ⟨_, rfl⟩
          have HC := fun (W : World) (hW : Below w.heap.size w W) => first_some (s := s.extract k s.size) (by rw [hsz]; omega) (by rw [hsz]; omega) (by rw [ls_from]; exact hx) hbt W (HT.out.below hW)
          have hod : ((Ls s).drop o).drop (skP false ((Ls s).drop o) + n) = (Ls s).drop (k + n) := by rw [List.drop_drop]; congr 1; omega
          rw [hod] at hb
          have HX2 : Hid (toks 0 (Ls s) = ((D ++ [(kd, t, k)]) ++ (toks (k + n) ((Ls s).drop (k + n))).1, (toks (k + n) ((Ls s).drop (k + n))).2)) := Lib.hid (by rw [HX.out, hb]; simp)
          obtain ⟨k', hk'⟩ : ∃ k', (k + n) + skP false ((Ls s).drop (k + n)) = k' := ⟨_, rfl⟩
          have HS := fun w => skipped_is (s := s) (o := k + n) hs (by omega) hk' w
          have HK' := Lib.hid hk'
          have i4 : ((n : Int) == 0) = false := by rw [beq_eq_false_iff_ne]; omega
          have hkn : k + n ≤ s.size := by omega
          have hkq : k + n ≤ k' := by omega
          have hDk : D.length ≤ k := by omega
          have HBT := Lib.hid hbt
          clear hko hkl hsz hdd hx hb HX HK HF HG hod hk' hbt
          go_wp2_with (first | (go_at_call 20; refine (HC _ HI.out.bel).mono ?_; rintro e w1 ⟨rfl, b1⟩; have I1 := HI.out.below b1; have I2 := Lib.hid (I1.below (((Below.refl w1.heap.size w1).alloc (Nat.le_refl _) (.cells #[.int .i64 kd, .string b, .int .i64 k] 39)).alloc (by simp) (.cells #[.int .i64 kd, .string b, .int .i64 k] 39))); have ROW := Lib.hid (rowAt.made_at (w := w1.alloc (.cells #[.int .i64 kd, .string b, .int .i64 k] 39)) (b := w1.heap.size + 1) 39 [.int .i64 kd, .string b, .int .i64 k] (by simp)); have OWN := Lib.hid I2.out.own; have zW := Lib.hid I2.out.lt; clear b1 I1) | (go_at_call 19; refine (HS _).mono ?_; rintro e w' ⟨rfl, rfl⟩) | (at_builtin; refine wpList_append_w (by rfl) _ _ _ (by rfl) (w.heap.size + 1) 39 j0 (.agg #[.int .i64 0, .string ⟨#[]⟩, .int .i64 0]) 3 32 under_toks hi hz0 hz1 hz2 (by rfl) (by decide) (.slice a D.length c) D.length (tkLs D) (by rfl) OWN.out _ 1 1 [.int .i64 kd, .string b, .int .i64 k] (by rfl) (by rfl) (src_rowL ROW.out 1) (by simp [Value.oneCell']) (by unfold maxLen; omega) (by omega) zW.out ?_; intro v' w2 hown2 hgrow2 hb2; obtain ⟨a2, c2', rfl⟩ := owns_slice hown2; have HOW2 := Lib.hid hown2; have HGR2 := Lib.hid hgrow2; clear hown2 hgrow2 hb2))
          go_roundw
          case rel => exact ⟨D ++ [(kd, t, k)], k + n, k', rfl, HK', by omega, by simp; omega, Lib.hid (I2.out.grow (l' := D ++ [(kd, t, k)]) (by rw [tkLs_snoc, List.length_append, show tkC (kd, t, k) = [.int .i64 kd, .string b, .int .i64 k] by rw [HBT.out]; rfl]; exact HOW2.out) HGR2.out), HX2⟩
          case measure => simp [intOf]; omega
      · have hsz : k = s.size := by omega
        have he := toks_end o (l := (Ls s).drop o) (by rw [List.length_drop, ls_len]; omega)
        have HE := Lib.hid (HG.out D (by rw [HX.out, he]; simp))
        have i1 : (s.size : Int) ≤ k := by omega
        have e0 := HI.out.flt.cell 0; have e1 := HI.out.flt.cell 1; have f0 := HI.out.flt.free 0; have f1 := HI.out.flt.free 1
        simp only [List.getElem?_cons_zero, List.getElem?_cons_succ] at e0 e1
        clear hko hkl HX HK HF HG he hsz hlt
        go_wp2_with fail
        refine bodyPost_ret (results_tmp_cell Tryd.results10 (by rfl) (by rfl) (row2_put HI.out.flt _ _) Tryd.underlying26 rfl info_fault) rfl (tk_mk HE.out.1 (by rw [HE.out.2.1]; rfl) HE.out.2.2 ?_ ?_)
        · exact owns_base (owns_upon HI.out.own ((Upon.setCell (S := fun g => g = w.heap.size) _ _ rfl).trans (Upon.setCell (S := fun g => g = w.heap.size) _ _ rfl) fun _ _ h => h) fun g hg e => by have := own_geL HI.out.own g hg; omega) fun g hg => by have := own_geL HI.out.own g hg; omega
        · exact (HI.out.bel.setCell (Nat.le_refl _) _).setCell (Nat.le_refl _) _
end Go.Proofs.YtlidegofnkmenaaDoor
