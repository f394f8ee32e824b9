/-
  Package code: Decode.
  Conditions: as each states.
-/
import Derived.Test.YtabdbciebhmflaaDoorCoVh
namespace Go.Proofs.YtabdbciebhmflaaDoor
open Go.ChangeShapes Go.WideShapes Go.ChangeAt Go.RowKit
set_option linter.unusedVariables false
set_option linter.unusedSimpArgs false
set_option maxRecDepth 100000

/-! What is read fits. -/
abbrev Bd (s : Rd) : Prop := ∀ z ∈ s.1, 0 ≤ z ∧ z < 256
theorem wf_wrap (x : Int) : (Lit.int .i64 (IntKind.i64.wrap x)).wf = true := by
  have h := wrap_i64_eq x
  simp [Lit.wf, IntKind.min, IntKind.max, IntKind.signed, IntKind.bits]
  omega
theorem wf_numOf (l : List Int) : (Lit.int .i64 (numOf l)).wf = true := by
  rcases List.eq_nil_or_concat l with rfl | ⟨l, z, rfl⟩
  · rfl
  · rw [List.concat_eq_append, numOf_snoc]; exact wf_wrap _
theorem wf_rdNum (k : Nat) (s : Rd) : (Lit.int .i64 (rdNum k s).1).wf = true := by rw [rdNum_take]; exact wf_numOf _
theorem rdList_all {α : Type} {one : Rd → α × Rd} {Q : α → Prop} (h : ∀ s, Bd s → Q (one s).1 ∧ Bd (one s).2) : ∀ (n : Nat) (s : Rd), Bd s → (∀ x ∈ (rdList one n s).1, Q x) ∧ Bd (rdList one n s).2 ∧ (rdList one n s).1.length ≤ n
  | 0, s, hs => ⟨(fun x hx => by cases hx), hs, Nat.le_refl _⟩
  | n + 1, s, hs => by
    cases e : s.2
    · rw [list_next one n e]
      obtain ⟨h1, h2⟩ := h s hs
      obtain ⟨a, b, c⟩ := rdList_all h n _ h2
      refine ⟨fun x hx => ?_, b, by simp; exact c⟩
      rcases List.mem_cons.1 hx with rfl | hx
      · exact h1
      · exact a x hx
    · rw [list_done one (n + 1) (.inr e)]
      exact ⟨fun x hx => (by cases hx), hs, Nat.zero_le _⟩
theorem rdIns_fit (s : Rd) (hs : Bd s) : insF (rdIns s).1 ∧ Bd (rdIns s).2 := by
  unfold rdIns
  split
  · exact ⟨⟨rfl, rfl, rfl⟩, rdNum_bd hs 1⟩
  · exact ⟨⟨wf_rdNum _ _, wf_rdNum _ _, wf_rdNum _ _⟩, rdNum_bd (rdNum_bd (rdNum_bd hs _) _) _⟩
theorem rdCon_fit (s : Rd) (hs : Bd s) : (Lit.int .i64 (rdCon s).1).wf = true ∧ Bd (rdCon s).2 := by
  refine ⟨?_, rdNum_bd hs 1⟩
  unfold rdCon
  simp only
  split
  · rfl
  · exact wf_rdNum _ _
theorem rdTake_len (n : Nat) (s : Rd) : (rdTake n s).1.length ≤ n := by
  unfold rdTake
  split
  · simp only [List.length_take]; omega
  · simp
theorem byI_size (l : List Int) : (byI l).size = l.length := by simp [byI, ByteArray.size]
theorem rdStr_fit (s : Rd) (hs : Bd s) : (rdStr s).1.size ≤ maxLen ∧ Bd (rdStr s).2 := by
  have h := rdNum1_bd hs
  refine ⟨?_, rdTake_rd (rdNum_bd hs 1) _⟩
  show (byI (rdTake (rdNum 1 s).1.toNat (rdNum 1 s).2).1).size ≤ maxLen
  rw [byI_size]
  have := rdTake_len (rdNum 1 s).1.toNat (rdNum 1 s).2
  unfold maxLen
  omega
theorem rdFn_fit (s : Rd) (hs : Bd s) : fnF (rdFn s).1 ∧ Bd (rdFn s).2 := by
  have b1 := rdNum_bd hs 1
  have b2 := rdNum_bd b1 1
  have hc := rdCnt_bd (k := 2) (m := 600) (rdNum2_bd b2).1 (by omega)
  have b3 := rdCnt_rd (k := 2) (m := 600) b2
  obtain ⟨h1, h2, h3⟩ := rdList_all rdIns_fit (rdCnt 2 600 (rdNum 1 (rdNum 1 s).2).2).1.toNat _ b3
  exact ⟨⟨wf_rdNum _ _, wf_rdNum _ _, h1, by unfold maxLen; show (rdList rdIns _ _).1.length ≤ _; omega⟩, h2⟩
theorem rdFm_fit (s : Rd) (hs : Bd s) : fmF (rdFm s).1 ∧ Bd (rdFm s).2 := by
  have b1 := rdNum_bd hs 1
  have b2 := rdNum_bd b1 1
  have b2' := rdNum_bd b2 1
  have hc := rdCnt_bd (k := 1) (m := 20) (rdNum1_bd b2').1 (by omega)
  have b3 := rdCnt_rd (k := 1) (m := 20) b2'
  obtain ⟨h1, h2, h3⟩ := rdList_all (one := rdCon) (Q := fun c => (Lit.int .i64 c).wf = true) rdCon_fit (rdCnt 1 20 (rdNum 1 (rdNum 1 (rdNum 1 s).2).2).2).1.toNat _ b3
  exact ⟨⟨wf_rdNum _ _, wf_rdNum _ _, wf_rdNum _ _, h1, by unfold maxLen; show (rdList rdCon _ _).1.length ≤ _; omega⟩, h2⟩
theorem rdPr_fit (s : Rd) (hs : Bd s) : prF (rdPr s).1 := by
  have c1 := rdCnt_bd (k := 1) (m := 60) (rdNum1_bd hs).1 (by omega)
  have b1 := rdCnt_rd (k := 1) (m := 60) hs
  have c2 := rdCnt_bd (k := 1) (m := 40) (rdNum1_bd b1).1 (by omega)
  have b2 := rdCnt_rd (k := 1) (m := 40) b1
  have c3 := rdCnt_bd (k := 1) (m := 40) (rdNum1_bd b2).1 (by omega)
  have b3 := rdCnt_rd (k := 1) (m := 40) b2
  obtain ⟨f1, f2, f3⟩ := rdList_all rdFn_fit (rdCnt 1 60 s).1.toNat _ b3
  obtain ⟨q1, q2, q3⟩ := rdList_all (one := rdStr) (Q := fun s => s.size ≤ maxLen) rdStr_fit (rdCnt 1 40 (rdCnt 1 60 s).2).1.toNat _ f2
  obtain ⟨m1, m2, m3⟩ := rdList_all rdFm_fit (rdCnt 1 40 (rdCnt 1 40 (rdCnt 1 60 s).2).2).1.toNat _ q2
  have M : maxLen = 9223372036854775807 := rfl
  refine ⟨f1, m1, q1, ?_, ?_, ?_⟩
  · show (rdList rdFn _ _).1.length ≤ _; omega
  · show (rdList rdStr _ _).1.length ≤ _; omega
  · show (rdList rdFm _ _).1.length ≤ _; omega

/-- What Decode tells. -/
def DecPost (l : List Int) (w : World) (e : Ending) (w' : World) : Prop :=
  ∃ v1 v2 v3, e = .returned (.tuple #[.agg #[v1, v2, v3], .bool (decB l)]) ∧ prAt (fun g => g < w.heap.size) w' v1 v2 v3 (decPr l) ∧ Below w.heap.size w w'
theorem prAt_nil {S : Nat → Prop} {w : World} : prAt S w (.slice none 0 0) (.slice none 0 0) (.slice none 0 0) ([], [], []) := ⟨⟨none, 0, rfl, .inl rfl⟩, ⟨none, 0, rfl, .inl rfl⟩, ⟨none, 0, rfl, .inl rfl⟩⟩
theorem dec_none {l : List Int} {w w' : World} (h : decB l = false) (hb : Below w.heap.size w w') : DecPost l w (.returned (.tuple #[.agg #[.slice none 0 0, .slice none 0 0, .slice none 0 0], .bool false])) w' := by
  refine ⟨_, _, _, by rw [h], ?_, hb⟩
  unfold decPr
  rw [if_neg (by rw [h]; decide)]
  exact prAt_nil
theorem dec_some {l : List Int} {w w' : World} {v1 v2 v3 : Value} (h : decB l = true) (hb : Below w.heap.size w w') (hp : prAt (fun g => g < w.heap.size) w' v1 v2 v3 (rdPr (l, false)).1) : DecPost l w (.returned (.tuple #[.agg #[v1, v2, v3], .bool true])) w' := by
  refine ⟨_, _, _, by rw [h], ?_, hb⟩
  unfold decPr
  rw [if_pos h]
  exact hp
theorem decB_lost {l : List Int} {P : PPr} {s : Rd} (e : rdPr (l, false) = (P, s)) (h : s.2 = true) : decB l = false := by unfold decB; rw [e, h]; rfl
theorem decB_rest {l : List Int} {P : PPr} {s : Rd} (e : rdPr (l, false) = (P, s)) (h : 0 < s.1.length) : decB l = false := by
  unfold decB; rw [e, decide_eq_false (fun e => by rw [e] at h; simp at h), Bool.false_and, Bool.and_false]
theorem decB_good {l : List Int} {P : PPr} {s : Rd} (e : rdPr (l, false) = (P, s)) (h : s.2 = false) (h0 : s.1.length = 0) : decB l = prG P := by
  unfold decB; rw [e, h, decide_eq_true (List.length_eq_zero_iff.1 h0)]; rfl

set_option maxHeartbeats 8000000 in
theorem decode_any (v : Value) (l : List Int) (w : World) (T : CoTab w) (hv : bySl w.heap.size w v l) (hbd : ∀ z ∈ l, 0 ≤ z ∧ z < 256) :
    Calls Tryd.prog 13 #[v] w (DecPost l w) := by
  have HV := Lib.hid hv
  obtain ⟨a, c, rfl, -⟩ := hv
  obtain ⟨W, hW⟩ : ∃ W, (w.alloc (.cells #[.slice none 0 0, .slice none 0 0, .slice none 0 0] 26)).alloc (.cells #[.slice a l.length c, .bool false] 65) = W := ⟨_, rfl⟩
  have hbW : Below w.heap.size w W := by rw [← hW]; exact down_alloc (down_alloc (Below.refl _ _) _) _
  have ra : rowAt W w.heap.size 26 [.slice none 0 0, .slice none 0 0, .slice none 0 0] := by rw [← hW]; exact (rowAt.made _ _ _).alloc _
  have rr : rowAt W (w.heap.size + 1) 65 [.slice a l.length c, .bool false] := by rw [← hW]; exact rowAt.made_at _ _ (by simp)
  have R := Lib.hid (show RdAt w.heap.size W (w.heap.size + 1) (l, false) from ⟨⟨_, rr, HV.out.upon (upon_of_below hbW) fun _ _ t => t.elim⟩, by omega, hbd⟩)
  have TW := T.below hbW
  have hbw := Lib.hid hbW
  have tsz := T.w.size
  have HF := Lib.hid (rdPr_fit (l, false) hbd)
  have zW : w.heap.size + 1 < W.heap.size := rr.lt
  clear hbW rr
  go_enter Tryd.func13, Tryd.ntmps13
  go_wp2_with fail
  refine (rprog_any R.out TW.w tsz).mono ?_
  rintro e w1 ⟨v1, v2, v3, rfl, hp, hr, hu⟩
  obtain ⟨⟨P, s⟩, hq⟩ : ∃ x, rdPr (l, false) = x := ⟨_, rfl⟩
  have HQ := Lib.hid hq
  rw [hq] at hp hr
  have hF : prF P := by have := HF.out; rw [hq] at this; exact this
  simp only at hp hr
  have NF := Lib.hid hF
  clear hF hq HF
  have ra1 := ra.upon hu (by omega)
  have B1 := Lib.hid (hbw.out.trans (hu.belowB (B := w.heap.size) (by omega) fun k e => by omega))
  have T1 := T.op.below B1.out
  obtain ⟨⟨sv, hrr, hsv⟩, -, -⟩ := hr
  have c0 : w1.cell? ⟨w.heap.size + 1, 0, none⟩ = some sv := (hrr.cell 0).trans rfl
  have c1 : w1.cell? ⟨w.heap.size + 1, 1, none⟩ = some (.bool s.2) := (hrr.cell 1).trans rfl
  obtain ⟨b0, b1, rfl, -⟩ := hsv
  obtain ⟨x1, y1, rfl⟩ := hp.1.slice
  obtain ⟨x2, y2, rfl⟩ := hp.2.1.slice
  obtain ⟨x3, y3, rfl⟩ := hp.2.2.slice
  have z1 : W.heap.size ≤ w1.heap.size := hu.size
  obtain ⟨V, hV⟩ : ∃ V, w1.alloc (.cells #[.slice x1 P.1.length y1, .slice x2 P.2.1.length y2, .slice x3 P.2.2.length y3] 26) = V := ⟨_, rfl⟩
  have hbV : Below w1.heap.size w1 V := by rw [← hV]; exact down_alloc (Below.refl _ _) _
  have rV : rowAt V w1.heap.size 26 [.slice x1 P.1.length y1, .slice x2 P.2.1.length y2, .slice x3 P.2.2.length y3] := by rw [← hV]; exact rowAt.made _ _ _
  have raV := ra1.below hbV ra1.lt
  have rrV := hrr.below hbV hrr.lt
  have BV := Lib.hid (B1.out.trans (hbV.mono (by omega)))
  have PV := Lib.hid ((hp.off (T := fun g => g < W.heap.size) fun _ _ e => e).below hbV)
  have TV := T1.below hbV
  have d0 : V.cell? ⟨w.heap.size + 1, 0, none⟩ = some (.slice b0 s.1.length b1) := (rrV.cell 0).trans rfl
  have d1 : V.cell? ⟨w.heap.size + 1, 1, none⟩ = some (.bool s.2) := (rrV.cell 1).trans rfl
  have y0 : V.cell? ⟨w.heap.size, 0, none⟩ = some (.slice none 0 0) := (raV.cell 0).trans rfl
  have y1' : V.cell? ⟨w.heap.size, 1, none⟩ = some (.slice none 0 0) := (raV.cell 1).trans rfl
  have y2' : V.cell? ⟨w.heap.size, 2, none⟩ = some (.slice none 0 0) := (raV.cell 2).trans rfl
  have f0 : V.frozen? ⟨w.heap.size, 0, none⟩ = false := raV.free 0
  have f1 : V.frozen? ⟨w.heap.size, 1, none⟩ = false := raV.free 1
  have f2 : V.frozen? ⟨w.heap.size, 2, none⟩ = false := raV.free 2
  have p0 : V.cell? ⟨w1.heap.size, 0, none⟩ = some (.slice x1 P.1.length y1) := (rV.cell 0).trans rfl
  have p1 : V.cell? ⟨w1.heap.size, 1, none⟩ = some (.slice x2 P.2.1.length y2) := (rV.cell 1).trans rfl
  have p2 : V.cell? ⟨w1.heap.size, 2, none⟩ = some (.slice x3 P.2.2.length y3) := (rV.cell 2).trans rfl
  clear hp hu ra hW hrr ra1 hbV T1 R TW
  cases hl : s.2
  · by_cases hs : 0 < s.1.length
    · have D := Lib.hid (decB_rest HQ.out hs)
      rw [hl] at c1 d1
      go_wp2_with fail
      refine bodyPost_ret (v := .tuple #[.agg #[.slice none 0 0, .slice none 0 0, .slice none 0 0], .bool false]) (by simp [results, Tryd.results13, go_sem, y0, y1', y2']) rfl (dec_none D.out ?_)
      exact down_set (down_set (down_set BV.out (Nat.le_refl _) _) (Nat.le_refl _) _) (Nat.le_refl _) _
    · have hs0 : s.1.length = 0 := by omega
      have E := Lib.hid (decB_good HQ.out hl hs0)
      rw [hl] at c1 d1
      cases hG : prG P
      · have D := Lib.hid (E.out.trans hG)
        have HG := Lib.hid hG
        clear hG hs0 E hl
        go_wp2_with fail
        refine (codeGood_is HG.out _ _ _ _ TV PV.out NF.out).mono ?_
        rintro e w2 ⟨rfl, hb⟩
        obtain ⟨hc, hf⟩ := down_cell hb
        have q0 : w2.cell? ⟨w.heap.size, 0, none⟩ = some (.slice none 0 0) := ((raV.below hb raV.lt).cell 0).trans rfl
        have q1 : w2.cell? ⟨w.heap.size, 1, none⟩ = some (.slice none 0 0) := ((raV.below hb raV.lt).cell 1).trans rfl
        have q2 : w2.cell? ⟨w.heap.size, 2, none⟩ = some (.slice none 0 0) := ((raV.below hb raV.lt).cell 2).trans rfl
        have g0 : w2.frozen? ⟨w.heap.size, 0, none⟩ = false := (raV.below hb raV.lt).free 0
        have g1 : w2.frozen? ⟨w.heap.size, 1, none⟩ = false := (raV.below hb raV.lt).free 1
        have g2 : w2.frozen? ⟨w.heap.size, 2, none⟩ = false := (raV.below hb raV.lt).free 2
        have B2 := Lib.hid (down_call BV.out hb)
        clear hc hf hb
        go_wp2_with fail
        refine bodyPost_ret (v := .tuple #[.agg #[.slice none 0 0, .slice none 0 0, .slice none 0 0], .bool false]) (by simp [results, Tryd.results13, go_sem, q0, q1, q2]) rfl (dec_none D.out ?_)
        exact down_set (down_set (down_set B2.out (Nat.le_refl _) _) (Nat.le_refl _) _) (Nat.le_refl _) _
      · have D := Lib.hid (E.out.trans hG)
        have HG := Lib.hid hG
        clear hG hs0 E hl
        go_wp2_with fail
        refine (codeGood_is HG.out _ _ _ _ TV PV.out NF.out).mono ?_
        rintro e w2 ⟨rfl, hb⟩
        have rr2 := rV.below hb rV.lt
        have ra2 := raV.below hb raV.lt
        have q0 : w2.cell? ⟨w.heap.size, 0, none⟩ = some (.slice none 0 0) := (ra2.cell 0).trans rfl
        have q1 : w2.cell? ⟨w.heap.size, 1, none⟩ = some (.slice none 0 0) := (ra2.cell 1).trans rfl
        have q2 : w2.cell? ⟨w.heap.size, 2, none⟩ = some (.slice none 0 0) := (ra2.cell 2).trans rfl
        have g0 : w2.frozen? ⟨w.heap.size, 0, none⟩ = false := ra2.free 0
        have g1 : w2.frozen? ⟨w.heap.size, 1, none⟩ = false := ra2.free 1
        have g2 : w2.frozen? ⟨w.heap.size, 2, none⟩ = false := ra2.free 2
        have k0 : w2.cell? ⟨w1.heap.size, 0, none⟩ = some (.slice x1 P.1.length y1) := (rr2.cell 0).trans rfl
        have k1 : w2.cell? ⟨w1.heap.size, 1, none⟩ = some (.slice x2 P.2.1.length y2) := (rr2.cell 1).trans rfl
        have k2 : w2.cell? ⟨w1.heap.size, 2, none⟩ = some (.slice x3 P.2.2.length y3) := (rr2.cell 2).trans rfl
        have B2 := Lib.hid (down_call BV.out hb)
        have P2 := Lib.hid (PV.out.below hb)
        have ne : w.heap.size < W.heap.size := by omega
        clear hb rr2 ra2
        go_wp2_with fail
        refine bodyPost_ret (v := .tuple #[.agg #[.slice x1 P.1.length y1, .slice x2 P.2.1.length y2, .slice x3 P.2.2.length y3], .bool true]) (by simp [results, Tryd.results13, go_sem, q0, q1, q2]) rfl (dec_some D.out ?_ ?_)
        · exact down_set (down_set (down_set B2.out (Nat.le_refl _) _) (Nat.le_refl _) _) (Nat.le_refl _) _
        · rw [HQ.out]
          have x : ∀ {W' : World} {v : Value} (o' : Nat), prAt (fun g => g < W.heap.size) W' (.slice x1 P.1.length y1) (.slice x2 P.2.1.length y2) (.slice x3 P.2.2.length y3) P → prAt (fun g => g < W.heap.size) (W'.setCell ⟨w.heap.size, o', none⟩ v) (.slice x1 P.1.length y1) (.slice x2 P.2.1.length y2) (.slice x3 P.2.2.length y3) P := fun o' h => h.upon stay_set fun k _ e => by subst e; exact ne
          exact (x _ (x _ (x _ P2.out))).off fun k _ e => by omega
  · have D := Lib.hid (decB_lost HQ.out hl)
    rw [hl] at c1 d1
    go_wp2_with fail
    refine bodyPost_ret (v := .tuple #[.agg #[.slice none 0 0, .slice none 0 0, .slice none 0 0], .bool false]) (by simp [results, Tryd.results13, go_sem, y0, y1', y2']) rfl (dec_none D.out ?_)
    exact down_set (down_set (down_set BV.out (Nat.le_refl _) _) (Nat.le_refl _) _) (Nat.le_refl _) _
end Go.Proofs.YtabdbciebhmflaaDoor
