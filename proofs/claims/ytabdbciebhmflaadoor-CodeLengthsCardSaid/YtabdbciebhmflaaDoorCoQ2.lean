/-
  Programs and bytes, plain, second part: instructions, functions, texts, forms, programs, there and back.
  Conditions: as each states.
-/
import Derived.Test.YtabdbciebhmflaaDoorCoQ
namespace Go.Proofs.YtabdbciebhmflaaDoor
open Go.ChangeShapes Go.WideShapes Go.ChangeAt Go.RowKit
set_option linter.unusedVariables false
set_option linter.unusedSimpArgs false
set_option maxRecDepth 100000

theorem okW1 {n : Int} (h : 0 ≤ n ∧ n < 256) : okW 1 n := .inr (.inl ⟨rfl, h⟩)
theorem okW2 {n : Int} (h : 0 ≤ n ∧ n < 65536) : okW 2 n := .inr (.inr (.inl ⟨rfl, h⟩))
theorem spanA : ∀ k : Nat, k < 38 → (aT.getD k 0 = 0 ∧ spL (opA k) = 0 ∧ spH (opA k) = 0) ∨ (aT.getD k 0 = 2 ∧ 0 ≤ spL (opA k) ∧ spH (opA k) < 65536) ∨ (aT.getD k 0 = 8 ∧ -9223372036854775808 ≤ spL (opA k) ∧ spH (opA k) < 9223372036854775808) := by decide
theorem spanB : ∀ k : Nat, k < 38 → k ≠ 36 → (bT.getD k 0 = 0 ∧ spL (opT.getD k rowZ).2.2.1 = 0 ∧ spH (opT.getD k rowZ).2.2.1 = 0) ∨ (bT.getD k 0 = 1 ∧ 0 ≤ spL (opT.getD k rowZ).2.2.1 ∧ spH (opT.getD k rowZ).2.2.1 < 256) := by decide
theorem spanH : ∀ k : Nat, k < 4 → 0 ≤ spL (hoT.getD k rowZ).2.2.1 ∧ spH (hoT.getD k rowZ).2.2.1 < 256 := by decide
theorem ins_ok {p : PIns} (h : insG p = true) : (0 ≤ p.1 ∧ p.1 < 38) ∧ okW (aW p.1) p.2.1 ∧ okW (bW p.1) p.2.2 := by
  obtain ⟨o, a, b⟩ := p
  unfold insG opGood at h
  simp only [Bool.and_eq_true, decide_eq_true_eq] at h
  obtain ⟨⟨h1, hA⟩, hB⟩ := h
  obtain ⟨k, rfl⟩ := Int.eq_ofNat_of_zero_le h1.1
  have hk : k < 38 := by omega
  have hkk : ((k : Nat) : Int).toNat = k := Int.toNat_natCast k
  unfold opHas at hA hB
  simp only [decide_eq_true_eq] at hA hB
  refine ⟨⟨by simp only; omega, by simp only; omega⟩, ?_, ?_⟩
  · show okW (aT.getD ((k : Int)).toNat 0) a
    rw [hkk] at hA ⊢
    have := spanA k hk
    unfold okW
    omega
  · show okW (bT.getD ((k : Int)).toNat 0) b
    rw [hkk]
    by_cases h36 : k = 36
    · subst h36
      have ha : 0 ≤ a ∧ a ≤ 3 := by
        have : spL (opA ((36 : Nat) : Int).toNat) = 0 ∧ spH (opA ((36 : Nat) : Int).toNat) = 3 := by decide
        omega
      obtain ⟨i, rfl⟩ := Int.eq_ofNat_of_zero_le ha.1
      have hr : rowAtP ((36 : Nat) : Int) (i : Int) = hoT.getD i rowZ := by rw [show ((36 : Nat) : Int) = 36 from rfl, row_host]; rfl
      rw [hr] at hB
      have := spanH i (by omega)
      exact okW1 (by omega)
    · have hr : rowAtP (k : Int) a = opT.getD k rowZ := row_plain k a (by omega)
      rw [hr] at hB
      have := spanB k hk h36
      unfold okW
      omega

theorem rdIns_enc {p : PIns} (h : insG p = true) (t : List Int) : rdIns (encIns p ++ t, false) = (p, (t, false)) := by
  obtain ⟨h1, hA, hB⟩ := ins_ok h
  obtain ⟨o, a, b⟩ := p
  simp only at h1 hA hB
  have e : encIns (o, a, b) ++ t = bytesOf o 1 ++ (bytesOf a (aW o) ++ (bytesOf b (bW o) ++ t)) := by simp [encIns]
  have r1 := rdNum_enc (okW1 (n := o) (by omega)) (bytesOf a (aW o) ++ (bytesOf b (bW o) ++ t))
  rw [e]
  rw [ins_read _ (by rw [r1]; simp only; omega) r1, rdNum_enc hA, rdNum_enc hB]
theorem rdIns_dec (s : Rd) (p : PIns) (s' : Rd) (hb : Bd s) (h : rdIns s = (p, s')) (hs : s'.2 = false) : s.2 = false ∧ s.1 = encIns p ++ s'.1 ∧ Bd s' := by
  obtain ⟨⟨o, s1⟩, h1⟩ : ∃ x, rdNum 1 s = x := ⟨_, rfl⟩
  by_cases hl : 38 ≤ o
  · rw [ins_lost s (by rw [h1]; exact hl)] at h
    cases h; cases hs
  · rw [ins_read s (by rw [h1]; exact hl) h1] at h
    obtain ⟨⟨a, s2⟩, h2⟩ : ∃ x, rdNum (aW o) s1 = x := ⟨_, rfl⟩
    obtain ⟨⟨b, s3⟩, h3⟩ : ∃ x, rdNum (bW o) s2 = x := ⟨_, rfl⟩
    rw [h2] at h
    simp only [h3] at h
    cases h
    have b1 : Bd s1 := by have := rdNum_bd hb 1; rwa [h1] at this
    have b2 : Bd s2 := by have := rdNum_bd b1 (aW o); rwa [h2] at this
    have x3 := rdNum_dec (by have := bW_le o; omega) b2 h3 hs
    have x2 := rdNum_dec (aW_le o) b1 h2 x3.1
    have x1 := rdNum_dec (by omega) hb h1 x2.1
    refine ⟨x1.1, ?_, x3.2.2⟩
    rw [x1.2.1, x2.2.1, x3.2.1]
    simp [encIns]

theorem rdFn_enc {f : PFn} (h : fnG f = true) (t : List Int) : rdFn (encFn f ++ t, false) = (f, (t, false)) := by
  obtain ⟨h1, h2, h3, h4, h5⟩ := fnG_parts h
  obtain ⟨loc, free, l⟩ := f
  simp only at h1 h2 h3 h4 h5
  have e : encFn (loc, free, l) ++ t = bytesOf loc 1 ++ (bytesOf free 1 ++ (bytesOf l.length 2 ++ (l.flatMap encIns ++ t))) := by simp [encFn]
  rw [e, rdFn_eq _ (rdNum_enc (okW1 (by omega)) _) (rdNum_enc (okW1 (by omega)) _) (rdCnt_enc (okW2 (by omega)) (by omega) _), Int.toNat_natCast,
    rdList_enc (one := rdIns) (enc := encIns) l (fun x hx t => rdIns_enc (h5 x hx) t)]
theorem rdFn_dec (s : Rd) (f : PFn) (s' : Rd) (hb : Bd s) (h : rdFn s = (f, s')) (hs : s'.2 = false) : s.2 = false ∧ s.1 = encFn f ++ s'.1 ∧ Bd s' := by
  obtain ⟨⟨a, s1⟩, h1⟩ : ∃ x, rdNum 1 s = x := ⟨_, rfl⟩
  obtain ⟨⟨b, s2⟩, h2⟩ : ∃ x, rdNum 1 s1 = x := ⟨_, rfl⟩
  obtain ⟨⟨n, s3⟩, h3⟩ : ∃ x, rdCnt 2 600 s2 = x := ⟨_, rfl⟩
  obtain ⟨⟨l, s4⟩, h4⟩ : ∃ x, rdList rdIns n.toNat s3 = x := ⟨_, rfl⟩
  rw [rdFn_eq s h1 h2 h3, h4] at h
  cases h
  have b1 : Bd s1 := by have := rdNum_bd hb 1; rwa [h1] at this
  have b2 : Bd s2 := by have := rdNum_bd b1 1; rwa [h2] at this
  have b3 : Bd s3 := by have := rdCnt_rd (k := 2) (m := 600) b2; rwa [h3] at this
  have hn := rdCnt_bd (k := 2) (m := 600) (rdNum2_bd b2).1 (by omega)
  rw [h3] at hn
  have x4 := rdList_dec rdIns_dec n.toNat s3 l s4 b3 h4 hs
  have x3 := rdCnt_dec (by omega) b2 h3 x4.1
  have x2 := rdNum_dec (by omega) b1 h2 x3.1
  have x1 := rdNum_dec (by omega) hb h1 x2.1
  refine ⟨x1.1, ?_, x4.2.2.2⟩
  rw [x1.2.1, x2.2.1, x3.2.1, x4.2.2.1, show n = ((l.length : Nat) : Int) by rw [x4.2.1]; simp only at hn; omega]
  simp [encFn]

theorem byI_strI (s : ByteArray) : byI (strI s) = s := by
  apply ByteArray.ext
  apply Array.ext'
  simp [byI, strI, Function.comp_def]
theorem strI_byI (l : List Int) (h : ∀ z ∈ l, 0 ≤ z ∧ z < 256) : strI (byI l) = l := by
  have : ∀ (l : List Int), (∀ z ∈ l, 0 ≤ z ∧ z < 256) → l.map (fun z => ((UInt8.ofNat z.toNat).toNat : Int)) = l := by
    intro l
    induction l with
    | nil => intro _; rfl
    | cons z l ih =>
      intro h
      have hz := h z (List.mem_cons_self ..)
      rw [List.map_cons, ih fun y hy => h y (List.mem_cons_of_mem _ hy)]
      congr 1
      simp [UInt8.toNat_ofNat']
      omega
  simpa [strI, byI, Function.comp_def] using this l h
theorem rdStr_enc {s : ByteArray} (h : s.size ≤ 60) (t : List Int) : rdStr (encStr s ++ t, false) = (s, (t, false)) := by
  have e : encStr s ++ t = bytesOf s.size 1 ++ (strI s ++ t) := by simp [encStr]
  have hl := strI_length s
  unfold rdStr
  rw [e, rdNum_enc (okW1 (by omega))]
  simp only [Int.toNat_natCast]
  unfold rdTake
  rw [if_pos (by simp only [List.length_append]; omega)]
  simp only
  rw [List.take_left' hl, List.drop_left' hl, byI_strI]
theorem rdStr_dec (s : Rd) (x : ByteArray) (s' : Rd) (hb : Bd s) (h : rdStr s = (x, s')) (hs : s'.2 = false) : s.2 = false ∧ s.1 = encStr x ++ s'.1 ∧ Bd s' := by
  obtain ⟨⟨n, s1⟩, h1⟩ : ∃ x, rdNum 1 s = x := ⟨_, rfl⟩
  have hn := rdNum1_bd hb
  have b1 : Bd s1 := by have := rdNum_bd hb 1; rwa [h1] at this
  rw [h1] at hn
  simp only at hn
  unfold rdStr at h
  rw [h1] at h
  simp only at h
  unfold rdTake at h
  split at h
  · rename_i hl
    cases h
    have x1 := rdNum_dec (by omega) hb h1 hs
    have hlen : (s1.1.take n.toNat).length = n.toNat := List.length_take_of_le hl
    refine ⟨x1.1, ?_, fun z hz => b1 z (List.mem_of_mem_drop hz)⟩
    rw [x1.2.1]
    unfold encStr
    rw [byI_size, hlen, strI_byI _ (fun z hz => b1 z (List.mem_of_mem_take hz)), show ((n.toNat : Nat) : Int) = n by omega, List.append_assoc]
    congr 1
    exact (List.take_append_drop n.toNat s1.1).symm
  · cases h; cases hs

theorem rdCon_enc {c : Int} (h : c = -1 ∨ 0 ≤ c ∧ c < 255) (t : List Int) : rdCon (bytesOf c 1 ++ t, false) = (c, (t, false)) := by
  unfold rdCon
  rcases h with rfl | h
  · rw [show bytesOf (-1) 1 = bytesOf 255 1 from rfl, rdNum_enc (okW1 (by omega))]; rfl
  · rw [rdNum_enc (okW1 (by omega))]
    simp only
    rw [if_neg (by omega)]
theorem rdCon_dec (s : Rd) (c : Int) (s' : Rd) (hb : Bd s) (h : rdCon s = (c, s')) (hs : s'.2 = false) : s.2 = false ∧ s.1 = bytesOf c 1 ++ s'.1 ∧ Bd s' := by
  obtain ⟨⟨n, s1⟩, h1⟩ : ∃ x, rdNum 1 s = x := ⟨_, rfl⟩
  unfold rdCon at h
  rw [h1] at h
  simp only at h
  cases h
  have x1 := rdNum_dec (by omega) hb h1 hs
  refine ⟨x1.1, ?_, x1.2.2⟩
  rw [x1.2.1]
  split
  · rename_i e; rw [e]; rfl
  · rfl
theorem fm_ok {n : Nat} (hn : n ≤ 40) {m : PFm} (h : fmG n m = true) : (0 ≤ m.1 ∧ m.1 < 256) ∧ (0 ≤ m.2.1 ∧ m.2.1 < 256) ∧ (0 ≤ m.2.2.1 ∧ m.2.2.1 < 256) ∧ m.2.2.2.length ≤ 20 ∧ ∀ c ∈ m.2.2.2, c = -1 ∨ 0 ≤ c ∧ c < 255 := by
  have hc := fmG_cons h
  unfold fmG belowB at h
  split at h
  · simp only [Bool.and_eq_true, decide_eq_true_eq] at h
    have e := List.length_eq_zero_iff.1 h.2.2
    rw [e]
    exact ⟨by omega, by omega, by omega, by simp, fun c hc => by cases hc⟩
  · split at h
    · simp only [Bool.and_eq_true, decide_eq_true_eq] at h
      have e := List.length_eq_zero_iff.1 h.2.2
      rw [e]
      exact ⟨by omega, by omega, by omega, by simp, fun c hc => by cases hc⟩
    · split at h
      · simp only [Bool.and_eq_true, decide_eq_true_eq] at h
        have e := List.length_eq_zero_iff.1 h.2.2
        rw [e]
        exact ⟨by omega, by omega, by omega, by simp, fun c hc => by cases hc⟩
      · split at h
        · simp only [Bool.and_eq_true, decide_eq_true_eq] at h
          refine ⟨by omega, by omega, by omega, hc, fun c hc => ?_⟩
          have h3 := h.2.2
          unfold consG at h3
          simp only [Bool.and_eq_true, decide_eq_true_eq] at h3
          obtain ⟨j, hj, e⟩ := List.getElem_of_mem hc
          have := allI_at h3.2 (show m.2.2.2[j]? = some c by rw [List.getElem?_eq_getElem hj, e])
          unfold conG belowB at this
          simp only [Bool.or_eq_true, decide_eq_true_eq] at this
          omega
        · cases h
theorem rdFm_enc {n : Nat} (hn : n ≤ 40) {m : PFm} (h : fmG n m = true) (t : List Int) : rdFm (encFm m ++ t, false) = (m, (t, false)) := by
  obtain ⟨h1, h2, h3, h4, h5⟩ := fm_ok hn h
  obtain ⟨k, a, b, l⟩ := m
  simp only at h1 h2 h3 h4 h5
  have e : encFm (k, a, b, l) ++ t = bytesOf k 1 ++ (bytesOf a 1 ++ (bytesOf b 1 ++ (bytesOf l.length 1 ++ (l.flatMap (bytesOf · 1) ++ t)))) := by simp [encFm]
  rw [e, rdFm_eq _ (rdNum_enc (okW1 h1) _) (rdNum_enc (okW1 h2) _) (rdNum_enc (okW1 h3) _) (rdCnt_enc (okW1 (by omega)) (by omega) _), Int.toNat_natCast,
    rdList_enc (one := rdCon) (enc := (bytesOf · 1)) l (fun x hx t => rdCon_enc (h5 x hx) t)]
theorem rdFm_dec (s : Rd) (m : PFm) (s' : Rd) (hb : Bd s) (h : rdFm s = (m, s')) (hs : s'.2 = false) : s.2 = false ∧ s.1 = encFm m ++ s'.1 ∧ Bd s' := by
  obtain ⟨⟨k, s1⟩, h1⟩ : ∃ x, rdNum 1 s = x := ⟨_, rfl⟩
  obtain ⟨⟨a, s2⟩, h2⟩ : ∃ x, rdNum 1 s1 = x := ⟨_, rfl⟩
  obtain ⟨⟨b, s3⟩, h3⟩ : ∃ x, rdNum 1 s2 = x := ⟨_, rfl⟩
  obtain ⟨⟨n, s4⟩, h4⟩ : ∃ x, rdCnt 1 20 s3 = x := ⟨_, rfl⟩
  obtain ⟨⟨l, s5⟩, h5⟩ : ∃ x, rdList rdCon n.toNat s4 = x := ⟨_, rfl⟩
  rw [rdFm_eq s h1 h2 h3 h4, h5] at h
  cases h
  have b1 : Bd s1 := by have := rdNum_bd hb 1; rwa [h1] at this
  have b2 : Bd s2 := by have := rdNum_bd b1 1; rwa [h2] at this
  have b3 : Bd s3 := by have := rdNum_bd b2 1; rwa [h3] at this
  have b4 : Bd s4 := by have := rdCnt_rd (k := 1) (m := 20) b3; rwa [h4] at this
  have hn := rdCnt_bd (k := 1) (m := 20) (rdNum1_bd b3).1 (by omega)
  rw [h4] at hn
  have x5 := rdList_dec rdCon_dec n.toNat s4 l s5 b4 h5 hs
  have x4 := rdCnt_dec (by omega) b3 h4 x5.1
  have x3 := rdNum_dec (by omega) b2 h3 x4.1
  have x2 := rdNum_dec (by omega) b1 h2 x3.1
  have x1 := rdNum_dec (by omega) hb h1 x2.1
  refine ⟨x1.1, ?_, x5.2.2.2⟩
  rw [x1.2.1, x2.2.1, x3.2.1, x4.2.1, x5.2.2.1, show n = ((l.length : Nat) : Int) by rw [x5.2.1]; simp only at hn; omega]
  simp [encFm]

/-! ## Programs -/
theorem rdPr_enc {P : PPr} (h : prG P = true) (t : List Int) : rdPr (encPr P ++ t, false) = (P, (t, false)) := by
  obtain ⟨g1, g2, g3, G1, G2, G3⟩ := prG_parts h
  obtain ⟨F, Q, M⟩ := P
  simp only at g1 g2 g3 G1 G2 G3
  have e : encPr (F, Q, M) ++ t = bytesOf F.length 1 ++ (bytesOf Q.length 1 ++ (bytesOf M.length 1 ++ (F.flatMap encFn ++ (Q.flatMap encStr ++ (M.flatMap encFm ++ t))))) := by simp [encPr, headI]
  rw [e]
  refine rdPr_eq _ (s4 := (Q.flatMap encStr ++ (M.flatMap encFm ++ t), false)) (s5 := (M.flatMap encFm ++ t, false)) (rdCnt_enc (okW1 (by omega)) (by omega) _) (rdCnt_enc (okW1 (by omega)) (by omega) _) (rdCnt_enc (okW1 (by omega)) (by omega) _) ?_ ?_ ?_
  · rw [Int.toNat_natCast]; exact rdList_enc F (fun x hx t => rdFn_enc (G1 x hx) t) _
  · rw [Int.toNat_natCast]; exact rdList_enc Q (fun x hx t => rdStr_enc (G2 x hx) t) _
  · rw [Int.toNat_natCast]; exact rdList_enc M (fun x hx t => rdFm_enc g3 (G3 x hx) t) _
theorem rdPr_dec (s : Rd) (P : PPr) (s' : Rd) (hb : Bd s) (h : rdPr s = (P, s')) (hs : s'.2 = false) : s.2 = false ∧ s.1 = encPr P ++ s'.1 := by
  obtain ⟨⟨a, s1⟩, h1⟩ : ∃ x, rdCnt 1 60 s = x := ⟨_, rfl⟩
  obtain ⟨⟨b, s2⟩, h2⟩ : ∃ x, rdCnt 1 40 s1 = x := ⟨_, rfl⟩
  obtain ⟨⟨c, s3⟩, h3⟩ : ∃ x, rdCnt 1 40 s2 = x := ⟨_, rfl⟩
  obtain ⟨⟨F, s4⟩, h4⟩ : ∃ x, rdList rdFn a.toNat s3 = x := ⟨_, rfl⟩
  obtain ⟨⟨Q, s5⟩, h5⟩ : ∃ x, rdList rdStr b.toNat s4 = x := ⟨_, rfl⟩
  obtain ⟨⟨M, s6⟩, h6⟩ : ∃ x, rdList rdFm c.toNat s5 = x := ⟨_, rfl⟩
  rw [rdPr_eq s h1 h2 h3 h4 h5 h6] at h
  cases h
  have n1 := rdCnt_bd (k := 1) (m := 60) (rdNum1_bd hb).1 (by omega)
  have b1 := rdCnt_rd (k := 1) (m := 60) hb
  rw [h1] at n1 b1
  have n2 := rdCnt_bd (k := 1) (m := 40) (rdNum1_bd (s := s1) b1).1 (by omega)
  have b2 := rdCnt_rd (k := 1) (m := 40) (s := s1) b1
  rw [h2] at n2 b2
  have n3 := rdCnt_bd (k := 1) (m := 40) (rdNum1_bd (s := s2) b2).1 (by omega)
  have b3 := rdCnt_rd (k := 1) (m := 40) (s := s2) b2
  rw [h3] at n3 b3
  have f4 := rdList_all rdFn_fit a.toNat s3 b3
  rw [h4] at f4
  have f5 := rdList_all (one := rdStr) (Q := fun s => s.size ≤ maxLen) rdStr_fit b.toNat s4 f4.2.1
  rw [h5] at f5
  have x6 := rdList_dec rdFm_dec c.toNat s5 M s' f5.2.1 h6 hs
  have x5 := rdList_dec rdStr_dec b.toNat s4 Q s5 f4.2.1 h5 x6.1
  have x4 := rdList_dec rdFn_dec a.toNat s3 F s4 b3 h4 x5.1
  have x3 := rdCnt_dec (by omega) b2 h3 x4.1
  have x2 := rdCnt_dec (by omega) b1 h2 x3.1
  have x1 := rdCnt_dec (by omega) hb h1 x2.1
  simp only at n1 n2 n3
  refine ⟨x1.1, ?_⟩
  rw [x1.2.1, x2.2.1, x3.2.1, x4.2.2.1, x5.2.2.1, x6.2.2.1, show a = ((F.length : Nat) : Int) by rw [x4.2.1]; omega, show b = ((Q.length : Nat) : Int) by rw [x5.2.1]; omega, show c = ((M.length : Nat) : Int) by rw [x6.2.1]; omega]
  simp [encPr, headI]

/-- The program of a program's bytes is it. -/
theorem dec_enc {P : PPr} (h : prG P = true) : decB (encPr P) = true ∧ decPr (encPr P) = P := by
  have e := rdPr_enc h []
  rw [List.append_nil] at e
  have hB : decB (encPr P) = true := by rw [decB_good e rfl rfl]; exact h
  refine ⟨hB, ?_⟩
  unfold decPr
  rw [if_pos hB, e]
/-- With more behind them they are none's. -/
theorem dec_more {P : PPr} (h : prG P = true) (z : Int) : decB (encPr P ++ [z]) = false := decB_rest (rdPr_enc h [z]) (by simp)
/-- Bytes that are a program's are that one's. -/
theorem enc_dec {l : List Int} (hb : ∀ z ∈ l, 0 ≤ z ∧ z < 256) (h : decB l = true) : prG (decPr l) = true ∧ encPr (decPr l) = l := by
  obtain ⟨⟨P, s⟩, e⟩ : ∃ x, rdPr (l, false) = x := ⟨_, rfl⟩
  have h2 := h
  unfold decB at h2
  simp only [Bool.and_eq_true, Bool.not_eq_true', decide_eq_true_eq] at h2
  have hP : decPr l = P := by unfold decPr; rw [if_pos h, e]
  rw [e] at h2
  obtain ⟨h3, h4, h5⟩ := h2
  rw [hP]
  refine ⟨h5, ?_⟩
  have := (rdPr_dec (l, false) P s hb e h3).2
  rw [h4, List.append_nil] at this
  exact this.symm
/-- Bytes of a program, with one fewer, are none's. -/
theorem dec_fewer {P : PPr} (h : prG P = true) {l : List Int} {z : Int} (hb : ∀ z ∈ l, 0 ≤ z ∧ z < 256) (e : encPr P = l ++ [z]) : decB l = false := by
  cases hl : decB l
  · rfl
  · obtain ⟨h1, h2⟩ := enc_dec hb hl
    have h3 := dec_more h1 z
    rw [h2, ← e, (dec_enc h).1] at h3
    cases h3
theorem encPr_bd (P : PPr) : ∀ z ∈ encPr P, 0 ≤ z ∧ z < 256 := by
  have fm : ∀ {α : Type} (g : α → List Int) (l : List α), (∀ x ∈ l, ∀ z ∈ g x, 0 ≤ z ∧ z < 256) → ∀ z ∈ l.flatMap g, 0 ≤ z ∧ z < 256 := fun g l h z hz => by
    obtain ⟨x, hx, hz⟩ := List.mem_flatMap.1 hz
    exact h x hx z hz
  have hi : ∀ p, ∀ z ∈ encIns p, 0 ≤ z ∧ z < 256 := fun p z hz => by
    simp only [encIns, List.mem_append] at hz
    rcases hz with (hz | hz) | hz <;> exact bytesOf_bd _ _ z hz
  have hs : ∀ s : ByteArray, ∀ z ∈ strI s, 0 ≤ z ∧ z < 256 := fun s z hz => by
    simp only [strI, List.mem_map] at hz
    obtain ⟨c, _, rfl⟩ := hz
    have := c.toNat_lt
    omega
  intro z hz
  simp only [encPr, headI, List.mem_append] at hz
  rcases hz with (((((hz | hz) | hz)) | hz) | hz) | hz
  · exact bytesOf_bd _ _ z hz
  · exact bytesOf_bd _ _ z hz
  · exact bytesOf_bd _ _ z hz
  · refine fm encFn P.1 (fun f _ z hz => ?_) z hz
    simp only [encFn, List.mem_append] at hz
    rcases hz with ((hz | hz) | hz) | hz
    · exact bytesOf_bd _ _ z hz
    · exact bytesOf_bd _ _ z hz
    · exact bytesOf_bd _ _ z hz
    · exact fm encIns _ (fun p _ => hi p) z hz
  · refine fm encStr P.2.1 (fun s _ z hz => ?_) z hz
    simp only [encStr, List.mem_append] at hz
    rcases hz with hz | hz
    · exact bytesOf_bd _ _ z hz
    · exact hs s z hz
  · refine fm encFm P.2.2 (fun f _ z hz => ?_) z hz
    simp only [encFm, List.mem_append] at hz
    rcases hz with (((hz | hz) | hz) | hz) | hz
    · exact bytesOf_bd _ _ z hz
    · exact bytesOf_bd _ _ z hz
    · exact bytesOf_bd _ _ z hz
    · exact bytesOf_bd _ _ z hz
    · exact fm (bytesOf · 1) _ (fun p _ => bytesOf_bd _ _) z hz
end Go.Proofs.YtabdbciebhmflaaDoor
