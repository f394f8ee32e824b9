/-
  Package lex in plain words: a token is the same whatever stands behind it that does not go on with it; blanks and notes; tokens of cut sources, of two sources in a row.
  Conditions: as each states.
-/
import Derived.Test.YtlidegofnkmenaaDoorLxA
namespace Go.Proofs.YtlidegofnkmenaaDoor
open Go.ChangeShapes Go.WideShapes Go.ChangeAt Go.RowKit
set_option linter.unusedVariables false
set_option linter.unusedSimpArgs false
set_option maxRecDepth 100000

def sepN (n : Nat) : Bool := decide (n = 9) || (decide (n = 10) || (decide (n = 32) || decide (n = 35)))
theorem sepN_is {n : Nat} (h : sepN n = true) : n = 9 ∨ n = 10 ∨ n = 32 ∨ n = 35 := by unfold sepN at h; simpa using h
theorem byN_get {l l' : List UInt8} {k : Nat} (h : l'[k]? = l[k]?) : byN l' k = byN l k := by unfold byN; rw [List.getD_eq_getElem?_getD, List.getD_eq_getElem?_getD, h]
theorem byN_some {l : List UInt8} {k : Nat} {c : UInt8} (h : l[k]? = some c) : byN l k = c.toNat := by unfold byN; rw [List.getD_eq_getElem?_getD, h]; rfl
theorem take_same {l l' : List UInt8} {n : Nat} (h : ∀ j, j < n → l'[j]? = l[j]?) : l'.take n = l.take n := by
  apply List.ext_getElem?
  intro j
  by_cases hj : j < n
  · rw [List.getElem?_take, if_pos hj, List.getElem?_take, if_pos hj, h j hj]
  · rw [List.getElem?_take, if_neg hj, List.getElem?_take, if_neg hj]
theorem len_same {l l' : List UInt8} {n : Nat} (h : ∀ j, j < n → l'[j]? = l[j]?) (hn : n ≤ l.length) : n ≤ l'.length := by
  cases n with
  | zero => omega
  | succ n =>
    have := h n (by omega)
    rw [List.getElem?_eq_getElem (l := l) (by omega)] at this
    exact (List.getElem?_eq_some_iff.1 this).1
theorem lenW_same {p : UInt8 → Bool} {l l' : List UInt8} (h : ∀ j, j < lenW p l → l'[j]? = l[j]?) (hs : ∀ c, l'[lenW p l]? = some c → l[lenW p l]? = some c ∨ p c = false) : lenW p l' = lenW p l := by
  refine lenW_eq p l' _ (len_same h (lenW_le p l)) (fun j c hj hc => ?_) (fun c hc => ?_)
  · rw [h j hj] at hc; exact lenW_in p l j c hj hc
  · rcases hs c hc with h1 | h1
    · exact lenW_at p l c h1
    · exact h1
theorem tdP_same {l l' : List UInt8} {b : UInt8} {m : Nat} (h0 : l.length ≠ 0) (hd : tdP l = some (b, m)) (h : ∀ j, j < m → l'[j]? = l[j]?) : tdP l' = some (b, m) := by
  obtain ⟨hm0, hm1⟩ := tdP_le h0 hd
  have e0 := byN_get (h 0 hm0)
  have g0 : l'.getD 0 0 = l.getD 0 0 := by rw [List.getD_eq_getElem?_getD, List.getD_eq_getElem?_getD, h 0 hm0]
  unfold tdP at hd ⊢
  rw [e0, g0]
  by_cases c1 : byN l 0 = 92
  · rw [if_pos c1] at hd ⊢
    by_cases c2 : l.length < 2
    · rw [if_pos c2] at hd; cases hd
    · rw [if_neg c2] at hd
      have hm2 : m = 2 := by
        by_cases c3 : byN l 1 = 110
        · rw [if_pos c3] at hd; cases hd; rfl
        · rw [if_neg c3] at hd
          by_cases c4 : byN l 1 = 34 ∨ byN l 1 = 92
          · rw [if_pos c4] at hd; cases hd; rfl
          · rw [if_neg c4] at hd; cases hd
      subst hm2
      have hl := len_same h (by omega)
      have e1 := byN_get (h 1 (by omega))
      have g1 : l'.getD 1 0 = l.getD 1 0 := by rw [List.getD_eq_getElem?_getD, List.getD_eq_getElem?_getD, h 1 (by omega)]
      rw [if_neg (by omega), e1, g1]
      exact hd
  · rw [if_neg c1] at hd ⊢
    exact hd
theorem txP_same : ∀ (f : Nat) (k : Nat) (l t : List UInt8) (m : Nat), txP f k l = some (t, m) → ∀ (l' : List UInt8) (g : Nat), (∀ j, j < m → l'[j]? = l[j]?) → m ≤ g → txP g k l' = some (t, m)
  | 0, k, l, t, m, h, _, _, _, _ => by cases h
  | f + 1, k, l, t, m, h, l', g, hs, hg => by
    obtain ⟨hm0, hm1⟩ := txP_le _ _ _ _ _ h
    obtain ⟨g, rfl⟩ : ∃ g', g = g' + 1 := ⟨g - 1, by omega⟩
    have hl := len_same hs hm1
    have e0 := byN_get (hs 0 hm0)
    obtain ⟨h0, ⟨h1, rfl, rfl⟩ | ⟨h1, b, m1, t', n', hb, hk, hx, rfl, rfl⟩⟩ := txP_step h
    · rw [txP, if_neg (by omega), if_pos (by rw [e0]; exact h1)]
    · obtain ⟨hb0, hb1⟩ := tdP_le h0 hb
      refine txP_mk (by omega) (by rw [e0]; exact h1) (tdP_same h0 hb fun j hj => hs j (by omega)) hk (txP_same f (k + 1) _ _ _ hx _ g (fun j hj => ?_) (by omega))
      rw [List.getElem?_drop, List.getElem?_drop]
      exact hs _ (by omega)
theorem sgN_sep {c d d' : Nat} (h : sgN c d = 1) (hd : d' = d ∨ d' = 0 ∨ sepN d' = true) : sgN c d' = 1 := by
  rcases hd with rfl | hd
  · exact h
  · have h62 : d' ≠ 62 := by rcases hd with rfl | hd; · decide
                             · rcases sepN_is hd with e | e | e | e <;> omega
    unfold sgN at h ⊢
    by_cases h1 : c = 45
    · rw [if_pos h1, if_neg h62]
    · rw [if_neg h1] at h ⊢
      by_cases h2 : c = 58
      · rw [if_pos h2] at h
        by_cases h3 : d = 61
        · rw [if_pos h3] at h; omega
        · rw [if_neg h3] at h
          by_cases h4 : d = 58
          · rw [if_pos h4] at h; omega
          · rw [if_neg h4] at h; omega
      · rw [if_neg h2] at h ⊢
        exact h
theorem sep_wd {n : Nat} (h : sepN n = true) : wdN n = false := by rcases sepN_is h with rfl | rfl | rfl | rfl <;> decide
/-- A token is the same whatever stands behind it that does not go on with it. -/
theorem first_same {l l' : List UInt8} {k : Int} {t : List UInt8} {n : Nat} (h : firstP l = some (k, t, n)) (hs : ∀ j, j < n → l'[j]? = l[j]?) (hn : ∀ c, l'[n]? = some c → l[n]? = some c ∨ sepN c.toNat = true) : firstP l' = some (k, t, n) := by
  obtain ⟨hn0, hn1⟩ := firstP_le h
  have hl := len_same hs hn1
  have e0 := byN_get (hs 0 hn0)
  have ht := take_same hs
  obtain ⟨h0, hc⟩ := firstP_cases h
  have h0' : l'.length ≠ 0 := by omega
  rcases hc with ⟨h1, h2, rfl, rfl, rfl⟩ | ⟨h1, h2, h3, h4, rfl, rfl, rfl⟩ | ⟨h1, h2, h3, rfl, m, hm, rfl⟩ | ⟨h1, h2, h3, h4, rfl, rfl, rfl⟩
  · have e := lenW_same (p := wdB) hs fun c hc => (hn c hc).imp id fun h => sep_wd h
    have := firstP_word h0' (by rw [e0]; exact h1) (by rw [e]; exact h2)
    rwa [e, ht] at this
  · have e := lenW_same (p := dgB) hs fun c hc => (hn c hc).imp id fun h => by have := sep_wd h; unfold wdN at this; simp at this; exact this.2
    have hb : ltN (byN l' (lenW dgB l)) = false := by
      cases hq : l'[lenW dgB l]? with
      | none => rw [byN_out (List.getElem?_eq_none_iff.1 hq)]; rfl
      | some c =>
        rw [byN_some hq]
        rcases hn c hq with h5 | h5
        · rw [← byN_some h5]; exact h3
        · have := sep_wd h5; unfold wdN at this; simp at this; exact this.1
    rw [firstP_int h0' (by rw [e0]; exact h1) (by rw [e0]; exact h2), e, hb, ht, h4]
    rfl
  · rw [firstP_text h0' (by rw [e0]; exact h3), txP_same _ _ _ _ _ hm (l'.drop 1) l'.length (fun j hj => by rw [List.getElem?_drop, List.getElem?_drop]; exact hs _ (by omega)) (by omega)]
    rfl
  · have e : sgP l' = sgP l := by
      have hle := sgN_le (byN l 0) (byN l 1)
      unfold sgP at hn0 hs hn ⊢
      rw [e0]
      by_cases c2 : sgN (byN l 0) (byN l 1) = 2
      · rw [byN_get (hs 1 (by omega))]
      · have c1 : sgN (byN l 0) (byN l 1) = 1 := by omega
        rw [c1, sgN_sep c1]
        rw [c1] at hn
        cases hq : l'[1]? with
        | none => exact .inr (.inl (byN_out (List.getElem?_eq_none_iff.1 hq)))
        | some c =>
          rcases hn c hq with h5 | h5
          · exact .inl (by rw [byN_some hq, byN_some h5])
          · exact .inr (.inr (by rw [byN_some hq]; exact h5))
    rw [firstP_sign h0' (by rw [e0]; exact h1) (by rw [e0]; exact h2) (by rw [e0]; exact h3), e, if_neg h4, ht]

/-! ## Blanks and notes -/
theorem skP_take : ∀ (b : Bool) (l : List UInt8) (m : Nat), skP b l ≤ m → skP b (l.take m) = skP b l
  | b, [], m, h => by simp
  | true, c :: r, 0, h => by unfold skP at h; split at h <;> omega
  | true, c :: r, m + 1, h => by
    rw [List.take_succ_cons, skP, skP]
    rw [skP] at h
    by_cases h1 : c.toNat = 10
    · rw [if_pos h1] at h; rw [if_pos h1, if_pos h1, skP_take false r m (by omega)]
    · rw [if_neg h1] at h; rw [if_neg h1, if_neg h1, skP_take true r m (by omega)]
  | false, c :: r, 0, h => by
    have : skP false (c :: r) = 0 := by omega
    rw [this]; rfl
  | false, c :: r, m + 1, h => by
    rw [List.take_succ_cons, skP, skP]
    rw [skP] at h
    by_cases h1 : blN c.toNat = true
    · rw [if_pos h1] at h; rw [if_pos h1, if_pos h1, skP_take false r m (by omega)]
    · rw [if_neg h1] at h; rw [if_neg h1, if_neg h1]
      by_cases h2 : c.toNat = 35
      · rw [if_pos h2] at h; rw [if_pos h2, if_pos h2, skP_take true r m (by omega)]
      · rw [if_neg h2, if_neg h2]
theorem skP_app : ∀ (b : Bool) (l x : List UInt8), skP b l < l.length → skP b (l ++ x) = skP b l
  | b, [], x, h => by simp at h
  | true, c :: r, x, h => by
    rw [List.cons_append, skP, skP]
    rw [skP, List.length_cons] at h
    by_cases h1 : c.toNat = 10
    · rw [if_pos h1] at h; rw [if_pos h1, if_pos h1, skP_app false r x (by omega)]
    · rw [if_neg h1] at h; rw [if_neg h1, if_neg h1, skP_app true r x (by omega)]
  | false, c :: r, x, h => by
    rw [List.cons_append, skP, skP]
    rw [skP, List.length_cons] at h
    by_cases h1 : blN c.toNat = true
    · rw [if_pos h1] at h; rw [if_pos h1, if_pos h1, skP_app false r x (by omega)]
    · rw [if_neg h1] at h; rw [if_neg h1, if_neg h1]
      by_cases h2 : c.toNat = 35
      · rw [if_pos h2] at h; rw [if_pos h2, if_pos h2, skP_app true r x (by omega)]
      · rw [if_neg h2, if_neg h2]
theorem skP_end : ∀ (b : Bool) (l x : List UInt8), skP b l = l.length → skP b (l ++ 10 :: x) = l.length + 1 + skP false x
  | true, [], x, h => by rw [List.nil_append, skP, if_pos (by decide)]; simp
  | false, [], x, h => by rw [List.nil_append, skP, if_pos (by decide)]; simp
  | true, c :: r, x, h => by
    rw [List.cons_append, skP, List.length_cons]
    rw [skP, List.length_cons] at h
    by_cases h1 : c.toNat = 10
    · rw [if_pos h1] at h; rw [if_pos h1, skP_end false r x (by omega)]; omega
    · rw [if_neg h1] at h; rw [if_neg h1, skP_end true r x (by omega)]; omega
  | false, c :: r, x, h => by
    rw [List.cons_append, skP, List.length_cons]
    rw [skP, List.length_cons] at h
    by_cases h1 : blN c.toNat = true
    · rw [if_pos h1] at h; rw [if_pos h1, skP_end false r x (by omega)]; omega
    · rw [if_neg h1] at h; rw [if_neg h1]
      by_cases h2 : c.toNat = 35
      · rw [if_pos h2] at h; rw [if_pos h2, skP_end true r x (by omega)]; omega
      · rw [if_neg h2] at h; omega

/-! ## Tokens -/
/-- Where tokens stand, and what they are. -/
theorem toks_place (o : Nat) (l : List UInt8) : (∀ x ∈ (toks o l).1, o ≤ x.2.2 ∧ x.2.2 < o + l.length ∧ (x.1 ≠ 4 → x.2.2 - o + x.2.1.length ≤ l.length ∧ (l.drop (x.2.2 - o)).take x.2.1.length = x.2.1)) ∧ (∀ a, (toks o l).2 = some a → o ≤ a ∧ a < o + l.length) := by
  refine toks_ind (motive := fun o l => (∀ x ∈ (toks o l).1, o ≤ x.2.2 ∧ x.2.2 < o + l.length ∧ (x.1 ≠ 4 → x.2.2 - o + x.2.1.length ≤ l.length ∧ (l.drop (x.2.2 - o)).take x.2.1.length = x.2.1)) ∧ (∀ a, (toks o l).2 = some a → o ≤ a ∧ a < o + l.length))
    (fun o l h => ?_) (fun o l hk h => ?_) (fun o l k t n h hn hn0 ih => ?_) l.length o l (Nat.le_refl _)
  · rw [toks_end o h]; exact ⟨fun x hx => (by simp at hx), fun a ha => (by cases ha)⟩
  · rw [toks_bad o hk h]; exact ⟨fun x hx => (by simp at hx), fun a ha => (by cases ha; omega)⟩
  · rw [toks_some o h]
    obtain ⟨ih1, ih2⟩ := ih
    rw [List.length_drop] at ih1 ih2
    refine ⟨fun x hx => ?_, fun a ha => ?_⟩
    · rcases List.mem_cons.1 hx with rfl | hx
      · refine ⟨by simp only; omega, by simp only; omega, fun h4 => ?_⟩
        simp only at h4 ⊢
        rw [show o + skP false l - o = skP false l by omega]
        obtain ⟨h0, hc⟩ := firstP_cases h
        have key : t = (l.drop (skP false l)).take n → skP false l + t.length ≤ l.length ∧ (l.drop (skP false l)).take t.length = t := fun ht => by
          have hl : t.length = n := by rw [ht, List.length_take, List.length_drop]; omega
          rw [hl]; exact ⟨hn, ht.symm⟩
        rcases hc with ⟨_, _, _, ht, hn'⟩ | ⟨_, _, _, _, _, ht, hn'⟩ | ⟨_, _, _, h3, _⟩ | ⟨_, _, _, _, _, ht, hn'⟩
        · exact key (by rw [hn']; exact ht)
        · exact key (by rw [hn']; exact ht)
        · exact absurd h3 h4
        · exact key (by rw [hn']; exact ht)
      · obtain ⟨a1, a2, a3⟩ := ih1 x hx
        refine ⟨by omega, by omega, fun h4 => ?_⟩
        obtain ⟨b1, b2⟩ := a3 h4
        rw [List.drop_drop] at b2
        rw [show skP false l + n + (x.2.2 - (o + skP false l + n)) = x.2.2 - o by omega] at b2
        exact ⟨by omega, b2⟩
    · have := ih2 a ha; omega
theorem toks_len (o : Nat) (l : List UInt8) : (toks o l).1.length ≤ l.length := by
  refine toks_ind (motive := fun o l => (toks o l).1.length ≤ l.length) (fun o l h => ?_) (fun o l hk h => ?_) (fun o l k t n h hn hn0 ih => ?_) l.length o l (Nat.le_refl _)
  · rw [toks_end o h]; exact Nat.zero_le _
  · rw [toks_bad o hk h]; exact Nat.zero_le _
  · rw [toks_some o h]
    rw [List.length_drop] at ih
    simp only [List.length_cons]
    omega
/-- What Tokens answers, at a source of few bytes. -/
theorem tk_good {l : List UInt8} {D : List PTk} (hl : l.length ≤ 2000) (h : toks 0 l = (D, none)) : tkE l = 0 ∧ tkA l = 0 ∧ tkL l = D := by
  have hb : ¬ 2000 < l.length := by omega
  exact ⟨by unfold tkE; rw [if_neg hb, h]; rfl, by unfold tkA; rw [if_neg hb, h]; rfl, by unfold tkL; rw [if_neg hb, h]; rfl⟩
theorem tk_bad {l : List UInt8} {a : Nat} (hl : l.length ≤ 2000) (h : (toks 0 l).2 = some a) : tkE l = 11 ∧ tkA l = a ∧ tkL l = [] := by
  have hb : ¬ 2000 < l.length := by omega
  exact ⟨by unfold tkE; rw [if_neg hb, h]; rfl, by unfold tkA; rw [if_neg hb, h]; rfl, by unfold tkL; rw [if_neg hb, h]; rfl⟩
/-- A source that is cut at a token's beginning. -/
theorem toks_take (o : Nat) (l : List UInt8) : ∀ A, toks o l = (A, none) → ∀ i x, A[i]? = some x → o ≤ x.2.2 ∧ x.2.2 ≤ o + l.length ∧ toks o (l.take (x.2.2 - o)) = (A.take i, none) := by
  refine toks_ind (motive := fun o l => ∀ A, toks o l = (A, none) → ∀ i x, A[i]? = some x → o ≤ x.2.2 ∧ x.2.2 ≤ o + l.length ∧ toks o (l.take (x.2.2 - o)) = (A.take i, none))
    (fun o l h A hA i x hx => ?_) (fun o l hk h A hA i x hx => ?_) (fun o l k t n h hn hn0 ih A hA i x hx => ?_) l.length o l (Nat.le_refl _)
  · rw [toks_end o h] at hA; cases hA; simp at hx
  · rw [toks_bad o hk h] at hA; cases hA
  · rw [toks_some o h] at hA
    obtain ⟨hA1, hA2⟩ := Prod.mk.inj hA
    have ih' := ih (toks (o + skP false l + n) (l.drop (skP false l + n))).1 (by rw [← hA2])
    subst hA1
    cases i with
    | zero =>
      simp at hx; subst hx
      refine ⟨by simp only; omega, by simp only; omega, ?_⟩
      rw [show (o + skP false l) - o = skP false l by omega]
      rw [toks_end o (by rw [skP_take false l _ (Nat.le_refl _), List.length_take]; omega)]
      rfl
    | succ i =>
      obtain ⟨a1, a2, a3⟩ := ih' i x (by simpa using hx)
      rw [List.length_drop] at a2
      refine ⟨by omega, by omega, ?_⟩
      obtain ⟨m, hm⟩ : ∃ m, x.2.2 - o = m := ⟨_, rfl⟩
      rw [hm]
      have hs := skP_take false l m (by omega)
      have hf : firstP ((l.take m).drop (skP false (l.take m))) = some (k, t, n) := by
        rw [hs, List.drop_take]
        refine first_same h (fun j hj => ?_) (fun c hc => ?_)
        · rw [List.getElem?_take, if_pos (by omega)]
        · rw [List.getElem?_take] at hc
          split at hc
          · exact .inl hc
          · cases hc
      rw [toks_some o hf, hs, List.drop_take]
      rw [show x.2.2 - (o + skP false l + n) = m - (skP false l + n) by omega] at a3
      rw [a3]
      rfl
/-- Two sources with a newline between. -/
theorem toks_row (x : List UInt8) (o : Nat) (l : List UInt8) : ∀ A, toks o l = (A, none) → toks o (l ++ 10 :: x) = (A ++ (toks (o + l.length + 1) x).1, (toks (o + l.length + 1) x).2) := by
  refine toks_ind (motive := fun o l => ∀ A, toks o l = (A, none) → toks o (l ++ 10 :: x) = (A ++ (toks (o + l.length + 1) x).1, (toks (o + l.length + 1) x).2))
    (fun o l h A hA => ?_) (fun o l hk h A hA => ?_) (fun o l k t n h hn hn0 ih A hA => ?_) l.length o l (Nat.le_refl _)
  · rw [toks_end o h] at hA; cases hA
    have hs := skP_end false l x h
    have hd : (l ++ 10 :: x).drop (l.length + 1 + skP false x) = x.drop (skP false x) := by
      rw [show l.length + 1 + skP false x = l.length + (1 + skP false x) by omega, ← List.drop_drop, List.drop_left, Nat.add_comm 1, List.drop_succ_cons]
    have hle := skP_le false x
    cases hx : firstP (x.drop (skP false x)) with
    | none =>
      by_cases he : skP false x = x.length
      · rw [toks_end _ he, toks_end o (by rw [hs, he]; simp; omega)]; rfl
      · rw [toks_bad _ (by omega) hx, toks_bad o (by rw [hs]; simp; omega) (by rw [hs, hd]; exact hx), hs]
        simp; omega
    | some y =>
      obtain ⟨k, t, n⟩ := y
      rw [toks_some _ hx, toks_some o (by rw [hs, hd]; exact hx), hs]
      rw [← List.drop_drop, hd, List.drop_drop]
      simp only [List.nil_append]
      rw [show o + (l.length + 1 + skP false x) = o + l.length + 1 + skP false x by omega]
  · rw [toks_bad o hk h] at hA; cases hA
  · rw [toks_some o h] at hA
    obtain ⟨hA1, hA2⟩ := Prod.mk.inj hA
    have ih' := ih (toks (o + skP false l + n) (l.drop (skP false l + n))).1 (by rw [← hA2])
    subst hA1
    have hs := skP_app false l (10 :: x) (by omega)
    have hf : firstP ((l ++ 10 :: x).drop (skP false (l ++ 10 :: x))) = some (k, t, n) := by
      rw [hs, List.drop_append_of_le_length (by omega)]
      refine first_same h (fun j hj => ?_) (fun c hc => ?_)
      · rw [List.getElem?_append_left (by rw [List.length_drop]; omega)]
      · by_cases hlt : n < (l.drop (skP false l)).length
        · rw [List.getElem?_append_left hlt] at hc; exact .inl hc
        · rw [List.length_drop] at hlt
          rw [List.getElem?_append_right (by rw [List.length_drop]; omega), List.length_drop, show n - (l.length - skP false l) = 0 by omega] at hc
          cases hc
          exact .inr (by decide)
    rw [toks_some o hf, hs, List.drop_append_of_le_length (by omega), ih', List.length_drop]
    rw [show o + skP false l + n + (l.length - (skP false l + n)) + 1 = o + l.length + 1 by omega]
    rfl
/-- Places alone are shifted. -/
theorem toks_shift (d : Nat) (o : Nat) (l : List UInt8) : toks (o + d) l = ((toks o l).1.map fun x => (x.1, x.2.1, x.2.2 + d), (toks o l).2.map (· + d)) := by
  refine toks_ind (motive := fun o l => toks (o + d) l = ((toks o l).1.map fun x => (x.1, x.2.1, x.2.2 + d), (toks o l).2.map (· + d)))
    (fun o l h => ?_) (fun o l hk h => ?_) (fun o l k t n h hn hn0 ih => ?_) l.length o l (Nat.le_refl _)
  · rw [toks_end _ h, toks_end _ h]; rfl
  · rw [toks_bad _ hk h, toks_bad _ hk h]
    simp; omega
  · rw [toks_some _ h, toks_some _ h]
    rw [show o + d + skP false l + n = o + skP false l + n + d by omega, ih]
    simp; omega
/-- Blanks and notes that are whole. -/
def Whole (b : List UInt8) : Prop := ∀ x, skP false (b ++ x) = b.length + skP false x
theorem whole_nil : Whole [] := fun x => by simp
theorem whole_blank {b : List UInt8} (h : Whole b) {c : UInt8} (hc : blN c.toNat = true) : Whole (b ++ [c]) := fun x => by
  rw [List.append_assoc, h, List.cons_append, List.nil_append, skP, if_pos hc, List.length_append]; simp; omega
theorem whole_app {a b : List UInt8} (ha : Whole a) (hb : Whole b) : Whole (a ++ b) := fun x => by
  rw [List.append_assoc, ha, hb, List.length_append]; omega
theorem whole_note : Whole [35, 32, 34, 120, 10] := fun x => by
  simp only [List.cons_append, List.nil_append]
  rw [skP, if_neg (by decide), if_pos (by decide), skP, if_neg (by decide), skP, if_neg (by decide), skP, if_neg (by decide), skP, if_pos (by decide)]
  simp; omega
/-- One token between blanks and notes. -/
theorem toks_one {a q b : List UInt8} {k : Int} {t : List UInt8} (ha : Whole a) (hb : Whole b) (hs : ∀ c, b[0]? = some c → sepN c.toNat = true) (hq : firstP q = some (k, t, q.length)) (h1 : blN (byN q 0) = false) (h2 : byN q 0 ≠ 35) :
    toks 0 (a ++ q ++ b) = ([(k, t, a.length)], none) := by
  obtain ⟨hq0, _⟩ := firstP_le hq
  have e0 : byN (q ++ b) 0 = byN q 0 := byN_get (List.getElem?_append_left hq0)
  have hk : skP false (a ++ q ++ b) = a.length := by
    rw [List.append_assoc, ha, skP_stop (by rw [e0]; exact h1) (by rw [e0]; exact h2)]; rfl
  have hf : firstP ((a ++ q ++ b).drop (skP false (a ++ q ++ b))) = some (k, t, q.length) := by
    rw [hk, List.append_assoc, List.drop_left]
    refine first_same hq (fun j hj => List.getElem?_append_left hj) (fun c hc => ?_)
    rw [List.getElem?_append_right (Nat.le_refl _), Nat.sub_self] at hc
    exact .inr (hs c hc)
  have hd : (a ++ q ++ b).drop (a.length + q.length) = b := by
    rw [← List.length_append, List.drop_left]
  have he : skP false b = b.length := by have := hb []; simpa [skP] using this
  rw [toks_some 0 hf, hk, hd, toks_end _ he]
  simp
end Go.Proofs.YtlidegofnkmenaaDoor
