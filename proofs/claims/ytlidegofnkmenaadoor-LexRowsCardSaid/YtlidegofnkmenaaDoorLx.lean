/-
  Package lex in plain words: what a source's blanks and notes are, the token that bytes begin with, all tokens; a text's token; what stays when bytes stand ahead or behind.
  Conditions: as each states.
-/
import Derived.Test.YtlidegofnkmenaaDoorLxJ
namespace Go.Proofs.YtlidegofnkmenaaDoor
open Go.ChangeShapes Go.WideShapes Go.ChangeAt Go.RowKit
set_option linter.unusedVariables false
set_option linter.unusedSimpArgs false
set_option maxRecDepth 100000

/-! ## Bytes -/
def gtN (n : Nat) : Bool := decide (65 ≤ n ∧ n ≤ 90)
def ltN (n : Nat) : Bool := decide (97 ≤ n ∧ n ≤ 122) || (gtN n || decide (n = 95))
def dgN (n : Nat) : Bool := decide (48 ≤ n ∧ n ≤ 57)
def plN (n : Nat) : Bool := decide (32 ≤ n ∧ n ≤ 126)
def blN (n : Nat) : Bool := decide (n = 32) || (decide (n = 9) || decide (n = 10))
def wdN (n : Nat) : Bool := ltN n || dgN n
def wdB (c : UInt8) : Bool := wdN c.toNat
def dgB (c : UInt8) : Bool := dgN c.toNat

/-! ## How many bytes at the beginning are such -/
def lenW (p : UInt8 → Bool) : List UInt8 → Nat
  | [] => 0
  | c :: r => if p c = true then lenW p r + 1 else 0
theorem lenW_le (p : UInt8 → Bool) : ∀ l, lenW p l ≤ l.length
  | [] => Nat.le_refl _
  | c :: r => by
    unfold lenW
    split
    · exact Nat.succ_le_succ (lenW_le p r)
    · exact Nat.zero_le _
theorem lenW_in (p : UInt8 → Bool) : ∀ (l : List UInt8) (j : Nat) (c : UInt8), j < lenW p l → l[j]? = some c → p c = true
  | [], j, c, h, _ => by simp [lenW] at h
  | d :: r, j, c, h, hj => by
    unfold lenW at h
    split at h
    · rename_i hd
      cases j with
      | zero => simp at hj; subst hj; exact hd
      | succ j => exact lenW_in p r j c (by omega) (by simpa using hj)
    · omega
theorem lenW_at (p : UInt8 → Bool) : ∀ (l : List UInt8) (c : UInt8), l[lenW p l]? = some c → p c = false
  | [], c, h => by simp at h
  | d :: r, c, h => by
    unfold lenW at h
    split at h
    · exact lenW_at p r c (by simpa using h)
    · rename_i hd
      simp at h; subst h
      simpa using hd
theorem lenW_eq (p : UInt8 → Bool) : ∀ (l : List UInt8) (k : Nat), k ≤ l.length → (∀ j c, j < k → l[j]? = some c → p c = true) → (∀ c, l[k]? = some c → p c = false) → lenW p l = k
  | [], k, hk, _, _ => by simp at hk; subst hk; rfl
  | d :: r, 0, _, _, h => by
    have := h d (by simp)
    unfold lenW
    rw [if_neg (by rw [this]; decide)]
  | d :: r, k + 1, hk, h0, h => by
    unfold lenW
    rw [if_pos (h0 0 d (by omega) (by simp)), lenW_eq p r k (by simpa using hk) (fun j c hj hc => h0 (j + 1) c (by omega) (by simpa using hc)) (fun c hc => h c (by simpa using hc))]

/-! ## Signs -/
def sgN (c d : Nat) : Nat :=
  if c = 45 then (if d = 62 then 2 else 1) else if c = 58 then (if d = 61 then 2 else if d = 58 then 2 else 0)
  else if c = 40 ∨ c = 41 ∨ c = 91 ∨ c = 93 ∨ c = 44 ∨ c = 59 ∨ c = 124 ∨ c = 33 ∨ c = 61 ∨ c = 43 ∨ c = 42 ∨ c = 47 ∨ c = 37 ∨ c = 94 ∨ c = 60 then 1 else 0
def byN (l : List UInt8) (k : Nat) : Nat := (l.getD k 0).toNat
def sgP (l : List UInt8) : Nat := sgN (byN l 0) (byN l 1)
theorem sgN_le (c d : Nat) : sgN c d ≤ 2 := by
  unfold sgN
  by_cases h1 : c = 45
  · rw [if_pos h1]; by_cases h2 : d = 62
    · rw [if_pos h2]; decide
    · rw [if_neg h2]; decide
  · rw [if_neg h1]
    by_cases h2 : c = 58
    · rw [if_pos h2]
      by_cases h3 : d = 61
      · rw [if_pos h3]; decide
      · rw [if_neg h3]; split <;> omega
    · rw [if_neg h2]; split <;> omega

/-! ## Texts: the byte that the beginning tells, and how many bytes tell it -/
def tdP (l : List UInt8) : Option (UInt8 × Nat) :=
  if byN l 0 = 92 then (if l.length < 2 then none else if byN l 1 = 110 then some (10, 2) else if byN l 1 = 34 ∨ byN l 1 = 92 then some (l.getD 1 0, 2) else none)
  else if plN (byN l 0) = true then some (l.getD 0 0, 1) else none
def txP : Nat → Nat → List UInt8 → Option (List UInt8 × Nat)
  | 0, _, _ => none
  | f + 1, k, l => if l.length = 0 then none else if byN l 0 = 34 then some ([], 1) else match tdP l with
    | none => none
    | some (b, n) => if k = 60 then none else (txP f (k + 1) (l.drop n)).map fun x => (b :: x.1, n + x.2)

/-! ## Words -/
def kwP (l : List UInt8) : Int := if l = [95] then 6 else if l ∈ lgL then 5 else if gtN (byN l 0) = true then 2 else 1

/-! ## The token that bytes begin with: its kind, its text, how many bytes -/
def firstP (l : List UInt8) : Option (Int × List UInt8 × Nat) :=
  if l.length = 0 then none
  else if ltN (byN l 0) = true then (if lenW wdB l ≤ 12 then some (kwP (l.take (lenW wdB l)), l.take (lenW wdB l), lenW wdB l) else none)
  else if dgN (byN l 0) = true then (if ltN (byN l (lenW dgB l)) = true then none else if paO (l.take (lenW dgB l)) = true then some (3, l.take (lenW dgB l), lenW dgB l) else none)
  else if byN l 0 = 34 then (txP l.length 0 (l.drop 1)).map fun x => (4, x.1, x.2 + 1)
  else if sgP l = 0 then none else some (6, l.take (sgP l), sgP l)

/-! ## Blanks and notes at the beginning; true: within a note -/
def skP : Bool → List UInt8 → Nat
  | _, [] => 0
  | true, c :: r => if c.toNat = 10 then 1 + skP false r else 1 + skP true r
  | false, c :: r => if blN c.toNat = true then 1 + skP false r else if c.toNat = 35 then 1 + skP true r else 0

/-! ## All tokens: kind, text, place; where none begins -/
abbrev PTk := Int × List UInt8 × Nat
def tkP : Nat → Nat → List UInt8 → List PTk × Option Nat
  | 0, o, _ => ([], some o)
  | f + 1, o, l => if l.length ≤ skP false l then ([], none) else match firstP (l.drop (skP false l)) with
      | none => ([], some (o + skP false l))
      | some (k, t, n) => ((k, t, o + skP false l) :: (tkP f (o + skP false l + n) (l.drop (skP false l + n))).1, (tkP f (o + skP false l + n) (l.drop (skP false l + n))).2)
def toks (o : Nat) (l : List UInt8) : List PTk × Option Nat := tkP (l.length + 1) o l

/-! ## What Tokens, IsName, IsCon, Quote answer -/
def tkL (l : List UInt8) : List PTk := if 2000 < l.length then [] else if (toks 0 l).2.isSome = true then [] else (toks 0 l).1
def tkE (l : List UInt8) : Int := if 2000 < l.length then 10 else if (toks 0 l).2.isSome = true then 11 else 0
def tkA (l : List UInt8) : Nat := if 2000 < l.length then 0 else (toks 0 l).2.getD 0
def isAll (l : List UInt8) (k : Int) : Bool := match firstP l with | none => false | some (kd, _, n) => decide (n = l.length) && decide (kd = k)
def qB (c : UInt8) : List UInt8 := if c.toNat = 10 then [92, 110] else if c.toNat = 34 ∨ c.toNat = 92 then [92, c] else [c]
def qOk (c : UInt8) : Bool := decide (c.toNat = 10) || plN c.toNat
def quP (l : List UInt8) : List UInt8 := if 60 < l.length then [] else if l.all qOk = true then 34 :: (l.flatMap qB ++ [34]) else []
def quO (l : List UInt8) : Bool := decide (l.length ≤ 60) && l.all qOk

/-! ## Facts -/
theorem skP_le : ∀ (b : Bool) (l : List UInt8), skP b l ≤ l.length
  | _, [] => by simp [skP]
  | true, c :: r => by
    unfold skP
    have := skP_le false r; have := skP_le true r
    simp only [List.length_cons]; split <;> omega
  | false, c :: r => by
    unfold skP
    have := skP_le false r; have := skP_le true r
    simp only [List.length_cons]; split
    · omega
    · split <;> omega
theorem tdP_le {l : List UInt8} {b : UInt8} {n : Nat} (h0 : l.length ≠ 0) (h : tdP l = some (b, n)) : 0 < n ∧ n ≤ l.length := by
  unfold tdP at h
  by_cases c1 : byN l 0 = 92
  · rw [if_pos c1] at h
    by_cases c2 : l.length < 2
    · rw [if_pos c2] at h; cases h
    · rw [if_neg c2] at h
      by_cases c3 : byN l 1 = 110
      · rw [if_pos c3] at h; cases h; omega
      · rw [if_neg c3] at h
        by_cases c4 : byN l 1 = 34 ∨ byN l 1 = 92
        · rw [if_pos c4] at h; cases h; omega
        · rw [if_neg c4] at h; cases h
  · rw [if_neg c1] at h
    by_cases c2 : plN (byN l 0) = true
    · rw [if_pos c2] at h; cases h; omega
    · rw [if_neg c2] at h; cases h
/-- A text's token, one step. -/
theorem txP_step {f k : Nat} {l t : List UInt8} {n : Nat} (h : txP (f + 1) k l = some (t, n)) : l.length ≠ 0 ∧ (byN l 0 = 34 ∧ t = [] ∧ n = 1 ∨ byN l 0 ≠ 34 ∧ ∃ b m t' n', tdP l = some (b, m) ∧ k ≠ 60 ∧ txP f (k + 1) (l.drop m) = some (t', n') ∧ t = b :: t' ∧ n = m + n') := by
  unfold txP at h
  by_cases c0 : l.length = 0
  · rw [if_pos c0] at h; cases h
  · rw [if_neg c0] at h
    refine ⟨c0, ?_⟩
    by_cases c1 : byN l 0 = 34
    · rw [if_pos c1] at h; cases h; exact .inl ⟨c1, rfl, rfl⟩
    · rw [if_neg c1] at h
      refine .inr ⟨c1, ?_⟩
      cases hd : tdP l with
      | none => rw [hd] at h; cases h
      | some x =>
        obtain ⟨b, m⟩ := x
        rw [hd] at h
        simp only at h
        by_cases c2 : k = 60
        · rw [if_pos c2] at h; cases h
        · rw [if_neg c2] at h
          cases hx : txP f (k + 1) (l.drop m) with
          | none => rw [hx] at h; cases h
          | some x =>
            obtain ⟨t', n'⟩ := x
            rw [hx] at h
            cases h
            exact ⟨b, m, t', n', rfl, c2, hx, rfl, rfl⟩
theorem txP_mk {f k : Nat} {l t : List UInt8} {b : UInt8} {m n : Nat} (h0 : l.length ≠ 0) (h1 : byN l 0 ≠ 34) (h2 : tdP l = some (b, m)) (h3 : k ≠ 60) (h4 : txP f (k + 1) (l.drop m) = some (t, n)) : txP (f + 1) k l = some (b :: t, m + n) := by
  unfold txP
  rw [if_neg h0, if_neg h1, h2]
  simp only
  rw [if_neg h3, h4]
  rfl
theorem txP_le : ∀ (f k : Nat) (l t : List UInt8) (n : Nat), txP f k l = some (t, n) → 0 < n ∧ n ≤ l.length
  | 0, k, l, t, n, h => by cases h
  | f + 1, k, l, t, n, h => by
    obtain ⟨h0, ⟨_, _, rfl⟩ | ⟨_, b, m, t', n', hb, _, hx, _, rfl⟩⟩ := txP_step h
    · omega
    · obtain ⟨h1, h2⟩ := tdP_le h0 hb
      have := txP_le f (k + 1) _ t' n' hx
      rw [List.length_drop] at this
      omega
theorem byN_out {l : List UInt8} {k : Nat} (h : l.length ≤ k) : byN l k = 0 := by
  unfold byN
  rw [List.getD_eq_getElem?_getD, List.getElem?_eq_none h]
  rfl
theorem sgN_none (c : Nat) : sgN c 0 ≤ 1 := by
  unfold sgN
  by_cases h1 : c = 45
  · rw [if_pos h1]; decide
  · rw [if_neg h1]
    by_cases h2 : c = 58
    · rw [if_pos h2]; decide
    · rw [if_neg h2]; split <;> omega
theorem sgP_le (l : List UInt8) (h0 : l.length ≠ 0) : sgP l ≤ l.length := by
  by_cases h : l.length = 1
  · unfold sgP
    rw [byN_out (k := 1) (by omega)]
    have := sgN_none (byN l 0)
    omega
  · have := sgN_le (byN l 0) (byN l 1)
    unfold sgP
    omega
theorem lenW_pos {p : UInt8 → Bool} {l : List UInt8} (h0 : l.length ≠ 0) (h : p (l.getD 0 0) = true) : 0 < lenW p l := by
  match l with
  | [] => exact absurd rfl h0
  | c :: r => unfold lenW; rw [if_pos (by simpa using h)]; omega
/-- The token that bytes begin with, by cases. -/
theorem firstP_cases {l : List UInt8} {k : Int} {t : List UInt8} {n : Nat} (h : firstP l = some (k, t, n)) : l.length ≠ 0 ∧
    (ltN (byN l 0) = true ∧ lenW wdB l ≤ 12 ∧ k = kwP (l.take (lenW wdB l)) ∧ t = l.take (lenW wdB l) ∧ n = lenW wdB l
    ∨ ltN (byN l 0) = false ∧ dgN (byN l 0) = true ∧ ltN (byN l (lenW dgB l)) = false ∧ paO (l.take (lenW dgB l)) = true ∧ k = 3 ∧ t = l.take (lenW dgB l) ∧ n = lenW dgB l
    ∨ ltN (byN l 0) = false ∧ dgN (byN l 0) = false ∧ byN l 0 = 34 ∧ k = 4 ∧ (∃ m, txP l.length 0 (l.drop 1) = some (t, m) ∧ n = m + 1)
    ∨ ltN (byN l 0) = false ∧ dgN (byN l 0) = false ∧ byN l 0 ≠ 34 ∧ sgP l ≠ 0 ∧ k = 6 ∧ t = l.take (sgP l) ∧ n = sgP l) := by
  unfold firstP at h
  by_cases c0 : l.length = 0
  · rw [if_pos c0] at h; cases h
  · rw [if_neg c0] at h
    refine ⟨c0, ?_⟩
    cases c1 : ltN (byN l 0)
    · rw [if_neg (by rw [c1]; decide)] at h
      cases c2 : dgN (byN l 0)
      · rw [if_neg (by rw [c2]; decide)] at h
        by_cases c3 : byN l 0 = 34
        · rw [if_pos c3] at h
          cases hx : txP l.length 0 (l.drop 1) with
          | none => rw [hx] at h; cases h
          | some x =>
            obtain ⟨t', m⟩ := x
            rw [hx] at h
            cases h
            exact .inr (.inr (.inl ⟨rfl, rfl, c3, rfl, m, rfl, rfl⟩))
        · rw [if_neg c3] at h
          by_cases c4 : sgP l = 0
          · rw [if_pos c4] at h; cases h
          · rw [if_neg c4] at h
            cases h
            exact .inr (.inr (.inr ⟨rfl, rfl, c3, c4, rfl, rfl, rfl⟩))
      · rw [if_pos c2] at h
        cases c3 : ltN (byN l (lenW dgB l))
        · rw [if_neg (by rw [c3]; decide)] at h
          by_cases c4 : paO (l.take (lenW dgB l)) = true
          · rw [if_pos c4] at h
            cases h
            exact .inr (.inl ⟨rfl, rfl, rfl, c4, rfl, rfl, rfl⟩)
          · rw [if_neg c4] at h; cases h
        · rw [if_pos c3] at h; cases h
    · rw [if_pos c1] at h
      by_cases c2 : lenW wdB l ≤ 12
      · rw [if_pos c2] at h
        cases h
        exact .inl ⟨rfl, c2, rfl, rfl, rfl⟩
      · rw [if_neg c2] at h; cases h
theorem firstP_word {l : List UInt8} (h0 : l.length ≠ 0) (h1 : ltN (byN l 0) = true) (h2 : lenW wdB l ≤ 12) : firstP l = some (kwP (l.take (lenW wdB l)), l.take (lenW wdB l), lenW wdB l) := by
  unfold firstP
  rw [if_neg h0, if_pos h1, if_pos h2]
theorem firstP_long {l : List UInt8} (h1 : ltN (byN l 0) = true) (h2 : 12 < lenW wdB l) : firstP l = none := by
  unfold firstP
  by_cases h0 : l.length = 0
  · rw [if_pos h0]
  · rw [if_neg h0, if_pos h1, if_neg (by omega)]
theorem firstP_int {l : List UInt8} (h0 : l.length ≠ 0) (h1 : ltN (byN l 0) = false) (h2 : dgN (byN l 0) = true) : firstP l = (if ltN (byN l (lenW dgB l)) = true then none else if paO (l.take (lenW dgB l)) = true then some (3, l.take (lenW dgB l), lenW dgB l) else none) := by
  unfold firstP
  rw [if_neg h0, if_neg (by rw [h1]; decide), if_pos h2]
theorem firstP_text {l : List UInt8} (h0 : l.length ≠ 0) (h3 : byN l 0 = 34) : firstP l = (txP l.length 0 (l.drop 1)).map fun x => (4, x.1, x.2 + 1) := by
  unfold firstP
  rw [if_neg h0, if_neg (by rw [h3]; decide), if_neg (by rw [h3]; decide), if_pos h3]
theorem firstP_sign {l : List UInt8} (h0 : l.length ≠ 0) (h1 : ltN (byN l 0) = false) (h2 : dgN (byN l 0) = false) (h3 : byN l 0 ≠ 34) : firstP l = if sgP l = 0 then none else some (6, l.take (sgP l), sgP l) := by
  unfold firstP
  rw [if_neg h0, if_neg (by rw [h1]; decide), if_neg (by rw [h2]; decide), if_neg h3]
theorem firstP_le {l : List UInt8} {k : Int} {t : List UInt8} {n : Nat} (h : firstP l = some (k, t, n)) : 0 < n ∧ n ≤ l.length := by
  obtain ⟨h0, h⟩ := firstP_cases h
  rcases h with ⟨h1, _, _, _, rfl⟩ | ⟨_, h1, _, _, _, _, rfl⟩ | ⟨_, _, _, _, m, hm, rfl⟩ | ⟨_, _, _, h1, _, _, rfl⟩
  · exact ⟨lenW_pos h0 (by unfold wdB wdN; unfold byN at h1; rw [h1]; rfl), lenW_le _ _⟩
  · exact ⟨lenW_pos h0 (by unfold dgB; exact h1), lenW_le _ _⟩
  · have := txP_le _ _ _ _ _ hm
    rw [List.length_drop] at this
    omega
  · exact ⟨by omega, sgP_le l h0⟩

/-- Fuel enough. -/
theorem tkP_fuel : ∀ (f g o : Nat) (l : List UInt8), l.length < f → l.length < g → tkP f o l = tkP g o l
  | 0, g, o, l, h, _ => by omega
  | f + 1, 0, o, l, _, h => by omega
  | f + 1, g + 1, o, l, hf, hg => by
    have hk := skP_le false l
    unfold tkP
    by_cases hd : l.length ≤ skP false l
    · rw [if_pos hd, if_pos hd]
    · rw [if_neg hd, if_neg hd]
      cases hx : firstP (l.drop (skP false l)) with
      | none => rfl
      | some x =>
        obtain ⟨k, t, n⟩ := x
        obtain ⟨h1, h2⟩ := firstP_le hx
        rw [List.length_drop] at h2
        simp only
        rw [tkP_fuel f g _ _ (by rw [List.length_drop]; omega) (by rw [List.length_drop]; omega)]
theorem toks_end (o : Nat) {l : List UInt8} (h : skP false l = l.length) : toks o l = ([], none) := by
  unfold toks tkP
  rw [if_pos (by omega)]
theorem toks_bad (o : Nat) {l : List UInt8} (hk : skP false l < l.length) (h : firstP (l.drop (skP false l)) = none) : toks o l = ([], some (o + skP false l)) := by
  unfold toks tkP
  rw [if_neg (by omega), h]
theorem toks_some (o : Nat) {l : List UInt8} {k : Int} {t : List UInt8} {n : Nat} (h : firstP (l.drop (skP false l)) = some (k, t, n)) :
    toks o l = ((k, t, o + skP false l) :: (toks (o + skP false l + n) (l.drop (skP false l + n))).1, (toks (o + skP false l + n) (l.drop (skP false l + n))).2) := by
  have hk := skP_le false l
  obtain ⟨h1, h2⟩ := firstP_le h
  rw [List.length_drop] at h2
  unfold toks
  rw [tkP_fuel ((l.drop (skP false l + n)).length + 1) l.length _ _ (by omega) (by rw [List.length_drop]; omega)]
  rw [tkP, if_neg (by omega), h]
/-- What tokens are, by cases. -/
theorem toks_ind {motive : Nat → List UInt8 → Prop} (he : ∀ o l, skP false l = l.length → motive o l) (hb : ∀ o l, skP false l < l.length → firstP (l.drop (skP false l)) = none → motive o l)
    (hs : ∀ o l k t n, firstP (l.drop (skP false l)) = some (k, t, n) → skP false l + n ≤ l.length → 0 < n → motive (o + skP false l + n) (l.drop (skP false l + n)) → motive o l) : ∀ (L o : Nat) (l : List UInt8), l.length ≤ L → motive o l
  | L, o, l, hL => by
    have hk := skP_le false l
    by_cases h : skP false l = l.length
    · exact he o l h
    · cases hx : firstP (l.drop (skP false l)) with
      | none => exact hb o l (by omega) hx
      | some x =>
        obtain ⟨k, t, n⟩ := x
        obtain ⟨h1, h2⟩ := firstP_le hx
        rw [List.length_drop] at h2
        cases L with
        | zero => omega
        | succ L => exact hs o l k t n hx (by omega) h1 (toks_ind he hb hs L _ _ (by rw [List.length_drop]; omega))
end Go.Proofs.YtlidegofnkmenaaDoor
