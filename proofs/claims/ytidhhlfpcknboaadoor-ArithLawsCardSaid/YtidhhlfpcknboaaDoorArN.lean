/-
  Digits in plain words: a number's text is parsed as it; unlike numbers have unlike texts; closed facts of wakes.
  Conditions: as each states.
-/
import Derived.Test.YtidhhlfpcknboaaDoorArT
namespace Go.Proofs.YtidhhlfpcknboaaDoor
open Go.ChangeShapes Go.WideShapes Go.ChangeAt Go.RowKit
set_option linter.unusedVariables false
set_option linter.unusedSimpArgs false
set_option maxRecDepth 100000

theorem parse_append (M : Nat) : ∀ (l r : List UInt8) (acc : Nat), Lib.parseUintM M acc (l ++ r) = match Lib.parseUintM M acc l with | .ok n => Lib.parseUintM M n r | .syntax => .syntax | .range => .range
  | [], r, acc => by simp [Lib.parseUintM]
  | c :: l, r, acc => by
    simp only [List.cons_append, Lib.parseUintM, parse_append M l r]
    split
    · split
      · rfl
      · split
        · rfl
        · rfl
    · rfl

theorem parse_digits (M : Nat) (hM : M / 10 < 1844674407370955162) (u : Nat) : u ≤ M → Lib.parseUintM M 0 (Lib.decDigits u) = .ok u := by
  induction u using Nat.strongRecOn with
  | _ u ih =>
    intro hu
    have hd : ∀ d : Nat, d < 10 → (UInt8.ofNat (48 + d)).toNat = 48 + d := fun d h => by
      rw [UInt8.toNat_ofNat']; omega
    by_cases h : u < 10
    · rw [Lib.decDigits_one h]
      simp only [Lib.parseUintM, hd u h]
      rw [if_pos (by omega), if_neg (by omega), if_neg (by omega)]
      congr 1
      omega
    · rw [Lib.decDigits, dif_neg h, parse_append, ih (u / 10) (by omega) (by omega)]
      simp only [Lib.parseUintM, hd (u % 10) (by omega)]
      rw [if_pos (by omega), if_neg (by omega), if_neg (by omega)]
      congr 1
      omega

theorem parse_minus (M : Nat) (l : List UInt8) : Lib.parseUintM M 0 (45 :: l) = .syntax := by
  simp [Lib.parseUintM]

theorem digits_ne (u : Nat) (hu : u ≤ 4611686018427387904) (l : List UInt8) : ¬ Lib.decDigits u = 45 :: l := by
  intro h
  have k := parse_digits 4611686018427387904 (by decide) u hu
  rw [h, parse_minus] at k
  cases k

theorem digits_inj (u v : Nat) (hu : u ≤ 4611686018427387904) (hv : v ≤ 4611686018427387904) (h : Lib.decDigits u = Lib.decDigits v) : u = v := by
  have k := parse_digits 4611686018427387904 (by decide) u hu
  rw [h, parse_digits 4611686018427387904 (by decide) v hv] at k
  injection k with k
  exact k.symm

theorem itoa_inj (x y : Int) (hx : -4611686018427387904 ≤ x ∧ x ≤ 4611686018427387903) (hy : -4611686018427387904 ≤ y ∧ y ≤ 4611686018427387903) (h : Lib.itoa x = Lib.itoa y) : x = y := by
  unfold Lib.itoa at h
  by_cases h1 : x < 0
  · rw [if_pos h1] at h
    by_cases h2 : y < 0
    · rw [if_pos h2] at h
      injection h with _ h
      have := digits_inj _ _ (by omega) (by omega) h
      omega
    · rw [if_neg h2] at h
      exact absurd h.symm (digits_ne _ (by omega) _)
  · rw [if_neg h1] at h
    by_cases h2 : y < 0
    · rw [if_pos h2] at h
      exact absurd h (digits_ne _ (by omega) _)
    · rw [if_neg h2] at h
      have := digits_inj _ _ (by omega) (by omega) h
      omega

theorem nDigits_le (k : Nat) : ∀ u : Nat, u < 10 ^ (k + 1) → Lib.nDigits u ≤ k + 1 := by
  induction k with
  | zero => intro u h; rw [Lib.nDigits_small (by simpa using h)]; exact Nat.le_refl _
  | succ k ih =>
    intro u h
    by_cases h1 : u < 10
    · rw [Lib.nDigits_small h1]; omega
    · rw [Lib.nDigits_big h1]
      have := ih (u / 10) (by rw [Nat.pow_succ] at h; omega)
      omega

theorem digits_nil (u : Nat) : ¬ Lib.decDigits u = [] := by
  intro h
  have := Lib.decDigits_length u
  rw [h] at this
  have h1 := Lib.nDigits_pos u
  simp at this
  omega

/-- What comes of a number's text. -/
theorem pa_itoa (x : Int) (h0 : -4611686018427387904 ≤ x) (h1 : x ≤ 4611686018427387903) : paP (Lib.itoa x) = if x < 0 then none else some x.toNat := by
  unfold Lib.itoa
  by_cases h : x < 0
  · rw [if_pos h, if_pos h]
    unfold paP
    split
    · rfl
    · rw [if_neg (by simp), parse_minus]; rfl
  · rw [if_neg h, if_neg h]
    have hp : x.toNat < 10 ^ (18 + 1) := by
      have e : (10 : Nat) ^ (18 + 1) = 10000000000000000000 := by decide
      rw [e]; omega
    have hl : (Lib.decDigits x.toNat).length ≤ 19 := by rw [Lib.decDigits_length]; exact nDigits_le 18 _ hp
    unfold paP
    rw [if_neg (by omega), if_neg (digits_nil _), parse_digits _ (by decide) _ (by omega)]
    rfl

/-! Digits by fuel, for closed numbers. -/
def decF : Nat → Nat → List UInt8
  | 0, u => [UInt8.ofNat (48 + u)]
  | f + 1, u => if u < 10 then [UInt8.ofNat (48 + u)] else decF f (u / 10) ++ [UInt8.ofNat (48 + u % 10)]
theorem decF_eq : ∀ (f u : Nat), u < 10 ^ (f + 1) → decF f u = Lib.decDigits u
  | 0, u, h => by rw [Lib.decDigits_one (by simpa using h)]; rfl
  | f + 1, u, h => by
    by_cases h1 : u < 10
    · rw [Lib.decDigits_one h1]; unfold decF; rw [if_pos h1]
    · rw [Lib.decDigits, dif_neg h1]; unfold decF; rw [if_neg h1, decF_eq f (u / 10) (by rw [Nat.pow_succ] at h; omega)]

theorem itoa_least : Lib.itoa (wWrap (-4611686018427387904)) = [45, 52, 54, 49, 49, 54, 56, 54, 48, 49, 56, 52, 50, 55, 51, 56, 55, 57, 48, 52] := by
  have e : wWrap (-4611686018427387904) = -((4611686018427387904 : Nat) : Int) := by decide +kernel
  rw [e, Lib.itoa_neg _ (by decide), ← decF_eq 19 _ (by decide)]
  decide +kernel

theorem of_is {op a b v : Int} {o : Bool} (hv : opV op a b = v) (ho : opO op b = o) (w : World) (T : ArTab w) :
    Calls Tryd.prog 8 #[.int .i64 op, .int .i64 a, .int .i64 b] w fun e w' => e = .returned (.tuple #[.int .i64 v, .bool o]) ∧ Below w.heap.size w w' := by
  subst hv ho; exact of_any op a b w T
theorem parse_is {t : ByteArray} {l : List UInt8} {v : Int} {o : Bool} (hl : t.data.toList = l) (hv : paV l = v) (ho : paO l = o) (w : World) (T : ArTab w) :
    Calls Tryd.prog 11 #[.string t] w fun e w' => e = .returned (.tuple #[.int .i64 v, .bool o]) ∧ Below w.heap.size w w' := by
  subst hl hv ho; exact parse_any t w T
theorem text_is {a : Int} {t : ByteArray} (ht : t.data.toList = Lib.itoa (wWrap a)) (w : World) (T : ArTab w) :
    Calls Tryd.prog 10 #[.int .i64 a] w fun e w' => e = .returned (.string t) ∧ Below w.heap.size w w' :=
  (text_any a w T).mono fun e w' ⟨he, hb⟩ => ⟨by rw [he, ← ht], hb⟩

theorem wakes_any (w : World) (T : ArTab w) :
    Calls Tryd.prog 9 #[] w fun e w' => e = .returned (.bool true) ∧ Below w.heap.size w w' := by
  go_enter Tryd.func9, Tryd.ntmps9
  go_wp2_with fail
  refine (of_is (op := 12) (v := -4611686018427387904) (o := true) (by decide +kernel) (by decide +kernel) _ T).mono ?_
  rintro e w1 ⟨rfl, b1⟩
  have T1 := T.below b1; clear T
  go_wp2_with fail
  refine (of_is (op := 15) (v := -4611686018427387904) (o := true) (by decide +kernel) (by decide +kernel) _ T1).mono ?_
  rintro e w2 ⟨rfl, b2⟩
  have T2 := T1.below b2; clear T1
  replace b2 := below_chain b1 b2; clear b1
  go_wp2_with fail
  refine (of_is (op := 16) (v := -1) (o := true) (by decide +kernel) (by decide +kernel) _ T2).mono ?_
  rintro e w3 ⟨rfl, b3⟩
  have T3 := T2.below b3; clear T2
  replace b3 := below_chain b2 b3; clear b2
  go_wp2_with fail
  refine (of_is (op := 15) (v := 0) (o := false) (by decide +kernel) (by decide +kernel) _ T3).mono ?_
  rintro e w4 ⟨rfl, b4⟩
  have T4 := T3.below b4; clear T3
  replace b4 := below_chain b3 b4; clear b3
  go_wp2_with fail
  refine (of_is (op := 37) (v := 0) (o := false) (by decide +kernel) (by decide +kernel) _ T4).mono ?_
  rintro e w5 ⟨rfl, b5⟩
  have T5 := T4.below b5; clear T4
  replace b5 := below_chain b4 b5; clear b4
  go_wp2_with fail
  refine (parse_is (l := [48, 48, 55]) (v := 7) (o := true) rfl (by decide +kernel) (by decide +kernel) _ T5).mono ?_
  rintro e w6 ⟨rfl, b6⟩
  have T6 := T5.below b6; clear T5
  replace b6 := below_chain b5 b6; clear b5
  go_wp2_with fail
  refine (parse_is (l := [52, 54, 49, 49, 54, 56, 54, 48, 49, 56, 52, 50, 55, 51, 56, 55, 57, 48, 52]) (v := 0) (o := false) rfl (by decide +kernel) (by decide +kernel) _ T6).mono ?_
  rintro e w7 ⟨rfl, b7⟩
  have T7 := T6.below b7; clear T6
  replace b7 := below_chain b6 b7; clear b6
  go_wp2_with fail
  refine (text_is (t := ⟨#[45, 52, 54, 49, 49, 54, 56, 54, 48, 49, 56, 52, 50, 55, 51, 56, 55, 57, 48, 52]⟩) itoa_least.symm _ T7).mono ?_
  rintro e w8 ⟨rfl, b8⟩
  go_wp2_with fail
  go_ret
  exact ⟨rfl, below_chain b7 b8⟩

end Go.Proofs.YtidhhlfpcknboaaDoor
