/-
  Programs and bytes, plain: the program of a program's bytes is it; bytes that are a program's are that one's.
  Conditions: as each states.
-/
import Derived.Test.YtabdbciebhmflaaDoorCoD
namespace Go.Proofs.YtabdbciebhmflaaDoor
open Go.ChangeShapes Go.WideShapes Go.ChangeAt Go.RowKit
set_option linter.unusedVariables false
set_option linter.unusedSimpArgs false
set_option maxRecDepth 100000

theorem snocInd {P : List Int → Prop} (nil : P []) (snoc : ∀ l z, P l → P (l ++ [z])) (l : List Int) : P l := by
  have h : ∀ r : List Int, P r.reverse := by
    intro r
    induction r with
    | nil => exact nil
    | cons z r ih => rw [List.reverse_cons]; exact snoc _ _ ih
  have := h l.reverse
  rwa [List.reverse_reverse] at this

/-! ## Bytes of a number -/
def valOf (l : List Int) : Int := l.foldl (fun n b => n * 256 + b) 0
theorem valOf_snoc (l : List Int) (z : Int) : valOf (l ++ [z]) = valOf l * 256 + z := by simp [valOf]
theorem numOf_val (l : List Int) : numOf l = IntKind.i64.wrap (valOf l) := by
  induction l using snocInd with
  | nil => rfl
  | snoc l z ih =>
    rw [numOf_snoc, valOf_snoc, ih, wrap_i64_eq, wrap_i64_eq, wrap_i64_eq]
    omega
theorem pow_pos256 (w : Nat) : (0 : Int) < 256 ^ w := Int.pow_pos (by decide)
theorem pow_succ256 (w : Nat) : (256 : Int) ^ (w + 1) = 256 * 256 ^ w := by rw [Int.pow_succ, Int.mul_comm]
theorem valOf_bd : ∀ (l : List Int), (∀ z ∈ l, 0 ≤ z ∧ z < 256) → 0 ≤ valOf l ∧ valOf l < 256 ^ l.length := by
  intro l
  induction l using snocInd with
  | nil => intro _; exact ⟨by decide, by decide⟩
  | snoc l z ih =>
    intro h
    have h1 := ih fun y hy => h y (by simp [hy])
    have h2 := h z (by simp)
    rw [valOf_snoc, List.length_append, List.length_singleton, pow_succ256]
    omega
theorem byteAt_up (n : Int) (i : Nat) : byteAt n (i + 1) = byteAt (n / 256) i := by
  unfold byteAt
  rw [pow_succ256, Int.ediv_ediv_of_nonneg (by decide)]
theorem bytesOf_snoc : ∀ (w : Nat) (n : Int), bytesOf n (w + 1) = bytesOf (n / 256) w ++ [n % 256]
  | 0, n => by simp [bytesOf, byteAt]
  | w + 1, n => by
    show byteAt n (w + 1) :: bytesOf n (w + 1) = byteAt (n / 256) w :: bytesOf (n / 256) w ++ [n % 256]
    rw [byteAt_up, bytesOf_snoc w n]; rfl
theorem bytes_val : ∀ (l : List Int), (∀ z ∈ l, 0 ≤ z ∧ z < 256) → bytesOf (valOf l) l.length = l := by
  intro l
  induction l using snocInd with
  | nil => intro _; rfl
  | snoc l z ih =>
    intro h
    have h1 := ih fun y hy => h y (by simp [hy])
    have h2 := h z (by simp)
    rw [valOf_snoc, List.length_append, List.length_singleton, bytesOf_snoc, show (valOf l * 256 + z) / 256 = valOf l by omega, h1, show (valOf l * 256 + z) % 256 = z by omega]
theorem bytesOf_more : ∀ (w : Nat) (n k : Int), bytesOf (n + 256 ^ w * k) w = bytesOf n w
  | 0, n, k => rfl
  | w + 1, n, k => by
    rw [bytesOf_snoc, bytesOf_snoc, pow_succ256]
    have e1 : (n + 256 * 256 ^ w * k) / 256 = n / 256 + 256 ^ w * k := by
      rw [Int.mul_assoc, Int.add_mul_ediv_left _ _ (by decide)]
    have e2 : (n + 256 * 256 ^ w * k) % 256 = n % 256 := by
      rw [Int.mul_assoc, Int.add_mul_emod_self_left]
    rw [e1, e2, bytesOf_more w]
theorem pow8 : (256 : Int) ^ 8 = 18446744073709551616 := by decide
/-- What was read, as so many bytes, is what was there. -/
theorem bytes_num (l : List Int) (h : ∀ z ∈ l, 0 ≤ z ∧ z < 256) (hl : l.length ≤ 8) : bytesOf (numOf l) l.length = l := by
  have hb := valOf_bd l h
  have hv := bytes_val l h
  have hw := wrap_i64_eq (valOf l)
  rw [numOf_val]
  by_cases h8 : l.length = 8
  · rw [h8, pow8] at hb
    by_cases hs : valOf l < 9223372036854775808
    · rw [show IntKind.i64.wrap (valOf l) = valOf l by omega]; exact hv
    · rw [show IntKind.i64.wrap (valOf l) = valOf l + 256 ^ 8 * (-1) by rw [pow8]; omega, h8, bytesOf_more]
      rw [h8] at hv; exact hv
  · have h7 : ∀ k : Nat, k < 8 → (256 : Int) ^ k ≤ 72057594037927936 := by decide
    have h7 := h7 l.length (by omega)
    rw [show IntKind.i64.wrap (valOf l) = valOf l by omega]
    exact hv
theorem val_bytes : ∀ (w : Nat) (n : Int), ∃ k, valOf (bytesOf n w) = n + 256 ^ w * k
  | 0, n => ⟨-n, by simp [bytesOf, valOf]; omega⟩
  | w + 1, n => by
    obtain ⟨k, hk⟩ := val_bytes w (n / 256)
    refine ⟨k, ?_⟩
    rw [bytesOf_snoc, valOf_snoc, hk, pow_succ256, Int.mul_assoc]
    have := Int.mul_ediv_add_emod n 256
    generalize 256 ^ w * k = K
    omega

/-- The numbers that so many bytes tell. -/
def okW (w : Nat) (n : Int) : Prop := (w = 0 ∧ n = 0) ∨ (w = 1 ∧ 0 ≤ n ∧ n < 256) ∨ (w = 2 ∧ 0 ≤ n ∧ n < 65536) ∨ (w = 8 ∧ -9223372036854775808 ≤ n ∧ n < 9223372036854775808)
theorem num_bytes {w : Nat} {n : Int} (h : okW w n) : numOf (bytesOf n w) = n := by
  rw [numOf_val, wrap_i64_eq]
  obtain ⟨k, hk⟩ := val_bytes w n
  have hb := valOf_bd (bytesOf n w) (bytesOf_bd n w)
  rw [bytesOf_length] at hb
  rcases h with ⟨rfl, rfl⟩ | ⟨rfl, h⟩ | ⟨rfl, h⟩ | ⟨rfl, h⟩
  · rfl
  · rw [show (256 : Int) ^ 1 = 256 from rfl] at hk hb; omega
  · rw [show (256 : Int) ^ 2 = 65536 from rfl] at hk hb; omega
  · rw [pow8] at hk hb; omega
theorem rdNum_enc {w : Nat} {n : Int} (h : okW w n) (t : List Int) : rdNum w (bytesOf n w ++ t, false) = (n, (t, false)) := by
  unfold rdNum
  have hl := bytesOf_length n w
  rw [if_pos (by simp only [List.length_append]; omega)]
  simp only
  rw [List.take_left' hl, List.drop_left' hl, num_bytes h]
theorem rdNum_dec {w : Nat} (hw : w ≤ 8) {s s' : Rd} {n : Int} (hb : Bd s) (h : rdNum w s = (n, s')) (hs : s'.2 = false) : s.2 = false ∧ s.1 = bytesOf n w ++ s'.1 ∧ Bd s' := by
  unfold rdNum at h
  split at h
  · rename_i hl
    cases h
    have hlen : (s.1.take w).length = w := List.length_take_of_le hl
    have e := bytes_num (s.1.take w) (fun z hz => hb z (List.mem_of_mem_take hz)) (by omega)
    rw [hlen] at e
    refine ⟨hs, by rw [e]; exact (List.take_append_drop w s.1).symm, fun z hz => hb z (List.mem_of_mem_drop hz)⟩
  · cases h
    cases hs
theorem rdCnt_enc {w : Nat} {m n : Int} (h : okW w n) (hm : n ≤ m) (t : List Int) : rdCnt w m (bytesOf n w ++ t, false) = (n, (t, false)) := by
  unfold rdCnt
  rw [rdNum_enc h]
  exact if_neg (by simp only; omega)
theorem rdCnt_dec {w : Nat} (hw : w ≤ 8) {m : Int} {s s' : Rd} {n : Int} (hb : Bd s) (h : rdCnt w m s = (n, s')) (hs : s'.2 = false) : s.2 = false ∧ s.1 = bytesOf n w ++ s'.1 ∧ Bd s' := by
  unfold rdCnt at h
  split at h
  · cases h; cases hs
  · exact rdNum_dec hw hb h hs

theorem rdList_enc {α : Type} {one : Rd → α × Rd} {enc : α → List Int} : ∀ (l : List α), (∀ x ∈ l, ∀ t, one (enc x ++ t, false) = (x, (t, false))) → ∀ t, rdList one l.length (l.flatMap enc ++ t, false) = (l, (t, false))
  | [], _, t => rfl
  | x :: l, h, t => by
    have e : (x :: l).flatMap enc ++ t = enc x ++ (l.flatMap enc ++ t) := by simp
    rw [List.length_cons, list_next one _ rfl, e, h x (List.mem_cons_self ..)]
    simp only
    rw [rdList_enc l (fun y hy => h y (List.mem_cons_of_mem _ hy)) t]
theorem rdList_dec {α : Type} {one : Rd → α × Rd} {enc : α → List Int} (h : ∀ s x s', Bd s → one s = (x, s') → s'.2 = false → s.2 = false ∧ s.1 = enc x ++ s'.1 ∧ Bd s') :
    ∀ (n : Nat) (s : Rd) (xs : List α) (s' : Rd), Bd s → rdList one n s = (xs, s') → s'.2 = false → s.2 = false ∧ xs.length = n ∧ s.1 = xs.flatMap enc ++ s'.1 ∧ Bd s'
  | 0, s, xs, s', hb, he, hs => by cases he; exact ⟨hs, rfl, rfl, hb⟩
  | n + 1, s, xs, s', hb, he, hs => by
    cases e : s.2
    · rw [list_next one n e] at he
      obtain ⟨⟨x, s1⟩, h1⟩ : ∃ y, one s = y := ⟨_, rfl⟩
      obtain ⟨⟨ys, s2⟩, h2⟩ : ∃ y, rdList one n s1 = y := ⟨_, rfl⟩
      rw [h1] at he
      simp only [h2] at he
      cases he
      have hs1 : s1.2 = false := by
        cases e1 : s1.2
        · rfl
        · rw [list_done one n (.inr e1)] at h2
          cases h2
          rw [e1] at hs; cases hs
      have hx := h s x s1 hb h1 hs1
      have hr := rdList_dec h n s1 ys s' hx.2.2 h2 hs
      exact ⟨rfl, by simp [hr.2.1], by rw [hx.2.1, hr.2.2.1]; simp, hr.2.2.2⟩
    · rw [list_done one (n + 1) (.inr e)] at he
      cases he
      rw [e] at hs; cases hs
end Go.Proofs.YtabdbciebhmflaaDoor
