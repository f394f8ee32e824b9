/-
  What the seven ops make, one by one, in plain words.
  Conditions: as each states.
-/
import Derived.Test.YtidhhlfpcknboaaDoorArN
namespace Go.Proofs.YtidhhlfpcknboaaDoor
open Go.ChangeShapes Go.WideShapes Go.ChangeAt Go.RowKit
set_option linter.unusedVariables false
set_option linter.unusedSimpArgs false
set_option maxRecDepth 100000

theorem wWrap_wrap64 (x : Int) : wWrap (wrap64 x) = wWrap x := by unfold wWrap wrap64; omega
theorem wWrap_is {x : Int} (h0 : -4611686018427387904 ≤ x) (h1 : x ≤ 4611686018427387903) : wWrap x = x := by unfold wWrap wrap64; omega
theorem wWrap_twice (x : Int) : wWrap (wWrap x) = wWrap x := wWrap_is (wWrap_bounds x).1 (wWrap_bounds x).2
theorem wWrap_add (x : Int) : ∃ k : Int, wWrap x = x + 9223372036854775808 * k := ⟨(wWrap x - x) / 9223372036854775808, by unfold wWrap wrap64; omega⟩
theorem wWrap_mod {x y : Int} (k : Int) (h : x = y + 9223372036854775808 * k) : wWrap x = wWrap y := by unfold wWrap wrap64; omega

theorem opV_add (a b : Int) : opV 12 a b = wWrap (wWrap a + wWrap b) := by
  show wWrap (wrap64 (wWrap a + wWrap b)) = _; exact wWrap_wrap64 _
theorem opV_sub (a b : Int) : opV 13 a b = wWrap (wWrap a - wWrap b) := by
  show wWrap (wrap64 (wWrap a - wWrap b)) = _; exact wWrap_wrap64 _
theorem opV_mul (a b : Int) : opV 14 a b = wWrap (wWrap a * wWrap b) := by
  show wWrap (wrap64 (wWrap a * wWrap b)) = _; exact wWrap_wrap64 _
theorem opV_div {a b : Int} (hb : ¬ wWrap b = 0) : opV 15 a b = wWrap ((wWrap a).tdiv (wWrap b)) := by
  show wWrap (if wWrap b = 0 then 0 else wrap64 ((wWrap a).tdiv (wWrap b))) = _; rw [if_neg hb]; exact wWrap_wrap64 _
theorem opV_mod {a b : Int} (hb : ¬ wWrap b = 0) : opV 16 a b = wWrap ((wWrap a).tmod (wWrap b)) := by
  show wWrap (if wWrap b = 0 then 0 else (wWrap a).tmod (wWrap b)) = _; rw [if_neg hb]
theorem opV_div0 {a b : Int} (hb : wWrap b = 0) : opV 15 a b = 0 := by
  show wWrap (if wWrap b = 0 then 0 else wrap64 ((wWrap a).tdiv (wWrap b))) = _; rw [if_pos hb]; decide +kernel
theorem opV_mod0 {a b : Int} (hb : wWrap b = 0) : opV 16 a b = 0 := by
  show wWrap (if wWrap b = 0 then 0 else (wWrap a).tmod (wWrap b)) = _; rw [if_pos hb]; decide +kernel
theorem opV_eq (a b : Int) : opV 17 a b = if wWrap a = wWrap b then 1 else 0 := by
  show wWrap (if wWrap a = wWrap b then 1 else 0) = _; split <;> decide +kernel
theorem opV_less (a b : Int) : opV 18 a b = if wWrap a < wWrap b then 1 else 0 := by
  show wWrap (if wWrap a < wWrap b then 1 else 0) = _; split <;> decide +kernel
theorem opO_12 (b : Int) : opO 12 b = true := rfl
theorem opO_13 (b : Int) : opO 13 b = true := rfl
theorem opO_14 (b : Int) : opO 14 b = true := rfl
theorem opO_15 {b : Int} (h : ¬ wWrap b = 0) : opO 15 b = true := by
  show (true && !(true && decide (wWrap b = 0)) && !(false && decide (wWrap b = 0))) = true; rw [decide_eq_false h]; rfl
theorem opO_16 {b : Int} (h : ¬ wWrap b = 0) : opO 16 b = true := by
  show (true && !(false && decide (wWrap b = 0)) && !(true && decide (wWrap b = 0))) = true; rw [decide_eq_false h]; rfl
theorem opO_150 {b : Int} (h : wWrap b = 0) : opO 15 b = false := by
  show (true && !(true && decide (wWrap b = 0)) && !(false && decide (wWrap b = 0))) = false; rw [decide_eq_true h]; rfl
theorem opO_160 {b : Int} (h : wWrap b = 0) : opO 16 b = false := by
  show (true && !(false && decide (wWrap b = 0)) && !(true && decide (wWrap b = 0))) = false; rw [decide_eq_true h]; rfl
theorem opO_17 (b : Int) : opO 17 b = true := rfl
theorem opO_18 (b : Int) : opO 18 b = true := rfl

theorem opV_twice (op a b : Int) : opV op (wWrap a) (wWrap b) = opV op a b := by unfold opV; rw [wWrap_twice, wWrap_twice]
theorem opO_twice (op b : Int) : opO op (wWrap b) = opO op b := by unfold opO; rw [wWrap_twice]
theorem opV_wrapped (op a b : Int) : wWrap (opV op a b) = opV op a b := by unfold opV; exact wWrap_twice _

/-- The quotient times b, and what is left: wrapped, it is a. -/
theorem back_is (a b : Int) (h0 : -4611686018427387904 ≤ a) (h1 : a ≤ 4611686018427387903) :
    wWrap (wWrap (wWrap (a.tdiv b) * b) + wWrap (a.tmod b)) = a := by
  obtain ⟨k1, e1⟩ := wWrap_add (a.tdiv b)
  obtain ⟨k2, e2⟩ := wWrap_add (wWrap (a.tdiv b) * b)
  obtain ⟨k3, e3⟩ := wWrap_add (a.tmod b)
  have h := Int.mul_tdiv_add_tmod a b
  have h2 : wWrap (a.tdiv b) * b = b * a.tdiv b + 9223372036854775808 * (k1 * b) := by rw [e1, Int.add_mul, Int.mul_assoc, Int.mul_comm b]
  have e : wWrap (wWrap (wWrap (a.tdiv b) * b) + wWrap (a.tmod b)) = wWrap a := by
    refine wWrap_mod (k1 * b + k2 + k3) ?_
    rw [e2, e3, h2]
    simp only [Int.mul_add]
    omega
  rw [e]
  exact wWrap_is h0 h1

theorem tmod_range (a b : Int) (hb : ¬ b = 0) :
    (0 ≤ a → 0 ≤ a.tmod b) ∧ (a ≤ 0 → a.tmod b ≤ 0) ∧ a.tmod b < b.natAbs ∧ -(b.natAbs : Int) < a.tmod b := by
  have k0 : 0 ≤ a → 0 ≤ a.tmod b := fun h => Int.tmod_nonneg b h
  have k1 : a ≤ 0 → a.tmod b ≤ 0 := fun h => by
    have h1 := Int.tmod_nonneg (a := -a) b (by omega)
    rw [Int.neg_tmod] at h1
    omega
  have k2 : (a.tmod b).natAbs < b.natAbs := by
    rw [Int.natAbs_tmod]
    exact Nat.mod_lt _ (by omega)
  exact ⟨k0, k1, by omega, by omega⟩

end Go.Proofs.YtidhhlfpcknboaaDoor
