/-
  The contracts of package word and of the document's answers for it: what each of their functions returns, for every argument of its type.
  Conditions: none beyond the ranges of the arguments' types.
-/
import Derived.Test.YtlidegofnkmenaaDoorKit
import Derived.Laws.Bits64b
namespace Go.Proofs.YtlidegofnkmenaaDoor
open Go.ChangeShapes Go.WideShapes Go.ChangeAt Go.RowKit
set_option linter.unusedVariables false
set_option linter.unusedSimpArgs false

/-! The numbers. -/
def wInt (a : Int) : Int := 2 * a % 18446744073709551616 + 1
def wNum (a : Int) : Int := wrap64 a / 2
def wWrap (a : Int) : Int := wrap64 (2 * a) / 2
def wIs (a : Int) : Bool := decide (a % 2 = 1)
def wVal (a : Int) : Int := if a % 2 = 1 then wNum a else 0
def wPlace (a : Int) : Int := if a < 0 ∨ 4294967295 < a then 1 else 2 * a
def wOk (a : Int) : Bool := decide (a % 2 = 0 ∧ a ≤ 8589934590)
def wAt (a : Int) : Int := if a % 2 = 0 ∧ a ≤ 8589934590 then a / 2 else 0
def wRefAt (a : Int) : Int := if a % 2 = 0 ∧ a ≤ 8589934590 then a / 2 else -1
def wMay (a : Int) : Bool := decide (0 ≤ a ∧ a ≤ 4294967295)

theorem or_one (n : Int) (h0 : 0 ≤ n) (h1 : n < 18446744073709551616) (he : n % 2 = 0) : bits .or .u64 n 1 = n + 1 := by
  obtain ⟨m, rfl⟩ : ∃ m : Nat, n = ((2 * m : Nat) : Int) := ⟨(n / 2).toNat, by omega⟩
  have h := bits_or_u64_nat (2 * m) 1 (by omega) (by omega)
  have e : (2 * m ||| 1 : Nat) = 2 * m + 1 := (Nat.two_pow_add_eq_or_of_lt (i := 1) (b := 1) (by omega) m).symm
  rw [e] at h
  simpa using h

theorem and_one (n : Int) (h0 : 0 ≤ n) (h1 : n < 18446744073709551616) : bits .and .u64 n 1 = n % 2 := by
  obtain ⟨m, rfl⟩ := Int.eq_ofNat_of_zero_le h0
  have h := bits_and_u64_nat m 1 (by omega) (by omega)
  rw [Nat.and_one_is_mod] at h
  simpa using h

theorem or_wrap (a : Int) : bits BinOp.or IntKind.u64 (IntKind.u64.wrap (IntKind.u64.wrap a * 2)) 1 = wInt a := by
  rw [or_one] <;> simp only [IntKind.wrap_u64, wInt] <;> omega

end Go.Proofs.YtlidegofnkmenaaDoor
