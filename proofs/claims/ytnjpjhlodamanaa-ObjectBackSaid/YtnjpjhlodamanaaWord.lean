/-
  The contracts of package word and of the document's answers for it: what each of their functions returns, for every argument of its type.
  Conditions: none beyond the ranges of the arguments' types.
-/
import Derived.Test.YtnjpjhlodamanaaKit
import Derived.Laws.Bits64b
namespace Go.Proofs.Ytnjpjhlodamanaa
open Go.ChangeShapes Go.WideShapes Go.ChangeAt Go.RowKit
set_option linter.unusedVariables false
set_option linter.unusedSimpArgs false

/-! The numbers. -/
def wInt (a : Int) : Int := 2 * a % 18446744073709551616 + 1
def wNum (a : Int) : Int := wrap64 a / 2
def wWrap (a : Int) : Int := wrap64 (2 * a) / 2
def wIs (a : Int) : Bool := decide (a % 2 = 1)
def wVal (a : Int) : Int := if a % 2 = 1 then wNum a else 0
def wPlace (a : Int) : Int := if a < 0 ∨ 4294967295 < a then 1 else 2 * a
def wOk (a : Int) : Bool := decide (a % 2 = 0 ∧ a ≤ 8589934590)
def wAt (a : Int) : Int := if a % 2 = 0 ∧ a ≤ 8589934590 then a / 2 else 0
def wRefAt (a : Int) : Int := if a % 2 = 0 ∧ a ≤ 8589934590 then a / 2 else -1
def wMay (a : Int) : Bool := decide (0 ≤ a ∧ a ≤ 4294967295)

theorem or_one (n : Int) (h0 : 0 ≤ n) (h1 : n < 18446744073709551616) (he : n % 2 = 0) : bits .or .u64 n 1 = n + 1 := by
  obtain ⟨m, rfl⟩ : ∃ m : Nat, n = ((2 * m : Nat) : Int) := ⟨(n / 2).toNat, by omega⟩
  have h := bits_or_u64_nat (2 * m) 1 (by omega) (by omega)
  have e : (2 * m ||| 1 : Nat) = 2 * m + 1 := (Nat.two_pow_add_eq_or_of_lt (i := 1) (b := 1) (by omega) m).symm
  rw [e] at h
  simpa using h

theorem and_one (n : Int) (h0 : 0 ≤ n) (h1 : n < 18446744073709551616) : bits .and .u64 n 1 = n % 2 := by
  obtain ⟨m, rfl⟩ := Int.eq_ofNat_of_zero_le h0
  have h := bits_and_u64_nat m 1 (by omega) (by omega)
  rw [Nat.and_one_is_mod] at h
  simpa using h

theorem or_wrap (a : Int) : bits BinOp.or IntKind.u64 (IntKind.u64.wrap (IntKind.u64.wrap a * 2)) 1 = wInt a := by
  rw [or_one] <;> simp only [IntKind.wrap_u64, wInt] <;> omega

theorem int_any (a : Int) (w : World) :
    Calls Try.prog 49 #[.int .i64 a] w fun e w' => e = .returned (.int .u64 (wInt a)) ∧ w = w' := by
  go_enter Try.func49, Try.ntmps49
  go_wp2
  go_ret
  exact ⟨ret_int (or_wrap a), rfl⟩

theorem refInt_any (a : Int) (w : World) :
    Calls Try.prog 34 #[.int .i64 a] w fun e w' => e = .returned (.int .u64 (wInt a)) ∧ w = w' := by
  go_enter Try.func34, Try.ntmps34
  go_wp2
  go_ret
  exact ⟨ret_int (or_wrap a), rfl⟩

theorem is_any (a : Int) (h1 : 0 ≤ a) (h2 : a ≤ 18446744073709551615) (w : World) :
    Calls Try.prog 48 #[.int .u64 a] w fun e w' => e = .returned (.bool (wIs a)) ∧ w = w' := by
  go_enter Try.func48, Try.ntmps48
  go_wp2
  go_ret
  refine ⟨ret_bool ?_, rfl⟩
  rw [and_one a h1 (by omega)]; rfl

theorem refIs_any (a : Int) (h1 : 0 ≤ a) (h2 : a ≤ 18446744073709551615) (w : World) :
    Calls Try.prog 8 #[.int .u64 a] w fun e w' => e = .returned (.bool (wIs a)) ∧ w = w' := by
  go_enter Try.func8, Try.ntmps8
  go_wp2
  go_ret
  exact ⟨rfl, rfl⟩

theorem place_any (a : Int) (h1 : -9223372036854775808 ≤ a) (h2 : a ≤ 9223372036854775807) (w : World) :
    Calls Try.prog 32 #[.int .i64 a] w fun e w' => e = .returned (.int .u64 (wPlace a)) ∧ w = w' := by
  by_cases hn : a < 0
  · have hv : wInt 0 = wPlace a := by simp [wPlace, wInt, hn]
    have HV := Lib.hid hv
    clear hv
    go_enter Try.func32, Try.ntmps32
    go_wp2_with ((go_at_call 49; refine (int_any _ _).mono ?_; rintro e w' ⟨rfl, rfl⟩))
    go_ret
    exact ⟨ret_int HV.out, rfl⟩
  · have h0 : 0 ≤ a := by omega
    by_cases hm : 4294967295 < a
    · have hv : wInt 0 = wPlace a := by simp [wPlace, wInt, hm]
      have HV := Lib.hid hv
      clear hv
      go_enter Try.func32, Try.ntmps32
      go_wp2_with ((go_at_call 49; refine (int_any _ _).mono ?_; rintro e w' ⟨rfl, rfl⟩))
      go_ret
      exact ⟨ret_int HV.out, rfl⟩
    · have hv : 2 * a = wPlace a := by simp [wPlace, hn, hm]
      have hl : a ≤ 4294967295 := by omega
      have HV := Lib.hid hv
      clear hv
      go_enter Try.func32, Try.ntmps32
      go_wp2
      go_ret
      exact ⟨ret_int HV.out, rfl⟩

theorem may_any (a : Int) (h1 : -9223372036854775808 ≤ a) (h2 : a ≤ 9223372036854775807) (w : World) :
    Calls Try.prog 33 #[.int .i64 a] w fun e w' => e = .returned (.bool (wMay a)) ∧ w = w' := by
  by_cases hn : a < 0
  · have hv : false = wMay a := by simp [wMay]; omega
    have HV := Lib.hid hv
    clear hv
    go_enter Try.func33, Try.ntmps33
    go_wp2
    go_ret
    exact ⟨ret_bool HV.out, rfl⟩
  · have h0 : 0 ≤ a := by omega
    have hv : decide (a < 4294967296) = wMay a := by unfold wMay; rw [decide_eq_decide]; omega
    have HV := Lib.hid hv
    clear hv
    go_enter Try.func33, Try.ntmps33
    go_wp2
    go_ret
    exact ⟨ret_bool HV.out, rfl⟩

theorem refPlace_any (a : Int) (h1 : -9223372036854775808 ≤ a) (h2 : a ≤ 9223372036854775807) (w : World) :
    Calls Try.prog 12 #[.int .i64 a] w fun e w' => e = .returned (.int .u64 (wPlace a)) ∧ w = w' := by
  by_cases hn : 0 ≤ a ∧ a ≤ 4294967295
  · obtain ⟨h0, hl⟩ := hn
    have hb : wMay a = true := by simp [wMay]; omega
    have hv : 2 * a = wPlace a := by unfold wPlace; rw [if_neg (by omega)]
    have HV := Lib.hid hv
    clear hv
    go_enter Try.func12, Try.ntmps12
    go_wp2_with ((go_at_call 33; refine (may_any _ h1 h2 _).mono ?_; rintro e w' ⟨rfl, rfl⟩))
    go_ret
    exact ⟨ret_int HV.out, rfl⟩
  · have hb : wMay a = false := by simp [wMay]; omega
    have hv : wInt 0 = wPlace a := by unfold wPlace; rw [if_pos (by omega)]; rfl
    have HV := Lib.hid hv
    clear hv
    go_enter Try.func12, Try.ntmps12
    go_wp2_with (first
      | (go_at_call 33; refine (may_any _ h1 h2 _).mono ?_; rintro e w' ⟨rfl, rfl⟩)
      | (go_at_call 34; refine (refInt_any _ _).mono ?_; rintro e w' ⟨rfl, rfl⟩))
    go_ret
    exact ⟨ret_int HV.out, rfl⟩

theorem at_any (a : Int) (h1 : 0 ≤ a) (h2 : a ≤ 18446744073709551615) (w : World) :
    Calls Try.prog 50 #[.int .u64 a] w fun e w' => e = .returned (.tuple #[.int .i64 (wAt a), .bool (wOk a)]) ∧ w = w' := by
  by_cases h : a % 2 = 1
  · have hb : wIs a = true := by simp [wIs, h]
    have hv : 0 = wAt a ∧ false = wOk a := by unfold wAt wOk; rw [if_neg (by omega)]; exact ⟨rfl, by simp; omega⟩
    have HV := Lib.hid hv
    clear hv h
    go_enter Try.func50, Try.ntmps50
    go_wp2_with ((go_at_call 48; refine (is_any _ h1 h2 _).mono ?_; rintro e w' ⟨rfl, rfl⟩))
    go_ret2
    rw [← HV.out.1, ← HV.out.2]
    exact ⟨rfl, rfl⟩
  · have hb : wIs a = false := by simp [wIs, h]
    by_cases hl : 8589934590 < a
    · have hv : 0 = wAt a ∧ false = wOk a := by unfold wAt wOk; rw [if_neg (by omega)]; exact ⟨rfl, by simp; omega⟩
      have HV := Lib.hid hv
      clear hv h
      go_enter Try.func50, Try.ntmps50
      go_wp2_with ((go_at_call 48; refine (is_any _ h1 h2 _).mono ?_; rintro e w' ⟨rfl, rfl⟩))
      go_ret2
      rw [← HV.out.1, ← HV.out.2]
      exact ⟨rfl, rfl⟩
    · have hv : a / 2 = wAt a ∧ true = wOk a := by unfold wAt wOk; rw [if_pos (by omega)]; exact ⟨rfl, by simp; omega⟩
      have HV := Lib.hid hv
      clear hv h
      go_enter Try.func50, Try.ntmps50
      go_wp2_with ((go_at_call 48; refine (is_any _ h1 h2 _).mono ?_; rintro e w' ⟨rfl, rfl⟩))
      go_ret2
      rw [← HV.out.1, ← HV.out.2]
      exact ⟨rfl, rfl⟩

end Go.Proofs.Ytnjpjhlodamanaa
