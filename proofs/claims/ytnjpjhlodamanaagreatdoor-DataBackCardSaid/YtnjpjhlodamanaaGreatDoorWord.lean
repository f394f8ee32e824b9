/-
  The contracts of package word and of the document's answers for it: what each of their functions returns, for every argument of its type.
  Conditions: none beyond the ranges of the arguments' types.
-/
import Derived.Test.YtnjpjhlodamanaaGreatDoorKit
import Derived.Laws.Bits64b
namespace Go.Proofs.YtnjpjhlodamanaaGreatDoor
open Go.ChangeShapes Go.WideShapes Go.ChangeAt Go.RowKit
set_option linter.unusedVariables false
set_option linter.unusedSimpArgs false

/-! The numbers. -/
def wInt (a : Int) : Int := 2 * a % 18446744073709551616 + 1
def wNum (a : Int) : Int := wrap64 a / 2
def wWrap (a : Int) : Int := wrap64 (2 * a) / 2
def wIs (a : Int) : Bool := decide (a % 2 = 1)
def wVal (a : Int) : Int := if a % 2 = 1 then wNum a else 0
def wPlace (a : Int) : Int := if a < 0 ∨ 4294967295 < a then 1 else 2 * a
def wOk (a : Int) : Bool := decide (a % 2 = 0 ∧ a ≤ 8589934590)
def wAt (a : Int) : Int := if a % 2 = 0 ∧ a ≤ 8589934590 then a / 2 else 0
def wRefAt (a : Int) : Int := if a % 2 = 0 ∧ a ≤ 8589934590 then a / 2 else -1
def wMay (a : Int) : Bool := decide (0 ≤ a ∧ a ≤ 4294967295)

theorem or_one (n : Int) (h0 : 0 ≤ n) (h1 : n < 18446744073709551616) (he : n % 2 = 0) : bits .or .u64 n 1 = n + 1 := by
  obtain ⟨m, rfl⟩ : ∃ m : Nat, n = ((2 * m : Nat) : Int) := ⟨(n / 2).toNat, by omega⟩
  have h := bits_or_u64_nat (2 * m) 1 (by omega) (by omega)
  have e : (2 * m ||| 1 : Nat) = 2 * m + 1 := (Nat.two_pow_add_eq_or_of_lt (i := 1) (b := 1) (by omega) m).symm
  rw [e] at h
  simpa using h

theorem and_one (n : Int) (h0 : 0 ≤ n) (h1 : n < 18446744073709551616) : bits .and .u64 n 1 = n % 2 := by
  obtain ⟨m, rfl⟩ := Int.eq_ofNat_of_zero_le h0
  have h := bits_and_u64_nat m 1 (by omega) (by omega)
  rw [Nat.and_one_is_mod] at h
  simpa using h

theorem or_wrap (a : Int) : bits BinOp.or IntKind.u64 (IntKind.u64.wrap (IntKind.u64.wrap a * 2)) 1 = wInt a := by
  rw [or_one] <;> simp only [IntKind.wrap_u64, wInt] <;> omega

theorem int_any (a : Int) (w : World) :
    Calls Tryz.prog 54 #[.int .i64 a] w fun e w' => e = .returned (.int .u64 (wInt a)) ∧ w = w' := by
  go_enter Tryz.func54, Tryz.ntmps54
  go_wp2
  go_ret
  exact ⟨ret_int (or_wrap a), rfl⟩

theorem is_any (a : Int) (h1 : 0 ≤ a) (h2 : a ≤ 18446744073709551615) (w : World) :
    Calls Tryz.prog 60 #[.int .u64 a] w fun e w' => e = .returned (.bool (wIs a)) ∧ w = w' := by
  go_enter Tryz.func60, Tryz.ntmps60
  go_wp2
  go_ret
  refine ⟨ret_bool ?_, rfl⟩
  rw [and_one a h1 (by omega)]; rfl

theorem refIs_any (a : Int) (h1 : 0 ≤ a) (h2 : a ≤ 18446744073709551615) (w : World) :
    Calls Tryz.prog 16 #[.int .u64 a] w fun e w' => e = .returned (.bool (wIs a)) ∧ w = w' := by
  go_enter Tryz.func16, Tryz.ntmps16
  go_wp2
  go_ret
  exact ⟨rfl, rfl⟩

theorem num_any (a : Int) (w : World) :
    Calls Tryz.prog 79 #[.agg #[.int .u64 a]] w fun e w' => e = .returned (.int .i64 (wNum a)) ∧ Below w.heap.size w w' := by
  go_enter Tryz.func79, Tryz.ntmps79
  go_wp2
  go_ret
  exact ⟨rfl, by go_grown⟩

theorem wrap_any (a : Int) (w : World) :
    Calls Tryz.prog 66 #[.int .i64 a] w fun e w' => e = .returned (.int .i64 (wWrap a)) ∧ Below w.heap.size w w' := by
  have h3 : wNum (wInt a) = wWrap a := by unfold wNum wWrap wInt wrap64; omega
  have H3 := Lib.hid h3
  clear h3
  go_enter Tryz.func66, Tryz.ntmps66
  go_wp2_with (first
    | (go_at_call 54; refine (int_any _ _).mono ?_; rintro e w' ⟨rfl, rfl⟩)
    | (go_at_call 79; refine (num_any _ _).mono ?_; rintro e w' ⟨rfl, hg⟩))
  go_ret
  exact ⟨ret_int H3.out, hg⟩

theorem refWrap_any (a : Int) (w : World) :
    Calls Tryz.prog 33 #[.int .i64 a] w fun e w' => e = .returned (.int .i64 (wWrap a)) ∧ w = w' := by
  go_enter Tryz.func33, Tryz.ntmps33
  go_wp2
  go_ret
  exact ⟨ret_int (by unfold wWrap; rw [Int.mul_comm]), rfl⟩

theorem value_any (a : Int) (h1 : 0 ≤ a) (h2 : a ≤ 18446744073709551615) (w : World) :
    Calls Tryz.prog 62 #[.int .u64 a] w fun e w' => e = .returned (.int .i64 (wVal a)) ∧ Below w.heap.size w w' := by
  by_cases h : a % 2 = 1
  · have hb : wIs a = true := by simp [wIs, h]
    have hv : wNum a = wVal a := by simp [wVal, h]
    have HV := Lib.hid hv
    clear hv h
    go_enter Tryz.func62, Tryz.ntmps62
    go_wp2_with (first
      | (go_at_call 60; refine (is_any _ h1 h2 _).mono ?_; rintro e w' ⟨rfl, rfl⟩)
      | (go_at_call 79; refine (num_any _ _).mono ?_; rintro e w' ⟨rfl, hg⟩))
    go_ret
    exact ⟨ret_int HV.out, hg⟩
  · have hb : wIs a = false := by simp [wIs, h]
    have hv : 0 = wVal a := by simp [wVal, h]
    have HV := Lib.hid hv
    clear hv h
    go_enter Tryz.func62, Tryz.ntmps62
    go_wp2_with ((go_at_call 60; refine (is_any _ h1 h2 _).mono ?_; rintro e w' ⟨rfl, rfl⟩))
    go_ret
    exact ⟨ret_int HV.out, Below.refl _ _⟩

theorem place_any (a : Int) (h1 : -9223372036854775808 ≤ a) (h2 : a ≤ 9223372036854775807) (w : World) :
    Calls Tryz.prog 76 #[.int .i64 a] w fun e w' => e = .returned (.int .u64 (wPlace a)) ∧ w = w' := by
  by_cases hn : a < 0
  · have hv : wInt 0 = wPlace a := by simp [wPlace, wInt, hn]
    have HV := Lib.hid hv
    clear hv
    go_enter Tryz.func76, Tryz.ntmps76
    go_wp2_with ((go_at_call 54; refine (int_any _ _).mono ?_; rintro e w' ⟨rfl, rfl⟩))
    go_ret
    exact ⟨ret_int HV.out, rfl⟩
  · have h0 : 0 ≤ a := by omega
    by_cases hm : 4294967295 < a
    · have hv : wInt 0 = wPlace a := by simp [wPlace, wInt, hm]
      have HV := Lib.hid hv
      clear hv
      go_enter Tryz.func76, Tryz.ntmps76
      go_wp2_with ((go_at_call 54; refine (int_any _ _).mono ?_; rintro e w' ⟨rfl, rfl⟩))
      go_ret
      exact ⟨ret_int HV.out, rfl⟩
    · have hv : 2 * a = wPlace a := by simp [wPlace, hn, hm]
      have hl : a ≤ 4294967295 := by omega
      have HV := Lib.hid hv
      clear hv
      go_enter Tryz.func76, Tryz.ntmps76
      go_wp2
      go_ret
      exact ⟨ret_int HV.out, rfl⟩

theorem at_any (a : Int) (h1 : 0 ≤ a) (h2 : a ≤ 18446744073709551615) (w : World) :
    Calls Tryz.prog 77 #[.int .u64 a] w fun e w' => e = .returned (.tuple #[.int .i64 (wAt a), .bool (wOk a)]) ∧ w = w' := by
  by_cases h : a % 2 = 1
  · have hb : wIs a = true := by simp [wIs, h]
    have hv : 0 = wAt a ∧ false = wOk a := by unfold wAt wOk; rw [if_neg (by omega)]; exact ⟨rfl, by simp; omega⟩
    have HV := Lib.hid hv
    clear hv h
    go_enter Tryz.func77, Tryz.ntmps77
    go_wp2_with ((go_at_call 60; refine (is_any _ h1 h2 _).mono ?_; rintro e w' ⟨rfl, rfl⟩))
    go_ret2
    rw [← HV.out.1, ← HV.out.2]
    exact ⟨rfl, rfl⟩
  · have hb : wIs a = false := by simp [wIs, h]
    by_cases hl : 8589934590 < a
    · have hv : 0 = wAt a ∧ false = wOk a := by unfold wAt wOk; rw [if_neg (by omega)]; exact ⟨rfl, by simp; omega⟩
      have HV := Lib.hid hv
      clear hv h
      go_enter Tryz.func77, Tryz.ntmps77
      go_wp2_with ((go_at_call 60; refine (is_any _ h1 h2 _).mono ?_; rintro e w' ⟨rfl, rfl⟩))
      go_ret2
      rw [← HV.out.1, ← HV.out.2]
      exact ⟨rfl, rfl⟩
    · have hv : a / 2 = wAt a ∧ true = wOk a := by unfold wAt wOk; rw [if_pos (by omega)]; exact ⟨rfl, by simp; omega⟩
      have HV := Lib.hid hv
      clear hv h
      go_enter Tryz.func77, Tryz.ntmps77
      go_wp2_with ((go_at_call 60; refine (is_any _ h1 h2 _).mono ?_; rintro e w' ⟨rfl, rfl⟩))
      go_ret2
      rw [← HV.out.1, ← HV.out.2]
      exact ⟨rfl, rfl⟩

end Go.Proofs.YtnjpjhlodamanaaGreatDoor
