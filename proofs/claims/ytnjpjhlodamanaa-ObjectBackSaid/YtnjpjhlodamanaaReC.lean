/-
  The object that stands at a place of words, as the document reads it (stockpotref03.At).
  Conditions: as each states.
-/
import Derived.Test.YtnjpjhlodamanaaReB
import Derived.Test.YtnjpjhlodamanaaObP
namespace Go.Proofs.Ytnjpjhlodamanaa
open Go.ChangeShapes Go.WideShapes Go.ChangeAt Go.RowKit
set_option linter.unusedVariables false
set_option linter.unusedSimpArgs false
set_option maxRecDepth 100000

def readP (ws : List Int) (i : Int) : Option Ob := if 0 ≤ i then decode (ws.drop i.toNat) else none
abbrev readV (k t : Int) (a : Option Addr) (nf c : Nat) (s : ByteArray) (b : Bool) : Value := .agg #[.int .i64 k, .int .i64 t, .slice a nf c, .string s, .bool b]
abbrev zeroRead : Value := readV 0 0 none 0 0 ⟨#[]⟩ false
def ReadT (q : Option Ob) (w : World) (e : Ending) (w' : World) : Prop :=
  Below w.heap.size w w' ∧ ((∃ o a c s, q = some o ∧ s.data.toList = o.tx ∧ e = .returned (readV o.kind o.tag a o.fs.length c s true) ∧ w'.ownsRow w.heap.size 39 1 (.slice a o.fs.length c) o.fs.length (wordsL o.fs)) ∨
    (q = none ∧ e = .returned zeroRead))

theorem and_tag (x : Int) (h : fitW x) : bits .and .u64 (x / 256) 16777215 = hT x := by
  obtain ⟨m, rfl⟩ := Int.eq_ofNat_of_zero_le h.1
  have hm : m < 18446744073709551616 := by have := h.2; omega
  have e : ((m : Int) / 256) = ((m / 256 : Nat) : Int) := by omega
  have h1 := bits_and_u64_nat (m / 256) 16777215 (by omega) (by omega)
  rw [show (16777215 : Nat) = 2 ^ 24 - 1 from rfl, Nat.and_two_pow_sub_one_eq_mod] at h1
  rw [e]
  have h2 : bits BinOp.and IntKind.u64 ((m / 256 : Nat) : Int) 16777215 = ((m / 256 % 2 ^ 24 : Nat) : Int) := h1
  rw [h2]
  unfold hT
  omega

end Go.Proofs.Ytnjpjhlodamanaa
