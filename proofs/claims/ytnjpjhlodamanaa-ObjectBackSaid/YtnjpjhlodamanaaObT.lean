/-
  An object's words behind its head ('lay'), by kinds.
  Conditions: as each states.
-/
import Derived.Test.YtnjpjhlodamanaaObE
import Derived.Test.YtnjpjhlodamanaaHeld
namespace Go.Proofs.Ytnjpjhlodamanaa
open Go.ChangeShapes Go.WideShapes Go.ChangeAt Go.RowKit
set_option linter.unusedVariables false
set_option linter.unusedSimpArgs false
set_option maxRecDepth 100000

theorem flay_any (k t : Int) (a : Option Addr) (nf c : Nat) (s : ByteArray) (w : World) :
    Calls Try.prog 78 #[.agg #[], .agg #[.int .i64 k, .int .i64 t, .slice a nf c, .string s]] w fun e w' => e = .returned (.slice a nf c) ∧ Below w.heap.size w w' := by
  go_enter Try.func78, Try.ntmps78
  go_wp2
  go_ret
  exact ⟨rfl, bl_alloc (bl_alloc (Below.refl _ _) _) _⟩
end Go.Proofs.Ytnjpjhlodamanaa
