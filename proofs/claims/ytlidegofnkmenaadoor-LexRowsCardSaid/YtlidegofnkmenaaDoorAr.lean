/-
  Package arith in plain words: the table of kinds and the library's variables, as the row lists them; what an op makes of two numbers.
  Conditions: as each states.
-/
import Derived.Test.YtlidegofnkmenaaDoorWord
import Derived.LaidMore
import Derived.MakeChecks
import Derived.Stop.LaidErr
import Derived.Lib.LaidTab
import Derived.Lib.ItoaMem
namespace Go.Proofs.YtlidegofnkmenaaDoor
open Go.ChangeShapes Go.WideShapes Go.ChangeAt Go.RowKit
set_option linter.unusedVariables false
set_option linter.unusedSimpArgs false
set_option maxRecDepth 100000

/-- The kinds, by their ops. -/
def kdL : List Int := [0, 0, 0, 0, 0, 0, 0, 0, 0, 0, 0, 0, 1, 2, 3, 4, 5, 6, 7, 0, 0, 0, 0, 0, 0, 0, 0, 0, 0, 0, 0, 0, 0, 0, 0, 0, 0, 0]
def kdI (op : Int) : Int := if 0 ≤ op ∧ op < 38 then kdL.getD op.toNat 0 else 0
theorem kdI_le (op : Int) : 0 ≤ kdI op ∧ kdI op ≤ 7 := by
  unfold kdI
  split
  · rename_i h
    obtain ⟨k, rfl⟩ := Int.eq_ofNat_of_zero_le h.1
    have hk : k < 38 := by omega
    have : ∀ j : Fin 38, 0 ≤ kdL.getD j.val 0 ∧ kdL.getD j.val 0 ≤ 7 := by decide
    simpa using this ⟨k, hk⟩
  · omega
theorem kdI_other {op : Int} (h : op < 12 ∨ 18 < op) : kdI op = 0 := by
  unfold kdI
  split
  · rename_i h1
    obtain ⟨k, rfl⟩ := Int.eq_ofNat_of_zero_le h1.1
    have hk : k < 38 := by omega
    have : ∀ j : Fin 38, j.val < 12 ∨ 18 < j.val → kdL.getD j.val 0 = 0 := by decide
    simpa using this ⟨k, hk⟩ (by simp; omega)
  · rfl

/-- What a kind makes of two numbers, and whether it makes anything. -/
def kdV (k x y : Int) : Int :=
  if k = 1 then wrap64 (x + y) else if k = 2 then wrap64 (x - y) else if k = 3 then wrap64 (x * y)
  else if k = 4 then (if y = 0 then 0 else wrap64 (x.tdiv y)) else if k = 5 then (if y = 0 then 0 else x.tmod y)
  else if k = 6 then (if x = y then 1 else 0) else if k = 7 then (if x < y then 1 else 0) else 0
def kdO (k y : Int) : Bool := decide (1 ≤ k) && !(decide (k = 4) && decide (y = 0)) && !(decide (k = 5) && decide (y = 0))
/-- What an op makes of two numbers. -/
def opV (op a b : Int) : Int := wWrap (kdV (kdI op) (wWrap a) (wWrap b))
def opO (op b : Int) : Bool := kdO (kdI op) (wWrap b)

theorem gPow : Tryd.prog.globalNamed "internal/strconv.uint64pow10" = some 5 := by kernel_rfl
theorem gES : Tryd.prog.globalNamed "strconv.ErrSyntax" = some 3 := by kernel_rfl
theorem gER : Tryd.prog.globalNamed "strconv.ErrRange" = some 4 := by kernel_rfl
theorem tPow : (Tryd.prog.globals[5]?).map (·.type) = some 89 := by kernel_rfl
theorem tES : (Tryd.prog.globals[3]?).map (·.type) = some 63 := by kernel_rfl
theorem tER : (Tryd.prog.globals[4]?).map (·.type) = some 63 := by kernel_rfl

theorem cell_lt {w : World} {g o : Nat} {v : Value} (h : w.cell? ⟨g, o, none⟩ = some v) : g < w.heap.size := by
  rcases Nat.lt_or_ge g w.heap.size with h' | h'
  · exact h'
  · simp [World.cell?, Array.getElem?_eq_none h'] at h

theorem tabIs_below {w w' : World} {n : String} {k : IntKind} {zs : List Int} (h : Lib.TabIs Tryd.prog w n k zs) (hb : Below w.heap.size w w') : Lib.TabIs Tryd.prog w' n k zs := by
  unfold Lib.TabIs World.var? at *
  cases hg : Tryd.prog.globalNamed n with
  | none => rw [hg] at h; cases h
  | some g =>
    rw [hg] at h
    simp only [Option.bind_some] at h ⊢
    have hlt : g < w.heap.size := by
      rcases Nat.lt_or_ge g w.heap.size with h' | h'
      · exact h'
      · rw [Array.getElem?_eq_none h'] at h; cases h
    rw [hb.block g hlt]
    exact h

theorem starErr : "*" ++ "errors.errorString" = "*errors.errorString" := by decide
theorem rowErr (u : TypeId) (h : Tryd.prog.typeName? 3 u = some "*errors.errorString") : u = 78 :=
  typeName_ptr_named (nm := "errors.errorString") (by rw [starErr]; kernel_rfl) (by kernel_rfl) (by decide) u (by rw [starErr]; exact h)

end Go.Proofs.YtlidegofnkmenaaDoor
