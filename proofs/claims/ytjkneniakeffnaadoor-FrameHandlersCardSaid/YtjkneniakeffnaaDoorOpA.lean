/-
  The contracts of package op, as its table has them.
  Conditions: as each states.
-/
import Derived.Test.YtjkneniakeffnaaDoorOpP
namespace Go.Proofs.YtjkneniakeffnaaDoor
open Go.ChangeShapes Go.WideShapes Go.ChangeAt Go.RowKit
set_option linter.unusedVariables false
set_option linter.unusedSimpArgs false
set_option maxRecDepth 100000

theorem down_alloc {w W : World} (h : Below w.heap.size w W) (o : Obj) : Below w.heap.size w (W.alloc o) := h.alloc h.size o
theorem down_drew {w W : World} (h : Below w.heap.size w W) : Below w.heap.size w W.drew := below_draws h 1
theorem down_drewN {w W : World} (h : Below w.heap.size w W) (n : Nat) : Below w.heap.size w (W.drewN n) := below_draws h n
theorem down_set {w W : World} (h : Below w.heap.size w W) {p : Addr} (hp : w.heap.size ≤ p.block) (v : Value) : Below w.heap.size w (W.setCell p v) := h.setCell hp v
theorem down_call {w W W1 : World} (h : Below w.heap.size w W) (k : Below W.heap.size W W1) : Below w.heap.size w W1 := below_chain h k
theorem down_cell {W w1 : World} (hb : Below W.heap.size W w1) : (∀ b o, b < W.heap.size → w1.cell? ⟨b, o, none⟩ = W.cell? ⟨b, o, none⟩) ∧ (∀ b o, b < W.heap.size → w1.frozen? ⟨b, o, none⟩ = W.frozen? ⟨b, o, none⟩) :=
  ⟨fun b o h => hb.cell (p := ⟨b, o, none⟩) h, fun b o h => hb.frozen (p := ⟨b, o, none⟩) h⟩

def opHas (s : Nat) (n : Int) : Bool := decide (spL s ≤ n ∧ n ≤ spH s)

theorem has_any (s : Nat) (n : Int) (w : World) (T : OpTab w) (hs : s < 13) :
    Calls Tryd.prog 35 #[.int .i64 s, .int .i64 n] w fun e w' => e = .returned (.bool (opHas s n)) ∧ w = w' := by
  have l := T.lo s hs
  have h := T.hi s hs
  clear T
  have e : opHas s n = decide (spL s ≤ n ∧ n ≤ spH s) := rfl
  by_cases c1 : spL s ≤ n
  · by_cases c2 : n ≤ spH s
    · have e' : opHas s n = true := by rw [e]; exact decide_eq_true ⟨c1, c2⟩
      have E := Lib.hid e'; clear e e'
      go_enter Tryd.func35, Tryd.ntmps35
      go_wp2
      go_ret
      exact ⟨ret_bool E.out.symm, rfl⟩
    · have e' : opHas s n = false := by rw [e]; exact decide_eq_false fun h => c2 h.2
      have E := Lib.hid e'; clear e e'
      go_enter Tryd.func35, Tryd.ntmps35
      go_wp2
      go_ret
      exact ⟨ret_bool E.out.symm, rfl⟩
  · have e' : opHas s n = false := by rw [e]; exact decide_eq_false fun h => c1 h.1
    have E := Lib.hid e'; clear e e'
    go_enter Tryd.func35, Tryd.ntmps35
    go_wp2
    go_ret
    exact ⟨ret_bool E.out.symm, rfl⟩

theorem ret_str {a b : ByteArray} (h : a = b) : Ending.returned (.string a) = .returned (.string b) := by rw [h]
def nmOf (i : Int) : ByteArray := if 0 ≤ i ∧ i < 38 then opNm i.toNat else ⟨#[]⟩
theorem nmOf_in (k : Nat) (h : k < 38) : nmOf k = opNm k := by unfold nmOf; rw [if_pos (by omega)]; rfl
theorem nmOf_out (i : Int) (h : i < 0 ∨ 38 ≤ i) : nmOf i = ⟨#[]⟩ := by unfold nmOf; rw [if_neg (by omega)]

/-! The row that tells of an instruction. -/
abbrev RowV := List UInt8 × Nat × Nat × Int × Int
def rowV (r : RowV) : Value := .agg #[.string ⟨⟨r.1⟩⟩, .int .i64 r.2.1, .int .i64 r.2.2.1, .int .i64 r.2.2.2.1, .int .i64 r.2.2.2.2]
def rowZ : RowV := ([], 0, 0, 0, 0)
def rowAtP (o a : Int) : RowV := if o = 36 then hoT.getD a.toNat rowZ else opT.getD o.toNat rowZ
def opGood (o a b : Int) : Bool := decide (0 ≤ o ∧ o < 38) && opHas (opA o.toNat) a && opHas (rowAtP o a).2.2.1 b
def rowP (o a b : Int) : RowV := if opGood o a b = true then rowAtP o a else rowZ

theorem good_out (o a b : Int) (h : ¬ (0 ≤ o ∧ o < 38)) : opGood o a b = false ∧ rowP o a b = rowZ := by
  have e : opGood o a b = false := by
    unfold opGood
    rw [show decide (0 ≤ o ∧ o < 38) = false from decide_eq_false h]
    rfl
  exact ⟨e, by unfold rowP; rw [e]; rfl⟩
theorem good_at (k : Nat) (a b : Int) (hk : k < 38) : opGood k a b = (opHas (opA k) a && opHas (rowAtP k a).2.2.1 b) := by
  unfold opGood
  rw [show decide (0 ≤ (k : Int) ∧ (k : Int) < 38) = true from decide_eq_true ⟨by omega, by omega⟩, Bool.true_and]
  rfl
theorem row_plain (k : Nat) (a : Int) (h : ¬ (k : Int) = 36) : rowAtP k a = opT.getD k rowZ := by unfold rowAtP; rw [if_neg h]; rfl
theorem row_host (a : Int) : rowAtP 36 a = hoT.getD a.toNat rowZ := rfl
end Go.Proofs.YtjkneniakeffnaaDoor
