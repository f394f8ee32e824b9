/-
  The two tables of package code as plain lists; that they lie in memory so ('CoTab').
  Conditions: as each states.
-/
import Derived.Test.YtabdbciebhmflaaDoorCo
namespace Go.Proofs.YtabdbciebhmflaaDoor
open Go.ChangeShapes Go.WideShapes Go.ChangeAt Go.RowKit
set_option linter.unusedVariables false
set_option linter.unusedSimpArgs false
set_option maxRecDepth 100000

theorem lies_elem {P : Program} {W : World} {n : String} {g : Nat} {t e : TypeId} {m : Nat} {rows : List (DataW Unit)} {k : IntKind} (hg : P.globalNamed n = some g) (ht : (P.globals[g]?).map (·.type) = some t)
    (ha : P.underlying t = some (.array m e)) (he : P.underlying e = some (.int k)) (hc : P.cellsOf e = 1) (hct : P.cellsOf t = m) (h : LiesAs P W n (.agg rows)) (i : Nat) (hi : i < m) (z : Int) (hz : rows[i]? = some (.lit (.int k z))) : W.cell? ⟨g, i, none⟩ = some (.int k z) := by
  obtain ⟨g', t', cs, fuel, p, hg', ht', hv, hd⟩ := h
  obtain rfl := Option.some.inj (hg.symm.trans hg')
  obtain rfl := Option.some.inj (ht.symm.trans ht')
  obtain ⟨xs, n1, _, hx, hlen, hxl, hel⟩ := DataW.trod_array ha hd
  have h1 := hel i hi
  have hx1 : xs[i]? = some xs[i] := List.getElem?_eq_getElem (by omega)
  rw [hx1, hc] at h1
  have hlt : i < cs.toList.length := by rw [hlen, hct]; omega
  have e1 : (cs.toList.drop (i * 1)).take 1 = [cs.toList[i]] := by
    rw [Nat.mul_one, List.drop_eq_getElem_cons hlt]; rfl
  rw [e1] at h1
  obtain ⟨u, hu, hx2, _⟩ := DataW.trod_int he h1
  have hr : rows = xs.map (·.1) := by
    have := congrArg Prod.fst hx
    simpa using this
  rw [hr, List.getElem?_map, hx1] at hz
  simp only [Option.map_some, Option.some.injEq] at hz
  have hz2 : xs[i].1 = .lit (.int k u) := congrArg Prod.fst hx2
  rw [hz2] at hz
  simp only [DataW.lit.injEq, Lit.int.injEq, true_and] at hz
  subst hz
  rw [World.var?_cell hg hv, Array.getElem?_eq_getElem (by simpa using hlt)]
  have := (List.cons.inj hu).1
  simp only [Array.getElem_toList] at this
  rw [this]

theorem gA : Tryd.prog.globalNamed "stockpot/code.aWidths" = some 0 := by kernel_rfl
theorem gB : Tryd.prog.globalNamed "stockpot/code.bWidths" = some 1 := by kernel_rfl
theorem tA : (Tryd.prog.globals[0]?).map (·.type) = some 91 := by kernel_rfl
theorem tB : (Tryd.prog.globals[1]?).map (·.type) = some 91 := by kernel_rfl
def byteD {H : Type} (n : Nat) : DataW H := .lit (.int .u8 n)
theorem aw_eq : (Rows.laid_stockpot_code_aWidths : DataW Unit) = .agg (aT.map byteD) := by kernel_rfl
theorem bw_eq : (Rows.laid_stockpot_code_bWidths : DataW Unit) = .agg (bT.map byteD) := by kernel_rfl

structure WTab (w : World) : Prop where
  a : ∀ k : Nat, k < 38 → w.cell? ⟨0, k, none⟩ = some (.int .u8 (aW k))
  b : ∀ k : Nat, k < 38 → w.cell? ⟨1, k, none⟩ = some (.int .u8 (bW k))
theorem WTab.size {w : World} (T : WTab w) : 0 < w.heap.size ∧ 1 < w.heap.size :=
  ⟨World.block_lt_of_cell? w _ (T.a 0 (by omega)), World.block_lt_of_cell? w _ (T.b 0 (by omega))⟩
structure CoTab (w : World) : Prop where
  op : OpTab w
  a : ∀ k : Nat, k < 38 → w.cell? ⟨0, k, none⟩ = some (.int .u8 (aW k))
  b : ∀ k : Nat, k < 38 → w.cell? ⟨1, k, none⟩ = some (.int .u8 (bW k))

theorem tab_at {T : List Nat} (hT : T.length = 38) {k : Nat} (hk : k < 38) : (T.map (byteD (H := Unit)))[k]? = some (.lit (.int .u8 ((T.getD k 0 : Nat) : Int))) := by
  rw [List.getElem?_map, List.getElem?_eq_getElem (by omega), List.getD_eq_getElem?_getD, List.getElem?_eq_getElem (by omega)]
  rfl
theorem cotab_of {W : World} (T : OpTab W) (h1 : LiesAs Tryd.prog W "stockpot/code.aWidths" Rows.laid_stockpot_code_aWidths) (h2 : LiesAs Tryd.prog W "stockpot/code.bWidths" Rows.laid_stockpot_code_bWidths) : CoTab W := by
  rw [aw_eq] at h1
  rw [bw_eq] at h2
  refine ⟨T, fun k hk => ?_, fun k hk => ?_⟩
  · exact lies_elem gA tA Tryd.underlying91 Tryd.underlying5 (by kernel_rfl) (by kernel_rfl) h1 k hk _ (tab_at (by rfl) hk)
  · exact lies_elem gB tB Tryd.underlying91 Tryd.underlying5 (by kernel_rfl) (by kernel_rfl) h2 k hk _ (tab_at (by rfl) hk)
theorem CoTab.below {w w' : World} (T : CoTab w) (hb : Below w.heap.size w w') : CoTab w' := by
  have e : ∀ g off u, w.cell? ⟨g, off, none⟩ = some u → w'.cell? ⟨g, off, none⟩ = some u := fun g off u h => by
    rw [hb.cell (p := ⟨g, off, none⟩) (World.block_lt_of_cell? w _ h)]; exact h
  exact ⟨T.op.below hb, fun k hk => e _ _ _ (T.a k hk), fun k hk => e _ _ _ (T.b k hk)⟩
/-- The tables' blocks. -/
theorem CoTab.size {w : World} (T : CoTab w) : 0 < w.heap.size ∧ 1 < w.heap.size :=
  ⟨World.block_lt_of_cell? w _ (T.a 0 (by omega)), World.block_lt_of_cell? w _ (T.b 0 (by omega))⟩
theorem CoTab.w {w : World} (T : CoTab w) : WTab w := ⟨T.a, T.b⟩
end Go.Proofs.YtabdbciebhmflaaDoor
