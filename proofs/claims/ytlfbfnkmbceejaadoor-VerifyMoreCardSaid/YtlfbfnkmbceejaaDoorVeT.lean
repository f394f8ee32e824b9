/-
  The package-level variable of package verify: that it lies in memory as it is laid; with it the tables of package op ('VeTab').
  Conditions: as each states.
-/
import Derived.Test.YtlfbfnkmbceejaaDoorOpE
import Derived.ChangeKeysEq
import Derived.Laws.StructEq
namespace Go.Proofs.YtlfbfnkmbceejaaDoor
open Go.ChangeShapes Go.WideShapes Go.ChangeAt Go.RowKit
set_option linter.unusedVariables false
set_option linter.unusedSimpArgs false
set_option maxRecDepth 100000

theorem lies_elem2 {P : Program} {W : World} {n : String} {g : Nat} {t e : TypeId} {m : Nat} {rows : List (DataW Unit)} {k : IntKind} (hg : P.globalNamed n = some g) (ht : (P.globals[g]?).map (·.type) = some t)
    (ha : P.underlying t = some (.array m e)) (he : P.underlying e = some (.int k)) (hc : P.cellsOf e = 1) (hct : P.cellsOf t = m) (h : LiesAs P W n (.agg rows)) (i : Nat) (hi : i < m) (z : Int) (hz : rows[i]? = some (.lit (.int k z))) : W.cell? ⟨g, i, none⟩ = some (.int k z) := by
  obtain ⟨g', t', cs, fuel, p, hg', ht', hv, hd⟩ := h
  obtain rfl := Option.some.inj (hg.symm.trans hg')
  obtain rfl := Option.some.inj (ht.symm.trans ht')
  obtain ⟨xs, n1, _, hx, hlen, hxl, hel⟩ := DataW.trod_array ha hd
  have h1 := hel i hi
  have hx1 : xs[i]? = some xs[i] := List.getElem?_eq_getElem (by omega)
  rw [hx1, hc] at h1
  have hlt : i < cs.toList.length := by rw [hlen, hct]; omega
  have e1 : (cs.toList.drop (i * 1)).take 1 = [cs.toList[i]] := by
    rw [Nat.mul_one, List.drop_eq_getElem_cons hlt]; rfl
  rw [e1] at h1
  obtain ⟨u, hu, hx2, _⟩ := DataW.trod_int he h1
  have hr : rows = xs.map (·.1) := by
    have := congrArg Prod.fst hx
    simpa using this
  rw [hr, List.getElem?_map, hx1] at hz
  simp only [Option.map_some, Option.some.injEq] at hz
  have hz2 : xs[i].1 = .lit (.int k u) := congrArg Prod.fst hx2
  rw [hz2] at hz
  simp only [DataW.lit.injEq, Lit.int.injEq, true_and] at hz
  subst hz
  rw [World.var?_cell hg hv, Array.getElem?_eq_getElem (by simpa using hlt)]
  have := (List.cons.inj hu).1
  simp only [Array.getElem_toList] at this
  rw [this]

theorem gWo : Tryd.prog.globalNamed "stockpot/verify.without" = some 0 := by kernel_rfl
theorem tWo : (Tryd.prog.globals[0]?).map (·.type) = some 47 := by kernel_rfl
theorem wo_eq : (Rows.laid_stockpot_verify_without : DataW Unit) = .agg [.lit (.int .i64 (-1)), .lit (.int .i64 (-1))] := by kernel_rfl
structure VeTab (w : World) : Prop where
  op : OpTab w
  w0 : w.cell? ⟨0, 0, none⟩ = some (.int .i64 (-1))
  w1 : w.cell? ⟨0, 1, none⟩ = some (.int .i64 (-1))
theorem vetab_of {W : World} (T : OpTab W) (h1 : LiesAs Tryd.prog W "stockpot/verify.without" Rows.laid_stockpot_verify_without) : VeTab W := by
  rw [wo_eq] at h1
  exact ⟨T, lies_elem2 gWo tWo Tryd.underlying47 Tryd.underlying3 (by kernel_rfl) (by kernel_rfl) h1 0 (by omega) _ rfl, lies_elem2 gWo tWo Tryd.underlying47 Tryd.underlying3 (by kernel_rfl) (by kernel_rfl) h1 1 (by omega) _ rfl⟩
theorem VeTab.lt {w : World} (T : VeTab w) : 0 < w.heap.size := World.block_lt_of_cell? w _ T.w0
theorem VeTab.below {w w' : World} (T : VeTab w) (hb : Below w.heap.size w w') : VeTab w' := by
  have e : ∀ g off u, w.cell? ⟨g, off, none⟩ = some u → w'.cell? ⟨g, off, none⟩ = some u := fun g off u h => by
    rw [hb.cell (p := ⟨g, off, none⟩) (World.block_lt_of_cell? w _ h)]; exact h
  exact ⟨T.op.below hb, e _ _ _ T.w0, e _ _ _ T.w1⟩

/-- Two arrays of two numbers, held against each other. -/
theorem run_st_eq (w : World) (a b c d : Int) :
    (Op.equalIn 10000 47 (.agg #[.int .i64 a, .int .i64 b]) (.agg #[.int .i64 c, .int .i64 d])).run Tryd.prog w = .ok ((a == c) && (b == d)) w := by
  have he : Tryd.prog.underlying 3 = some (.int .i64) := by kernel_rfl
  have hi : (Tryd.prog.info? 3).isSome = true := by kernel_rfl
  obtain ⟨i, hi⟩ := Option.isSome_iff_exists.1 hi
  have hc : Tryd.prog.cellsOf 3 = 1 := by kernel_rfl
  have p1 : ∀ w, (part 3 #[.int .i64 a, .int .i64 b] 0).run Tryd.prog w = .ok (.int .i64 a) w := fun w => by kernel_rfl
  have p2 : ∀ w, (part 3 #[.int .i64 a, .int .i64 b] 1).run Tryd.prog w = .ok (.int .i64 b) w := fun w => by kernel_rfl
  have q1 : ∀ w, (part 3 #[.int .i64 c, .int .i64 d] 0).run Tryd.prog w = .ok (.int .i64 c) w := fun w => by kernel_rfl
  have q2 : ∀ w, (part 3 #[.int .i64 c, .int .i64 d] 1).run Tryd.prog w = .ok (.int .i64 d) w := fun w => by kernel_rfl
  rw [run_equalIn_array w 9999 _ _ Tryd.underlying47 hi, hc]
  simp only [show List.range 2 = [0, 1] from rfl, Op.eqItems, Nat.zero_mul, Nat.one_mul, Sem.run_bind, p1, p2, q1, q2, Result.andThen_ok, run_equalIn_int _ 9998 _ _ _ _ _ he]
  cases h1 : a == c <;> cases h2 : b == d <;> simp [p2, q2, run_equalIn_int _ 9998 _ _ _ _ _ he, h2, Sem.run_pure]
end Go.Proofs.YtlfbfnkmbceejaaDoor
