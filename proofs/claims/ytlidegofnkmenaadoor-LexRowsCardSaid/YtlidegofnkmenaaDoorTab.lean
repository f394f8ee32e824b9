/-
  A package-level variable that reads as a known datum, cell by cell: of an array of structs of one-cell fields every cell, of a plain array of such structs too; from the row's listed variables to these readings.
  Conditions: as each states.
-/
import Derived.Test.YtlidegofnkmenaaDoorKit
import Derived.LaidMore
import Derived.MakeChecks
namespace Go.Proofs.YtlidegofnkmenaaDoor
open Go.ChangeShapes Go.WideShapes Go.ChangeAt Go.RowKit
set_option linter.unusedVariables false
set_option linter.unusedSimpArgs false

section
variable {P : Program} {W : World}

/-- The variable of that name reads as that datum. -/
def LiesAs (P : Program) (W : World) (n : String) (d : DataW Unit) : Prop :=
  ∃ (g : Nat) (t : TypeId) (cs : Array Value) (fuel : Nat) (p : List MemPlace), P.globalNamed n = some g ∧ (P.globals[g]?).map (·.type) = some t ∧ W.var? P n = some cs ∧ DataW.trod (fun _ => ()) P W 0 (fun _ => true) false fuel t cs.toList = some (d, p)

theorem vars_lie : ∀ (laid : List (String × DataW Unit)) (ps : List MemPlace), DataW.LaidVars P W laid ps → ∀ n d, (n, d) ∈ laid → LiesAs P W n d
  | [], _, _, _, _, hm => by cases hm
  | (n0, d0) :: r, ps, ⟨g, t, cs, fuel, p, q, hg, ht, hv, hd, hr, _⟩, n, d, hm => by
    rcases List.mem_cons.1 hm with e | hm
    · cases e; exact ⟨g, t, cs, fuel, p, hg, ht, hv, hd⟩
    · exact vars_lie r q hr n d hm

theorem laid_lies {laid : List (String × DataW Unit)} (hp : (laid.all fun x => x.2.handleName?.isNone) = true) (h : laidMetH P laid W) (n : String) (d : DataW Unit) (hm : (n, d) ∈ laid) : LiesAs P W n d := by
  rw [MakeChecks.laidMetH_plain _ _ _ hp] at h
  obtain ⟨ps, hl, _⟩ := h
  exact vars_lie _ _ hl n d hm

/-- One cell of an array of structs whose fields are one cell each. -/
theorem lies_cell {n : String} {g : Nat} {t e : TypeId} {m : Nat} {fs : Array Field} {rows : List (DataW Unit)} (hg : P.globalNamed n = some g) (ht : (P.globals[g]?).map (·.type) = some t)
    (ha : P.underlying t = some (.array m e)) (hs : P.underlying e = some (.struct fs)) (hc : P.cellsOf e = fs.size) (ho : (List.range fs.size).all (fun j => match fs[j]? with | some f => f.offset == j && P.cellsOf f.type == 1 | none => false) = true)
    (h : LiesAs P W n (.agg rows)) (i j : Nat) (f : Field) (hi : i < m) (hj : fs[j]? = some f) :
    ∃ (c : Value) (row : List (DataW Unit)) (fuel : Nat) (y : DataW Unit) (q : List MemPlace), W.cell? ⟨g, i * fs.size + j, none⟩ = some c ∧ rows[i]? = some (.agg row) ∧ row[j]? = some y ∧ DataW.trod (fun _ => ()) P W 0 (fun _ => true) false fuel f.type [c] = some (y, q) := by
  obtain ⟨g', t', cs, fuel, p, hg', ht', hv, hd⟩ := h
  obtain rfl := Option.some.inj (hg.symm.trans hg')
  obtain rfl := Option.some.inj (ht.symm.trans ht')
  obtain ⟨xs, n1, _, hx, hlen, hxl, hel⟩ := DataW.trod_array ha hd
  have h1 := hel i hi
  have hx1 : xs[i]? = some xs[i] := List.getElem?_eq_getElem (by omega)
  rw [hx1] at h1
  obtain ⟨ys, n2, _, hy, hl2, hyl, hf⟩ := DataW.trod_struct hs h1
  have h2 := hf j f hj
  have hjl : j < fs.size := (Array.getElem?_eq_some_iff.1 hj).1
  have hyj : ys[j]? = some ys[j] := List.getElem?_eq_getElem (by omega)
  rw [hyj] at h2
  have hoj := List.all_eq_true.1 ho j (List.mem_range.2 hjl)
  rw [hj] at hoj
  simp only [Bool.and_eq_true, beq_iff_eq] at hoj
  rw [hoj.1, hoj.2, hc] at h2
  have hlt : i * fs.size + j < cs.toList.length := by
    simp only [List.length_take, List.length_drop, hc] at hl2
    omega
  have e1 : ((((cs.toList.drop (i * fs.size)).take fs.size).drop j).take 1) = [cs.toList[i * fs.size + j]] := by
    rw [List.drop_take, List.take_take, List.drop_drop]
    rw [List.drop_eq_getElem_cons hlt]
    rw [show min 1 (fs.size - j) = 1 by omega]
    rfl
  rw [e1] at h2
  refine ⟨cs.toList[i * fs.size + j], ys.map (·.1), n2, ys[j].1, ys[j].2, ?_, ?_, ?_, h2⟩
  · rw [World.var?_cell hg hv]
    rw [Array.getElem?_eq_getElem (by simpa using hlt)]
    simp
  · have : rows = xs.map (·.1) := by
      have := congrArg Prod.fst hx
      simpa using this
    rw [this, List.getElem?_map, hx1]
    simp only [Option.map_some, Option.some.injEq]
    exact congrArg Prod.fst hy
  · rw [List.getElem?_map, hyj]
    rfl

theorem lies_int {n : String} {g : Nat} {t e : TypeId} {m : Nat} {fs : Array Field} {rows : List (DataW Unit)} {k : IntKind} (hg : P.globalNamed n = some g) (ht : (P.globals[g]?).map (·.type) = some t)
    (ha : P.underlying t = some (.array m e)) (hs : P.underlying e = some (.struct fs)) (hc : P.cellsOf e = fs.size) (ho : (List.range fs.size).all (fun j => match fs[j]? with | some f => f.offset == j && P.cellsOf f.type == 1 | none => false) = true)
    (h : LiesAs P W n (.agg rows)) (i j : Nat) (f : Field) (hi : i < m) (hj : fs[j]? = some f) (hk : P.underlying f.type = some (.int k)) (z : Int)
    (hz : ∀ row : List (DataW Unit), rows[i]? = some (.agg row) → row[j]? = some (.lit (.int k z))) : W.cell? ⟨g, i * fs.size + j, none⟩ = some (.int k z) := by
  obtain ⟨c, row, fuel, y, q, h1, h2, h3, h4⟩ := lies_cell hg ht ha hs hc ho h i j f hi hj
  rw [hz row h2] at h3
  cases h3
  obtain ⟨u, hu, hx, _⟩ := DataW.trod_int hk h4
  have : u = z := by
    have := congrArg Prod.fst hx
    simp only [DataW.lit.injEq, Lit.int.injEq, true_and] at this
    exact this.symm
  subst this
  rw [h1, (List.cons.inj hu).1]

theorem lies_str {n : String} {g : Nat} {t e : TypeId} {m : Nat} {fs : Array Field} {rows : List (DataW Unit)} (hg : P.globalNamed n = some g) (ht : (P.globals[g]?).map (·.type) = some t)
    (ha : P.underlying t = some (.array m e)) (hs : P.underlying e = some (.struct fs)) (hc : P.cellsOf e = fs.size) (ho : (List.range fs.size).all (fun j => match fs[j]? with | some f => f.offset == j && P.cellsOf f.type == 1 | none => false) = true)
    (h : LiesAs P W n (.agg rows)) (i j : Nat) (f : Field) (hi : i < m) (hj : fs[j]? = some f) (hk : P.underlying f.type = some .string) (s : ByteArray)
    (hz : ∀ row : List (DataW Unit), rows[i]? = some (.agg row) → row[j]? = some (.lit (.string s.data.toList))) : W.cell? ⟨g, i * fs.size + j, none⟩ = some (.string s) := by
  obtain ⟨c, row, fuel, y, q, h1, h2, h3, h4⟩ := lies_cell hg ht ha hs hc ho h i j f hi hj
  rw [hz row h2] at h3
  cases h3
  obtain ⟨u, hu, hx, _⟩ := DataW.trod_string hk h4
  have : u = s := by
    have := congrArg Prod.fst hx
    simp only [DataW.lit.injEq, Lit.string.injEq] at this
    exact ByteArray.ext (Array.ext' this.symm)
  subst this
  rw [h1, (List.cons.inj hu).1]
end
end Go.Proofs.YtlidegofnkmenaaDoor
