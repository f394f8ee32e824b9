/-
  A package-level variable that reads as a known datum, cell by cell: of an array of structs of one-cell fields every cell, of a plain array of such structs too; from the row's listed variables to these readings.
  Conditions: as each states.
-/
import Derived.Test.YtnjpjhlodamanaaGreatDoorKit
import Derived.LaidMore
import Derived.MakeChecks
namespace Go.Proofs.YtnjpjhlodamanaaGreatDoor
set_option linter.unusedVariables false
set_option linter.unusedSimpArgs false
open Go.ChangeShapes Go.WideShapes Go.ChangeAt Go.RowKit

section
variable {P : Program} {W : World}

/-- The variable of that name reads as that datum. -/
def LiesAs (P : Program) (W : World) (n : String) (d : DataW Unit) : Prop :=
  ∃ (g : Nat) (t : TypeId) (cs : Array Value) (fuel : Nat) (p : List MemPlace), P.globalNamed n = some g ∧ (P.globals[g]?).map (·.type) = some t ∧ W.var? P n = some cs ∧ DataW.trod (fun _ => ()) P W 0 (fun _ => true) false fuel t cs.toList = some (d, p)

theorem vars_lie : ∀ (laid : List (String × DataW Unit)) (ps : List MemPlace), DataW.LaidVars P W laid ps → ∀ n d, (n, d) ∈ laid → LiesAs P W n d
  | [], _, _, _, _, hm => by cases hm
  | (n0, d0) :: r, ps, ⟨g, t, cs, fuel, p, q, hg, ht, hv, hd, hr, _⟩, n, d, hm => by
    rcases List.mem_cons.1 hm with e | hm
    · cases e; exact ⟨g, t, cs, fuel, p, hg, ht, hv, hd⟩
    · exact vars_lie r q hr n d hm

theorem laid_lies {laid : List (String × DataW Unit)} (hp : (laid.all fun x => x.2.handleName?.isNone) = true) (h : laidMetH P laid W) (n : String) (d : DataW Unit) (hm : (n, d) ∈ laid) : LiesAs P W n d := by
  rw [MakeChecks.laidMetH_plain _ _ _ hp] at h
  obtain ⟨ps, hl, _⟩ := h
  exact vars_lie _ _ hl n d hm

/-- One cell of an array of structs whose fields are one cell each. -/
theorem lies_cell {n : String} {g : Nat} {t e : TypeId} {m : Nat} {fs : Array Field} {rows : List (DataW Unit)} (hg : P.globalNamed n = some g) (ht : (P.globals[g]?).map (·.type) = some t)
    (ha : P.underlying t = some (.array m e)) (hs : P.underlying e = some (.struct fs)) (hc : P.cellsOf e = fs.size) (ho : (List.range fs.size).all (fun j => match fs[j]? with | some f => f.offset == j && P.cellsOf f.type == 1 | none => false) = true)
    (h : LiesAs P W n (.agg rows)) (i j : Nat) (f : Field) (hi : i < m) (hj : fs[j]? = some f) :
    ∃ (c : Value) (row : List (DataW Unit)) (fuel : Nat) (y : DataW Unit) (q : List MemPlace), W.cell? ⟨g, i * fs.size + j, none⟩ = some c ∧ rows[i]? = some (.agg row) ∧ row[j]? = some y ∧ DataW.trod (fun _ => ()) P W 0 (fun _ => true) false fuel f.type [c] = some (y, q) := by
  obtain ⟨g', t', cs, fuel, p, hg', ht', hv, hd⟩ := h
  obtain rfl := Option.some.inj (hg.symm.trans hg')
  obtain rfl := Option.some.inj (ht.symm.trans ht')
  obtain ⟨xs, n1, _, hx, hlen, hxl, hel⟩ := DataW.trod_array ha hd
  have h1 := hel i hi
  have hx1 : xs[i]? = some xs[i] := List.getElem?_eq_getElem (by omega)
  rw [hx1] at h1
  obtain ⟨ys, n2, _, hy, hl2, hyl, hf⟩ := DataW.trod_struct hs h1
  have h2 := hf j f hj
  have hjl : j < fs.size := (Array.getElem?_eq_some_iff.1 hj).1
  have hyj : ys[j]? = some ys[j] := List.getElem?_eq_getElem (by omega)
  rw [hyj] at h2
  have hoj := List.all_eq_true.1 ho j (List.mem_range.2 hjl)
  rw [hj] at hoj
  simp only [Bool.and_eq_true, beq_iff_eq] at hoj
  rw [hoj.1, hoj.2, hc] at h2
  have hlt : i * fs.size + j < cs.toList.length := by
    simp only [List.length_take, List.length_drop, hc] at hl2
    omega
  have e1 : ((((cs.toList.drop (i * fs.size)).take fs.size).drop j).take 1) = [cs.toList[i * fs.size + j]] := by
    rw [List.drop_take, List.take_take, List.drop_drop]
    rw [List.drop_eq_getElem_cons hlt]
    rw [show min 1 (fs.size - j) = 1 by omega]
    rfl
  rw [e1] at h2
  refine ⟨cs.toList[i * fs.size + j], ys.map (·.1), n2, ys[j].1, ys[j].2, ?_, ?_, ?_, h2⟩
  · rw [World.var?_cell hg hv]
    rw [Array.getElem?_eq_getElem (by simpa using hlt)]
    simp
  · have : rows = xs.map (·.1) := by
      have := congrArg Prod.fst hx
      simpa using this
    rw [this, List.getElem?_map, hx1]
    simp only [Option.map_some, Option.some.injEq]
    exact congrArg Prod.fst hy
  · rw [List.getElem?_map, hyj]
    rfl

theorem lies_int {n : String} {g : Nat} {t e : TypeId} {m : Nat} {fs : Array Field} {rows : List (DataW Unit)} {k : IntKind} (hg : P.globalNamed n = some g) (ht : (P.globals[g]?).map (·.type) = some t)
    (ha : P.underlying t = some (.array m e)) (hs : P.underlying e = some (.struct fs)) (hc : P.cellsOf e = fs.size) (ho : (List.range fs.size).all (fun j => match fs[j]? with | some f => f.offset == j && P.cellsOf f.type == 1 | none => false) = true)
    (h : LiesAs P W n (.agg rows)) (i j : Nat) (f : Field) (hi : i < m) (hj : fs[j]? = some f) (hk : P.underlying f.type = some (.int k)) (z : Int)
    (hz : ∀ row : List (DataW Unit), rows[i]? = some (.agg row) → row[j]? = some (.lit (.int k z))) : W.cell? ⟨g, i * fs.size + j, none⟩ = some (.int k z) := by
  obtain ⟨c, row, fuel, y, q, h1, h2, h3, h4⟩ := lies_cell hg ht ha hs hc ho h i j f hi hj
  rw [hz row h2] at h3
  cases h3
  obtain ⟨u, hu, hx, _⟩ := DataW.trod_int hk h4
  have : u = z := by
    have := congrArg Prod.fst hx
    simp only [DataW.lit.injEq, Lit.int.injEq, true_and] at this
    exact this.symm
  subst this
  rw [h1, (List.cons.inj hu).1]

theorem lies_str {n : String} {g : Nat} {t e : TypeId} {m : Nat} {fs : Array Field} {rows : List (DataW Unit)} (hg : P.globalNamed n = some g) (ht : (P.globals[g]?).map (·.type) = some t)
    (ha : P.underlying t = some (.array m e)) (hs : P.underlying e = some (.struct fs)) (hc : P.cellsOf e = fs.size) (ho : (List.range fs.size).all (fun j => match fs[j]? with | some f => f.offset == j && P.cellsOf f.type == 1 | none => false) = true)
    (h : LiesAs P W n (.agg rows)) (i j : Nat) (f : Field) (hi : i < m) (hj : fs[j]? = some f) (hk : P.underlying f.type = some .string) (s : ByteArray)
    (hz : ∀ row : List (DataW Unit), rows[i]? = some (.agg row) → row[j]? = some (.lit (.string s.data.toList))) : W.cell? ⟨g, i * fs.size + j, none⟩ = some (.string s) := by
  obtain ⟨c, row, fuel, y, q, h1, h2, h3, h4⟩ := lies_cell hg ht ha hs hc ho h i j f hi hj
  rw [hz row h2] at h3
  cases h3
  obtain ⟨u, hu, hx, _⟩ := DataW.trod_string hk h4
  have : u = s := by
    have := congrArg Prod.fst hx
    simp only [DataW.lit.injEq, Lit.string.injEq] at this
    exact ByteArray.ext (Array.ext' this.symm)
  subst this
  rw [h1, (List.cons.inj hu).1]
end
end Go.Proofs.YtnjpjhlodamanaaGreatDoor

/-
  The tables of package op as plain lists of mine; that the listed variables lie in memory so, cell by cell ('OpTab'); what stays of it.
  Conditions: as each states.
-/
namespace Go.Proofs.YtnjpjhlodamanaaGreatDoor
set_option linter.unusedVariables false
set_option linter.unusedSimpArgs false
open Go.ChangeShapes Go.WideShapes Go.ChangeAt Go.RowKit

set_option maxRecDepth 100000
def opT : List (List UInt8 × Nat × Nat × Int × Int) := [([105, 110, 116], 1, 0, 0, 1), ([115, 116, 114], 2, 0, 0, 1), ([108, 111, 99, 97, 108], 3, 0, 0, 1), ([115, 101, 116], 3, 0, 1, 0), ([101, 110, 118], 4, 0, 0, 1), ([115, 101, 108, 102], 0, 0, 0, 1), ([99, 108, 111, 115, 101], 5, 6, (-1), 1), ([99, 97, 108, 108], 0, 0, 2, 1), ([116, 97, 105, 108], 0, 0, 2, 0), ([114, 101, 116], 0, 0, 1, 0), ([106, 117, 109, 112], 7, 0, 0, 0), ([106, 117, 109, 112, 122], 7, 0, 1, 0), ([97, 100, 100], 0, 0, 2, 1), ([115, 117, 98], 0, 0, 2, 1), ([109, 117, 108], 0, 0, 2, 1), ([100, 105, 118], 0, 0, 2, 1), ([109, 111, 100], 0, 0, 2, 1), ([101, 113], 0, 0, 2, 1), ([108, 101, 115, 115], 0, 0, 2, 1), ([98, 108, 111, 99, 107], 8, 9, (-1), 1), ([102, 105, 101, 108, 100], 10, 0, 1, 1), ([105, 115, 105, 110, 116], 1, 0, 1, 1), ([105, 115, 116, 97, 103], 8, 0, 1, 1), ([115, 116, 111, 114, 101], 0, 0, 2, 1), ([97, 114, 114, 97, 121], 0, 0, 2, 1), ([103, 101, 116], 0, 0, 2, 1), ([112, 117, 116], 0, 0, 3, 1), ([108, 101, 110], 0, 0, 1, 1), ([99, 97, 116], 0, 0, 2, 1), ([115, 105, 122, 101], 0, 0, 1, 1), ([98, 121, 116, 101], 0, 0, 2, 1), ([116, 101, 120, 116], 0, 0, 1, 1), ([115, 97, 109, 101], 0, 0, 2, 1), ([116, 114, 121], 7, 0, 0, 0), ([117, 110, 116, 114, 121], 0, 0, 0, 0), ([114, 97, 105, 115, 101], 0, 0, 1, 0), ([104, 111, 115, 116], 11, 0, 0, 0), ([112, 111, 112], 0, 0, 1, 0)]
def hoT : List (List UInt8 × Nat × Nat × Int × Int) := [([], 0, 0, 1, 1), ([], 0, 0, 1, 1), ([], 0, 0, 2, 1), ([], 0, 12, 0, 1)]
def spT : List (Int × Int) := [(0, 0), ((-4611686018427387904), 4611686018427387903), (0, 39), (0, 59), (0, 29), (1, 59), (0, 30), (0, 599), (0, 255), (1, 8), (0, 7), (0, 3), (0, 39)]

def opNm (k : Nat) : ByteArray := ⟨⟨(opT.getD k ([], 0, 0, 0, 0)).1⟩⟩
def opA (k : Nat) : Nat := (opT.getD k ([], 0, 0, 0, 0)).2.1
def opB (k : Nat) : Nat := (opT.getD k ([], 0, 0, 0, 0)).2.2.1
def opTk (k : Nat) : Int := (opT.getD k ([], 0, 0, 0, 0)).2.2.2.1
def opLv (k : Nat) : Int := (opT.getD k ([], 0, 0, 0, 0)).2.2.2.2
def hoB (k : Nat) : Nat := (hoT.getD k ([], 0, 0, 0, 0)).2.2.1
def hoTk (k : Nat) : Int := (hoT.getD k ([], 0, 0, 0, 0)).2.2.2.1
def spL (k : Nat) : Int := (spT.getD k (0, 0)).1
def spH (k : Nat) : Int := (spT.getD k (0, 0)).2

def rowD {H : Type} (r : List UInt8 × Nat × Nat × Int × Int) : DataW H := .agg [.lit (.string r.1), .lit (.int .i64 r.2.1), .lit (.int .i64 r.2.2.1), .lit (.int .i64 r.2.2.2.1), .lit (.int .i64 r.2.2.2.2)]
def spanD {H : Type} (r : Int × Int) : DataW H := .agg [.lit (.int .i64 r.1), .lit (.int .i64 r.2)]
theorem rows_eq : (Rows.laid_stockpot_op_rows : DataW Unit) = .agg (opT.map rowD) := by kernel_rfl
theorem hosts_eq : (Rows.laid_stockpot_op_hosts : DataW Unit) = .agg (hoT.map rowD) := by kernel_rfl
theorem spans_eq : (Rows.laid_stockpot_op_spans : DataW Unit) = .agg (spT.map spanD) := by kernel_rfl

theorem opT_length : opT.length = 38 := rfl
theorem hoT_length : hoT.length = 4 := rfl
theorem spT_length : spT.length = 13 := rfl

/-- The three tables lie in memory. -/
structure OpTab (w : World) : Prop where
  nm : ∀ k : Nat, k < 38 → w.cell? ⟨0, k * 5, none⟩ = some (.string (opNm k))
  a : ∀ k : Nat, k < 38 → w.cell? ⟨0, k * 5 + 1, none⟩ = some (.int .i64 (opA k))
  b : ∀ k : Nat, k < 38 → w.cell? ⟨0, k * 5 + 2, none⟩ = some (.int .i64 (opB k))
  tk : ∀ k : Nat, k < 38 → w.cell? ⟨0, k * 5 + 3, none⟩ = some (.int .i64 (opTk k))
  lv : ∀ k : Nat, k < 38 → w.cell? ⟨0, k * 5 + 4, none⟩ = some (.int .i64 (opLv k))
  hnm : ∀ k : Nat, k < 4 → w.cell? ⟨1, k * 5, none⟩ = some (.string ⟨#[]⟩)
  ha : ∀ k : Nat, k < 4 → w.cell? ⟨1, k * 5 + 1, none⟩ = some (.int .i64 0)
  hb : ∀ k : Nat, k < 4 → w.cell? ⟨1, k * 5 + 2, none⟩ = some (.int .i64 (hoB k))
  htk : ∀ k : Nat, k < 4 → w.cell? ⟨1, k * 5 + 3, none⟩ = some (.int .i64 (hoTk k))
  hlv : ∀ k : Nat, k < 4 → w.cell? ⟨1, k * 5 + 4, none⟩ = some (.int .i64 1)
  lo : ∀ k : Nat, k < 13 → w.cell? ⟨2, k * 2, none⟩ = some (.int .i64 (spL k))
  hi : ∀ k : Nat, k < 13 → w.cell? ⟨2, k * 2 + 1, none⟩ = some (.int .i64 (spH k))
  size : 0 < w.heap.size ∧ 1 < w.heap.size ∧ 2 < w.heap.size

theorem gRows : Tryz.prog.globalNamed "stockpot/op.rows" = some 0 := by kernel_rfl
theorem gHosts : Tryz.prog.globalNamed "stockpot/op.hosts" = some 1 := by kernel_rfl
theorem gSpans : Tryz.prog.globalNamed "stockpot/op.spans" = some 2 := by kernel_rfl
theorem tRows : (Tryz.prog.globals[0]?).map (·.type) = some 186 := by kernel_rfl
theorem tHosts : (Tryz.prog.globals[1]?).map (·.type) = some 188 := by kernel_rfl
theorem tSpans : (Tryz.prog.globals[2]?).map (·.type) = some 190 := by kernel_rfl

theorem under_row : ∃ fs : Array Field, Tryz.prog.underlying 183 = some (.struct fs) ∧ fs.size = 5 ∧ Tryz.prog.cellsOf 183 = fs.size ∧
    (List.range fs.size).all (fun j => match fs[j]? with | some f => f.offset == j && Tryz.prog.cellsOf f.type == 1 | none => false) = true ∧
    (∃ f, fs[0]? = some f ∧ Tryz.prog.underlying f.type = some .string) ∧ ∀ j, 1 ≤ j → j < 5 → ∃ f, fs[j]? = some f ∧ Tryz.prog.underlying f.type = some (.int .i64) := by
  refine ⟨_, Tryz.underlying183, by kernel_rfl, by kernel_rfl, by kernel_rfl, ⟨_, rfl, by kernel_rfl⟩, fun j h1 h5 => ?_⟩
  obtain rfl | rfl | rfl | rfl : j = 1 ∨ j = 2 ∨ j = 3 ∨ j = 4 := by omega
  all_goals exact ⟨_, rfl, by kernel_rfl⟩

theorem under_span : ∃ fs : Array Field, Tryz.prog.underlying 189 = some (.struct fs) ∧ fs.size = 2 ∧ Tryz.prog.cellsOf 189 = fs.size ∧
    (List.range fs.size).all (fun j => match fs[j]? with | some f => f.offset == j && Tryz.prog.cellsOf f.type == 1 | none => false) = true ∧
    ∀ j, j < 2 → ∃ f, fs[j]? = some f ∧ Tryz.prog.underlying f.type = some (.int .i64) := by
  refine ⟨_, Tryz.underlying189, by kernel_rfl, by kernel_rfl, by kernel_rfl, fun j h5 => ?_⟩
  obtain rfl | rfl : j = 0 ∨ j = 1 := by omega
  all_goals exact ⟨_, rfl, by kernel_rfl⟩

theorem row_at {T : List (List UInt8 × Nat × Nat × Int × Int)} {k : Nat} {row : List (DataW Unit)} (h : (T.map rowD)[k]? = some (.agg row)) :
    row = [.lit (.string (T.getD k ([], 0, 0, 0, 0)).1), .lit (.int .i64 (T.getD k ([], 0, 0, 0, 0)).2.1), .lit (.int .i64 (T.getD k ([], 0, 0, 0, 0)).2.2.1), .lit (.int .i64 (T.getD k ([], 0, 0, 0, 0)).2.2.2.1), .lit (.int .i64 (T.getD k ([], 0, 0, 0, 0)).2.2.2.2)] := by
  rw [List.getElem?_map] at h
  cases e : T[k]? with
  | none => rw [e] at h; cases h
  | some r =>
    rw [e] at h
    simp only [Option.map_some, Option.some.injEq, rowD, DataW.agg.injEq] at h
    rw [← h]
    simp [List.getD_eq_getElem?_getD, e]

theorem span_at {T : List (Int × Int)} {k : Nat} {row : List (DataW Unit)} (h : (T.map spanD)[k]? = some (.agg row)) :
    row = [.lit (.int .i64 (T.getD k (0, 0)).1), .lit (.int .i64 (T.getD k (0, 0)).2)] := by
  rw [List.getElem?_map] at h
  cases e : T[k]? with
  | none => rw [e] at h; cases h
  | some r =>
    rw [e] at h
    simp only [Option.map_some, Option.some.injEq, spanD, DataW.agg.injEq] at h
    rw [← h]
    simp [List.getD_eq_getElem?_getD, e]

theorem row_cells {W : World} {n : String} {g : Nat} {t : TypeId} {m : Nat} {T : List (List UInt8 × Nat × Nat × Int × Int)} (hg : Tryz.prog.globalNamed n = some g) (ht : (Tryz.prog.globals[g]?).map (·.type) = some t)
    (ha : Tryz.prog.underlying t = some (.array m 183)) (h : LiesAs Tryz.prog W n (.agg (T.map rowD))) (k : Nat) (hk : k < m) :
    W.cell? ⟨g, k * 5, none⟩ = some (.string ⟨⟨(T.getD k ([], 0, 0, 0, 0)).1⟩⟩) ∧ W.cell? ⟨g, k * 5 + 1, none⟩ = some (.int .i64 (T.getD k ([], 0, 0, 0, 0)).2.1) ∧ W.cell? ⟨g, k * 5 + 2, none⟩ = some (.int .i64 (T.getD k ([], 0, 0, 0, 0)).2.2.1) ∧
    W.cell? ⟨g, k * 5 + 3, none⟩ = some (.int .i64 (T.getD k ([], 0, 0, 0, 0)).2.2.2.1) ∧ W.cell? ⟨g, k * 5 + 4, none⟩ = some (.int .i64 (T.getD k ([], 0, 0, 0, 0)).2.2.2.2) := by
  obtain ⟨fs, hs, h5, hc, ho, ⟨f0, hf0, hu0⟩, hf⟩ := under_row
  obtain ⟨f1, hf1, hu1⟩ := hf 1 (by omega) (by omega)
  obtain ⟨f2, hf2, hu2⟩ := hf 2 (by omega) (by omega)
  obtain ⟨f3, hf3, hu3⟩ := hf 3 (by omega) (by omega)
  obtain ⟨f4, hf4, hu4⟩ := hf 4 (by omega) (by omega)
  have c0 := lies_str hg ht ha hs hc ho h k 0 f0 hk hf0 hu0 ⟨⟨(T.getD k ([], 0, 0, 0, 0)).1⟩⟩ (fun row hr => by rw [row_at hr]; rfl)
  have c1 := lies_int hg ht ha hs hc ho h k 1 f1 hk hf1 hu1 (T.getD k ([], 0, 0, 0, 0)).2.1 (fun row hr => by rw [row_at hr]; rfl)
  have c2 := lies_int hg ht ha hs hc ho h k 2 f2 hk hf2 hu2 (T.getD k ([], 0, 0, 0, 0)).2.2.1 (fun row hr => by rw [row_at hr]; rfl)
  have c3 := lies_int hg ht ha hs hc ho h k 3 f3 hk hf3 hu3 (T.getD k ([], 0, 0, 0, 0)).2.2.2.1 (fun row hr => by rw [row_at hr]; rfl)
  have c4 := lies_int hg ht ha hs hc ho h k 4 f4 hk hf4 hu4 (T.getD k ([], 0, 0, 0, 0)).2.2.2.2 (fun row hr => by rw [row_at hr]; rfl)
  rw [h5] at c0 c1 c2 c3 c4
  exact ⟨c0, c1, c2, c3, c4⟩

theorem span_cells {W : World} {T : List (Int × Int)} (h : LiesAs Tryz.prog W "stockpot/op.spans" (.agg (T.map spanD))) (k : Nat) (hk : k < 13) :
    W.cell? ⟨2, k * 2, none⟩ = some (.int .i64 (T.getD k (0, 0)).1) ∧ W.cell? ⟨2, k * 2 + 1, none⟩ = some (.int .i64 (T.getD k (0, 0)).2) := by
  obtain ⟨fs, hs, h5, hc, ho, hf⟩ := under_span
  obtain ⟨f0, hf0, hu0⟩ := hf 0 (by omega)
  obtain ⟨f1, hf1, hu1⟩ := hf 1 (by omega)
  have c0 := lies_int gSpans tSpans Tryz.underlying190 hs hc ho h k 0 f0 hk hf0 hu0 (T.getD k (0, 0)).1 (fun row hr => by rw [span_at hr]; rfl)
  have c1 := lies_int gSpans tSpans Tryz.underlying190 hs hc ho h k 1 f1 hk hf1 hu1 (T.getD k (0, 0)).2 (fun row hr => by rw [span_at hr]; rfl)
  rw [h5] at c0 c1
  exact ⟨c0, c1⟩

theorem ho_nm : ∀ k : Nat, k < 4 → (hoT.getD k ([], 0, 0, 0, 0)).1 = [] := by decide
theorem ho_a : ∀ k : Nat, k < 4 → (hoT.getD k ([], 0, 0, 0, 0)).2.1 = 0 := by decide
theorem ho_lv : ∀ k : Nat, k < 4 → (hoT.getD k ([], 0, 0, 0, 0)).2.2.2.2 = 1 := by decide

theorem optab_of {W : World} (h1 : LiesAs Tryz.prog W "stockpot/op.rows" Rows.laid_stockpot_op_rows) (h2 : LiesAs Tryz.prog W "stockpot/op.hosts" Rows.laid_stockpot_op_hosts) (h3 : LiesAs Tryz.prog W "stockpot/op.spans" Rows.laid_stockpot_op_spans) : OpTab W := by
  rw [rows_eq] at h1
  rw [hosts_eq] at h2
  rw [spans_eq] at h3
  have r := fun k hk => row_cells gRows tRows Tryz.underlying186 h1 k hk
  have o := fun k hk => row_cells gHosts tHosts Tryz.underlying188 h2 k hk
  have s := fun k hk => span_cells h3 k hk
  exact {
    nm := fun k hk => (r k hk).1
    a := fun k hk => (r k hk).2.1
    b := fun k hk => (r k hk).2.2.1
    tk := fun k hk => (r k hk).2.2.2.1
    lv := fun k hk => (r k hk).2.2.2.2
    hnm := fun k hk => by have := (o k hk).1; rw [ho_nm k hk] at this; exact this
    ha := fun k hk => by have := (o k hk).2.1; rw [ho_a k hk] at this; exact this
    hb := fun k hk => (o k hk).2.2.1
    htk := fun k hk => (o k hk).2.2.2.1
    hlv := fun k hk => by have := (o k hk).2.2.2.2; rw [ho_lv k hk] at this; exact this
    lo := fun k hk => (s k hk).1
    hi := fun k hk => (s k hk).2
    size := by
      have lt : ∀ g o u, W.cell? ⟨g, o, none⟩ = some u → g < W.heap.size := fun g o u c => by
        simp only [World.cell?] at c
        cases e : W.heap[g]? with
        | none => rw [e] at c; cases c
        | some x => exact (Array.getElem?_eq_some_iff.1 e).1
      exact ⟨lt _ _ _ (r 0 (by omega)).1, lt _ _ _ (o 0 (by omega)).1, lt _ _ _ (s 0 (by omega)).1⟩ }

theorem OpTab.below {w w' : World} (T : OpTab w) (hb : Below w.heap.size w w') : OpTab w' := by
  have hs := T.size
  obtain ⟨s1, s2, s3⟩ := hs
  have e : ∀ g off, g < w.heap.size → w'.cell? ⟨g, off, none⟩ = w.cell? ⟨g, off, none⟩ := fun g off h => hb.cell (p := ⟨g, off, none⟩) h
  exact {
    nm := fun k hk => by rw [e _ _ (by assumption)]; exact T.nm k hk
    a := fun k hk => by rw [e _ _ (by assumption)]; exact T.a k hk
    b := fun k hk => by rw [e _ _ (by assumption)]; exact T.b k hk
    tk := fun k hk => by rw [e _ _ (by assumption)]; exact T.tk k hk
    lv := fun k hk => by rw [e _ _ (by assumption)]; exact T.lv k hk
    hnm := fun k hk => by rw [e _ _ (by assumption)]; exact T.hnm k hk
    ha := fun k hk => by rw [e _ _ (by assumption)]; exact T.ha k hk
    hb := fun k hk => by rw [e _ _ (by assumption)]; exact T.hb k hk
    htk := fun k hk => by rw [e _ _ (by assumption)]; exact T.htk k hk
    hlv := fun k hk => by rw [e _ _ (by assumption)]; exact T.hlv k hk
    lo := fun k hk => by rw [e _ _ (by assumption)]; exact T.lo k hk
    hi := fun k hk => by rw [e _ _ (by assumption)]; exact T.hi k hk
    size := ⟨Nat.lt_of_lt_of_le s1 hb.size, Nat.lt_of_lt_of_le s2 hb.size, Nat.lt_of_lt_of_le s3 hb.size⟩ }
end Go.Proofs.YtnjpjhlodamanaaGreatDoor

/-
  The contracts of package op, as its table has them.
  Conditions: as each states.
-/
namespace Go.Proofs.YtnjpjhlodamanaaGreatDoor
set_option linter.unusedVariables false
set_option linter.unusedSimpArgs false
open Go.ChangeShapes Go.WideShapes Go.ChangeAt Go.RowKit
set_option maxRecDepth 100000

theorem down_alloc {w W : World} (h : Below w.heap.size w W) (o : Obj) : Below w.heap.size w (W.alloc o) := h.alloc h.size o
theorem down_drew {w W : World} (h : Below w.heap.size w W) : Below w.heap.size w W.drew := below_draws h 1
theorem down_drewN {w W : World} (h : Below w.heap.size w W) (n : Nat) : Below w.heap.size w (W.drewN n) := below_draws h n
theorem down_set {w W : World} (h : Below w.heap.size w W) {p : Addr} (hp : w.heap.size ≤ p.block) (v : Value) : Below w.heap.size w (W.setCell p v) := h.setCell hp v
theorem down_call {w W W1 : World} (h : Below w.heap.size w W) (k : Below W.heap.size W W1) : Below w.heap.size w W1 := below_chain h k
theorem down_cell {W w1 : World} (hb : Below W.heap.size W w1) : (∀ b o, b < W.heap.size → w1.cell? ⟨b, o, none⟩ = W.cell? ⟨b, o, none⟩) ∧ (∀ b o, b < W.heap.size → w1.frozen? ⟨b, o, none⟩ = W.frozen? ⟨b, o, none⟩) :=
  ⟨fun b o h => hb.cell (p := ⟨b, o, none⟩) h, fun b o h => hb.frozen (p := ⟨b, o, none⟩) h⟩

def opHas (s : Nat) (n : Int) : Bool := decide (spL s ≤ n ∧ n ≤ spH s)

theorem has_any (s : Nat) (n : Int) (w : World) (T : OpTab w) (hs : s < 13) :
    Calls Tryz.prog 94 #[.int .i64 s, .int .i64 n] w fun e w' => e = .returned (.bool (opHas s n)) ∧ w = w' := by
  have l := T.lo s hs
  have h := T.hi s hs
  clear T
  have e : opHas s n = decide (spL s ≤ n ∧ n ≤ spH s) := rfl
  by_cases c1 : spL s ≤ n
  · by_cases c2 : n ≤ spH s
    · have e' : opHas s n = true := by rw [e]; exact decide_eq_true ⟨c1, c2⟩
      have E := Lib.hid e'; clear e e'
      go_enter Tryz.func94, Tryz.ntmps94
      go_wp2
      go_ret
      exact ⟨ret_bool E.out.symm, rfl⟩
    · have e' : opHas s n = false := by rw [e]; exact decide_eq_false fun h => c2 h.2
      have E := Lib.hid e'; clear e e'
      go_enter Tryz.func94, Tryz.ntmps94
      go_wp2
      go_ret
      exact ⟨ret_bool E.out.symm, rfl⟩
  · have e' : opHas s n = false := by rw [e]; exact decide_eq_false fun h => c1 h.1
    have E := Lib.hid e'; clear e e'
    go_enter Tryz.func94, Tryz.ntmps94
    go_wp2
    go_ret
    exact ⟨ret_bool E.out.symm, rfl⟩

theorem ret_str {a b : ByteArray} (h : a = b) : Ending.returned (.string a) = .returned (.string b) := by rw [h]
def nmOf (i : Int) : ByteArray := if 0 ≤ i ∧ i < 38 then opNm i.toNat else ⟨#[]⟩
theorem nmOf_in (k : Nat) (h : k < 38) : nmOf k = opNm k := by unfold nmOf; rw [if_pos (by omega)]; rfl
theorem nmOf_out (i : Int) (h : i < 0 ∨ 38 ≤ i) : nmOf i = ⟨#[]⟩ := by unfold nmOf; rw [if_neg (by omega)]

/-! The row that tells of an instruction. -/
abbrev RowV := List UInt8 × Nat × Nat × Int × Int
def rowV (r : RowV) : Value := .agg #[.string ⟨⟨r.1⟩⟩, .int .i64 r.2.1, .int .i64 r.2.2.1, .int .i64 r.2.2.2.1, .int .i64 r.2.2.2.2]
def rowZ : RowV := ([], 0, 0, 0, 0)
def rowAtP (o a : Int) : RowV := if o = 36 then hoT.getD a.toNat rowZ else opT.getD o.toNat rowZ
def opGood (o a b : Int) : Bool := decide (0 ≤ o ∧ o < 38) && opHas (opA o.toNat) a && opHas (rowAtP o a).2.2.1 b
def rowP (o a b : Int) : RowV := if opGood o a b = true then rowAtP o a else rowZ

theorem good_out (o a b : Int) (h : ¬ (0 ≤ o ∧ o < 38)) : opGood o a b = false ∧ rowP o a b = rowZ := by
  have e : opGood o a b = false := by
    unfold opGood
    rw [show decide (0 ≤ o ∧ o < 38) = false from decide_eq_false h]
    rfl
  exact ⟨e, by unfold rowP; rw [e]; rfl⟩
theorem good_at (k : Nat) (a b : Int) (hk : k < 38) : opGood k a b = (opHas (opA k) a && opHas (rowAtP k a).2.2.1 b) := by
  unfold opGood
  rw [show decide (0 ≤ (k : Int) ∧ (k : Int) < 38) = true from decide_eq_true ⟨by omega, by omega⟩, Bool.true_and]
  rfl
theorem row_plain (k : Nat) (a : Int) (h : ¬ (k : Int) = 36) : rowAtP k a = opT.getD k rowZ := by unfold rowAtP; rw [if_neg h]; rfl
theorem row_host (a : Int) : rowAtP 36 a = hoT.getD a.toNat rowZ := rfl
end Go.Proofs.YtnjpjhlodamanaaGreatDoor
