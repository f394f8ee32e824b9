/-
  A package-level variable that reads as a known datum, cell by cell: of an array of structs of one-cell fields every cell, of a plain array of such structs too; from the row's listed variables to these readings.
  Conditions: as each states.
-/
import Derived.Test.YtajkkinolpkfmaaGreatDoorKit
import Derived.LaidMore
import Derived.MakeChecks
import Derived.Test.YtajkkinolpkfmaaGreatDoorKeep
import Derived.Deep.Slices
import Derived.Deep.Fields
import Derived.ChangeSame
import Derived.Test.YtajkkinolpkfmaaGreatDoorMem
import Derived.Deep.RegionLaw
import Derived.Deep.AppendLies
namespace Go.Proofs.YtajkkinolpkfmaaGreatDoor
set_option linter.unusedVariables false
set_option linter.unusedSimpArgs false
open Go.ChangeShapes Go.WideShapes Go.ChangeAt Go.RowKit

section
variable {P : Program} {W : World}

/-- The variable of that name reads as that datum. -/
def LiesAs (P : Program) (W : World) (n : String) (d : DataW Unit) : Prop :=
  ∃ (g : Nat) (t : TypeId) (cs : Array Value) (fuel : Nat) (p : List MemPlace), P.globalNamed n = some g ∧ (P.globals[g]?).map (·.type) = some t ∧ W.var? P n = some cs ∧ DataW.trod (fun _ => ()) P W 0 (fun _ => true) false fuel t cs.toList = some (d, p)

theorem vars_lie : ∀ (laid : List (String × DataW Unit)) (ps : List MemPlace), DataW.LaidVars P W laid ps → ∀ n d, (n, d) ∈ laid → LiesAs P W n d
  | [], _, _, _, _, hm => by cases hm
  | (n0, d0) :: r, ps, ⟨g, t, cs, fuel, p, q, hg, ht, hv, hd, hr, _⟩, n, d, hm => by
    rcases List.mem_cons.1 hm with e | hm
    · cases e; exact ⟨g, t, cs, fuel, p, hg, ht, hv, hd⟩
    · exact vars_lie r q hr n d hm

theorem laid_lies {laid : List (String × DataW Unit)} (hp : (laid.all fun x => x.2.handleName?.isNone) = true) (h : laidMetH P laid W) (n : String) (d : DataW Unit) (hm : (n, d) ∈ laid) : LiesAs P W n d := by
  rw [MakeChecks.laidMetH_plain _ _ _ hp] at h
  obtain ⟨ps, hl, _⟩ := h
  exact vars_lie _ _ hl n d hm

/-- One cell of an array of structs whose fields are one cell each. -/
theorem lies_cell {n : String} {g : Nat} {t e : TypeId} {m : Nat} {fs : Array Field} {rows : List (DataW Unit)} (hg : P.globalNamed n = some g) (ht : (P.globals[g]?).map (·.type) = some t)
    (ha : P.underlying t = some (.array m e)) (hs : P.underlying e = some (.struct fs)) (hc : P.cellsOf e = fs.size) (ho : (List.range fs.size).all (fun j => match fs[j]? with | some f => f.offset == j && P.cellsOf f.type == 1 | none => false) = true)
    (h : LiesAs P W n (.agg rows)) (i j : Nat) (f : Field) (hi : i < m) (hj : fs[j]? = some f) :
    ∃ (c : Value) (row : List (DataW Unit)) (fuel : Nat) (y : DataW Unit) (q : List MemPlace), W.cell? ⟨g, i * fs.size + j, none⟩ = some c ∧ rows[i]? = some (.agg row) ∧ row[j]? = some y ∧ DataW.trod (fun _ => ()) P W 0 (fun _ => true) false fuel f.type [c] = some (y, q) := by
  obtain ⟨g', t', cs, fuel, p, hg', ht', hv, hd⟩ := h
  obtain rfl := Option.some.inj (hg.symm.trans hg')
  obtain rfl := Option.some.inj (ht.symm.trans ht')
  obtain ⟨xs, n1, _, hx, hlen, hxl, hel⟩ := DataW.trod_array ha hd
  have h1 := hel i hi
  have hx1 : xs[i]? = some xs[i] := List.getElem?_eq_getElem (by omega)
  rw [hx1] at h1
  obtain ⟨ys, n2, _, hy, hl2, hyl, hf⟩ := DataW.trod_struct hs h1
  have h2 := hf j f hj
  have hjl : j < fs.size := (Array.getElem?_eq_some_iff.1 hj).1
  have hyj : ys[j]? = some ys[j] := List.getElem?_eq_getElem (by omega)
  rw [hyj] at h2
  have hoj := List.all_eq_true.1 ho j (List.mem_range.2 hjl)
  rw [hj] at hoj
  simp only [Bool.and_eq_true, beq_iff_eq] at hoj
  rw [hoj.1, hoj.2, hc] at h2
  have hlt : i * fs.size + j < cs.toList.length := by
    simp only [List.length_take, List.length_drop, hc] at hl2
    omega
  have e1 : ((((cs.toList.drop (i * fs.size)).take fs.size).drop j).take 1) = [cs.toList[i * fs.size + j]] := by
    rw [List.drop_take, List.take_take, List.drop_drop]
    rw [List.drop_eq_getElem_cons hlt]
    rw [show min 1 (fs.size - j) = 1 by omega]
    rfl
  rw [e1] at h2
  refine ⟨cs.toList[i * fs.size + j], ys.map (·.1), n2, ys[j].1, ys[j].2, ?_, ?_, ?_, h2⟩
  · rw [World.var?_cell hg hv]
    rw [Array.getElem?_eq_getElem (by simpa using hlt)]
    simp
  · have : rows = xs.map (·.1) := by
      have := congrArg Prod.fst hx
      simpa using this
    rw [this, List.getElem?_map, hx1]
    simp only [Option.map_some, Option.some.injEq]
    exact congrArg Prod.fst hy
  · rw [List.getElem?_map, hyj]
    rfl

theorem lies_int {n : String} {g : Nat} {t e : TypeId} {m : Nat} {fs : Array Field} {rows : List (DataW Unit)} {k : IntKind} (hg : P.globalNamed n = some g) (ht : (P.globals[g]?).map (·.type) = some t)
    (ha : P.underlying t = some (.array m e)) (hs : P.underlying e = some (.struct fs)) (hc : P.cellsOf e = fs.size) (ho : (List.range fs.size).all (fun j => match fs[j]? with | some f => f.offset == j && P.cellsOf f.type == 1 | none => false) = true)
    (h : LiesAs P W n (.agg rows)) (i j : Nat) (f : Field) (hi : i < m) (hj : fs[j]? = some f) (hk : P.underlying f.type = some (.int k)) (z : Int)
    (hz : ∀ row : List (DataW Unit), rows[i]? = some (.agg row) → row[j]? = some (.lit (.int k z))) : W.cell? ⟨g, i * fs.size + j, none⟩ = some (.int k z) := by
  obtain ⟨c, row, fuel, y, q, h1, h2, h3, h4⟩ := lies_cell hg ht ha hs hc ho h i j f hi hj
  rw [hz row h2] at h3
  cases h3
  obtain ⟨u, hu, hx, _⟩ := DataW.trod_int hk h4
  have : u = z := by
    have := congrArg Prod.fst hx
    simp only [DataW.lit.injEq, Lit.int.injEq, true_and] at this
    exact this.symm
  subst this
  rw [h1, (List.cons.inj hu).1]

theorem lies_str {n : String} {g : Nat} {t e : TypeId} {m : Nat} {fs : Array Field} {rows : List (DataW Unit)} (hg : P.globalNamed n = some g) (ht : (P.globals[g]?).map (·.type) = some t)
    (ha : P.underlying t = some (.array m e)) (hs : P.underlying e = some (.struct fs)) (hc : P.cellsOf e = fs.size) (ho : (List.range fs.size).all (fun j => match fs[j]? with | some f => f.offset == j && P.cellsOf f.type == 1 | none => false) = true)
    (h : LiesAs P W n (.agg rows)) (i j : Nat) (f : Field) (hi : i < m) (hj : fs[j]? = some f) (hk : P.underlying f.type = some .string) (s : ByteArray)
    (hz : ∀ row : List (DataW Unit), rows[i]? = some (.agg row) → row[j]? = some (.lit (.string s.data.toList))) : W.cell? ⟨g, i * fs.size + j, none⟩ = some (.string s) := by
  obtain ⟨c, row, fuel, y, q, h1, h2, h3, h4⟩ := lies_cell hg ht ha hs hc ho h i j f hi hj
  rw [hz row h2] at h3
  cases h3
  obtain ⟨u, hu, hx, _⟩ := DataW.trod_string hk h4
  have : u = s := by
    have := congrArg Prod.fst hx
    simp only [DataW.lit.injEq, Lit.string.injEq] at this
    exact ByteArray.ext (Array.ext' this.symm)
  subst this
  rw [h1, (List.cons.inj hu).1]
end
end Go.Proofs.YtajkkinolpkfmaaGreatDoor

/-
  The tables of package op as plain lists of mine; that the listed variables lie in memory so, cell by cell ('OpTab'); what stays of it.
  Conditions: as each states.
-/
namespace Go.Proofs.YtajkkinolpkfmaaGreatDoor
set_option linter.unusedVariables false
set_option linter.unusedSimpArgs false
open Go.ChangeShapes Go.WideShapes Go.ChangeAt Go.RowKit

set_option maxRecDepth 100000
def opT : List (List UInt8 × Nat × Nat × Int × Int) := [([105, 110, 116], 1, 0, 0, 1), ([115, 116, 114], 2, 0, 0, 1), ([108, 111, 99, 97, 108], 3, 0, 0, 1), ([115, 101, 116], 3, 0, 1, 0), ([101, 110, 118], 4, 0, 0, 1), ([115, 101, 108, 102], 0, 0, 0, 1), ([99, 108, 111, 115, 101], 5, 6, (-1), 1), ([99, 97, 108, 108], 0, 0, 2, 1), ([116, 97, 105, 108], 0, 0, 2, 0), ([114, 101, 116], 0, 0, 1, 0), ([106, 117, 109, 112], 7, 0, 0, 0), ([106, 117, 109, 112, 122], 7, 0, 1, 0), ([97, 100, 100], 0, 0, 2, 1), ([115, 117, 98], 0, 0, 2, 1), ([109, 117, 108], 0, 0, 2, 1), ([100, 105, 118], 0, 0, 2, 1), ([109, 111, 100], 0, 0, 2, 1), ([101, 113], 0, 0, 2, 1), ([108, 101, 115, 115], 0, 0, 2, 1), ([98, 108, 111, 99, 107], 8, 9, (-1), 1), ([102, 105, 101, 108, 100], 10, 0, 1, 1), ([105, 115, 105, 110, 116], 1, 0, 1, 1), ([105, 115, 116, 97, 103], 8, 0, 1, 1), ([115, 116, 111, 114, 101], 0, 0, 2, 1), ([97, 114, 114, 97, 121], 0, 0, 2, 1), ([103, 101, 116], 0, 0, 2, 1), ([112, 117, 116], 0, 0, 3, 1), ([108, 101, 110], 0, 0, 1, 1), ([99, 97, 116], 0, 0, 2, 1), ([115, 105, 122, 101], 0, 0, 1, 1), ([98, 121, 116, 101], 0, 0, 2, 1), ([116, 101, 120, 116], 0, 0, 1, 1), ([115, 97, 109, 101], 0, 0, 2, 1), ([116, 114, 121], 7, 0, 0, 0), ([117, 110, 116, 114, 121], 0, 0, 0, 0), ([114, 97, 105, 115, 101], 0, 0, 1, 0), ([104, 111, 115, 116], 11, 0, 0, 0), ([112, 111, 112], 0, 0, 1, 0)]
def hoT : List (List UInt8 × Nat × Nat × Int × Int) := [([], 0, 0, 1, 1), ([], 0, 0, 1, 1), ([], 0, 0, 2, 1), ([], 0, 12, 0, 1)]
def spT : List (Int × Int) := [(0, 0), ((-4611686018427387904), 4611686018427387903), (0, 39), (0, 59), (0, 29), (1, 59), (0, 30), (0, 599), (0, 255), (1, 8), (0, 7), (0, 3), (0, 39)]

def opNm (k : Nat) : ByteArray := ⟨⟨(opT.getD k ([], 0, 0, 0, 0)).1⟩⟩
def opA (k : Nat) : Nat := (opT.getD k ([], 0, 0, 0, 0)).2.1
def opB (k : Nat) : Nat := (opT.getD k ([], 0, 0, 0, 0)).2.2.1
def opTk (k : Nat) : Int := (opT.getD k ([], 0, 0, 0, 0)).2.2.2.1
def opLv (k : Nat) : Int := (opT.getD k ([], 0, 0, 0, 0)).2.2.2.2
def hoB (k : Nat) : Nat := (hoT.getD k ([], 0, 0, 0, 0)).2.2.1
def hoTk (k : Nat) : Int := (hoT.getD k ([], 0, 0, 0, 0)).2.2.2.1
def spL (k : Nat) : Int := (spT.getD k (0, 0)).1
def spH (k : Nat) : Int := (spT.getD k (0, 0)).2

def rowD {H : Type} (r : List UInt8 × Nat × Nat × Int × Int) : DataW H := .agg [.lit (.string r.1), .lit (.int .i64 r.2.1), .lit (.int .i64 r.2.2.1), .lit (.int .i64 r.2.2.2.1), .lit (.int .i64 r.2.2.2.2)]
def spanD {H : Type} (r : Int × Int) : DataW H := .agg [.lit (.int .i64 r.1), .lit (.int .i64 r.2)]
theorem rows_eq : (Rows.laid_stockpot_op_rows : DataW Unit) = .agg (opT.map rowD) := by kernel_rfl
theorem hosts_eq : (Rows.laid_stockpot_op_hosts : DataW Unit) = .agg (hoT.map rowD) := by kernel_rfl
theorem spans_eq : (Rows.laid_stockpot_op_spans : DataW Unit) = .agg (spT.map spanD) := by kernel_rfl

theorem opT_length : opT.length = 38 := rfl
theorem hoT_length : hoT.length = 4 := rfl
theorem spT_length : spT.length = 13 := rfl

/-- The three tables lie in memory. -/
structure OpTab (w : World) : Prop where
  nm : ∀ k : Nat, k < 38 → w.cell? ⟨0, k * 5, none⟩ = some (.string (opNm k))
  a : ∀ k : Nat, k < 38 → w.cell? ⟨0, k * 5 + 1, none⟩ = some (.int .i64 (opA k))
  b : ∀ k : Nat, k < 38 → w.cell? ⟨0, k * 5 + 2, none⟩ = some (.int .i64 (opB k))
  tk : ∀ k : Nat, k < 38 → w.cell? ⟨0, k * 5 + 3, none⟩ = some (.int .i64 (opTk k))
  lv : ∀ k : Nat, k < 38 → w.cell? ⟨0, k * 5 + 4, none⟩ = some (.int .i64 (opLv k))
  hnm : ∀ k : Nat, k < 4 → w.cell? ⟨1, k * 5, none⟩ = some (.string ⟨#[]⟩)
  ha : ∀ k : Nat, k < 4 → w.cell? ⟨1, k * 5 + 1, none⟩ = some (.int .i64 0)
  hb : ∀ k : Nat, k < 4 → w.cell? ⟨1, k * 5 + 2, none⟩ = some (.int .i64 (hoB k))
  htk : ∀ k : Nat, k < 4 → w.cell? ⟨1, k * 5 + 3, none⟩ = some (.int .i64 (hoTk k))
  hlv : ∀ k : Nat, k < 4 → w.cell? ⟨1, k * 5 + 4, none⟩ = some (.int .i64 1)
  lo : ∀ k : Nat, k < 13 → w.cell? ⟨2, k * 2, none⟩ = some (.int .i64 (spL k))
  hi : ∀ k : Nat, k < 13 → w.cell? ⟨2, k * 2 + 1, none⟩ = some (.int .i64 (spH k))
  size : 0 < w.heap.size ∧ 1 < w.heap.size ∧ 2 < w.heap.size

theorem gRows : Tryz.prog.globalNamed "stockpot/op.rows" = some 0 := by kernel_rfl
theorem gHosts : Tryz.prog.globalNamed "stockpot/op.hosts" = some 1 := by kernel_rfl
theorem gSpans : Tryz.prog.globalNamed "stockpot/op.spans" = some 2 := by kernel_rfl
theorem tRows : (Tryz.prog.globals[0]?).map (·.type) = some 222 := by kernel_rfl
theorem tHosts : (Tryz.prog.globals[1]?).map (·.type) = some 223 := by kernel_rfl
theorem tSpans : (Tryz.prog.globals[2]?).map (·.type) = some 225 := by kernel_rfl

theorem under_row : ∃ fs : Array Field, Tryz.prog.underlying 217 = some (.struct fs) ∧ fs.size = 5 ∧ Tryz.prog.cellsOf 217 = fs.size ∧
    (List.range fs.size).all (fun j => match fs[j]? with | some f => f.offset == j && Tryz.prog.cellsOf f.type == 1 | none => false) = true ∧
    (∃ f, fs[0]? = some f ∧ Tryz.prog.underlying f.type = some .string) ∧ ∀ j, 1 ≤ j → j < 5 → ∃ f, fs[j]? = some f ∧ Tryz.prog.underlying f.type = some (.int .i64) := by
  refine ⟨_, Tryz.underlying217, by kernel_rfl, by kernel_rfl, by kernel_rfl, ⟨_, rfl, by kernel_rfl⟩, fun j h1 h5 => ?_⟩
  obtain rfl | rfl | rfl | rfl : j = 1 ∨ j = 2 ∨ j = 3 ∨ j = 4 := by omega
  all_goals exact ⟨_, rfl, by kernel_rfl⟩

theorem under_span : ∃ fs : Array Field, Tryz.prog.underlying 224 = some (.struct fs) ∧ fs.size = 2 ∧ Tryz.prog.cellsOf 224 = fs.size ∧
    (List.range fs.size).all (fun j => match fs[j]? with | some f => f.offset == j && Tryz.prog.cellsOf f.type == 1 | none => false) = true ∧
    ∀ j, j < 2 → ∃ f, fs[j]? = some f ∧ Tryz.prog.underlying f.type = some (.int .i64) := by
  refine ⟨_, Tryz.underlying224, by kernel_rfl, by kernel_rfl, by kernel_rfl, fun j h5 => ?_⟩
  obtain rfl | rfl : j = 0 ∨ j = 1 := by omega
  all_goals exact ⟨_, rfl, by kernel_rfl⟩

theorem row_at {T : List (List UInt8 × Nat × Nat × Int × Int)} {k : Nat} {row : List (DataW Unit)} (h : (T.map rowD)[k]? = some (.agg row)) :
    row = [.lit (.string (T.getD k ([], 0, 0, 0, 0)).1), .lit (.int .i64 (T.getD k ([], 0, 0, 0, 0)).2.1), .lit (.int .i64 (T.getD k ([], 0, 0, 0, 0)).2.2.1), .lit (.int .i64 (T.getD k ([], 0, 0, 0, 0)).2.2.2.1), .lit (.int .i64 (T.getD k ([], 0, 0, 0, 0)).2.2.2.2)] := by
  rw [List.getElem?_map] at h
  cases e : T[k]? with
  | none => rw [e] at h; cases h
  | some r =>
    rw [e] at h
    simp only [Option.map_some, Option.some.injEq, rowD, DataW.agg.injEq] at h
    rw [← h]
    simp [List.getD_eq_getElem?_getD, e]

theorem span_at {T : List (Int × Int)} {k : Nat} {row : List (DataW Unit)} (h : (T.map spanD)[k]? = some (.agg row)) :
    row = [.lit (.int .i64 (T.getD k (0, 0)).1), .lit (.int .i64 (T.getD k (0, 0)).2)] := by
  rw [List.getElem?_map] at h
  cases e : T[k]? with
  | none => rw [e] at h; cases h
  | some r =>
    rw [e] at h
    simp only [Option.map_some, Option.some.injEq, spanD, DataW.agg.injEq] at h
    rw [← h]
    simp [List.getD_eq_getElem?_getD, e]

theorem row_cells {W : World} {n : String} {g : Nat} {t : TypeId} {m : Nat} {T : List (List UInt8 × Nat × Nat × Int × Int)} (hg : Tryz.prog.globalNamed n = some g) (ht : (Tryz.prog.globals[g]?).map (·.type) = some t)
    (ha : Tryz.prog.underlying t = some (.array m 217)) (h : LiesAs Tryz.prog W n (.agg (T.map rowD))) (k : Nat) (hk : k < m) :
    W.cell? ⟨g, k * 5, none⟩ = some (.string ⟨⟨(T.getD k ([], 0, 0, 0, 0)).1⟩⟩) ∧ W.cell? ⟨g, k * 5 + 1, none⟩ = some (.int .i64 (T.getD k ([], 0, 0, 0, 0)).2.1) ∧ W.cell? ⟨g, k * 5 + 2, none⟩ = some (.int .i64 (T.getD k ([], 0, 0, 0, 0)).2.2.1) ∧
    W.cell? ⟨g, k * 5 + 3, none⟩ = some (.int .i64 (T.getD k ([], 0, 0, 0, 0)).2.2.2.1) ∧ W.cell? ⟨g, k * 5 + 4, none⟩ = some (.int .i64 (T.getD k ([], 0, 0, 0, 0)).2.2.2.2) := by
  obtain ⟨fs, hs, h5, hc, ho, ⟨f0, hf0, hu0⟩, hf⟩ := under_row
  obtain ⟨f1, hf1, hu1⟩ := hf 1 (by omega) (by omega)
  obtain ⟨f2, hf2, hu2⟩ := hf 2 (by omega) (by omega)
  obtain ⟨f3, hf3, hu3⟩ := hf 3 (by omega) (by omega)
  obtain ⟨f4, hf4, hu4⟩ := hf 4 (by omega) (by omega)
  have c0 := lies_str hg ht ha hs hc ho h k 0 f0 hk hf0 hu0 ⟨⟨(T.getD k ([], 0, 0, 0, 0)).1⟩⟩ (fun row hr => by rw [row_at hr]; rfl)
  have c1 := lies_int hg ht ha hs hc ho h k 1 f1 hk hf1 hu1 (T.getD k ([], 0, 0, 0, 0)).2.1 (fun row hr => by rw [row_at hr]; rfl)
  have c2 := lies_int hg ht ha hs hc ho h k 2 f2 hk hf2 hu2 (T.getD k ([], 0, 0, 0, 0)).2.2.1 (fun row hr => by rw [row_at hr]; rfl)
  have c3 := lies_int hg ht ha hs hc ho h k 3 f3 hk hf3 hu3 (T.getD k ([], 0, 0, 0, 0)).2.2.2.1 (fun row hr => by rw [row_at hr]; rfl)
  have c4 := lies_int hg ht ha hs hc ho h k 4 f4 hk hf4 hu4 (T.getD k ([], 0, 0, 0, 0)).2.2.2.2 (fun row hr => by rw [row_at hr]; rfl)
  rw [h5] at c0 c1 c2 c3 c4
  exact ⟨c0, c1, c2, c3, c4⟩

theorem span_cells {W : World} {T : List (Int × Int)} (h : LiesAs Tryz.prog W "stockpot/op.spans" (.agg (T.map spanD))) (k : Nat) (hk : k < 13) :
    W.cell? ⟨2, k * 2, none⟩ = some (.int .i64 (T.getD k (0, 0)).1) ∧ W.cell? ⟨2, k * 2 + 1, none⟩ = some (.int .i64 (T.getD k (0, 0)).2) := by
  obtain ⟨fs, hs, h5, hc, ho, hf⟩ := under_span
  obtain ⟨f0, hf0, hu0⟩ := hf 0 (by omega)
  obtain ⟨f1, hf1, hu1⟩ := hf 1 (by omega)
  have c0 := lies_int gSpans tSpans Tryz.underlying225 hs hc ho h k 0 f0 hk hf0 hu0 (T.getD k (0, 0)).1 (fun row hr => by rw [span_at hr]; rfl)
  have c1 := lies_int gSpans tSpans Tryz.underlying225 hs hc ho h k 1 f1 hk hf1 hu1 (T.getD k (0, 0)).2 (fun row hr => by rw [span_at hr]; rfl)
  rw [h5] at c0 c1
  exact ⟨c0, c1⟩

theorem ho_nm : ∀ k : Nat, k < 4 → (hoT.getD k ([], 0, 0, 0, 0)).1 = [] := by decide
theorem ho_a : ∀ k : Nat, k < 4 → (hoT.getD k ([], 0, 0, 0, 0)).2.1 = 0 := by decide
theorem ho_lv : ∀ k : Nat, k < 4 → (hoT.getD k ([], 0, 0, 0, 0)).2.2.2.2 = 1 := by decide

theorem optab_of {W : World} (h1 : LiesAs Tryz.prog W "stockpot/op.rows" Rows.laid_stockpot_op_rows) (h2 : LiesAs Tryz.prog W "stockpot/op.hosts" Rows.laid_stockpot_op_hosts) (h3 : LiesAs Tryz.prog W "stockpot/op.spans" Rows.laid_stockpot_op_spans) : OpTab W := by
  rw [rows_eq] at h1
  rw [hosts_eq] at h2
  rw [spans_eq] at h3
  have r := fun k hk => row_cells gRows tRows Tryz.underlying222 h1 k hk
  have o := fun k hk => row_cells gHosts tHosts Tryz.underlying223 h2 k hk
  have s := fun k hk => span_cells h3 k hk
  exact {
    nm := fun k hk => (r k hk).1
    a := fun k hk => (r k hk).2.1
    b := fun k hk => (r k hk).2.2.1
    tk := fun k hk => (r k hk).2.2.2.1
    lv := fun k hk => (r k hk).2.2.2.2
    hnm := fun k hk => by have := (o k hk).1; rw [ho_nm k hk] at this; exact this
    ha := fun k hk => by have := (o k hk).2.1; rw [ho_a k hk] at this; exact this
    hb := fun k hk => (o k hk).2.2.1
    htk := fun k hk => (o k hk).2.2.2.1
    hlv := fun k hk => by have := (o k hk).2.2.2.2; rw [ho_lv k hk] at this; exact this
    lo := fun k hk => (s k hk).1
    hi := fun k hk => (s k hk).2
    size := by
      have lt : ∀ g o u, W.cell? ⟨g, o, none⟩ = some u → g < W.heap.size := fun g o u c => by
        simp only [World.cell?] at c
        cases e : W.heap[g]? with
        | none => rw [e] at c; cases c
        | some x => exact (Array.getElem?_eq_some_iff.1 e).1
      exact ⟨lt _ _ _ (r 0 (by omega)).1, lt _ _ _ (o 0 (by omega)).1, lt _ _ _ (s 0 (by omega)).1⟩ }

theorem OpTab.below {w w' : World} (T : OpTab w) (hb : Below w.heap.size w w') : OpTab w' := by
  have hs := T.size
  obtain ⟨s1, s2, s3⟩ := hs
  have e : ∀ g off, g < w.heap.size → w'.cell? ⟨g, off, none⟩ = w.cell? ⟨g, off, none⟩ := fun g off h => hb.cell (p := ⟨g, off, none⟩) h
  exact {
    nm := fun k hk => by rw [e _ _ (by assumption)]; exact T.nm k hk
    a := fun k hk => by rw [e _ _ (by assumption)]; exact T.a k hk
    b := fun k hk => by rw [e _ _ (by assumption)]; exact T.b k hk
    tk := fun k hk => by rw [e _ _ (by assumption)]; exact T.tk k hk
    lv := fun k hk => by rw [e _ _ (by assumption)]; exact T.lv k hk
    hnm := fun k hk => by rw [e _ _ (by assumption)]; exact T.hnm k hk
    ha := fun k hk => by rw [e _ _ (by assumption)]; exact T.ha k hk
    hb := fun k hk => by rw [e _ _ (by assumption)]; exact T.hb k hk
    htk := fun k hk => by rw [e _ _ (by assumption)]; exact T.htk k hk
    hlv := fun k hk => by rw [e _ _ (by assumption)]; exact T.hlv k hk
    lo := fun k hk => by rw [e _ _ (by assumption)]; exact T.lo k hk
    hi := fun k hk => by rw [e _ _ (by assumption)]; exact T.hi k hk
    size := ⟨Nat.lt_of_lt_of_le s1 hb.size, Nat.lt_of_lt_of_le s2 hb.size, Nat.lt_of_lt_of_le s3 hb.size⟩ }
end Go.Proofs.YtajkkinolpkfmaaGreatDoor

/-
  The contracts of package op, as its table has them.
  Conditions: as each states.
-/
namespace Go.Proofs.YtajkkinolpkfmaaGreatDoor
set_option linter.unusedVariables false
set_option linter.unusedSimpArgs false
open Go.ChangeShapes Go.WideShapes Go.ChangeAt Go.RowKit
set_option maxRecDepth 100000

theorem down_alloc {w W : World} (h : Below w.heap.size w W) (o : Obj) : Below w.heap.size w (W.alloc o) := h.alloc h.size o
theorem down_drew {w W : World} (h : Below w.heap.size w W) : Below w.heap.size w W.drew := below_draws h 1
theorem down_drewN {w W : World} (h : Below w.heap.size w W) (n : Nat) : Below w.heap.size w (W.drewN n) := below_draws h n
theorem down_set {w W : World} (h : Below w.heap.size w W) {p : Addr} (hp : w.heap.size ≤ p.block) (v : Value) : Below w.heap.size w (W.setCell p v) := h.setCell hp v
theorem down_call {w W W1 : World} (h : Below w.heap.size w W) (k : Below W.heap.size W W1) : Below w.heap.size w W1 := below_chain h k
theorem down_cell {W w1 : World} (hb : Below W.heap.size W w1) : (∀ b o, b < W.heap.size → w1.cell? ⟨b, o, none⟩ = W.cell? ⟨b, o, none⟩) ∧ (∀ b o, b < W.heap.size → w1.frozen? ⟨b, o, none⟩ = W.frozen? ⟨b, o, none⟩) :=
  ⟨fun b o h => hb.cell (p := ⟨b, o, none⟩) h, fun b o h => hb.frozen (p := ⟨b, o, none⟩) h⟩

def opHas (s : Nat) (n : Int) : Bool := decide (spL s ≤ n ∧ n ≤ spH s)

theorem has_any (s : Nat) (n : Int) (w : World) (T : OpTab w) (hs : s < 13) :
    Calls Tryz.prog 131 #[.int .i64 s, .int .i64 n] w fun e w' => e = .returned (.bool (opHas s n)) ∧ w = w' := by
  have l := T.lo s hs
  have h := T.hi s hs
  clear T
  have e : opHas s n = decide (spL s ≤ n ∧ n ≤ spH s) := rfl
  by_cases c1 : spL s ≤ n
  · by_cases c2 : n ≤ spH s
    · have e' : opHas s n = true := by rw [e]; exact decide_eq_true ⟨c1, c2⟩
      have E := Lib.hid e'; clear e e'
      go_enter Tryz.func131, Tryz.ntmps131
      go_wp2
      go_ret
      exact ⟨ret_bool E.out.symm, rfl⟩
    · have e' : opHas s n = false := by rw [e]; exact decide_eq_false fun h => c2 h.2
      have E := Lib.hid e'; clear e e'
      go_enter Tryz.func131, Tryz.ntmps131
      go_wp2
      go_ret
      exact ⟨ret_bool E.out.symm, rfl⟩
  · have e' : opHas s n = false := by rw [e]; exact decide_eq_false fun h => c1 h.1
    have E := Lib.hid e'; clear e e'
    go_enter Tryz.func131, Tryz.ntmps131
    go_wp2
    go_ret
    exact ⟨ret_bool E.out.symm, rfl⟩

theorem ret_str {a b : ByteArray} (h : a = b) : Ending.returned (.string a) = .returned (.string b) := by rw [h]
def nmOf (i : Int) : ByteArray := if 0 ≤ i ∧ i < 38 then opNm i.toNat else ⟨#[]⟩
theorem nmOf_in (k : Nat) (h : k < 38) : nmOf k = opNm k := by unfold nmOf; rw [if_pos (by omega)]; rfl
theorem nmOf_out (i : Int) (h : i < 0 ∨ 38 ≤ i) : nmOf i = ⟨#[]⟩ := by unfold nmOf; rw [if_neg (by omega)]

/-! The row that tells of an instruction. -/
abbrev RowV := List UInt8 × Nat × Nat × Int × Int
def rowV (r : RowV) : Value := .agg #[.string ⟨⟨r.1⟩⟩, .int .i64 r.2.1, .int .i64 r.2.2.1, .int .i64 r.2.2.2.1, .int .i64 r.2.2.2.2]
def rowZ : RowV := ([], 0, 0, 0, 0)
def rowAtP (o a : Int) : RowV := if o = 36 then hoT.getD a.toNat rowZ else opT.getD o.toNat rowZ
def opGood (o a b : Int) : Bool := decide (0 ≤ o ∧ o < 38) && opHas (opA o.toNat) a && opHas (rowAtP o a).2.2.1 b
def rowP (o a b : Int) : RowV := if opGood o a b = true then rowAtP o a else rowZ

theorem good_out (o a b : Int) (h : ¬ (0 ≤ o ∧ o < 38)) : opGood o a b = false ∧ rowP o a b = rowZ := by
  have e : opGood o a b = false := by
    unfold opGood
    rw [show decide (0 ≤ o ∧ o < 38) = false from decide_eq_false h]
    rfl
  exact ⟨e, by unfold rowP; rw [e]; rfl⟩
theorem good_at (k : Nat) (a b : Int) (hk : k < 38) : opGood k a b = (opHas (opA k) a && opHas (rowAtP k a).2.2.1 b) := by
  unfold opGood
  rw [show decide (0 ≤ (k : Int) ∧ (k : Int) < 38) = true from decide_eq_true ⟨by omega, by omega⟩, Bool.true_and]
  rfl
theorem row_plain (k : Nat) (a : Int) (h : ¬ (k : Int) = 36) : rowAtP k a = opT.getD k rowZ := by unfold rowAtP; rw [if_neg h]; rfl
theorem row_host (a : Int) : rowAtP 36 a = hoT.getD a.toNat rowZ := rfl
end Go.Proofs.YtajkkinolpkfmaaGreatDoor

/-
  Programs as plain data; which may be; their bytes; the program of bytes (a plain reader).
  Conditions: as each states.
-/
namespace Go.Proofs.YtajkkinolpkfmaaGreatDoor
set_option linter.unusedVariables false
set_option linter.unusedSimpArgs false
open Go.ChangeShapes Go.WideShapes Go.ChangeAt Go.RowKit
set_option maxRecDepth 100000

/-- An instruction: op, A, B. A function: locals, captured, code. A form: kind, A, B, constructors. A program: functions, texts, forms. -/
abbrev PIns := Int × Int × Int
abbrev PFn := Int × Int × List PIns
abbrev PFm := Int × Int × Int × List Int
abbrev PPr := List PFn × List ByteArray × List PFm

/-! ## Each of a list, by its place -/
def allI {α : Type} (g : Nat → α → Bool) : Nat → List α → Bool
  | _, [] => true
  | k, x :: r => g k x && allI g (k + 1) r
theorem allI_iff {α : Type} (g : Nat → α → Bool) : ∀ (l : List α) (k : Nat), allI g k l = true ↔ ∀ j x, l[j]? = some x → g (k + j) x = true
  | [], k => by simp [allI]
  | x :: r, k => by
    unfold allI
    rw [Bool.and_eq_true, allI_iff g r (k + 1)]
    constructor
    · rintro ⟨h0, h⟩ j y hj
      cases j with
      | zero => simp at hj; subst hj; exact h0
      | succ j => have := h j y (by simpa using hj); rw [show k + (j + 1) = k + 1 + j by omega]; exact this
    · intro h
      refine ⟨h 0 x rfl, fun j y hj => ?_⟩
      have := h (j + 1) y (by simpa using hj)
      rw [show k + 1 + j = k + (j + 1) by omega]; exact this
theorem allI_true {α : Type} {g : Nat → α → Bool} {l : List α} (h : ∀ j x, j < l.length → l[j]? = some x → g j x = true) : allI g 0 l = true :=
  (allI_iff g l 0).2 fun j x hj => by rw [Nat.zero_add]; exact h j x (List.getElem?_eq_some_iff.1 hj).1 hj
theorem allI_false {α : Type} {g : Nat → α → Bool} {l : List α} {j : Nat} {x : α} (hj : l[j]? = some x) (h : g j x = false) : allI g 0 l = false := by
  cases e : allI g 0 l
  · rfl
  · have := (allI_iff g l 0).1 e j x hj
    rw [Nat.zero_add, h] at this
    cases this
theorem allI_at {α : Type} {g : Nat → α → Bool} {l : List α} (h : allI g 0 l = true) {j : Nat} {x : α} (hj : l[j]? = some x) : g j x = true := by
  have := (allI_iff g l 0).1 h j x hj
  rwa [Nat.zero_add] at this

/-! ## Which may be -/
def belowB (n m : Int) : Bool := decide (0 ≤ n ∧ n < m)
def insG (p : PIns) : Bool := opGood p.1 p.2.1 p.2.2
def fnG (f : PFn) : Bool := belowB f.1 61 && (belowB f.2.1 31 && (decide (0 < f.2.2.length ∧ f.2.2.length ≤ 600) && allI (fun _ p => insG p) 0 f.2.2))
def fnK (k : Nat) (f : PFn) : Bool := (if k = 0 then decide (f.2.1 = 0) else decide (f.1 ≠ 0)) && fnG f
def fnsG (l : List PFn) : Bool := decide (0 < l.length) && allI fnK 0 l
def strG (s : ByteArray) : Bool := decide (s.size ≤ 60)
def strsG (l : List ByteArray) : Bool := allI (fun _ s => strG s) 0 l
def conG (n : Nat) (c : Int) : Bool := decide (c = -1) || belowB c n
def consG (n : Nat) (l : List Int) : Bool := decide (0 < l.length ∧ l.length ≤ 20) && allI (fun _ c => conG n c) 0 l
def fmG (n : Nat) (m : PFm) : Bool :=
  if m.1 = 1 ∨ m.1 = 2 ∨ m.1 = 3 ∨ m.1 = 4 then belowB m.2.1 1 && (belowB m.2.2.1 1 && decide (m.2.2.2.length = 0))
  else if m.1 = 5 then belowB m.2.1 n && (belowB m.2.2.1 n && decide (m.2.2.2.length = 0))
  else if m.1 = 6 then belowB m.2.1 n && (belowB m.2.2.1 1 && decide (m.2.2.2.length = 0))
  else if m.1 = 7 then decide (m.2.1 = 0) && (decide (m.2.2.1 = 0) && consG n m.2.2.2)
  else false
def fmsG (l : List PFm) : Bool := allI (fun _ m => fmG l.length m) 0 l
def prG (P : PPr) : Bool := decide (P.1.length ≤ 60 ∧ P.2.1.length ≤ 40 ∧ P.2.2.length ≤ 40) && (fnsG P.1 && (strsG P.2.1 && fmsG P.2.2))

/-! ## Bytes -/
def aT : List Nat := [8, 2, 2, 2, 2, 0, 2, 0, 0, 0, 2, 2, 0, 0, 0, 0, 0, 0, 0, 2, 2, 8, 2, 0, 0, 0, 0, 0, 0, 0, 0, 0, 0, 2, 0, 0, 2, 0]
def bT : List Nat := [0, 0, 0, 0, 0, 0, 1, 0, 0, 0, 0, 0, 0, 0, 0, 0, 0, 0, 0, 1, 0, 0, 0, 0, 0, 0, 0, 0, 0, 0, 0, 0, 0, 0, 0, 0, 1, 0]
def aW (o : Int) : Nat := aT.getD o.toNat 0
def bW (o : Int) : Nat := bT.getD o.toNat 0

def byteC (n : Int) (i : Nat) : Int := (n / 256 ^ i) % 256
def bytesOf (n : Int) : Nat → List Int
  | 0 => []
  | w + 1 => byteC n w :: bytesOf n w
theorem bytesOf_length (n : Int) : ∀ w, (bytesOf n w).length = w
  | 0 => rfl
  | w + 1 => by simp [bytesOf, bytesOf_length n w]
theorem byteAt_bd (n : Int) (i : Nat) : 0 ≤ byteC n i ∧ byteC n i < 256 := by unfold byteC; omega
theorem bytesOf_bd (n : Int) : ∀ w, ∀ z ∈ bytesOf n w, 0 ≤ z ∧ z < 256
  | 0, z, hz => by cases hz
  | w + 1, z, hz => by
    rcases List.mem_cons.1 hz with rfl | hz
    · exact byteAt_bd n w
    · exact bytesOf_bd n w z hz

def encIns (p : PIns) : List Int := bytesOf p.1 1 ++ bytesOf p.2.1 (aW p.1) ++ bytesOf p.2.2 (bW p.1)
def encFn (f : PFn) : List Int := bytesOf f.1 1 ++ bytesOf f.2.1 1 ++ bytesOf f.2.2.length 2 ++ f.2.2.flatMap encIns
def strI (s : ByteArray) : List Int := s.data.toList.map fun c => (c.toNat : Int)
def encStr (s : ByteArray) : List Int := bytesOf s.size 1 ++ strI s
def encFm (m : PFm) : List Int := bytesOf m.1 1 ++ bytesOf m.2.1 1 ++ bytesOf m.2.2.1 1 ++ bytesOf m.2.2.2.length 1 ++ m.2.2.2.flatMap (bytesOf · 1)
def headI (P : PPr) : List Int := bytesOf P.1.length 1 ++ bytesOf P.2.1.length 1 ++ bytesOf P.2.2.length 1
def encPr (P : PPr) : List Int := headI P ++ P.1.flatMap encFn ++ P.2.1.flatMap encStr ++ P.2.2.flatMap encFm

/-! ## A plain reader: bytes that are left, and whether it is lost -/
abbrev Rd := List Int × Bool
def numOf (l : List Int) : Int := l.foldl (fun n b => IntKind.i64.wrap (n * 256 + b)) 0
def rdNum (w : Nat) (s : Rd) : Int × Rd := if w ≤ s.1.length then (numOf (s.1.take w), (s.1.drop w, s.2)) else (0, (s.1, true))
def rdCnt (w : Nat) (most : Int) (s : Rd) : Int × Rd := if most < (rdNum w s).1 then (0, ((rdNum w s).2.1, true)) else rdNum w s
def rdList {α : Type} (one : Rd → α × Rd) : Nat → Rd → List α × Rd
  | 0, s => ([], s)
  | n + 1, s => if s.2 = true then ([], s) else ((one s).1 :: (rdList one n (one s).2).1, (rdList one n (one s).2).2)
def rdIns (s : Rd) : PIns × Rd :=
  if 38 ≤ (rdNum 1 s).1 then ((0, 0, 0), ((rdNum 1 s).2.1, true))
  else (((rdNum 1 s).1, (rdNum (aW (rdNum 1 s).1) (rdNum 1 s).2).1, (rdNum (bW (rdNum 1 s).1) (rdNum (aW (rdNum 1 s).1) (rdNum 1 s).2).2).1), (rdNum (bW (rdNum 1 s).1) (rdNum (aW (rdNum 1 s).1) (rdNum 1 s).2).2).2)
def rdFn (s : Rd) : PFn × Rd :=
  let a := rdNum 1 s
  let b := rdNum 1 a.2
  let n := rdCnt 2 600 b.2
  let l := rdList rdIns n.1.toNat n.2
  ((a.1, b.1, l.1), l.2)
def byI (l : List Int) : ByteArray := ⟨⟨l.map fun z => UInt8.ofNat z.toNat⟩⟩
def rdTake (n : Nat) (s : Rd) : List Int × Rd := if n ≤ s.1.length then (s.1.take n, (s.1.drop n, s.2)) else ([], (s.1, true))
def rdStr (s : Rd) : ByteArray × Rd :=
  let n := rdNum 1 s
  let l := rdTake n.1.toNat n.2
  (byI l.1, l.2)
def rdCon (s : Rd) : Int × Rd := (if (rdNum 1 s).1 = 255 then -1 else (rdNum 1 s).1, (rdNum 1 s).2)
def rdFm (s : Rd) : PFm × Rd :=
  let k := rdNum 1 s
  let a := rdNum 1 k.2
  let b := rdNum 1 a.2
  let n := rdCnt 1 20 b.2
  let l := rdList rdCon n.1.toNat n.2
  ((k.1, a.1, b.1, l.1), l.2)
def rdPr (s : Rd) : PPr × Rd :=
  let nf := rdCnt 1 60 s
  let ns := rdCnt 1 40 nf.2
  let nm := rdCnt 1 40 ns.2
  let fs := rdList rdFn nf.1.toNat nm.2
  let ss := rdList rdStr ns.1.toNat fs.2
  let ms := rdList rdFm nm.1.toNat ss.2
  ((fs.1, ss.1, ms.1), ms.2)
/-- Whether there is a program, and which. -/
def decB (l : List Int) : Bool := !(rdPr (l, false)).2.2 && (decide ((rdPr (l, false)).2.1 = []) && prG (rdPr (l, false)).1)
def decPr (l : List Int) : PPr := if decB l = true then (rdPr (l, false)).1 else ([], [], [])
end Go.Proofs.YtajkkinolpkfmaaGreatDoor

/-
  A law's arguments that are slices: of integers ('open_slice_int'), of structs of integers ('open_slice_struct'), as values with their cells.
  Conditions: as each states.
-/
namespace Go.Proofs.YtajkkinolpkfmaaGreatDoor
set_option linter.unusedVariables false
set_option linter.unusedSimpArgs false
open Go.ChangeShapes Go.WideShapes Go.ChangeAt Go.RowKit Go.Deep

section
variable {H : Type} {enc : TypeId × Value → H} {P : Program} {w : World} {base : Nat} {spare : Nat → Bool} {held : Bool}

theorem add_of_cell {a : Addr} {j : Nat} {v : Value} (h0 : (w.cell? (a.add 0)).isSome = true) (h : w.cell? (a.add j) = some v) : w.cell? ⟨a.block, a.off + j, none⟩ = some v := by
  obtain ⟨b, o, s⟩ := a
  cases s with
  | some s =>
    exfalso
    simp only [Addr.add, if_true, World.cell?] at h0
    split at h0
    · simp at h0
    · simp at h0
  | none => rw [← h, Addr.add_lit]

theorem eta_of_cell {a : Addr} (h0 : (w.cell? (a.add 0)).isSome = true) : a = ⟨a.block, a.off, none⟩ := by
  obtain ⟨b, o, s⟩ := a
  cases s with
  | some s =>
    exfalso
    simp only [Addr.add, if_true, World.cell?] at h0
    split at h0
    · simp at h0
    · simp at h0
  | none => rfl

theorem open_slice_int {t e : TypeId} {k : IntKind} {v : Value} {d : DataW H} {ps : List MemPlace} {r : Reach} {b0 : Nat} (ht : P.underlying t = some (.slice e)) (he : P.underlying e = some (.int k)) (hc : P.cellsOf e = 1)
    (hval : Value.okWide P w r b0 t v) (h : DataW.Trod enc P w base spare held t v d ps) :
    ∃ zs : List Int, readsAt w v zs.length (zs.map (Value.int k)) ∧ (∀ z ∈ zs, (Lit.int k z).wf = true) ∧ zs.length ≤ maxLen := by
  obtain ⟨fuel, hf⟩ := h
  have hcs : v.cells.toList = [v] := by
    cases v with
    | agg cs =>
      exfalso
      unfold Value.okWide at hval
      rw [ht] at hval
      rcases open_ints ht he hc hf with ⟨h1, _⟩ | ⟨a, len, cap, zs, h1, _⟩
      all_goals
        simp only [Value.cells] at h1
        obtain ⟨cs⟩ := cs
        simp only at h1
        subst h1
        simp [Cell.okWide, ht, Cell.ok] at hval
    | _ => rfl
  rw [hcs] at hf
  rcases open_ints ht he hc hf with ⟨h1, _⟩ | ⟨a, len, cap, zs, h1, hb, hl, hm, hz, _, hcell, hwf⟩
  · obtain rfl : v = .slice none 0 0 := by simpa using h1
    exact ⟨[], ⟨_, _, rfl, .inl rfl⟩, by simp, Nat.zero_le _⟩
  · obtain rfl : v = .slice (some a) len cap := by simpa using h1
    have hlz : len ≤ zs.length := by rw [hz]; split <;> omega
    have hlen : (zs.take len).length = len := by simp; omega
    refine ⟨zs.take len, ⟨some a, cap, by rw [hlen], ?_⟩, fun z hz' => hwf z (List.mem_of_mem_take hz'), by rw [hlen]; omega⟩
    by_cases h0 : len = 0
    · exact .inl (by rw [hlen]; exact h0)
    · have hs : (w.cell? (a.add 0)).isSome = true := by rw [hcell 0 (by omega)]; rfl
      refine .inr ⟨a.block, a.off, congrArg some (eta_of_cell hs), fun j u hj => ?_⟩
      have hj2 : j < len := by
        have := (List.getElem?_eq_some_iff.1 hj).1
        simp at this
        omega
      have := add_of_cell hs (hcell j (by omega))
      rw [this, ← hj]
      simp [List.getElem?_take, hj2, List.getD_eq_getElem?_getD, List.getElem?_eq_getElem (show j < zs.length by omega)]
/-- v is a slice of n structs of integers: the field j of the i-th is 'f i j', of the kind 'ks[j]'. -/
def structsAt (w : World) (v : Value) (n : Nat) (ks : List IntKind) (f : Nat → Nat → Int) : Prop :=
  ∃ a c, v = .slice a n c ∧ (∀ i j k, i < n → ks[j]? = some k → (Lit.int k (f i j)).wf = true) ∧
    (n = 0 ∨ ∃ b o, a = some ⟨b, o, none⟩ ∧ ∀ i j k, i < n → ks[j]? = some k → w.cell? ⟨b, o + (i * ks.length + j), none⟩ = some (.int k (f i j)))

/-- The fields of a struct are integers of one cell, one behind the other, of these kinds. -/
def intFields (P : Program) (e : TypeId) (ks : List IntKind) : Bool := match P.underlying e with
  | some (.struct fs) => fs.size == ks.length && (List.range ks.length).all fun j => match fs[j]?, ks[j]? with
    | some f, some k => f.offset == j && P.cellsOf f.type == 1 && (match P.underlying f.type with | some (.int q) => decide (q = k) | _ => false)
    | _, _ => false
  | _ => false

theorem intFields_at {e : TypeId} {ks : List IntKind} (h : intFields P e ks = true) :
    ∃ fs, P.underlying e = some (.struct fs) ∧ fs.size = ks.length ∧ ∀ j k, ks[j]? = some k → ∃ f : Field, fs[j]? = some f ∧ f.offset = j ∧ P.cellsOf f.type = 1 ∧ P.underlying f.type = some (.int k) := by
  unfold intFields at h
  split at h
  · rename_i fs hu
    simp only [Bool.and_eq_true, beq_iff_eq, List.all_eq_true, List.mem_range] at h
    refine ⟨fs, hu, h.1, fun j k hk => ?_⟩
    have hj := (List.getElem?_eq_some_iff.1 hk).1
    have h2 := h.2 j hj
    rw [hk] at h2
    split at h2
    · rename_i f k' hf hk'
      cases hk'
      simp only [Bool.and_eq_true, beq_iff_eq] at h2
      refine ⟨f, hf, h2.1.1, h2.1.2, ?_⟩
      have h3 := h2.2
      split at h3
      · rename_i q hq
        rw [hq, of_decide_eq_true h3]
      · cases h3
    · cases h2
  · cases h

theorem open_slice_struct {t e : TypeId} (ks : List IntKind) {v : Value} {d : DataW H} {ps : List MemPlace} {r : Reach} {b0 : Nat} (ht : P.underlying t = some (.slice e)) (hks : intFields P e ks = true) (hC : P.cellsOf e = ks.length) (hpos : ∃ k, ks[0]? = some k)
    (hval : Value.okWide P w r b0 t v) (h : DataW.Trod enc P w base spare held t v d ps) :
    ∃ n f, structsAt w v n ks f ∧ n ≤ maxLen := by
  obtain ⟨fs, hu, hsz, hfs⟩ := intFields_at hks
  obtain ⟨fuel, hf⟩ := h
  have hcs : v.cells.toList = [v] := by
    cases v with
    | agg cs =>
      exfalso
      unfold Value.okWide at hval
      rw [ht] at hval
      rcases DataW.trod_slice ht hf with ⟨h1, _⟩ | ⟨a, len, cap, el, re, n, _, h1, _⟩
      all_goals
        simp only [Value.cells] at h1
        obtain ⟨cs⟩ := cs
        simp only at h1
        subst h1
        simp [Cell.okWide, ht, Cell.ok] at hval
    | _ => rfl
  rw [hcs] at hf
  rcases DataW.trod_slice ht hf with ⟨h1, _⟩ | ⟨a, len, cap, el, re, n, _, h1, _, hb, hl, hm, hlen, hel, _⟩
  · obtain rfl : v = .slice none 0 0 := by simpa using h1
    exact ⟨0, fun _ _ => 0, ⟨_, _, rfl, by intro i j k hi; omega, .inl rfl⟩, Nat.zero_le _⟩
  · obtain rfl : v = .slice (some a) len cap := by simpa using h1
    have each : ∀ i, i < len → ∃ g : Nat → Int, ∀ j k, ks[j]? = some k → w.cell? (a.add (i * ks.length + j)) = some (.int k (g j)) ∧ (Lit.int k (g j)).wf = true := by
      intro i hi
      have h2 := hel i hi
      rw [hC, List.getElem?_eq_getElem (by omega)] at h2
      cases hc : w.cells? base (a.add (i * ks.length)) ks.length with
      | none => rw [hc] at h2; simp at h2
      | some cs =>
        rw [hc] at h2
        simp only [Option.bind_some] at h2
        obtain ⟨_, hcl, hat⟩ := World.cells?_some hc
        obtain ⟨xs, n', _, _, _, hxl, hg⟩ := DataW.trod_struct hu h2
        refine ⟨fun j => intOf (cs.getD j (.bool false)), fun j k hk => ?_⟩
        have hj := (List.getElem?_eq_some_iff.1 hk).1
        obtain ⟨f, hfj, ho, h1c, hui⟩ := hfs j k hk
        have h3 := hg j f hfj
        have hdt : (cs.drop f.offset).take (P.cellsOf f.type) = [cs[j]'(by omega)] := by
          rw [ho, h1c, List.drop_eq_getElem_cons (by omega)]
          rfl
        rw [hdt, List.getElem?_eq_getElem (by omega)] at h3
        obtain ⟨z, hz, _, hw⟩ := DataW.trod_int hui h3
        have hz' : cs[j]'(by omega) = .int k z := by simpa using hz
        have hgd : intOf (cs.getD j (.bool false)) = z := by
          rw [List.getD_eq_getElem?_getD, List.getElem?_eq_getElem (by omega)]
          simp [hz', intOf]
        rw [← Go.Deep.add_add, hat j hj, List.getElem?_eq_getElem (by omega), hz']
        show some (Value.int k z) = some (Value.int k (intOf (cs.getD j (.bool false)))) ∧ (Lit.int k (intOf (cs.getD j (.bool false)))).wf = true
        rw [hgd]
        exact ⟨rfl, hw⟩
    let f : Nat → Nat → Int := fun i => if hi : i < len then Classical.choose (each i hi) else fun _ => 0
    have hff : ∀ i j k, i < len → ks[j]? = some k → w.cell? (a.add (i * ks.length + j)) = some (.int k (f i j)) ∧ (Lit.int k (f i j)).wf = true := by
      intro i j k hi hk
      have := Classical.choose_spec (each i hi) j k hk
      simp only [f, hi, dif_pos]
      exact this
    refine ⟨len, f, ⟨some a, cap, rfl, fun i j k hi hk => (hff i j k hi hk).2, ?_⟩, by omega⟩
    by_cases h0 : len = 0
    · exact .inl h0
    · obtain ⟨k0, hk0⟩ := hpos
      have hs : (w.cell? (a.add 0)).isSome = true := by
        have := (hff 0 0 k0 (by omega) hk0).1
        simp only [Nat.zero_mul, Nat.zero_add] at this
        rw [this]; rfl
      exact .inr ⟨a.block, a.off, congrArg some (eta_of_cell hs), fun i j k hi hk => add_of_cell hs (hff i j k hi hk).1⟩
end
end Go.Proofs.YtajkkinolpkfmaaGreatDoor

/-
  Programs in memory: slices that read as a list, in blocks outside of a set; functions, forms, programs; what stays of them.
  Conditions: as each states.
-/
namespace Go.Proofs.YtajkkinolpkfmaaGreatDoor
set_option linter.unusedVariables false
set_option linter.unusedSimpArgs false
open Go.ChangeShapes Go.WideShapes Go.ChangeAt Go.RowKit
set_option maxRecDepth 100000

/-- v is a slice of n elements whose cells read as cs, in a block that S has not. -/
def rdAt (S : Nat → Prop) (w : World) (v : Value) (n : Nat) (cs : List Value) : Prop :=
  ∃ a c, v = .slice a n c ∧ (n = 0 ∨ ∃ b o, a = some ⟨b, o, none⟩ ∧ ¬ S b ∧ b < w.heap.size ∧ ∀ j u, cs[j]? = some u → w.cell? ⟨b, o + j, none⟩ = some u)

theorem cell_upon {T : Nat → Prop} {w w' : World} (hu : Upon T w w') {b o : Nat} (hb : b < w.heap.size) (hT : ¬ T b) : w'.cell? ⟨b, o, none⟩ = w.cell? ⟨b, o, none⟩ := by
  simp only [World.cell?, hu.block b hb hT]

theorem rdAt.upon {S T : Nat → Prop} {w w' : World} {v : Value} {n : Nat} {cs : List Value} (h : rdAt S w v n cs) (hu : Upon T w w') (hT : ∀ k, k < w.heap.size → T k → S k) : rdAt S w' v n cs := by
  obtain ⟨a, c, rfl, h⟩ := h
  refine ⟨a, c, rfl, ?_⟩
  rcases h with h | ⟨b, o, rfl, hs, hb, hc⟩
  · exact .inl h
  · exact .inr ⟨b, o, rfl, hs, Nat.lt_of_lt_of_le hb hu.size, fun j u hj => by rw [cell_upon hu hb fun t => hs (hT b hb t)]; exact hc j u hj⟩
theorem rdAt.off {S T : Nat → Prop} {w : World} {v : Value} {n : Nat} {cs : List Value} (h : rdAt S w v n cs) (hT : ∀ k, k < w.heap.size → T k → S k) : rdAt T w v n cs := by
  obtain ⟨a, c, rfl, h⟩ := h
  refine ⟨a, c, rfl, ?_⟩
  rcases h with h | ⟨b, o, rfl, hs, hb, hc⟩
  · exact .inl h
  · exact .inr ⟨b, o, rfl, fun t => hs (hT b hb t), hb, hc⟩
theorem upon_of_below {w w' : World} (h : Below w.heap.size w w') : Upon (fun _ => False) w w' := Upon.of_below h
theorem rdAt.below {S : Nat → Prop} {w w' : World} {v : Value} {n : Nat} {cs : List Value} (h : rdAt S w v n cs) (hb : Below w.heap.size w w') : rdAt S w' v n cs := h.upon (upon_of_below hb) fun _ _ t => t.elim
theorem rdAt.of_reads {w : World} {v : Value} {n : Nat} {cs : List Value} (h : readsAt w v n cs) (hl : n = 0 ∨ 0 < cs.length) : rdAt (fun _ => False) w v n cs := by
  obtain ⟨a, c, rfl, h⟩ := h
  refine ⟨a, c, rfl, ?_⟩
  rcases h with h | ⟨b, o, rfl, hc⟩
  · exact .inl h
  · rcases hl with h0 | h0
    · exact .inl h0
    · exact .inr ⟨b, o, rfl, fun t => t, World.block_lt_of_cell? w ⟨b, o + 0, none⟩ (hc 0 cs[0] (List.getElem?_eq_getElem h0)), hc⟩
theorem rdAt.of_owns {S : Nat → Prop} {w : World} {B : Nat} {e : TypeId} {size : Nat} {v : Value} {n : Nat} {xs : List Value} (h : w.ownsRow B e size v n xs) (hS : ∀ g, v.ownBlock = some g → ¬ S g) : rdAt S w v n xs := by
  rcases owns_parts h with ⟨rfl, rfl, rfl⟩ | ⟨g, cap, rest, rfl, hg, hr, hl, hcap, hn, hm⟩
  · exact ⟨_, _, rfl, .inl rfl⟩
  · refine ⟨_, _, rfl, .inr ⟨g, 0, rfl, hS g rfl, hr.lt, fun j u hj => ?_⟩⟩
    rw [hr.cell, Nat.zero_add, List.getElem?_append_left (List.getElem?_eq_some_iff.1 hj).1]
    exact hj
theorem rdAt.slice {S : Nat → Prop} {w : World} {v : Value} {n : Nat} {cs : List Value} (h : rdAt S w v n cs) : ∃ a c, v = .slice a n c := by
  obtain ⟨a, c, rfl, _⟩ := h; exact ⟨a, c, rfl⟩

def insC (p : PIns) : List Value := [.int .i64 p.1, .int .i64 p.2.1, .int .i64 p.2.2]
def insL (l : List PIns) : List Value := l.flatMap insC
theorem insL_get : ∀ (xs : List PIns) (k : Nat) (p : PIns), xs[k]? = some p → (insL xs)[k * 3]? = some (.int .i64 p.1) ∧ (insL xs)[k * 3 + 1]? = some (.int .i64 p.2.1) ∧ (insL xs)[k * 3 + 2]? = some (.int .i64 p.2.2)
  | [], k, p, h => by simp at h
  | x :: xs, 0, p, h => by simp at h; subst h; simp [insL, insC]
  | x :: xs, k + 1, p, h => by
    have ih := insL_get xs k p (by simpa using h)
    rw [show (k + 1) * 3 = k * 3 + 1 + 1 + 1 by omega]
    simpa [insL, insC] using ih
theorem insL_length (l : List PIns) : (insL l).length = l.length * 3 := by
  induction l with
  | nil => rfl
  | cons x l ih => simp [insL, insC] at ih ⊢; omega
theorem insL_snoc (l : List PIns) (p : PIns) : insL (l ++ [p]) = insL l ++ insC p := by simp [insL]

/-- A function, a form at a place of memory. -/
def fnAt (S : Nat → Prop) (w : World) (b o : Nat) (f : PFn) : Prop :=
  w.cell? ⟨b, o, none⟩ = some (.int .i64 f.1) ∧ w.cell? ⟨b, o + 1, none⟩ = some (.int .i64 f.2.1) ∧ ∃ v, w.cell? ⟨b, o + 2, none⟩ = some v ∧ rdAt S w v f.2.2.length (insL f.2.2)
def fmAt (S : Nat → Prop) (w : World) (b o : Nat) (m : PFm) : Prop :=
  w.cell? ⟨b, o, none⟩ = some (.int .i64 m.1) ∧ w.cell? ⟨b, o + 1, none⟩ = some (.int .i64 m.2.1) ∧ w.cell? ⟨b, o + 2, none⟩ = some (.int .i64 m.2.2.1) ∧ ∃ v, w.cell? ⟨b, o + 3, none⟩ = some v ∧ rdAt S w v m.2.2.2.length (m.2.2.2.map (Value.int .i64))
/-- A slice of things of C cells each. -/
def manyAt {α : Type} (E : (Nat → Prop) → World → Nat → Nat → α → Prop) (C : Nat) (S : Nat → Prop) (w : World) (v : Value) (l : List α) : Prop :=
  ∃ a c, v = .slice a l.length c ∧ (l.length = 0 ∨ ∃ b o, a = some ⟨b, o, none⟩ ∧ ¬ S b ∧ b < w.heap.size ∧ ∀ i x, l[i]? = some x → E S w b (o + i * C) x)
abbrev fnsAt := manyAt fnAt 3
abbrev fmsAt := manyAt fmAt 4
abbrev strL (l : List ByteArray) : List Value := l.map Value.string
def prAt (S : Nat → Prop) (w : World) (v1 v2 v3 : Value) (P : PPr) : Prop := fnsAt S w v1 P.1 ∧ rdAt S w v2 P.2.1.length (strL P.2.1) ∧ fmsAt S w v3 P.2.2

theorem fnAt.upon {S T : Nat → Prop} {w w' : World} {b o : Nat} {f : PFn} (h : fnAt S w b o f) (hu : Upon T w w') (hT : ∀ k, k < w.heap.size → T k → S k) (hb : b < w.heap.size) (hS : ¬ T b) : fnAt S w' b o f := by
  obtain ⟨h0, h1, v, h2, h3⟩ := h
  exact ⟨by rw [cell_upon hu hb hS]; exact h0, by rw [cell_upon hu hb hS]; exact h1, v, by rw [cell_upon hu hb hS]; exact h2, h3.upon hu hT⟩
theorem fmAt.upon {S T : Nat → Prop} {w w' : World} {b o : Nat} {f : PFm} (h : fmAt S w b o f) (hu : Upon T w w') (hT : ∀ k, k < w.heap.size → T k → S k) (hb : b < w.heap.size) (hS : ¬ T b) : fmAt S w' b o f := by
  obtain ⟨h0, h1, h2, v, h3, h4⟩ := h
  exact ⟨by rw [cell_upon hu hb hS]; exact h0, by rw [cell_upon hu hb hS]; exact h1, by rw [cell_upon hu hb hS]; exact h2, v, by rw [cell_upon hu hb hS]; exact h3, h4.upon hu hT⟩
theorem manyAt.upon {α : Type} {E : (Nat → Prop) → World → Nat → Nat → α → Prop} {C : Nat} {S T : Nat → Prop} {w w' : World} {v : Value} {l : List α} (h : manyAt E C S w v l)
    (hE : ∀ b o x, b < w.heap.size → ¬ T b → E S w b o x → E S w' b o x) (hu : Upon T w w') (hT : ∀ k, k < w.heap.size → T k → S k) : manyAt E C S w' v l := by
  obtain ⟨a, c, rfl, h⟩ := h
  refine ⟨a, c, rfl, ?_⟩
  rcases h with h | ⟨b, o, rfl, hs, hb, hc⟩
  · exact .inl h
  · exact .inr ⟨b, o, rfl, hs, Nat.lt_of_lt_of_le hb hu.size, fun i x hx => hE _ _ _ hb (fun t => hs (hT b hb t)) (hc i x hx)⟩
theorem fns_upon {S T : Nat → Prop} {w w' : World} {v : Value} {l : List PFn} (h : fnsAt S w v l) (hu : Upon T w w') (hT : ∀ k, k < w.heap.size → T k → S k) : fnsAt S w' v l :=
  manyAt.upon h (fun _ _ _ hb hS h => h.upon hu hT hb hS) hu hT
theorem fms_upon {S T : Nat → Prop} {w w' : World} {v : Value} {l : List PFm} (h : fmsAt S w v l) (hu : Upon T w w') (hT : ∀ k, k < w.heap.size → T k → S k) : fmsAt S w' v l :=
  manyAt.upon h (fun _ _ _ hb hS h => h.upon hu hT hb hS) hu hT
theorem prAt.upon {S T : Nat → Prop} {w w' : World} {v1 v2 v3 : Value} {P : PPr} (h : prAt S w v1 v2 v3 P) (hu : Upon T w w') (hT : ∀ k, k < w.heap.size → T k → S k) : prAt S w' v1 v2 v3 P :=
  ⟨fns_upon h.1 hu hT, h.2.1.upon hu hT, fms_upon h.2.2 hu hT⟩
theorem prAt.below {S : Nat → Prop} {w w' : World} {v1 v2 v3 : Value} {P : PPr} (h : prAt S w v1 v2 v3 P) (hb : Below w.heap.size w w') : prAt S w' v1 v2 v3 P := h.upon (upon_of_below hb) fun _ _ t => t.elim
theorem fns_below {S : Nat → Prop} {w w' : World} {v : Value} {l : List PFn} (h : fnsAt S w v l) (hb : Below w.heap.size w w') : fnsAt S w' v l := fns_upon h (upon_of_below hb) fun _ _ t => t.elim
theorem fms_below {S : Nat → Prop} {w w' : World} {v : Value} {l : List PFm} (h : fmsAt S w v l) (hb : Below w.heap.size w w') : fmsAt S w' v l := fms_upon h (upon_of_below hb) fun _ _ t => t.elim
theorem manyAt.slice {α : Type} {E : (Nat → Prop) → World → Nat → Nat → α → Prop} {C : Nat} {S : Nat → Prop} {w : World} {v : Value} {l : List α} (h : manyAt E C S w v l) : ∃ a c, v = .slice a l.length c := by
  obtain ⟨a, c, rfl, _⟩ := h; exact ⟨a, c, rfl⟩

theorem manyAt.off {α : Type} {E : (Nat → Prop) → World → Nat → Nat → α → Prop} {C : Nat} {S T : Nat → Prop} {w : World} {v : Value} {l : List α} (h : manyAt E C S w v l)
    (hE : ∀ b o x, E S w b o x → E T w b o x) (hT : ∀ k, k < w.heap.size → T k → S k) : manyAt E C T w v l := by
  obtain ⟨a, c, rfl, h⟩ := h
  refine ⟨a, c, rfl, ?_⟩
  rcases h with h | ⟨b, o, rfl, hs, hb, hc⟩
  · exact .inl h
  · exact .inr ⟨b, o, rfl, fun t => hs (hT b hb t), hb, fun i x hx => hE _ _ _ (hc i x hx)⟩
theorem prAt.off {S T : Nat → Prop} {w : World} {v1 v2 v3 : Value} {P : PPr} (h : prAt S w v1 v2 v3 P) (hT : ∀ k, k < w.heap.size → T k → S k) : prAt T w v1 v2 v3 P :=
  ⟨h.1.off (fun _ _ _ ⟨a, b, v, c, d⟩ => ⟨a, b, v, c, d.off hT⟩) hT, h.2.1.off hT, h.2.2.off (fun _ _ _ ⟨a, b, c, v, d, e⟩ => ⟨a, b, c, v, d, e.off hT⟩) hT⟩

/-- The numbers fit, the lists are no longer than memory. -/
def insF (p : PIns) : Prop := (Lit.int .i64 p.1).wf = true ∧ (Lit.int .i64 p.2.1).wf = true ∧ (Lit.int .i64 p.2.2).wf = true
def fnF (f : PFn) : Prop := (Lit.int .i64 f.1).wf = true ∧ (Lit.int .i64 f.2.1).wf = true ∧ (∀ p ∈ f.2.2, insF p) ∧ f.2.2.length ≤ maxLen
def fmF (m : PFm) : Prop := (Lit.int .i64 m.1).wf = true ∧ (Lit.int .i64 m.2.1).wf = true ∧ (Lit.int .i64 m.2.2.1).wf = true ∧ (∀ c ∈ m.2.2.2, (Lit.int .i64 c).wf = true) ∧ m.2.2.2.length ≤ maxLen
structure prF (P : PPr) : Prop where
  fn : ∀ f ∈ P.1, fnF f
  fm : ∀ m ∈ P.2.2, fmF m
  st : ∀ s ∈ P.2.1, s.size ≤ maxLen
  n1 : P.1.length ≤ maxLen
  n2 : P.2.1.length ≤ maxLen
  n3 : P.2.2.length ≤ maxLen
end Go.Proofs.YtajkkinolpkfmaaGreatDoor

/-
  Appends onto a row of the call's own, of any slice: as an equation, as a step of a region that draws its order, as a step of a walk; slices cut at either end.
  Conditions: as each states.
-/
namespace Go.Proofs.YtajkkinolpkfmaaGreatDoor
set_option linter.unusedVariables false
set_option linter.unusedSimpArgs false
open Go.ChangeShapes Go.WideShapes Go.ChangeAt Go.RowKit
set_option maxRecDepth 100000

section
variable {P : Program}
/-- append onto a row of the call's own, of whatever slice: nil and empty ones too. -/
theorem run_append_w (w : World) (t ty : TypeId) (base : Nat) (e : TypeId) (i : TypeInfo) (z : Value) (size bytes : Nat) (ht : P.underlying t = some (.slice e)) (hi : P.info? e = some i) (hz : i.zero = some z)
    (hsize : i.size = size) (hby : i.bytes = bytes) (hzs : z.cells.size = size) (hsz : 0 < size)
    (v : Value) (n : Nat) (xs : List Value) (hown : w.ownsRow base e size v n xs)
    (xa : Option Addr) (m c : Nat) (news : List Value) (hl : news.length = m * size) (hsrc : m = 0 ∨ ∃ ad, xa = some ad ∧ ∀ j u, news[j]? = some u → w.cell? (ad.add j) = some u) (h1 : ∀ u ∈ news, u.oneCell' = true)
    (h63 : n + m ≤ maxLen) (hbytes : (n + m) * bytes ≤ 140737488355328) (hbase : base ≤ w.heap.size) :
    ∃ v' w', (Builtin.append_ #[t, t] ty #[v, .slice xa m c]).run P w = .ok v' w' ∧ w'.ownsRow base e size v' (n + m) (xs ++ news) ∧ w.grownBy w' v.ownBlock ∧ (v'.ownBlock = v.ownBlock ∨ v'.ownBlock = some w.heap.size) := by
  by_cases h0 : m = 0
  · subst h0
    have hn : news = [] := List.length_eq_zero_iff.1 (by simpa using hl)
    subst hn
    refine ⟨v, w, ?_, by simpa using hown, ⟨rfl, rfl, rfl, Nat.le_refl _, fun _ _ _ => rfl⟩, .inl rfl⟩
    have hf : (Builtin.firstCells i.size 0 (.slice xa 0 c)).run P w = .ok #[] w := by
      cases xa with
      | none => simp [Builtin.firstCells]
      | some b => exact run_firstCells_some w i.size 0 b 0 c [] (by simp) (by simp)
    rcases hown.2 with ⟨rfl, rfl⟩ | ⟨g, cap, cur, rfl, _, _, hnc, _⟩
    · simp [Builtin.append_, run_underlying ht, sizeOf, typeInfo, hi, Builtin.lenOf, hf]
    · simp [Builtin.append_, run_underlying ht, sizeOf, typeInfo, hi, Builtin.lenOf, hf, hnc, storeCells]
  · obtain ⟨ad, rfl, hc⟩ := hsrc.resolve_left h0
    obtain ⟨v', w', a, b, c', _, d⟩ := run_append_own_at w base t ty e i z size bytes ht hi hz hsize hby hzs hsz v n xs hown ad m c news hl hc h1 h63 hbytes hbase
    exact ⟨v', w', a, b, c', d⟩

theorem step_append_w {w : World} {ops : Array Oper} {o : Oper} {a : Act} {K : Act → World → Prop} {Q : Exit → Act → World → Prop} {E : Prop} (hgd : o.guard = none) (s x : Operand) (t : TypeId)
    (ho : o.op = .call { callee := .builtin .append, args := #[s, x], argTypes := #[t, t] })
    (base : Nat) (e : TypeId) (i : TypeInfo) (z : Value) (size bytes : Nat) (ht : P.underlying t = some (.slice e)) (hi : P.info? e = some i) (hz : i.zero = some z)
    (hsize : i.size = size) (hby : i.bytes = bytes) (hzs : z.cells.size = size) (hsz : 0 < size)
    (v : Value) (n : Nat) (xs : List Value) (hs : a.eval s = v) (hown : w.ownsRow base e size v n xs)
    (xa : Option Addr) (m c : Nat) (news : List Value) (hx : a.eval x = .slice xa m c) (hl : news.length = m * size) (hsrc : m = 0 ∨ ∃ ad, xa = some ad ∧ ∀ j u, news[j]? = some u → w.cell? (ad.add j) = some u) (h1 : ∀ u ∈ news, u.oneCell' = true)
    (h63 : n + m ≤ maxLen) (hbytes : (n + m) * bytes ≤ 140737488355328) (hbase : base ≤ w.heap.size)
    (h : ∀ v' w', w'.ownsRow base e size v' (n + m) (xs ++ news) → w.grownBy w' v.ownBlock → (v'.ownBlock = v.ownBlock ∨ v'.ownBlock = some w.heap.size) → K (a.put o.dst v') w') :
    if Region.wanted o (yielded ops a.tmps) = true then Oper.wp P o a w K Q else E := by
  have hw : Region.wanted o (yielded ops a.tmps) = true := by simp [Region.wanted, hgd]
  rw [if_pos hw]
  obtain ⟨v', w', hr, h2, h3, h4⟩ := run_append_w (P := P) w t o.type base e i z size bytes ht hi hz hsize hby hzs hsz v n xs hown xa m c news hl hsrc h1 h63 hbytes hbase
  unfold Oper.wp execOp
  simp only [ho, resolve, invoke, builtin, Sem.run_bind, Sem.run_pure, Result.andThen_ok, List.map_toArray, List.map_cons, List.map_nil, hs, hx, hr]
  exact h v' w' h2 h3 h4
theorem run_slice_to_w (t e : TypeId) (ht : P.underlying t = some (.slice e)) {i : TypeInfo} (hi : P.info? e = some i) (a : Option Addr) {n c k : Nat} (hk : k ≤ n) (hn : n ≤ c) (w : World) :
    (Instr.slice t (.slice a n c) none (some (.int .i64 (k : Int))) none).run P w = .ok (.slice a k c) w := by
  have h1 : (0 : Int) ≤ k ∧ (k : Int) ≤ c := by omega
  have h2 : (a.map fun x => x.add 0) = a := by cases a <;> simp [Addr.add]
  have h3 : k ≤ c := by omega
  simp [Instr.slice, Instr.sliceBounds, Instr.sliceBound, asIntOf, run_underlying ht, sizeOf, typeInfo, hi, h2, h3]
theorem run_slice_from_w (t e : TypeId) (ht : P.underlying t = some (.slice e)) {i : TypeInfo} (hi : P.info? e = some i) (a : Option Addr) {n c k : Nat} (hk : k ≤ n) (w : World) :
    (Instr.slice t (.slice a n c) (some (.int .i64 (k : Int))) none none).run P w = .ok (.slice (if c = k then a else a.map (·.add (k * i.size))) (n - k) (c - k)) w := by
  have h1 : (0 : Int) ≤ k ∧ (k : Int) ≤ n := by omega
  simp [Instr.slice, Instr.sliceBounds, Instr.sliceBound, asIntOf, run_underlying ht, sizeOf, typeInfo, hi, hk]

theorem wpList_append_w {w : World} {ops : Array Oper} {rest : List Oper} {o : Oper} {a : Act} {Q : Exit → Act → World → Prop} (hgd : o.guard = none) (s x : Operand) (t : TypeId)
    (ho : o.op = .call { callee := .builtin .append, args := #[s, x], argTypes := #[t, t] })
    (base : Nat) (e : TypeId) (i : TypeInfo) (z : Value) (size bytes : Nat) (ht : P.underlying t = some (.slice e)) (hi : P.info? e = some i) (hz : i.zero = some z)
    (hsize : i.size = size) (hby : i.bytes = bytes) (hzs : z.cells.size = size) (hsz : 0 < size)
    (v : Value) (n : Nat) (xs : List Value) (hs : a.eval s = v) (hown : w.ownsRow base e size v n xs)
    (xa : Option Addr) (m c : Nat) (news : List Value) (hx : a.eval x = .slice xa m c) (hl : news.length = m * size) (hsrc : m = 0 ∨ ∃ ad, xa = some ad ∧ ∀ j u, news[j]? = some u → w.cell? (ad.add j) = some u) (h1 : ∀ u ∈ news, u.oneCell' = true)
    (h63 : n + m ≤ maxLen) (hbytes : (n + m) * bytes ≤ 140737488355328) (hbase : base ≤ w.heap.size)
    (h : ∀ v' w', w'.ownsRow base e size v' (n + m) (xs ++ news) → w.grownBy w' v.ownBlock → (v'.ownBlock = v.ownBlock ∨ v'.ownBlock = some w.heap.size) → wpList P ops Q rest (a.put o.dst v') w') : wpList P ops Q (o :: rest) a w :=
  wpList_plain hgd fun K hK => by
    obtain ⟨v', w', hr, h2, h3, h4⟩ := run_append_w (P := P) w t o.type base e i z size bytes ht hi hz hsize hby hzs hsz v n xs hown xa m c news hl hsrc h1 h63 hbytes hbase
    unfold Oper.wp execOp
    simp only [ho, resolve, invoke, builtin, Sem.run_bind, Sem.run_pure, Result.andThen_ok, List.map_toArray, List.map_cons, List.map_nil, hs, hx, hr]
    exact hK _ _ (h v' w' h2 h3 h4)
end

end Go.Proofs.YtajkkinolpkfmaaGreatDoor

/-
  The document's answers for package op: Name, Good, Of, Ends.
  Conditions: as each states.
-/
namespace Go.Proofs.YtajkkinolpkfmaaGreatDoor
set_option linter.unusedVariables false
set_option linter.unusedSimpArgs false
open Go.ChangeShapes Go.WideShapes Go.ChangeAt Go.RowKit
set_option maxRecDepth 100000

theorem refName_any (i : Int) (w : World) :
    Calls Tryz.prog 77 #[.int .i64 i] w fun e w' => e = .returned (.string (nmOf i)) ∧ w = w' := by
  go_enter Tryz.func77, Tryz.ntmps77
  go_wp2
  all_goals
    go_ret
    refine ⟨ret_str ?_, rfl⟩
    first
    | (have h := ‹(i == _) = true›; simp only [beq_iff_eq] at h; subst h; rfl)
    | (refine (nmOf_out i ?_).symm; simp only [beq_eq_false_iff_ne, ne_eq] at *; omega)

def inB (v lo hi : Int) : Bool := decide (lo ≤ v ∧ v ≤ hi)
theorem inB_eq (v lo hi : Int) : inB v lo hi = (decide (lo ≤ v) && decide (v ≤ hi)) := by unfold inB; by_cases h : lo ≤ v <;> by_cases k : v ≤ hi <;> simp [h, k]

theorem in_any (v lo hi : Int) (w : World) :
    Calls Tryz.prog 76 #[.int .i64 v, .int .i64 lo, .int .i64 hi] w fun e w' => e = .returned (.bool (inB v lo hi)) ∧ w = w' := by
  have E := Lib.hid (inB_eq v lo hi)
  by_cases c1 : lo ≤ v
  · go_enter Tryz.func76, Tryz.ntmps76
    go_wp2
    go_ret
    exact ⟨ret_bool (by rw [E.out]; simp [c1]), rfl⟩
  · go_enter Tryz.func76, Tryz.ntmps76
    go_wp2
    go_ret
    exact ⟨ret_bool (by rw [E.out]; simp; intro h; omega), rfl⟩

theorem refGood_0 (a b : Int) (w : World) :
    Calls Tryz.prog 45 #[.agg #[.int .i64 0, .int .i64 a, .int .i64 b]] w fun e w' => e = .returned (.bool (opGood 0 a b)) ∧ Below w.heap.size w w' := by
  have E := Lib.hid (show ∀ b, opGood 0 a b = (inB a (-4611686018427387904) 4611686018427387903 && inB b 0 0) from fun b => by kernel_rfl)
  go_enter Tryz.func45, Tryz.ntmps45
  go_wp2_with (first | (go_at_call 76; refine (in_any _ _ _ _).mono ?_; rintro e w' ⟨rfl, rfl⟩) | (go_at_call 77; refine (refName_any _ _).mono ?_; rintro e w' ⟨rfl, rfl⟩))
  all_goals
    go_ret
    refine ⟨ret_bool ?_, (Below.refl _ _).alloc (Nat.le_refl _) _⟩
    rw [E.out, Bool.eq_iff_iff]
    simp only [inB, Bool.and_eq_true, decide_eq_true_eq, beq_iff_eq, Bool.false_eq_true, false_iff, true_iff, iff_true, iff_false] at *
    try omega

theorem refGood_1 (a b : Int) (w : World) :
    Calls Tryz.prog 45 #[.agg #[.int .i64 1, .int .i64 a, .int .i64 b]] w fun e w' => e = .returned (.bool (opGood 1 a b)) ∧ Below w.heap.size w w' := by
  have E := Lib.hid (show ∀ b, opGood 1 a b = (inB a 0 39 && inB b 0 0) from fun b => by kernel_rfl)
  go_enter Tryz.func45, Tryz.ntmps45
  go_wp2_with (first | (go_at_call 76; refine (in_any _ _ _ _).mono ?_; rintro e w' ⟨rfl, rfl⟩) | (go_at_call 77; refine (refName_any _ _).mono ?_; rintro e w' ⟨rfl, rfl⟩))
  all_goals
    go_ret
    refine ⟨ret_bool ?_, (Below.refl _ _).alloc (Nat.le_refl _) _⟩
    rw [E.out, Bool.eq_iff_iff]
    simp only [inB, Bool.and_eq_true, decide_eq_true_eq, beq_iff_eq, Bool.false_eq_true, false_iff, true_iff, iff_true, iff_false] at *
    try omega

theorem refGood_2 (a b : Int) (w : World) :
    Calls Tryz.prog 45 #[.agg #[.int .i64 2, .int .i64 a, .int .i64 b]] w fun e w' => e = .returned (.bool (opGood 2 a b)) ∧ Below w.heap.size w w' := by
  have E := Lib.hid (show ∀ b, opGood 2 a b = (inB a 0 59 && inB b 0 0) from fun b => by kernel_rfl)
  go_enter Tryz.func45, Tryz.ntmps45
  go_wp2_with (first | (go_at_call 76; refine (in_any _ _ _ _).mono ?_; rintro e w' ⟨rfl, rfl⟩) | (go_at_call 77; refine (refName_any _ _).mono ?_; rintro e w' ⟨rfl, rfl⟩))
  all_goals
    go_ret
    refine ⟨ret_bool ?_, (Below.refl _ _).alloc (Nat.le_refl _) _⟩
    rw [E.out, Bool.eq_iff_iff]
    simp only [inB, Bool.and_eq_true, decide_eq_true_eq, beq_iff_eq, Bool.false_eq_true, false_iff, true_iff, iff_true, iff_false] at *
    try omega

theorem refGood_3 (a b : Int) (w : World) :
    Calls Tryz.prog 45 #[.agg #[.int .i64 3, .int .i64 a, .int .i64 b]] w fun e w' => e = .returned (.bool (opGood 3 a b)) ∧ Below w.heap.size w w' := by
  have E := Lib.hid (show ∀ b, opGood 3 a b = (inB a 0 59 && inB b 0 0) from fun b => by kernel_rfl)
  go_enter Tryz.func45, Tryz.ntmps45
  go_wp2_with (first | (go_at_call 76; refine (in_any _ _ _ _).mono ?_; rintro e w' ⟨rfl, rfl⟩) | (go_at_call 77; refine (refName_any _ _).mono ?_; rintro e w' ⟨rfl, rfl⟩))
  all_goals
    go_ret
    refine ⟨ret_bool ?_, (Below.refl _ _).alloc (Nat.le_refl _) _⟩
    rw [E.out, Bool.eq_iff_iff]
    simp only [inB, Bool.and_eq_true, decide_eq_true_eq, beq_iff_eq, Bool.false_eq_true, false_iff, true_iff, iff_true, iff_false] at *
    try omega

theorem refGood_4 (a b : Int) (w : World) :
    Calls Tryz.prog 45 #[.agg #[.int .i64 4, .int .i64 a, .int .i64 b]] w fun e w' => e = .returned (.bool (opGood 4 a b)) ∧ Below w.heap.size w w' := by
  have E := Lib.hid (show ∀ b, opGood 4 a b = (inB a 0 29 && inB b 0 0) from fun b => by kernel_rfl)
  go_enter Tryz.func45, Tryz.ntmps45
  go_wp2_with (first | (go_at_call 76; refine (in_any _ _ _ _).mono ?_; rintro e w' ⟨rfl, rfl⟩) | (go_at_call 77; refine (refName_any _ _).mono ?_; rintro e w' ⟨rfl, rfl⟩))
  all_goals
    go_ret
    refine ⟨ret_bool ?_, (Below.refl _ _).alloc (Nat.le_refl _) _⟩
    rw [E.out, Bool.eq_iff_iff]
    simp only [inB, Bool.and_eq_true, decide_eq_true_eq, beq_iff_eq, Bool.false_eq_true, false_iff, true_iff, iff_true, iff_false] at *
    try omega

theorem refGood_6 (a b : Int) (w : World) :
    Calls Tryz.prog 45 #[.agg #[.int .i64 6, .int .i64 a, .int .i64 b]] w fun e w' => e = .returned (.bool (opGood 6 a b)) ∧ Below w.heap.size w w' := by
  have E := Lib.hid (show ∀ b, opGood 6 a b = (inB a 1 59 && inB b 0 30) from fun b => by kernel_rfl)
  go_enter Tryz.func45, Tryz.ntmps45
  go_wp2_with (first | (go_at_call 76; refine (in_any _ _ _ _).mono ?_; rintro e w' ⟨rfl, rfl⟩) | (go_at_call 77; refine (refName_any _ _).mono ?_; rintro e w' ⟨rfl, rfl⟩))
  all_goals
    go_ret
    refine ⟨ret_bool ?_, (Below.refl _ _).alloc (Nat.le_refl _) _⟩
    rw [E.out, Bool.eq_iff_iff]
    simp only [inB, Bool.and_eq_true, decide_eq_true_eq, beq_iff_eq, Bool.false_eq_true, false_iff, true_iff, iff_true, iff_false] at *
    try omega

theorem refGood_10 (a b : Int) (w : World) :
    Calls Tryz.prog 45 #[.agg #[.int .i64 10, .int .i64 a, .int .i64 b]] w fun e w' => e = .returned (.bool (opGood 10 a b)) ∧ Below w.heap.size w w' := by
  have E := Lib.hid (show ∀ b, opGood 10 a b = (inB a 0 599 && inB b 0 0) from fun b => by kernel_rfl)
  go_enter Tryz.func45, Tryz.ntmps45
  go_wp2_with (first | (go_at_call 76; refine (in_any _ _ _ _).mono ?_; rintro e w' ⟨rfl, rfl⟩) | (go_at_call 77; refine (refName_any _ _).mono ?_; rintro e w' ⟨rfl, rfl⟩))
  all_goals
    go_ret
    refine ⟨ret_bool ?_, (Below.refl _ _).alloc (Nat.le_refl _) _⟩
    rw [E.out, Bool.eq_iff_iff]
    simp only [inB, Bool.and_eq_true, decide_eq_true_eq, beq_iff_eq, Bool.false_eq_true, false_iff, true_iff, iff_true, iff_false] at *
    try omega

theorem refGood_11 (a b : Int) (w : World) :
    Calls Tryz.prog 45 #[.agg #[.int .i64 11, .int .i64 a, .int .i64 b]] w fun e w' => e = .returned (.bool (opGood 11 a b)) ∧ Below w.heap.size w w' := by
  have E := Lib.hid (show ∀ b, opGood 11 a b = (inB a 0 599 && inB b 0 0) from fun b => by kernel_rfl)
  go_enter Tryz.func45, Tryz.ntmps45
  go_wp2_with (first | (go_at_call 76; refine (in_any _ _ _ _).mono ?_; rintro e w' ⟨rfl, rfl⟩) | (go_at_call 77; refine (refName_any _ _).mono ?_; rintro e w' ⟨rfl, rfl⟩))
  all_goals
    go_ret
    refine ⟨ret_bool ?_, (Below.refl _ _).alloc (Nat.le_refl _) _⟩
    rw [E.out, Bool.eq_iff_iff]
    simp only [inB, Bool.and_eq_true, decide_eq_true_eq, beq_iff_eq, Bool.false_eq_true, false_iff, true_iff, iff_true, iff_false] at *
    try omega

theorem refGood_19 (a b : Int) (w : World) :
    Calls Tryz.prog 45 #[.agg #[.int .i64 19, .int .i64 a, .int .i64 b]] w fun e w' => e = .returned (.bool (opGood 19 a b)) ∧ Below w.heap.size w w' := by
  have E := Lib.hid (show ∀ b, opGood 19 a b = (inB a 0 255 && inB b 1 8) from fun b => by kernel_rfl)
  go_enter Tryz.func45, Tryz.ntmps45
  go_wp2_with (first | (go_at_call 76; refine (in_any _ _ _ _).mono ?_; rintro e w' ⟨rfl, rfl⟩) | (go_at_call 77; refine (refName_any _ _).mono ?_; rintro e w' ⟨rfl, rfl⟩))
  all_goals
    go_ret
    refine ⟨ret_bool ?_, (Below.refl _ _).alloc (Nat.le_refl _) _⟩
    rw [E.out, Bool.eq_iff_iff]
    simp only [inB, Bool.and_eq_true, decide_eq_true_eq, beq_iff_eq, Bool.false_eq_true, false_iff, true_iff, iff_true, iff_false] at *
    try omega

theorem refGood_20 (a b : Int) (w : World) :
    Calls Tryz.prog 45 #[.agg #[.int .i64 20, .int .i64 a, .int .i64 b]] w fun e w' => e = .returned (.bool (opGood 20 a b)) ∧ Below w.heap.size w w' := by
  have E := Lib.hid (show ∀ b, opGood 20 a b = (inB a 0 7 && inB b 0 0) from fun b => by kernel_rfl)
  go_enter Tryz.func45, Tryz.ntmps45
  go_wp2_with (first | (go_at_call 76; refine (in_any _ _ _ _).mono ?_; rintro e w' ⟨rfl, rfl⟩) | (go_at_call 77; refine (refName_any _ _).mono ?_; rintro e w' ⟨rfl, rfl⟩))
  all_goals
    go_ret
    refine ⟨ret_bool ?_, (Below.refl _ _).alloc (Nat.le_refl _) _⟩
    rw [E.out, Bool.eq_iff_iff]
    simp only [inB, Bool.and_eq_true, decide_eq_true_eq, beq_iff_eq, Bool.false_eq_true, false_iff, true_iff, iff_true, iff_false] at *
    try omega

theorem refGood_21 (a b : Int) (w : World) :
    Calls Tryz.prog 45 #[.agg #[.int .i64 21, .int .i64 a, .int .i64 b]] w fun e w' => e = .returned (.bool (opGood 21 a b)) ∧ Below w.heap.size w w' := by
  have E := Lib.hid (show ∀ b, opGood 21 a b = (inB a (-4611686018427387904) 4611686018427387903 && inB b 0 0) from fun b => by kernel_rfl)
  go_enter Tryz.func45, Tryz.ntmps45
  go_wp2_with (first | (go_at_call 76; refine (in_any _ _ _ _).mono ?_; rintro e w' ⟨rfl, rfl⟩) | (go_at_call 77; refine (refName_any _ _).mono ?_; rintro e w' ⟨rfl, rfl⟩))
  all_goals
    go_ret
    refine ⟨ret_bool ?_, (Below.refl _ _).alloc (Nat.le_refl _) _⟩
    rw [E.out, Bool.eq_iff_iff]
    simp only [inB, Bool.and_eq_true, decide_eq_true_eq, beq_iff_eq, Bool.false_eq_true, false_iff, true_iff, iff_true, iff_false] at *
    try omega

theorem refGood_22 (a b : Int) (w : World) :
    Calls Tryz.prog 45 #[.agg #[.int .i64 22, .int .i64 a, .int .i64 b]] w fun e w' => e = .returned (.bool (opGood 22 a b)) ∧ Below w.heap.size w w' := by
  have E := Lib.hid (show ∀ b, opGood 22 a b = (inB a 0 255 && inB b 0 0) from fun b => by kernel_rfl)
  go_enter Tryz.func45, Tryz.ntmps45
  go_wp2_with (first | (go_at_call 76; refine (in_any _ _ _ _).mono ?_; rintro e w' ⟨rfl, rfl⟩) | (go_at_call 77; refine (refName_any _ _).mono ?_; rintro e w' ⟨rfl, rfl⟩))
  all_goals
    go_ret
    refine ⟨ret_bool ?_, (Below.refl _ _).alloc (Nat.le_refl _) _⟩
    rw [E.out, Bool.eq_iff_iff]
    simp only [inB, Bool.and_eq_true, decide_eq_true_eq, beq_iff_eq, Bool.false_eq_true, false_iff, true_iff, iff_true, iff_false] at *
    try omega

theorem refGood_33 (a b : Int) (w : World) :
    Calls Tryz.prog 45 #[.agg #[.int .i64 33, .int .i64 a, .int .i64 b]] w fun e w' => e = .returned (.bool (opGood 33 a b)) ∧ Below w.heap.size w w' := by
  have E := Lib.hid (show ∀ b, opGood 33 a b = (inB a 0 599 && inB b 0 0) from fun b => by kernel_rfl)
  go_enter Tryz.func45, Tryz.ntmps45
  go_wp2_with (first | (go_at_call 76; refine (in_any _ _ _ _).mono ?_; rintro e w' ⟨rfl, rfl⟩) | (go_at_call 77; refine (refName_any _ _).mono ?_; rintro e w' ⟨rfl, rfl⟩))
  all_goals
    go_ret
    refine ⟨ret_bool ?_, (Below.refl _ _).alloc (Nat.le_refl _) _⟩
    rw [E.out, Bool.eq_iff_iff]
    simp only [inB, Bool.and_eq_true, decide_eq_true_eq, beq_iff_eq, Bool.false_eq_true, false_iff, true_iff, iff_true, iff_false] at *
    try omega

theorem host_good (a b : Int) : opGood 36 a b = (inB a 0 3 && (inB b 0 0 || (decide (a = 3) && inB b 0 39))) := by
  have e : opGood 36 a b = (inB a 0 3 && inB b (spL (hoT.getD a.toNat rowZ).2.2.1) (spH (hoT.getD a.toNat rowZ).2.2.1)) := rfl
  rw [e]
  by_cases h : 0 ≤ a ∧ a ≤ 3
  · obtain rfl | rfl | rfl | rfl : a = 0 ∨ a = 1 ∨ a = 2 ∨ a = 3 := by omega
    · rw [Bool.eq_iff_iff]; simp [hoT, spT, spL, spH, inB]
    · rw [Bool.eq_iff_iff]; simp [hoT, spT, spL, spH, inB]
    · rw [Bool.eq_iff_iff]; simp [hoT, spT, spL, spH, inB]
    · rw [Bool.eq_iff_iff]; simp [hoT, spT, spL, spH, inB]; omega
  · have : inB a 0 3 = false := decide_eq_false h
    rw [this]; rfl

theorem refGood_36 (a b : Int) (w : World) :
    Calls Tryz.prog 45 #[.agg #[.int .i64 36, .int .i64 a, .int .i64 b]] w fun e w' => e = .returned (.bool (opGood 36 a b)) ∧ Below w.heap.size w w' := by
  have E := Lib.hid (host_good a b)
  go_enter Tryz.func45, Tryz.ntmps45
  go_wp2_with (first | (go_at_call 76; refine (in_any _ _ _ _).mono ?_; rintro e w' ⟨rfl, rfl⟩) | (go_at_call 77; refine (refName_any _ _).mono ?_; rintro e w' ⟨rfl, rfl⟩))
  all_goals
    go_ret
    refine ⟨ret_bool ?_, (Below.refl _ _).alloc (Nat.le_refl _) _⟩
    rw [E.out, Bool.eq_iff_iff]
    simp only [inB, Bool.and_eq_true, Bool.or_eq_true, decide_eq_true_eq, beq_iff_eq, Bool.false_eq_true, false_iff, true_iff, iff_true, iff_false] at *
    try omega

def plainOp (o : Int) : Bool := (o != 0) && (o != 1) && (o != 2) && (o != 3) && (o != 4) && (o != 6) && (o != 10) && (o != 11) && (o != 19) && (o != 20) && (o != 21) && (o != 22) && (o != 33) && (o != 36)
theorem plain_good (o a b : Int) (h0 : 0 ≤ o) (h1 : o < 38) (h : plainOp o = true) : opGood o a b = (inB a 0 0 && inB b 0 0) := by
  obtain ⟨k, rfl⟩ := Int.eq_ofNat_of_zero_le h0
  have hk : k < 38 := by omega
  clear h0 h1
  have hall : ∀ k : Nat, k < 38 → plainOp k = true → opA k = 0 ∧ opB k = 0 ∧ ((k : Int) = 36) = False := by decide
  obtain ⟨e1, e2, e3⟩ := hall k hk h
  have e4 : (rowAtP (k : Int) a).2.2.1 = 0 := by
    unfold rowAtP
    rw [if_neg (by rw [e3]; exact id)]
    exact e2
  unfold opGood
  rw [e4]
  have : decide (0 ≤ (k : Int) ∧ (k : Int) < 38) = true := decide_eq_true ⟨by omega, by omega⟩
  rw [this, Bool.true_and, show opA (k : Int).toNat = 0 from e1]
  rfl
theorem plain_out (o a b : Int) (h : o < 0 ∨ 38 ≤ o) : opGood o a b = false := by
  unfold opGood
  rw [show decide (0 ≤ o ∧ o < 38) = false from decide_eq_false (by omega)]
  rfl
theorem nm_toList (k : Nat) (h : k < 38) : ¬ (opNm k).toList = [] := by
  have hall : ∀ k : Nat, k < 38 → (opT.getD k ([], 0, 0, 0, 0)).1 ≠ [] := by decide
  intro e
  apply hall k h
  rw [ByteArray.toList_eq] at e
  exact e

theorem refGood_plain (o a b : Int) (w : World) (h : plainOp o = true) :
    Calls Tryz.prog 45 #[.agg #[.int .i64 o, .int .i64 a, .int .i64 b]] w fun e w' => e = .returned (.bool (opGood o a b)) ∧ Below w.heap.size w w' := by
  have h' := h
  simp only [plainOp, Bool.and_eq_true, bne_iff_ne, ne_eq] at h'
  obtain ⟨⟨⟨⟨⟨⟨⟨⟨⟨⟨⟨⟨⟨n0, n1⟩, n2⟩, n3⟩, n4⟩, n6⟩, n10⟩, n11⟩, n19⟩, n20⟩, n21⟩, n22⟩, n33⟩, n36⟩ := h'
  by_cases c : 0 ≤ o ∧ o < 38
  · have E := Lib.hid (show ∀ b, opGood o a b = _ from fun b => plain_good o a b c.1 c.2 h)
    have e1 : ¬ (nmOf o).toList = [] := by
      obtain ⟨k, rfl⟩ := Int.eq_ofNat_of_zero_le c.1
      rw [nmOf_in k (by omega)]
      exact nm_toList k (by omega)
    have e2 : (nmOf o).toList.isEmpty = false := by simpa using e1
    clear c h
    go_enter Tryz.func45, Tryz.ntmps45
    go_wp2_with (first | (go_at_call 76; refine (in_any _ _ _ _).mono ?_; rintro e w' ⟨rfl, rfl⟩) | (go_at_call 77; refine (refName_any _ _).mono ?_; rintro e w' ⟨rfl, rfl⟩))
    all_goals
      go_ret
      refine ⟨ret_bool ?_, (Below.refl _ _).alloc (Nat.le_refl _) _⟩
      rw [E.out, Bool.eq_iff_iff]
      simp only [inB, Bool.and_eq_true, decide_eq_true_eq, beq_iff_eq, Bool.false_eq_true, false_iff, true_iff, iff_true, iff_false] at *
      try omega
  · have E := Lib.hid (plain_out o a b (by omega))
    have e1 : (nmOf o).toList = [] := by rw [nmOf_out o (by omega), ByteArray.toList_eq]
    have e2 : (nmOf o).toList.isEmpty = true := by rw [e1]; rfl
    clear c h
    go_enter Tryz.func45, Tryz.ntmps45
    go_wp2_with (first | (go_at_call 76; refine (in_any _ _ _ _).mono ?_; rintro e w' ⟨rfl, rfl⟩) | (go_at_call 77; refine (refName_any _ _).mono ?_; rintro e w' ⟨rfl, rfl⟩))
    go_ret
    exact ⟨ret_bool E.out.symm, (Below.refl _ _).alloc (Nat.le_refl _) _⟩

theorem refGood_any (o a b : Int) (w : World) :
    Calls Tryz.prog 45 #[.agg #[.int .i64 o, .int .i64 a, .int .i64 b]] w fun e w' => e = .returned (.bool (opGood o a b)) ∧ Below w.heap.size w w' := by
  by_cases h0 : o = 0
  · subst h0; exact refGood_0 a b w
  by_cases h1 : o = 1
  · subst h1; exact refGood_1 a b w
  by_cases h2 : o = 2
  · subst h2; exact refGood_2 a b w
  by_cases h3 : o = 3
  · subst h3; exact refGood_3 a b w
  by_cases h4 : o = 4
  · subst h4; exact refGood_4 a b w
  by_cases h6 : o = 6
  · subst h6; exact refGood_6 a b w
  by_cases h10 : o = 10
  · subst h10; exact refGood_10 a b w
  by_cases h11 : o = 11
  · subst h11; exact refGood_11 a b w
  by_cases h19 : o = 19
  · subst h19; exact refGood_19 a b w
  by_cases h20 : o = 20
  · subst h20; exact refGood_20 a b w
  by_cases h21 : o = 21
  · subst h21; exact refGood_21 a b w
  by_cases h22 : o = 22
  · subst h22; exact refGood_22 a b w
  by_cases h33 : o = 33
  · subst h33; exact refGood_33 a b w
  by_cases h36 : o = 36
  · subst h36; exact refGood_36 a b w
  exact refGood_plain o a b w (by simp [plainOp, h0, h1, h2, h3, h4, h6, h10, h11, h19, h20, h21, h22, h33, h36])

def opEnds (o : Int) : Bool := o == 8 || o == 9 || o == 10 || o == 35
end Go.Proofs.YtajkkinolpkfmaaGreatDoor

/-
  The document's answer on what an instruction takes and leaves.
  Conditions: as each states.
-/
namespace Go.Proofs.YtajkkinolpkfmaaGreatDoor
set_option linter.unusedVariables false
set_option linter.unusedSimpArgs false
open Go.ChangeShapes Go.WideShapes Go.ChangeAt Go.RowKit
set_option maxRecDepth 100000

def tkP (o a b : Int) : Int := if (rowAtP o a).2.2.2.1 = -1 then b else (rowAtP o a).2.2.2.1
def lvP (o a : Int) : Int := (rowAtP o a).2.2.2.2
def OfPost (o a b : Int) (w : World) (e : Ending) (w' : World) : Prop :=
  ∃ x y : Int, e = .returned (.agg #[.int .i64 x, .int .i64 y]) ∧ (opGood o a b = true → x = tkP o a b ∧ y = lvP o a) ∧ Below w.heap.size w w'

def twoOp (k : Nat) : Bool := [7, 12, 13, 14, 15, 16, 17, 18, 23, 24, 25, 28, 30, 32].contains k
theorem two_op : ∀ k : Nat, k < 38 → twoOp k = true → opTk k = 2 ∧ opLv k = 1 ∧ k ≠ 36 := by decide
theorem two_all : ∀ k : Nat, k < 38 → twoOp k = true ∨ [0, 1, 2, 3, 4, 5, 6, 8, 9, 10, 11, 19, 20, 21, 22, 26, 27, 29, 31, 33, 34, 35, 36, 37].contains k = true := by decide

theorem two_of (o a b : Int) (hn : ∀ k ∈ [0, 1, 2, 3, 4, 5, 6, 8, 9, 10, 11, 19, 20, 21, 22, 26, 27, 29, 31, 33, 34, 35, 36, 37], (o == Int.ofNat k) = false) (h : opGood o a b = true) : (2 : Int) = tkP o a b ∧ (1 : Int) = lvP o a := by
  have hr : 0 ≤ o ∧ o < 38 := by
    unfold opGood at h
    simp only [Bool.and_eq_true, decide_eq_true_eq] at h
    exact h.1.1
  obtain ⟨k, rfl⟩ := Int.eq_ofNat_of_zero_le hr.1
  have hk : k < 38 := by omega
  rcases two_all k hk with t | t
  · obtain ⟨e1, e2, e3⟩ := two_op k hk t
    have e4 : rowAtP (k : Int) a = opT.getD k rowZ := by
      unfold rowAtP
      rw [if_neg (by omega)]
      rfl
    unfold tkP lvP
    rw [e4, show (opT.getD k rowZ).2.2.2.1 = 2 from e1, show (opT.getD k rowZ).2.2.2.2 = 1 from e2]
    exact ⟨rfl, rfl⟩
  · have := hn k (List.contains_iff_mem.1 t)
    simp at this

theorem host_of (a b : Int) (h2 : ¬ a = 2) (h3 : ¬ a = 3) (h : opGood 36 a b = true) : (1 : Int) = tkP 36 a b ∧ (1 : Int) = lvP 36 a := by
  rw [host_good] at h
  simp only [Bool.and_eq_true, inB, decide_eq_true_eq] at h
  obtain rfl | rfl : a = 0 ∨ a = 1 := by omega
  · exact ⟨rfl, rfl⟩
  · exact ⟨rfl, rfl⟩

end Go.Proofs.YtajkkinolpkfmaaGreatDoor

/-
  Package op: the row of an instruction, whether it may be, what it takes and leaves, whether it ends.
  Conditions: as each states.
-/
namespace Go.Proofs.YtajkkinolpkfmaaGreatDoor
set_option linter.unusedVariables false
set_option linter.unusedSimpArgs false
open Go.ChangeShapes Go.WideShapes Go.ChangeAt Go.RowKit
set_option maxRecDepth 100000

def RowPost (o a b : Int) (w : World) (e : Ending) (w' : World) : Prop := e = .returned (.tuple #[rowV (rowP o a b), .bool (opGood o a b)]) ∧ Below w.heap.size w w'

theorem row_no {o a b : Int} {w w' : World} (h : opGood o a b = false) (hb : Below w.heap.size w w') :
    RowPost o a b w (.returned (.tuple #[.agg #[.string ⟨#[]⟩, .int .i64 0, .int .i64 0, .int .i64 0, .int .i64 0], .bool false])) w' := by
  refine ⟨?_, hb⟩
  rw [show rowP o a b = rowZ by unfold rowP; rw [h]; rfl, h]
  rfl
theorem row_yes {o a b : Int} {w w' : World} {r : RowV} (h : opGood o a b = true) (hr : rowAtP o a = r) (hb : Below w.heap.size w w') :
    RowPost o a b w (.returned (.tuple #[rowV r, .bool true])) w' := by
  refine ⟨?_, hb⟩
  rw [show rowP o a b = r by unfold rowP; rw [h, if_pos rfl, hr], h]

set_option maxHeartbeats 1000000 in
theorem rowOf_any (o a b : Int) (w : World) (T : OpTab w) :
    Calls Tryz.prog 127 #[.agg #[.int .i64 o, .int .i64 a, .int .i64 b]] w (RowPost o a b w) := by
  by_cases c1 : 0 ≤ o
  · by_cases c2 : o < 38
    · obtain ⟨k, rfl⟩ := Int.eq_ofNat_of_zero_le c1
      have hk : k < 38 := by omega
      have l0 := T.nm k hk
      have l1 := T.a k hk
      have l2 := T.b k hk
      have l3 := T.tk k hk
      have l4 := T.lv k hk
      have hA : opA k < 13 := by
        have : ∀ k : Nat, k < 38 → opA k < 13 := by decide
        exact this k hk
      have hB : opB k < 13 := by
        have : ∀ k : Nat, k < 38 → opB k < 13 := by decide
        exact this k hk
      have hsz := T.size
      have hy0 : 0 < w.heap.size := by omega
      have hy1 : 0 < w.heap.size + 1 := by omega
      have hy2 : 0 < w.heap.size + 1 + 1 := by omega
      have hy3 : 1 < w.heap.size := by omega
      have hy4 : 1 < w.heap.size + 1 := by omega
      have hy5 : 1 < w.heap.size + 1 + 1 := by omega
      have hy6 : 2 < w.heap.size := by omega
      have hy7 : 2 < w.heap.size + 1 := by omega
      have hy8 : 2 < w.heap.size + 1 + 1 := by omega
      have G := good_at k a b hk
      by_cases g1 : opHas (opA k) a = true
      · rw [g1, Bool.true_and] at G
        by_cases g3 : (k : Int) = 36
        · obtain rfl : k = 36 := by omega
          have ha : 0 ≤ a ∧ a ≤ 3 := by simpa [opHas, opA, spL, spH, opT, spT] using g1
          obtain ⟨i, rfl⟩ := Int.eq_ofNat_of_zero_le ha.1
          have hi : i < 4 := by omega
          have m0 := T.hnm i hi
          have m1 := T.ha i hi
          have m2 := T.hb i hi
          have m3 := T.htk i hi
          have m4 := T.hlv i hi
          have hB' : hoB i < 13 := by
            have : ∀ k : Nat, k < 4 → hoB k < 13 := by decide
            exact this i hi
          have R : rowAtP ((36 : Nat) : Int) (i : Int) = ([], 0, hoB i, hoTk i, 1) := by
            have : ∀ i : Nat, i < 4 → hoT.getD i rowZ = ([], 0, hoB i, hoTk i, 1) := by decide
            exact this i hi
          rw [R] at G
          have RR := Lib.hid R
          clear R ha
          by_cases g4 : opHas (hoB i) b = true
          · rw [g4] at G
            have GG := Lib.hid G
            clear G
            go_enter Tryz.func127, Tryz.ntmps127
            go_wp2_with fail
            refine (has_any _ _ _ (T.below (by repeat (first | exact Below.refl _ _ | refine down_alloc ?_ _ | refine down_drew ?_ | refine down_set ?_ (by simp) _))) hA).mono ?_
            rintro e w' ⟨rfl, rfl⟩
            go_wp2_with fail
            refine (has_any _ _ _ (T.below (by repeat (first | exact Below.refl _ _ | refine down_alloc ?_ _ | refine down_drew ?_ | refine down_set ?_ (by simp) _))) hB').mono ?_
            rintro e w' ⟨rfl, rfl⟩
            go_wp2_with fail
            exact bodyPost_ret (v := .tuple #[rowV ([], 0, hoB i, hoTk i, 1), .bool true]) (by simp [results, Tryz.results127, go_sem, rowV, hy0, hy1, hy2, hy3, hy4, hy5, hy6, hy7, hy8]) rfl (row_yes GG.out RR.out (by repeat (first | exact Below.refl _ _ | refine down_alloc ?_ _ | refine down_drew ?_ | refine down_set ?_ (by simp) _)))
          · have g4' : opHas (hoB i) b = false := by simpa using g4
            rw [g4'] at G
            have GG := Lib.hid G
            clear G g4
            go_enter Tryz.func127, Tryz.ntmps127
            go_wp2_with fail
            refine (has_any _ _ _ (T.below (by repeat (first | exact Below.refl _ _ | refine down_alloc ?_ _ | refine down_drew ?_ | refine down_set ?_ (by simp) _))) hA).mono ?_
            rintro e w' ⟨rfl, rfl⟩
            go_wp2_with fail
            refine (has_any _ _ _ (T.below (by repeat (first | exact Below.refl _ _ | refine down_alloc ?_ _ | refine down_drew ?_ | refine down_set ?_ (by simp) _))) hB').mono ?_
            rintro e w' ⟨rfl, rfl⟩
            go_wp2_with fail
            exact bodyPost_ret (v := .tuple #[.agg #[.string ⟨#[]⟩, .int .i64 0, .int .i64 0, .int .i64 0, .int .i64 0], .bool false]) (by simp [results, Tryz.results127, go_sem, hy0, hy1, hy2, hy3, hy4, hy5, hy6, hy7, hy8]) rfl (row_no GG.out (by repeat (first | exact Below.refl _ _ | refine down_alloc ?_ _ | refine down_drew ?_ | refine down_set ?_ (by simp) _)))
        · have R := row_plain k a g3
          have R2 : opT.getD k rowZ = ((opT.getD k rowZ).1, opA k, opB k, opTk k, opLv k) := rfl
          rw [R2] at R
          rw [R] at G
          have RR := Lib.hid R
          clear R R2
          by_cases g4 : opHas (opB k) b = true
          · rw [g4] at G
            have GG := Lib.hid G
            clear G
            go_enter Tryz.func127, Tryz.ntmps127
            go_wp2_with fail
            refine (has_any _ _ _ (T.below (by repeat (first | exact Below.refl _ _ | refine down_alloc ?_ _ | refine down_drew ?_ | refine down_set ?_ (by simp) _))) hA).mono ?_
            rintro e w' ⟨rfl, rfl⟩
            go_wp2_with fail
            refine (has_any _ _ _ (T.below (by repeat (first | exact Below.refl _ _ | refine down_alloc ?_ _ | refine down_drew ?_ | refine down_set ?_ (by simp) _))) hB).mono ?_
            rintro e w' ⟨rfl, rfl⟩
            go_wp2_with fail
            exact bodyPost_ret (v := .tuple #[rowV ((opT.getD k rowZ).1, opA k, opB k, opTk k, opLv k), .bool true]) (by simp [results, Tryz.results127, go_sem, rowV, opNm, rowZ, hy0, hy1, hy2, hy3, hy4, hy5, hy6, hy7, hy8]) rfl (row_yes GG.out RR.out (by repeat (first | exact Below.refl _ _ | refine down_alloc ?_ _ | refine down_drew ?_ | refine down_set ?_ (by simp) _)))
          · have g4' : opHas (opB k) b = false := by simpa using g4
            rw [g4'] at G
            have GG := Lib.hid G
            clear G g4
            go_enter Tryz.func127, Tryz.ntmps127
            go_wp2_with fail
            refine (has_any _ _ _ (T.below (by repeat (first | exact Below.refl _ _ | refine down_alloc ?_ _ | refine down_drew ?_ | refine down_set ?_ (by simp) _))) hA).mono ?_
            rintro e w' ⟨rfl, rfl⟩
            go_wp2_with fail
            refine (has_any _ _ _ (T.below (by repeat (first | exact Below.refl _ _ | refine down_alloc ?_ _ | refine down_drew ?_ | refine down_set ?_ (by simp) _))) hB).mono ?_
            rintro e w' ⟨rfl, rfl⟩
            go_wp2_with fail
            exact bodyPost_ret (v := .tuple #[.agg #[.string ⟨#[]⟩, .int .i64 0, .int .i64 0, .int .i64 0, .int .i64 0], .bool false]) (by simp [results, Tryz.results127, go_sem, hy0, hy1, hy2, hy3, hy4, hy5, hy6, hy7, hy8]) rfl (row_no GG.out (by repeat (first | exact Below.refl _ _ | refine down_alloc ?_ _ | refine down_drew ?_ | refine down_set ?_ (by simp) _)))
      · have g1' : opHas (opA k) a = false := by simpa using g1
        rw [g1', Bool.false_and] at G
        have GG := Lib.hid G
        clear G g1
        go_enter Tryz.func127, Tryz.ntmps127
        go_wp2_with fail
        refine (has_any _ _ _ (T.below (by repeat (first | exact Below.refl _ _ | refine down_alloc ?_ _ | refine down_drew ?_ | refine down_set ?_ (by simp) _))) hA).mono ?_
        rintro e w' ⟨rfl, rfl⟩
        go_wp2_with fail
        exact bodyPost_ret (v := .tuple #[.agg #[.string ⟨#[]⟩, .int .i64 0, .int .i64 0, .int .i64 0, .int .i64 0], .bool false]) (by simp [results, Tryz.results127, go_sem]) rfl (row_no GG.out (by repeat (first | exact Below.refl _ _ | refine down_alloc ?_ _ | refine down_drew ?_ | refine down_set ?_ (by simp) _)))
    · have GG := Lib.hid (good_out o a b (by omega)).1
      go_enter Tryz.func127, Tryz.ntmps127
      go_wp2_with fail
      exact bodyPost_ret (v := .tuple #[.agg #[.string ⟨#[]⟩, .int .i64 0, .int .i64 0, .int .i64 0, .int .i64 0], .bool false]) (by simp [results, Tryz.results127, go_sem]) rfl (row_no GG.out (by repeat (first | exact Below.refl _ _ | refine down_alloc ?_ _ | refine down_drew ?_ | refine down_set ?_ (by simp) _)))
  · have GG := Lib.hid (good_out o a b (by omega)).1
    go_enter Tryz.func127, Tryz.ntmps127
    go_wp2_with fail
    exact bodyPost_ret (v := .tuple #[.agg #[.string ⟨#[]⟩, .int .i64 0, .int .i64 0, .int .i64 0, .int .i64 0], .bool false]) (by simp [results, Tryz.results127, go_sem]) rfl (row_no GG.out (by repeat (first | exact Below.refl _ _ | refine down_alloc ?_ _ | refine down_drew ?_ | refine down_set ?_ (by simp) _)))
end Go.Proofs.YtajkkinolpkfmaaGreatDoor

/-
  Package op: whether an instruction may be, what it takes and leaves, the op of a name.
  Conditions: as each states.
-/
namespace Go.Proofs.YtajkkinolpkfmaaGreatDoor
set_option linter.unusedVariables false
set_option linter.unusedSimpArgs false
open Go.ChangeShapes Go.WideShapes Go.ChangeAt Go.RowKit
set_option maxRecDepth 100000

theorem opGood_any (o a b : Int) (w : World) (T : OpTab w) :
    Calls Tryz.prog 116 #[.agg #[.int .i64 o, .int .i64 a, .int .i64 b]] w fun e w' => e = .returned (.bool (opGood o a b)) ∧ Below w.heap.size w w' := by
  go_enter Tryz.func116, Tryz.ntmps116
  go_wp2_with fail
  refine (rowOf_any _ _ _ _ (T.below (by repeat (first | exact Below.refl _ _ | refine down_alloc ?_ _)))).mono ?_
  rintro e w' ⟨rfl, hb⟩
  unfold rowV
  go_wp2_with fail
  go_ret
  exact ⟨rfl, by refine down_alloc (down_call ?_ hb) _; repeat (first | exact Below.refl _ _ | refine down_alloc ?_ _)⟩

def effT (o a b : Int) : Int := if opGood o a b = true then tkP o a b else 0
def effL (o a b : Int) : Int := if opGood o a b = true then lvP o a else 0
def EffPost (o a b : Int) (w : World) (e : Ending) (w' : World) : Prop := e = .returned (.tuple #[.int .i64 (effT o a b), .int .i64 (effL o a b), .bool (opGood o a b)]) ∧ Below w.heap.size w w'

theorem eff_row (o a b : Int) : effT o a b = (if (rowP o a b).2.2.2.1 = -1 then b else (rowP o a b).2.2.2.1) ∧ effL o a b = (rowP o a b).2.2.2.2 := by
  unfold effT effL rowP tkP lvP
  cases h : opGood o a b
  · exact ⟨rfl, rfl⟩
  · exact ⟨rfl, rfl⟩

def ofP (l : List UInt8) : Option Nat := (List.range 38).find? fun k => (opNm k).toList == l
def OfNm (s : ByteArray) (w : World) (e : Ending) (w' : World) : Prop := e = .returned (.tuple #[.int .i64 ((ofP s.toList).getD 0 : Nat), .bool (ofP s.toList).isSome]) ∧ w = w'

theorem ofP_hit (s : ByteArray) (j : Nat) (hj : j < 38) (hn : ∀ i, i < j → ((opNm i).toList == s.toList) = false) (h : ((opNm j).toList == s.toList) = true) : ofP s.toList = some j := by
  unfold ofP
  rw [List.find?_range_eq_some]
  exact ⟨h, List.mem_range.2 hj, fun i hi => by rw [hn i hi]; rfl⟩
theorem ofP_miss (s : ByteArray) (hn : ∀ i, i < 38 → ((opNm i).toList == s.toList) = false) : ofP s.toList = none := by
  unfold ofP
  rw [List.find?_range_eq_none]
  exact fun i hi => by rw [hn i hi]; rfl

theorem of_hit {s : ByteArray} {w : World} {j : Nat} (h : ofP s.toList = some j) : OfNm s w (.returned (.tuple #[.int .i64 (j : Nat), .bool true])) w := by
  refine ⟨?_, rfl⟩
  rw [h]; rfl
theorem of_miss {s : ByteArray} {w : World} (h : ofP s.toList = none) : OfNm s w (.returned (.tuple #[.int .i64 0, .bool false])) w := by
  refine ⟨?_, rfl⟩
  rw [h]; rfl

end Go.Proofs.YtajkkinolpkfmaaGreatDoor

/-
  Package code: whether texts, constructors, forms may be.
  Conditions: as each states.
-/
namespace Go.Proofs.YtajkkinolpkfmaaGreatDoor
set_option linter.unusedVariables false
set_option linter.unusedSimpArgs false
open Go.ChangeShapes Go.WideShapes Go.ChangeAt Go.RowKit
set_option maxRecDepth 100000

theorem below_any (n m : Int) (w : World) : Calls Tryz.prog 115 #[.int .i64 n, .int .i64 m] w fun e w' => e = .returned (.bool (belowB n m)) ∧ w = w' := by
  by_cases c1 : 0 ≤ n
  · by_cases c2 : n < m
    · have E := Lib.hid (show belowB n m = true from decide_eq_true ⟨c1, c2⟩)
      go_enter Tryz.func115, Tryz.ntmps115
      go_wp2
      go_ret
      exact ⟨ret_bool E.out.symm, rfl⟩
    · have E := Lib.hid (show belowB n m = false from decide_eq_false fun h => c2 h.2)
      go_enter Tryz.func115, Tryz.ntmps115
      go_wp2
      go_ret
      exact ⟨ret_bool E.out.symm, rfl⟩
  · have E := Lib.hid (show belowB n m = false from decide_eq_false fun h => c1 h.1)
    go_enter Tryz.func115, Tryz.ntmps115
    go_wp2
    go_ret
    exact ⟨ret_bool E.out.symm, rfl⟩

theorem below_is {n m : Int} {b : Bool} (h : belowB n m = b) (w : World) : Calls Tryz.prog 115 #[.int .i64 n, .int .i64 m] w fun e w' => e = .returned (.bool b) ∧ w = w' :=
  (below_any n m w).mono fun e w' ⟨he, hw⟩ => ⟨by rw [he, h], hw⟩

theorem goodStrs_any {S : Nat → Prop} (v : Value) (l : List ByteArray) (w : World) (h : rdAt S w v l.length (strL l)) (hl : l.length ≤ maxLen) :
    Calls Tryz.prog 73 #[v] w fun e w' => e = .returned (.bool (strsG l)) ∧ w = w' := by
  obtain ⟨a, c, rfl, h⟩ := h
  unfold maxLen at hl
  rcases h with h0 | ⟨b, o, rfl, -, -, hc⟩
  · have E := Lib.hid (show strsG l = true by rw [List.length_eq_zero_iff.1 h0]; rfl)
    rw [h0]
    clear h0 hl
    go_enter Tryz.func73, Tryz.ntmps73
    go_wp2
    go_rounds 1
    go_ret
    exact ⟨ret_bool E.out.symm, rfl⟩
  · have HC := Lib.hid hc
    clear hc
    go_enter Tryz.func73, Tryz.ntmps73
    go_wp2
    go_loop [7] (fun i => ∃ k : Nat, k ≤ l.length ∧ i = .int .i64 k ∧ Hid (∀ j s, j < k → l[j]? = some s → strG s = true)) (fun i => l.length - (intOf i).toNat)
    case atStart => exact ⟨0, Nat.zero_le _, rfl, Lib.hid fun j s hj => absurd hj (by omega)⟩
    case round =>
      obtain ⟨k, hk, rfl, H⟩ := hrel
      by_cases hlt : k < l.length
      · have e1 : w.cell? ⟨b, o + k, none⟩ = some (.string l[k]) := HC.out k _ (by simp [hlt])
        have hx := Lib.hid (List.getElem?_eq_getElem hlt)
        generalize l[k] = s at *
        by_cases hs : 60 < s.size
        · have E := Lib.hid (show strsG l = false from allI_false hx.out (by unfold strG; exact decide_eq_false (by omega)))
          go_wp2
          go_ret
          exact ⟨ret_bool E.out.symm, rfl⟩
        · have E := Lib.hid (show strG s = true by unfold strG; exact decide_eq_true (by omega))
          go_wp2
          go_round
          case rel => 
            refine ⟨k + 1, by omega, by go_num, Lib.hid fun j t hj ht => ?_⟩
            rcases Nat.lt_or_ge j k with h | h
            · exact H.out j t h ht
            · obtain rfl : j = k := by omega
              rw [hx.out] at ht; cases ht; exact E.out
          case measure => simp [intOf]; omega
      · obtain rfl : k = l.length := by omega
        have E := Lib.hid (show strsG l = true from allI_true fun j x hj hx => H.out j x hj hx)
        go_wp2
        go_ret
        exact ⟨ret_bool E.out.symm, rfl⟩

theorem con_eq (n : Nat) (c : Int) : conG n c = (decide (c = -1) || belowB c n) := rfl

theorem goodCons_any {S : Nat → Prop} (v : Value) (l : List Int) (n : Nat) (w : World) (h : rdAt S w v l.length (l.map (Value.int .i64))) (hl : l.length ≤ maxLen) :
    Calls Tryz.prog 117 #[v, .int .i64 n] w fun e w' => e = .returned (.bool (consG n l)) ∧ w = w' := by
  obtain ⟨a, c, rfl, h⟩ := h
  unfold maxLen at hl
  by_cases hb : 0 < l.length ∧ l.length ≤ 20
  · rcases h with h0 | ⟨b, o, rfl, -, -, hc⟩
    · omega
    · have HC := Lib.hid hc
      have E0 := Lib.hid (show consG n l = allI (fun _ c => conG n c) 0 l by unfold consG; rw [show decide (0 < l.length ∧ l.length ≤ 20) = true from decide_eq_true hb, Bool.true_and])
      obtain ⟨hb1, hb2⟩ := hb
      have hb3 : ¬ l.length = 0 := by omega
      have hb4 : ((l.length : Int) == 0) = false := by rw [beq_eq_false_iff_ne]; omega
      clear hc
      go_enter Tryz.func117, Tryz.ntmps117
      go_wp2
      go_loop [17] (fun i => ∃ k : Nat, k ≤ l.length ∧ i = .int .i64 k ∧ Hid (∀ j s, j < k → l[j]? = some s → conG n s = true)) (fun i => l.length - (intOf i).toNat)
      case atStart => exact ⟨0, Nat.zero_le _, rfl, Lib.hid fun j s hj => absurd hj (by omega)⟩
      case round =>
        obtain ⟨k, hk, rfl, H⟩ := hrel
        by_cases hlt : k < l.length
        · have e1 : w.cell? ⟨b, o + k, none⟩ = some (.int .i64 l[k]) := HC.out k _ (by simp [hlt])
          have hx := Lib.hid (List.getElem?_eq_getElem hlt)
          generalize l[k] = s at *
          cases hs : belowB s n
          · by_cases h1 : s = -1
            · have E := Lib.hid (show conG n s = true by rw [con_eq, h1]; rfl)
              have t1 : (s != -1) = false := by simpa using h1
              clear h1
              go_wp2_with (go_at_call 115; refine (below_is hs _).mono ?_; rintro e w' ⟨rfl, rfl⟩)
              go_round
              case rel => 
                refine ⟨k + 1, by omega, by go_num, Lib.hid fun j t hj ht => ?_⟩
                rcases Nat.lt_or_ge j k with h | h
                · exact H.out j t h ht
                · obtain rfl : j = k := by omega
                  rw [hx.out] at ht; cases ht; exact E.out
              case measure => simp [intOf]; omega
            · have E := Lib.hid (show consG n l = false by rw [E0.out]; exact allI_false hx.out (by rw [con_eq, hs, decide_eq_false h1]; rfl))
              have t1 : (s != -1) = true := by simpa using h1
              clear h1
              go_wp2_with (go_at_call 115; refine (below_is hs _).mono ?_; rintro e w' ⟨rfl, rfl⟩)
              go_ret
              exact ⟨ret_bool E.out.symm, rfl⟩
          · have E := Lib.hid (show conG n s = true by rw [con_eq, hs, Bool.or_true])
            by_cases h1 : s = -1
            · have t1 : (s != -1) = false := by simpa using h1
              clear h1
              go_wp2_with (go_at_call 115; refine (below_is hs _).mono ?_; rintro e w' ⟨rfl, rfl⟩)
              go_round
              case rel => 
                refine ⟨k + 1, by omega, by go_num, Lib.hid fun j t hj ht => ?_⟩
                rcases Nat.lt_or_ge j k with h | h
                · exact H.out j t h ht
                · obtain rfl : j = k := by omega
                  rw [hx.out] at ht; cases ht; exact E.out
              case measure => simp [intOf]; omega
            · have t1 : (s != -1) = true := by simpa using h1
              clear h1
              go_wp2_with (go_at_call 115; refine (below_is hs _).mono ?_; rintro e w' ⟨rfl, rfl⟩)
              go_round
              case rel => 
                refine ⟨k + 1, by omega, by go_num, Lib.hid fun j t hj ht => ?_⟩
                rcases Nat.lt_or_ge j k with h | h
                · exact H.out j t h ht
                · obtain rfl : j = k := by omega
                  rw [hx.out] at ht; cases ht; exact E.out
              case measure => simp [intOf]; omega
        · obtain rfl : k = l.length := by omega
          have E := Lib.hid (show consG n l = true by rw [E0.out]; exact allI_true fun j x hj hx => H.out j x hj hx)
          go_wp2
          go_ret
          exact ⟨ret_bool E.out.symm, rfl⟩
  · have E := Lib.hid (show consG n l = false by unfold consG; rw [show decide (0 < l.length ∧ l.length ≤ 20) = false from decide_eq_false hb, Bool.false_and])
    clear h
    by_cases h1 : l.length = 0
    · rw [h1]
      clear hb hl
      go_enter Tryz.func117, Tryz.ntmps117
      go_wp2
      go_ret
      exact ⟨ret_bool E.out.symm, rfl⟩
    · have h2 : 20 < l.length := by omega
      have hb4 : ((l.length : Int) == 0) = false := by rw [beq_eq_false_iff_ne]; omega
      clear hb h1
      go_enter Tryz.func117, Tryz.ntmps117
      go_wp2
      go_ret
      exact ⟨ret_bool E.out.symm, rfl⟩
theorem goodCons_is {S : Nat → Prop} {v : Value} {l : List Int} {n : Nat} {b : Bool} (hb : consG n l = b) (w : World) (h : rdAt S w v l.length (l.map (Value.int .i64))) (hl : l.length ≤ maxLen) :
    Calls Tryz.prog 117 #[v, .int .i64 n] w fun e w' => e = .returned (.bool b) ∧ w = w' :=
  (goodCons_any v l n w h hl).mono fun e w' ⟨he, hw⟩ => ⟨by rw [he, hb], hw⟩
end Go.Proofs.YtajkkinolpkfmaaGreatDoor

/-
  What arguments that are programs lean on: types, bytes in memory.
  Conditions: as each states.
-/
namespace Go.Proofs.YtajkkinolpkfmaaGreatDoor
set_option linter.unusedVariables false
set_option linter.unusedSimpArgs false
open Go.ChangeShapes Go.WideShapes Go.ChangeAt Go.RowKit
set_option maxRecDepth 100000

/-- v is a slice of these bytes, in a block below B0. -/
def bySl (B0 : Nat) (w : World) (v : Value) (l : List Int) : Prop :=
  ∃ a c, v = .slice a l.length c ∧ l.length ≤ c ∧ c ≤ maxLen ∧ (l.length = 0 ∨ ∃ b o, a = some ⟨b, o, none⟩ ∧ b < B0 ∧ b < w.heap.size ∧ ∀ j z, l[j]? = some z → w.cell? ⟨b, o + j, none⟩ = some (.int .u8 z))
theorem under_inss : Tryz.prog.underlying 80 = some (.slice 85) := by kernel_rfl
theorem under_i64s : Tryz.prog.underlying 28 = some (.slice 3) := by kernel_rfl
theorem under_strs : Tryz.prog.underlying 35 = some (.slice 9) := by kernel_rfl
abbrev intL (l : List Int) : List Value := l.map (Value.int .i64)
theorem under_str : Tryz.prog.underlying 9 = some .string := by kernel_rfl
theorem under_fns : Tryz.prog.underlying 34 = some (.slice 82) := by kernel_rfl
theorem under_fms : Tryz.prog.underlying 22 = some (.slice 30) := by kernel_rfl
end Go.Proofs.YtajkkinolpkfmaaGreatDoor

/-
  Lists of things with slices of their own, in rows of the call's own.
  Conditions: as each states.
-/
namespace Go.Proofs.YtajkkinolpkfmaaGreatDoor
set_option linter.unusedVariables false
set_option linter.unusedSimpArgs false
open Go.ChangeShapes Go.WideShapes Go.ChangeAt Go.RowKit
set_option maxRecDepth 100000

theorem own_ge {w : World} {B : Nat} {e : TypeId} {size : Nat} {v : Value} {n : Nat} {xs : List Value} (h : w.ownsRow B e size v n xs) : ∀ g, v.ownBlock = some g → B ≤ g ∧ g < w.heap.size := by
  intro g hg
  rcases owns_parts h with ⟨rfl, _, _⟩ | ⟨g', cap, rest, rfl, h1, hr, _⟩
  · cases hg
  · cases hg; exact ⟨h1, hr.lt⟩
/-- The inner slices of a list's things read as they should, in no block of S. -/
def Inner {α : Type} (S : Nat → Prop) (w : World) (len : α → Nat) (cs : α → List Value) (ys : List (α × Value)) : Prop := ∀ y ∈ ys, rdAt S w y.2 (len y.1) (cs y.1)

theorem inner_path {S : Nat → Prop} {w1 W w2 : World} {Z : Nat → Prop} {v v2 sv : Value} {n : Nat} {cs : List Value} (h : rdAt (fun g => Z g ∨ v.ownBlock = some g) w1 sv n cs) (hbW : Below w1.heap.size w1 W) (hg : W.grownBy w2 v.ownBlock)
    (hb2 : v2.ownBlock = v.ownBlock ∨ v2.ownBlock = some W.heap.size) : rdAt (fun g => Z g ∨ v2.ownBlock = some g) w2 sv n cs := by
  have h1 := (h.below hbW).off (T := fun g => Z g ∨ v.ownBlock = some g ∨ v2.ownBlock = some g) fun k hk e => by
    rcases e with e | e | e
    · exact .inl e
    · exact .inr e
    · rcases hb2 with hb | hb
      · exact .inr (hb ▸ e)
      · rw [hb] at e; cases e; omega
  have hu : Upon (fun g => v.ownBlock = some g) W w2 := ⟨hg.os, hg.tape, hg.output, hg.size, fun k hk h => hg.block k hk fun e => h e.symm⟩
  exact (h1.upon hu fun k _ e => .inr (.inl e)).off fun k _ e => e.imp_right .inr


def fnC (y : PFn × Value) : List Value := [.int .i64 y.1.1, .int .i64 y.1.2.1, y.2]
def fmC (y : PFm × Value) : List Value := [.int .i64 y.1.1, .int .i64 y.1.2.1, .int .i64 y.1.2.2.1, y.2]
theorem flat_get {α : Type} (f : α → List Value) (C : Nat) (hC : ∀ x, (f x).length = C) : ∀ (l : List α) (k : Nat) (x : α) (j : Nat), l[k]? = some x → j < C → (l.flatMap f)[k * C + j]? = (f x)[j]?
  | [], k, x, j, h, _ => by simp at h
  | y :: l, 0, x, j, h, hj => by
    simp at h; subst h
    rw [List.flatMap_cons, Nat.zero_mul, Nat.zero_add, List.getElem?_append_left (by rw [hC]; exact hj)]
  | y :: l, k + 1, x, j, h, hj => by
    have ih := flat_get f C hC l k x j (by simpa using h) hj
    rw [List.flatMap_cons, List.getElem?_append_right (by rw [hC, Nat.add_mul]; omega), hC, ← ih]
    congr 1
    rw [Nat.add_mul]; omega
theorem flat_len {α : Type} (f : α → List Value) (C : Nat) (hC : ∀ x, (f x).length = C) : ∀ (l : List α), (l.flatMap f).length = l.length * C
  | [] => by simp
  | y :: l => by rw [List.flatMap_cons, List.length_append, hC, flat_len f C hC l, List.length_cons, Nat.add_mul]; omega

theorem many_of {α : Type} {E : (Nat → Prop) → World → Nat → Nat → α → Prop} {C : Nat} (f : α × Value → List Value) (hC : ∀ x, (f x).length = C) {S : Nat → Prop} {w : World} {B : Nat} {T : TypeId} {v : Value} {ys : List (α × Value)} (ho : w.ownsRow B T C v ys.length (ys.flatMap f)) (hS : ∀ g, v.ownBlock = some g → ¬ S g)
    (hE : ∀ y ∈ ys, ∀ b o, (∀ j u, (f y)[j]? = some u → w.cell? ⟨b, o + j, none⟩ = some u) → E S w b o y.1) : manyAt E C S w v (ys.map (·.1)) := by
  rcases owns_parts ho with ⟨rfl, h1, h2⟩ | ⟨g, cap, rest, rfl, hg, hr, hl, hcap, hn, hm⟩
  · obtain rfl := List.length_eq_zero_iff.1 h1
    exact ⟨none, 0, rfl, .inl rfl⟩
  · refine ⟨some ⟨g, 0, none⟩, cap, by rw [List.length_map], ?_⟩
    refine .inr ⟨g, 0, rfl, hS g rfl, hr.lt, fun i x hx => ?_⟩
    rw [List.getElem?_map] at hx
    obtain ⟨y, hy, rfl⟩ := Option.map_eq_some_iff.1 hx
    refine hE y (List.mem_of_getElem? hy) _ _ fun j u hj => ?_
    have hjC : j < C := by have := (List.getElem?_eq_some_iff.1 hj).1; rw [hC] at this; exact this
    have hq := flat_get f C hC ys i y j hy hjC
    rw [hr.cell, Nat.zero_add, List.getElem?_append_left, hq, hj]
    rw [hj] at hq
    exact (List.getElem?_eq_some_iff.1 hq).1
theorem fns_of {w : World} {B : Nat} {T : TypeId} {v : Value} {ys : List (PFn × Value)} (ho : w.ownsRow B T 3 v ys.length (ys.flatMap fnC)) (hi : Inner (fun g => g < B ∨ v.ownBlock = some g) w (fun f : PFn => f.2.2.length) (fun f => insL f.2.2) ys) :
    fnsAt (fun g => g < B) w v (ys.map (·.1)) :=
  many_of fnC (fun _ => rfl) ho (fun g hg e => by have := own_ge ho g hg; omega) fun y hy b o hc =>
    ⟨hc 0 _ rfl, hc 1 _ rfl, y.2, hc 2 _ rfl, (hi y hy).off fun k _ e => .inl e⟩
theorem fms_of {w : World} {B : Nat} {T : TypeId} {v : Value} {ys : List (PFm × Value)} (ho : w.ownsRow B T 4 v ys.length (ys.flatMap fmC)) (hi : Inner (fun g => g < B ∨ v.ownBlock = some g) w (fun m : PFm => m.2.2.2.length) (fun m => intL m.2.2.2) ys) :
    fmsAt (fun g => g < B) w v (ys.map (·.1)) :=
  many_of fmC (fun _ => rfl) ho (fun g hg e => by have := own_ge ho g hg; omega) fun y hy b o hc =>
    ⟨hc 0 _ rfl, hc 1 _ rfl, hc 2 _ rfl, y.2, hc 3 _ rfl, (hi y hy).off fun k _ e => .inl e⟩


theorem info_fn : (Tryz.prog.info? 82).map (fun i => (i.zero, i.size, i.bytes)) = some (some (.agg #[.int .i64 0, .int .i64 0, .slice none 0 0]), 3, 40) := by kernel_rfl

theorem info_fm : (Tryz.prog.info? 30).map (fun i => (i.zero, i.size, i.bytes)) = some (some (.agg #[.int .i64 0, .int .i64 0, .int .i64 0, .slice none 0 0]), 4, 48) := by kernel_rfl
end Go.Proofs.YtajkkinolpkfmaaGreatDoor
