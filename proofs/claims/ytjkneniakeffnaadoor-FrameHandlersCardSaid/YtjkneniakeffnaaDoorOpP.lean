/-
  The tables of package op as plain lists of mine; that the listed variables lie in memory so, cell by cell ('OpTab'); what stays of it.
  Conditions: as each states.
-/
import Derived.Test.YtjkneniakeffnaaDoorTab
namespace Go.Proofs.YtjkneniakeffnaaDoor
open Go.ChangeShapes Go.WideShapes Go.ChangeAt Go.RowKit
set_option linter.unusedVariables false
set_option linter.unusedSimpArgs false

set_option maxRecDepth 100000
def opT : List (List UInt8 × Nat × Nat × Int × Int) := [([105, 110, 116], 1, 0, 0, 1), ([115, 116, 114], 2, 0, 0, 1), ([108, 111, 99, 97, 108], 3, 0, 0, 1), ([115, 101, 116], 3, 0, 1, 0), ([101, 110, 118], 4, 0, 0, 1), ([115, 101, 108, 102], 0, 0, 0, 1), ([99, 108, 111, 115, 101], 5, 6, (-1), 1), ([99, 97, 108, 108], 0, 0, 2, 1), ([116, 97, 105, 108], 0, 0, 2, 0), ([114, 101, 116], 0, 0, 1, 0), ([106, 117, 109, 112], 7, 0, 0, 0), ([106, 117, 109, 112, 122], 7, 0, 1, 0), ([97, 100, 100], 0, 0, 2, 1), ([115, 117, 98], 0, 0, 2, 1), ([109, 117, 108], 0, 0, 2, 1), ([100, 105, 118], 0, 0, 2, 1), ([109, 111, 100], 0, 0, 2, 1), ([101, 113], 0, 0, 2, 1), ([108, 101, 115, 115], 0, 0, 2, 1), ([98, 108, 111, 99, 107], 8, 9, (-1), 1), ([102, 105, 101, 108, 100], 10, 0, 1, 1), ([105, 115, 105, 110, 116], 1, 0, 1, 1), ([105, 115, 116, 97, 103], 8, 0, 1, 1), ([115, 116, 111, 114, 101], 0, 0, 2, 1), ([97, 114, 114, 97, 121], 0, 0, 2, 1), ([103, 101, 116], 0, 0, 2, 1), ([112, 117, 116], 0, 0, 3, 1), ([108, 101, 110], 0, 0, 1, 1), ([99, 97, 116], 0, 0, 2, 1), ([115, 105, 122, 101], 0, 0, 1, 1), ([98, 121, 116, 101], 0, 0, 2, 1), ([116, 101, 120, 116], 0, 0, 1, 1), ([115, 97, 109, 101], 0, 0, 2, 1), ([116, 114, 121], 7, 0, 0, 0), ([117, 110, 116, 114, 121], 0, 0, 0, 0), ([114, 97, 105, 115, 101], 0, 0, 1, 0), ([104, 111, 115, 116], 11, 0, 0, 0), ([112, 111, 112], 0, 0, 1, 0)]
def hoT : List (List UInt8 × Nat × Nat × Int × Int) := [([], 0, 0, 1, 1), ([], 0, 0, 1, 1), ([], 0, 0, 2, 1), ([], 0, 12, 0, 1)]
def spT : List (Int × Int) := [(0, 0), ((-4611686018427387904), 4611686018427387903), (0, 39), (0, 59), (0, 29), (1, 59), (0, 30), (0, 599), (0, 255), (1, 8), (0, 7), (0, 3), (0, 39)]

def opNm (k : Nat) : ByteArray := ⟨⟨(opT.getD k ([], 0, 0, 0, 0)).1⟩⟩
def opA (k : Nat) : Nat := (opT.getD k ([], 0, 0, 0, 0)).2.1
def opB (k : Nat) : Nat := (opT.getD k ([], 0, 0, 0, 0)).2.2.1
def opTk (k : Nat) : Int := (opT.getD k ([], 0, 0, 0, 0)).2.2.2.1
def opLv (k : Nat) : Int := (opT.getD k ([], 0, 0, 0, 0)).2.2.2.2
def hoB (k : Nat) : Nat := (hoT.getD k ([], 0, 0, 0, 0)).2.2.1
def hoTk (k : Nat) : Int := (hoT.getD k ([], 0, 0, 0, 0)).2.2.2.1
def spL (k : Nat) : Int := (spT.getD k (0, 0)).1
def spH (k : Nat) : Int := (spT.getD k (0, 0)).2

def rowD {H : Type} (r : List UInt8 × Nat × Nat × Int × Int) : DataW H := .agg [.lit (.string r.1), .lit (.int .i64 r.2.1), .lit (.int .i64 r.2.2.1), .lit (.int .i64 r.2.2.2.1), .lit (.int .i64 r.2.2.2.2)]
def spanD {H : Type} (r : Int × Int) : DataW H := .agg [.lit (.int .i64 r.1), .lit (.int .i64 r.2)]
theorem rows_eq : (Rows.laid_stockpot_op_rows : DataW Unit) = .agg (opT.map rowD) := by kernel_rfl
theorem hosts_eq : (Rows.laid_stockpot_op_hosts : DataW Unit) = .agg (hoT.map rowD) := by kernel_rfl
theorem spans_eq : (Rows.laid_stockpot_op_spans : DataW Unit) = .agg (spT.map spanD) := by kernel_rfl

theorem opT_length : opT.length = 38 := rfl
theorem hoT_length : hoT.length = 4 := rfl
theorem spT_length : spT.length = 13 := rfl

/-- The three tables lie in memory. -/
structure OpTab (w : World) : Prop where
  nm : ∀ k : Nat, k < 38 → w.cell? ⟨0, k * 5, none⟩ = some (.string (opNm k))
  a : ∀ k : Nat, k < 38 → w.cell? ⟨0, k * 5 + 1, none⟩ = some (.int .i64 (opA k))
  b : ∀ k : Nat, k < 38 → w.cell? ⟨0, k * 5 + 2, none⟩ = some (.int .i64 (opB k))
  tk : ∀ k : Nat, k < 38 → w.cell? ⟨0, k * 5 + 3, none⟩ = some (.int .i64 (opTk k))
  lv : ∀ k : Nat, k < 38 → w.cell? ⟨0, k * 5 + 4, none⟩ = some (.int .i64 (opLv k))
  hnm : ∀ k : Nat, k < 4 → w.cell? ⟨1, k * 5, none⟩ = some (.string ⟨#[]⟩)
  ha : ∀ k : Nat, k < 4 → w.cell? ⟨1, k * 5 + 1, none⟩ = some (.int .i64 0)
  hb : ∀ k : Nat, k < 4 → w.cell? ⟨1, k * 5 + 2, none⟩ = some (.int .i64 (hoB k))
  htk : ∀ k : Nat, k < 4 → w.cell? ⟨1, k * 5 + 3, none⟩ = some (.int .i64 (hoTk k))
  hlv : ∀ k : Nat, k < 4 → w.cell? ⟨1, k * 5 + 4, none⟩ = some (.int .i64 1)
  lo : ∀ k : Nat, k < 13 → w.cell? ⟨2, k * 2, none⟩ = some (.int .i64 (spL k))
  hi : ∀ k : Nat, k < 13 → w.cell? ⟨2, k * 2 + 1, none⟩ = some (.int .i64 (spH k))
  size : 0 < w.heap.size ∧ 1 < w.heap.size ∧ 2 < w.heap.size

theorem gRows : Tryd.prog.globalNamed "stockpot/op.rows" = some 0 := by kernel_rfl
theorem gHosts : Tryd.prog.globalNamed "stockpot/op.hosts" = some 1 := by kernel_rfl
theorem gSpans : Tryd.prog.globalNamed "stockpot/op.spans" = some 2 := by kernel_rfl
theorem tRows : (Tryd.prog.globals[0]?).map (·.type) = some 90 := by kernel_rfl
theorem tHosts : (Tryd.prog.globals[1]?).map (·.type) = some 92 := by kernel_rfl
theorem tSpans : (Tryd.prog.globals[2]?).map (·.type) = some 94 := by kernel_rfl

theorem under_row : ∃ fs : Array Field, Tryd.prog.underlying 87 = some (.struct fs) ∧ fs.size = 5 ∧ Tryd.prog.cellsOf 87 = fs.size ∧
    (List.range fs.size).all (fun j => match fs[j]? with | some f => f.offset == j && Tryd.prog.cellsOf f.type == 1 | none => false) = true ∧
    (∃ f, fs[0]? = some f ∧ Tryd.prog.underlying f.type = some .string) ∧ ∀ j, 1 ≤ j → j < 5 → ∃ f, fs[j]? = some f ∧ Tryd.prog.underlying f.type = some (.int .i64) := by
  refine ⟨_, Tryd.underlying87, by kernel_rfl, by kernel_rfl, by kernel_rfl, ⟨_, rfl, by kernel_rfl⟩, fun j h1 h5 => ?_⟩
  obtain rfl | rfl | rfl | rfl : j = 1 ∨ j = 2 ∨ j = 3 ∨ j = 4 := by omega
  all_goals exact ⟨_, rfl, by kernel_rfl⟩

theorem under_span : ∃ fs : Array Field, Tryd.prog.underlying 93 = some (.struct fs) ∧ fs.size = 2 ∧ Tryd.prog.cellsOf 93 = fs.size ∧
    (List.range fs.size).all (fun j => match fs[j]? with | some f => f.offset == j && Tryd.prog.cellsOf f.type == 1 | none => false) = true ∧
    ∀ j, j < 2 → ∃ f, fs[j]? = some f ∧ Tryd.prog.underlying f.type = some (.int .i64) := by
  refine ⟨_, Tryd.underlying93, by kernel_rfl, by kernel_rfl, by kernel_rfl, fun j h5 => ?_⟩
  obtain rfl | rfl : j = 0 ∨ j = 1 := by omega
  all_goals exact ⟨_, rfl, by kernel_rfl⟩

theorem row_at {T : List (List UInt8 × Nat × Nat × Int × Int)} {k : Nat} {row : List (DataW Unit)} (h : (T.map rowD)[k]? = some (.agg row)) :
    row = [.lit (.string (T.getD k ([], 0, 0, 0, 0)).1), .lit (.int .i64 (T.getD k ([], 0, 0, 0, 0)).2.1), .lit (.int .i64 (T.getD k ([], 0, 0, 0, 0)).2.2.1), .lit (.int .i64 (T.getD k ([], 0, 0, 0, 0)).2.2.2.1), .lit (.int .i64 (T.getD k ([], 0, 0, 0, 0)).2.2.2.2)] := by
  rw [List.getElem?_map] at h
  cases e : T[k]? with
  | none => rw [e] at h; cases h
  | some r =>
    rw [e] at h
    simp only [Option.map_some, Option.some.injEq, rowD, DataW.agg.injEq] at h
    rw [← h]
    simp [List.getD_eq_getElem?_getD, e]

theorem span_at {T : List (Int × Int)} {k : Nat} {row : List (DataW Unit)} (h : (T.map spanD)[k]? = some (.agg row)) :
    row = [.lit (.int .i64 (T.getD k (0, 0)).1), .lit (.int .i64 (T.getD k (0, 0)).2)] := by
  rw [List.getElem?_map] at h
  cases e : T[k]? with
  | none => rw [e] at h; cases h
  | some r =>
    rw [e] at h
    simp only [Option.map_some, Option.some.injEq, spanD, DataW.agg.injEq] at h
    rw [← h]
    simp [List.getD_eq_getElem?_getD, e]

theorem row_cells {W : World} {n : String} {g : Nat} {t : TypeId} {m : Nat} {T : List (List UInt8 × Nat × Nat × Int × Int)} (hg : Tryd.prog.globalNamed n = some g) (ht : (Tryd.prog.globals[g]?).map (·.type) = some t)
    (ha : Tryd.prog.underlying t = some (.array m 87)) (h : LiesAs Tryd.prog W n (.agg (T.map rowD))) (k : Nat) (hk : k < m) :
    W.cell? ⟨g, k * 5, none⟩ = some (.string ⟨⟨(T.getD k ([], 0, 0, 0, 0)).1⟩⟩) ∧ W.cell? ⟨g, k * 5 + 1, none⟩ = some (.int .i64 (T.getD k ([], 0, 0, 0, 0)).2.1) ∧ W.cell? ⟨g, k * 5 + 2, none⟩ = some (.int .i64 (T.getD k ([], 0, 0, 0, 0)).2.2.1) ∧
    W.cell? ⟨g, k * 5 + 3, none⟩ = some (.int .i64 (T.getD k ([], 0, 0, 0, 0)).2.2.2.1) ∧ W.cell? ⟨g, k * 5 + 4, none⟩ = some (.int .i64 (T.getD k ([], 0, 0, 0, 0)).2.2.2.2) := by
  obtain ⟨fs, hs, h5, hc, ho, ⟨f0, hf0, hu0⟩, hf⟩ := under_row
  obtain ⟨f1, hf1, hu1⟩ := hf 1 (by omega) (by omega)
  obtain ⟨f2, hf2, hu2⟩ := hf 2 (by omega) (by omega)
  obtain ⟨f3, hf3, hu3⟩ := hf 3 (by omega) (by omega)
  obtain ⟨f4, hf4, hu4⟩ := hf 4 (by omega) (by omega)
  have c0 := lies_str hg ht ha hs hc ho h k 0 f0 hk hf0 hu0 ⟨⟨(T.getD k ([], 0, 0, 0, 0)).1⟩⟩ (fun row hr => by rw [row_at hr]; rfl)
  have c1 := lies_int hg ht ha hs hc ho h k 1 f1 hk hf1 hu1 (T.getD k ([], 0, 0, 0, 0)).2.1 (fun row hr => by rw [row_at hr]; rfl)
  have c2 := lies_int hg ht ha hs hc ho h k 2 f2 hk hf2 hu2 (T.getD k ([], 0, 0, 0, 0)).2.2.1 (fun row hr => by rw [row_at hr]; rfl)
  have c3 := lies_int hg ht ha hs hc ho h k 3 f3 hk hf3 hu3 (T.getD k ([], 0, 0, 0, 0)).2.2.2.1 (fun row hr => by rw [row_at hr]; rfl)
  have c4 := lies_int hg ht ha hs hc ho h k 4 f4 hk hf4 hu4 (T.getD k ([], 0, 0, 0, 0)).2.2.2.2 (fun row hr => by rw [row_at hr]; rfl)
  rw [h5] at c0 c1 c2 c3 c4
  exact ⟨c0, c1, c2, c3, c4⟩

theorem span_cells {W : World} {T : List (Int × Int)} (h : LiesAs Tryd.prog W "stockpot/op.spans" (.agg (T.map spanD))) (k : Nat) (hk : k < 13) :
    W.cell? ⟨2, k * 2, none⟩ = some (.int .i64 (T.getD k (0, 0)).1) ∧ W.cell? ⟨2, k * 2 + 1, none⟩ = some (.int .i64 (T.getD k (0, 0)).2) := by
  obtain ⟨fs, hs, h5, hc, ho, hf⟩ := under_span
  obtain ⟨f0, hf0, hu0⟩ := hf 0 (by omega)
  obtain ⟨f1, hf1, hu1⟩ := hf 1 (by omega)
  have c0 := lies_int gSpans tSpans Tryd.underlying94 hs hc ho h k 0 f0 hk hf0 hu0 (T.getD k (0, 0)).1 (fun row hr => by rw [span_at hr]; rfl)
  have c1 := lies_int gSpans tSpans Tryd.underlying94 hs hc ho h k 1 f1 hk hf1 hu1 (T.getD k (0, 0)).2 (fun row hr => by rw [span_at hr]; rfl)
  rw [h5] at c0 c1
  exact ⟨c0, c1⟩

theorem ho_nm : ∀ k : Nat, k < 4 → (hoT.getD k ([], 0, 0, 0, 0)).1 = [] := by decide
theorem ho_a : ∀ k : Nat, k < 4 → (hoT.getD k ([], 0, 0, 0, 0)).2.1 = 0 := by decide
theorem ho_lv : ∀ k : Nat, k < 4 → (hoT.getD k ([], 0, 0, 0, 0)).2.2.2.2 = 1 := by decide

theorem optab_of {W : World} (h1 : LiesAs Tryd.prog W "stockpot/op.rows" Rows.laid_stockpot_op_rows) (h2 : LiesAs Tryd.prog W "stockpot/op.hosts" Rows.laid_stockpot_op_hosts) (h3 : LiesAs Tryd.prog W "stockpot/op.spans" Rows.laid_stockpot_op_spans) : OpTab W := by
  rw [rows_eq] at h1
  rw [hosts_eq] at h2
  rw [spans_eq] at h3
  have r := fun k hk => row_cells gRows tRows Tryd.underlying90 h1 k hk
  have o := fun k hk => row_cells gHosts tHosts Tryd.underlying92 h2 k hk
  have s := fun k hk => span_cells h3 k hk
  exact {
    nm := fun k hk => (r k hk).1
    a := fun k hk => (r k hk).2.1
    b := fun k hk => (r k hk).2.2.1
    tk := fun k hk => (r k hk).2.2.2.1
    lv := fun k hk => (r k hk).2.2.2.2
    hnm := fun k hk => by have := (o k hk).1; rw [ho_nm k hk] at this; exact this
    ha := fun k hk => by have := (o k hk).2.1; rw [ho_a k hk] at this; exact this
    hb := fun k hk => (o k hk).2.2.1
    htk := fun k hk => (o k hk).2.2.2.1
    hlv := fun k hk => by have := (o k hk).2.2.2.2; rw [ho_lv k hk] at this; exact this
    lo := fun k hk => (s k hk).1
    hi := fun k hk => (s k hk).2
    size := by
      have lt : ∀ g o u, W.cell? ⟨g, o, none⟩ = some u → g < W.heap.size := fun g o u c => by
        simp only [World.cell?] at c
        cases e : W.heap[g]? with
        | none => rw [e] at c; cases c
        | some x => exact (Array.getElem?_eq_some_iff.1 e).1
      exact ⟨lt _ _ _ (r 0 (by omega)).1, lt _ _ _ (o 0 (by omega)).1, lt _ _ _ (s 0 (by omega)).1⟩ }

theorem OpTab.below {w w' : World} (T : OpTab w) (hb : Below w.heap.size w w') : OpTab w' := by
  have hs := T.size
  obtain ⟨s1, s2, s3⟩ := hs
  have e : ∀ g off, g < w.heap.size → w'.cell? ⟨g, off, none⟩ = w.cell? ⟨g, off, none⟩ := fun g off h => hb.cell (p := ⟨g, off, none⟩) h
  exact {
    nm := fun k hk => by rw [e _ _ (by assumption)]; exact T.nm k hk
    a := fun k hk => by rw [e _ _ (by assumption)]; exact T.a k hk
    b := fun k hk => by rw [e _ _ (by assumption)]; exact T.b k hk
    tk := fun k hk => by rw [e _ _ (by assumption)]; exact T.tk k hk
    lv := fun k hk => by rw [e _ _ (by assumption)]; exact T.lv k hk
    hnm := fun k hk => by rw [e _ _ (by assumption)]; exact T.hnm k hk
    ha := fun k hk => by rw [e _ _ (by assumption)]; exact T.ha k hk
    hb := fun k hk => by rw [e _ _ (by assumption)]; exact T.hb k hk
    htk := fun k hk => by rw [e _ _ (by assumption)]; exact T.htk k hk
    hlv := fun k hk => by rw [e _ _ (by assumption)]; exact T.hlv k hk
    lo := fun k hk => by rw [e _ _ (by assumption)]; exact T.lo k hk
    hi := fun k hk => by rw [e _ _ (by assumption)]; exact T.hi k hk
    size := ⟨Nat.lt_of_lt_of_le s1 hb.size, Nat.lt_of_lt_of_le s2 hb.size, Nat.lt_of_lt_of_le s3 hb.size⟩ }
end Go.Proofs.YtjkneniakeffnaaDoor
