/-
  Package lex's tables and the library's variables, as the row lists them.
  Conditions: as each states.
-/
import Derived.Test.YtlidegofnkmenaaDoorAr
import Derived.Test.YtlidegofnkmenaaDoorTab
namespace Go.Proofs.YtlidegofnkmenaaDoor
open Go.ChangeShapes Go.WideShapes Go.ChangeAt Go.RowKit
set_option linter.unusedVariables false
set_option linter.unusedSimpArgs false
set_option maxRecDepth 100000

def lgL : List (List UInt8) := [[108, 101, 116], [114, 101, 99], [105, 110], [102, 117, 110], [105, 102], [116, 104, 101, 110], [101, 108, 115, 101], [109, 97, 116, 99, 104], [119, 105, 116, 104], [101, 110, 100], [116, 114, 121], [114, 97, 105, 115, 101],
  [116, 121, 112, 101], [111, 102], [116, 114, 117, 101], [102, 97, 108, 115, 101], [114, 101, 102], [101, 109, 105, 116], [108, 111, 103], [115, 101, 110, 100], [114, 101, 99, 118],
  [115, 105, 122, 101], [98, 121, 116, 101], [116, 101, 120, 116], [115, 97, 109, 101], [97, 114, 114, 97, 121], [103, 101, 116], [112, 117, 116], [108, 101, 110],
  [105, 110, 116], [98, 111, 111, 108], [117, 110, 105, 116], [115, 116, 114, 105, 110, 103], [108, 105, 115, 116]]
def sgL : List (List UInt8) := [[45, 62], [58, 61], [58, 58], [40], [41], [91], [93], [44], [59], [124], [33], [61], [43], [45], [42], [47], [37], [94], [60]]
theorem lg_len : lgL.length = 34 := by decide
theorem sg_len : sgL.length = 19 := by decide

structure LxTab (w : World) : Prop where
  lg : ∀ k : Nat, k < 34 → w.cell? ⟨1, k, none⟩ = some (.string ⟨(lgL.getD k []).toArray⟩)
  sg : ∀ k : Nat, k < 19 → w.cell? ⟨0, k, none⟩ = some (.string ⟨(sgL.getD k []).toArray⟩)
  p10 : Lib.TabIs Tryd.prog w "internal/strconv.uint64pow10" .u64 Lib.pow10Tab
  es : ∃ tp p, w.cell? ⟨3, 0, none⟩ = some (.iface tp p)
  er : ∃ tp p, w.cell? ⟨4, 0, none⟩ = some (.iface tp p)

theorem gLg : Tryd.prog.globalNamed "stockpot/lex.languageWords" = some 1 := by kernel_rfl
theorem gSg : Tryd.prog.globalNamed "stockpot/lex.signs" = some 0 := by kernel_rfl
theorem tLg : (Tryd.prog.globals[1]?).map (·.type) = some 61 := by kernel_rfl
theorem tSg : (Tryd.prog.globals[0]?).map (·.type) = some 60 := by kernel_rfl

theorem LxTab.below {w w' : World} (T : LxTab w) (hb : Below w.heap.size w w') : LxTab w' where
  lg k hk := by rw [hb.cell (p := ⟨_, k, none⟩) (cell_lt (T.lg k hk))]; exact T.lg k hk
  sg k hk := by rw [hb.cell (p := ⟨_, k, none⟩) (cell_lt (T.sg k hk))]; exact T.sg k hk
  p10 := tabIs_below T.p10 hb
  es := by obtain ⟨tp, p, h⟩ := T.es; exact ⟨tp, p, by rw [hb.cell (p := ⟨_, 0, none⟩) (cell_lt h)]; exact h⟩
  er := by obtain ⟨tp, p, h⟩ := T.er; exact ⟨tp, p, by rw [hb.cell (p := ⟨_, 0, none⟩) (cell_lt h)]; exact h⟩

section
variable {P : Program} {W : World}
/-- One cell of a listed array of strings. -/
theorem lies_strs {n : String} {g : Nat} {t e : TypeId} {m : Nat} {rows : List (DataW Unit)} (hg : P.globalNamed n = some g) (ht : (P.globals[g]?).map (·.type) = some t)
    (ha : P.underlying t = some (.array m e)) (hs : P.underlying e = some .string) (hc : P.cellsOf e = 1)
    (h : LiesAs P W n (.agg rows)) (i : Nat) (hi : i < m) (s : ByteArray) (hz : rows[i]? = some (.lit (.string s.data.toList))) : W.cell? ⟨g, i, none⟩ = some (.string s) := by
  obtain ⟨g', t', cs, fuel, p, hg', ht', hv, hd⟩ := h
  obtain rfl := Option.some.inj (hg.symm.trans hg')
  obtain rfl := Option.some.inj (ht.symm.trans ht')
  obtain ⟨xs, n1, _, hx, hlen, hxl, hel⟩ := DataW.trod_array ha hd
  have h1 := hel i hi
  have hx1 : xs[i]? = some xs[i] := List.getElem?_eq_getElem (by omega)
  rw [hx1] at h1
  rw [hc] at h1
  simp only [Nat.mul_one] at h1
  obtain ⟨u, hu, hxx, _⟩ := DataW.trod_string hs h1
  have hr : rows = xs.map (·.1) := by
    have := congrArg Prod.fst hx
    simpa using this
  rw [hr, List.getElem?_map, hx1] at hz
  simp only [Option.map_some, Option.some.injEq] at hz
  have e0 := congrArg Prod.fst hxx
  rw [hz] at e0
  have hus : u = s := by
    simp only [DataW.lit.injEq, Lit.string.injEq] at e0
    exact ByteArray.ext (Array.ext' e0.symm)
  subst hus
  have hlt : i < cs.toList.length := by
    rcases Nat.lt_or_ge i cs.toList.length with h' | h'
    · exact h'
    · rw [List.drop_eq_nil_of_le h'] at hu; cases hu
  have e1 : (cs.toList.drop i).take 1 = [cs.toList[i]] := by
    rw [List.drop_eq_getElem_cons hlt]
    rfl
  rw [e1] at hu
  rw [World.var?_cell hg hv, Array.getElem?_eq_getElem (by simpa using hlt), ← (List.cons.inj hu).1]
  simp
end
theorem lg_eq : (Rows.laid_stockpot_lex_languageWords : DataW Unit) = .agg (lgL.map fun l => .lit (.string l)) := by kernel_rfl
theorem sg_eq : (Rows.laid_stockpot_lex_signs : DataW Unit) = .agg (sgL.map fun l => .lit (.string l)) := by kernel_rfl
theorem strs_at {T : List (List UInt8)} {k : Nat} (hk : k < T.length) : (T.map fun l => (DataW.lit (.string l) : DataW Unit))[k]? = some (.lit (.string (⟨(T.getD k []).toArray⟩ : ByteArray).data.toList)) := by
  rw [List.getElem?_map, List.getElem?_eq_getElem hk]
  simp [List.getD_eq_getElem?_getD, List.getElem?_eq_getElem hk]

/-- From the row's list of variables. -/
theorem lxtab_of {W : World} (hL : laidMetH Tryd.prog Rows.lexTellsRow.laid W) : LxTab W := by
  have h1 : LiesAs Tryd.prog W "stockpot/lex.languageWords" Rows.laid_stockpot_lex_languageWords := laid_lies (by kernel_rfl) hL _ _ (List.Mem.tail _ (List.Mem.tail _ (List.Mem.tail _ (List.Mem.tail _ (List.Mem.tail _ (List.Mem.head _))))))
  have h2 : LiesAs Tryd.prog W "stockpot/lex.signs" Rows.laid_stockpot_lex_signs := laid_lies (by kernel_rfl) hL _ _ (List.Mem.tail _ (List.Mem.tail _ (List.Mem.tail _ (List.Mem.tail _ (List.Mem.tail _ (List.Mem.tail _ (List.Mem.head _)))))))
  rw [lg_eq] at h1
  rw [sg_eq] at h2
  rw [MakeChecks.laidMetH_plain _ _ _ (by kernel_rfl)] at hL
  have k2 := hL.tail.tail
  have p10 : Lib.TabIs Tryd.prog W "internal/strconv.uint64pow10" .u64 Lib.pow10Tab := Lib.tabIs_of_head gPow tPow Tryd.underlying89 Tryd.underlying54 (by kernel_rfl) (by kernel_rfl) k2
  have k3 := k2.tail
  obtain ⟨a0, s0, hv0, -, -, -⟩ := laid_sentinel k3 gER tER Tryd.underlying63 rowErr Tryd.underlying78 Tryd.underlying80 rfl rfl Tryd.underlying9 (by kernel_rfl) (by kernel_rfl)
  have k4 := k3.tail
  obtain ⟨a1, s1, hv1, -, -, -⟩ := laid_sentinel k4 gES tES Tryd.underlying63 rowErr Tryd.underlying78 Tryd.underlying80 rfl rfl Tryd.underlying9 (by kernel_rfl) (by kernel_rfl)
  exact {
    lg := fun k hk => lies_strs gLg tLg Tryd.underlying61 Tryd.underlying9 (by kernel_rfl) h1 k hk _ (strs_at (by rw [lg_len]; exact hk))
    sg := fun k hk => lies_strs gSg tSg Tryd.underlying60 Tryd.underlying9 (by kernel_rfl) h2 k hk _ (strs_at (by rw [sg_len]; exact hk))
    p10 := p10
    es := ⟨_, _, by have h0 := World.var?_cell gES hv1 0; simpa using h0⟩
    er := ⟨_, _, by have h0 := World.var?_cell gER hv0 0; simpa using h0⟩ }

end Go.Proofs.YtlidegofnkmenaaDoor
