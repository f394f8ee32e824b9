/-
  Package lex: the kind of a word; the token that is a word, an int, a sign.
  Conditions: the tables of package lex and the library's variables read as the program's text lays them; texts of no more than 100,000 bytes, where it says so.
-/
import Derived.Test.YtlidegofnkmenaaDoorLxA
import Derived.Deep.Cut
namespace Go.Proofs.YtlidegofnkmenaaDoor
open Go.ChangeShapes Go.WideShapes Go.ChangeAt Go.RowKit
set_option linter.unusedVariables false
set_option linter.unusedSimpArgs false
set_option maxRecDepth 100000

section
variable {P : Program}
/-- An array is loaded, cell by cell. -/
theorem run_loadVar_cells (w : World) (g : Nat) (ty : TypeId) (cs : Array Value) (d : TypeDesc) (hg : ∀ j v, cs[j]? = some v → w.cell? ⟨g, j, none⟩ = some v)
    (hu : P.underlying ty = some d) (hd : (match d with | .struct _ | .array _ _ => true | _ => false) = true) (hi : (P.info? ty).map (·.size) = some cs.size) :
    (loadVar ty ⟨g, 0, none⟩).run P w = .ok (.agg cs) w := by
  have hl : (loadCells ⟨g, 0, none⟩ cs.toList.length).run P w = .ok cs.toList.toArray w :=
    run_loadCells_list (P := P) w ⟨g, 0, none⟩ cs.toList (fun j v hv => by
      have hadd : (⟨g, 0, none⟩ : Addr).add j = ⟨g, j, none⟩ := by unfold Addr.add; split <;> simp_all
      rw [hadd]
      exact hg j v (by simpa using hv))
  cases hq : P.info? ty with
  | none => simp [hq] at hi
  | some i =>
    have hs : i.size = cs.size := by simpa [hq] using hi
    have hagg : (isAgg ty).run P w = .ok true w := by
      unfold isAgg
      rw [Sem.run_bind, run_underlying hu w]
      cases d <;> simp_all
    simp only [Array.length_toList, Array.toArray_toList] at hl
    simp [loadVar, Sem.run_bind, hagg, sizeOf, typeInfo, hq, hs, hl]
theorem wpList_load_cells {ops : Array Oper} {rest : List Oper} {o : Oper} {a : Act} {w : World} {Q : Exit → Act → World → Prop} (hgd : o.guard = none) (ty : TypeId) (x : Operand) (ho : o.op = .load ty x)
    (g : Nat) (hx : a.eval x = .pointer (some ⟨g, 0, none⟩)) (cs : Array Value) (d : TypeDesc) (hg : ∀ j v, cs[j]? = some v → w.cell? ⟨g, j, none⟩ = some v)
    (hu : P.underlying ty = some d) (hd : (match d with | .struct _ | .array _ _ => true | _ => false) = true) (hi : (P.info? ty).map (·.size) = some cs.size)
    (h : wpList P ops Q rest (a.put o.dst (.agg cs)) w) : wpList P ops Q (o :: rest) a w :=
  wpList_plain hgd fun _ hK => by
    unfold Oper.wp execOp
    simp only [ho, hx, Instr.loadAt, Instr.sureAddr, Sem.run_bind, Sem.run_pure, Result.andThen_ok, run_loadVar_cells w g ty cs d hg hu hd hi]
    exact hK _ _ h
theorem run_index_strs (w : World) (t e : TypeId) (n : Nat) (ht : P.underlying t = some (.array n e)) (he : P.underlying e = some .string) {i : TypeInfo} (hi : P.info? e = some i) (h1 : i.size = 1) (cs : Array Value) (k : Nat) (hk : k < n) (v : Value) (hv : cs[k]? = some v) :
    (Instr.index t (.agg cs) (.int .i64 k)).run P w = .ok v w := by
  have hp : (part e cs k).run P w = .ok v w := by
    have hagg : (isAgg e).run P w = .ok false w := by
      unfold isAgg
      rw [Sem.run_bind, run_underlying he w]
      rfl
    simp [part, Sem.run_bind, hagg, hv]
  simp [Instr.index, asIntOf, Sem.run_bind, run_underlying ht, sizeOf, typeInfo, hi, h1, hp]
  omega
end
def strA (l : List (List UInt8)) : Array Value := (l.map fun x => Value.string ⟨x.toArray⟩).toArray
theorem strA_get {l : List (List UInt8)} {k : Nat} (h : k < l.length) : (strA l)[k]? = some (.string ⟨(l.getD k []).toArray⟩) := by
  simp [strA, List.getElem?_eq_getElem h, List.getD_eq_getElem?_getD]
theorem strA_cells {l : List (List UInt8)} {w : World} {g : Nat} (h : ∀ k : Nat, k < l.length → w.cell? ⟨g, k, none⟩ = some (.string ⟨(l.getD k []).toArray⟩)) (j : Nat) (v : Value) (hj : (strA l)[j]? = some v) : w.cell? ⟨g, j, none⟩ = some v := by
  have hl : j < l.length := by
    have := (Array.getElem?_eq_some_iff.1 hj).1
    simpa [strA] using this
  rw [strA_get hl] at hj
  rw [h j hl]
  exact hj
theorem idx_lg (w : World) (k : Nat) (hk : k < 34) : (Instr.index 61 (.agg (strA lgL)) (.int .i64 k)).run Tryd.prog w = .ok (.string ⟨(lgL.getD k []).toArray⟩) w := by
  obtain ⟨i, hi, h1⟩ : ∃ i, Tryd.prog.info? 9 = some i ∧ i.size = 1 := ⟨_, rfl, by kernel_rfl⟩
  exact run_index_strs w _ _ 34 Tryd.underlying61 Tryd.underlying9 hi h1 _ k hk _ (strA_get (by rw [lg_len]; exact hk))
theorem idx_sg (w : World) (k : Nat) (hk : k < 19) : (Instr.index 60 (.agg (strA sgL)) (.int .i64 k)).run Tryd.prog w = .ok (.string ⟨(sgL.getD k []).toArray⟩) w := by
  obtain ⟨i, hi, h1⟩ : ∃ i, Tryd.prog.info? 9 = some i ∧ i.size = 1 := ⟨_, rfl, by kernel_rfl⟩
  exact run_index_strs w _ _ 19 Tryd.underlying60 Tryd.underlying9 hi h1 _ k hk _ (strA_get (by rw [sg_len]; exact hk))

theorem bytes_eq (s : ByteArray) (l : List UInt8) : (s.toList == (⟨l.toArray⟩ : ByteArray).toList) = decide (Ls s = l) := by
  rw [ByteArray.toList_eq, ByteArray.toList_eq]
  by_cases h : Ls s = l
  · rw [decide_eq_true h]; simpa using h
  · rw [decide_eq_false h]; simpa using h
theorem lg_find (t : List UInt8) (k : Nat) (hk : k ≤ 34) (h : ∀ j, j < k → t ≠ lgL.getD j []) : (k < 34 ∧ t = lgL.getD k [] → t ∈ lgL) ∧ (k = 34 → ¬ t ∈ lgL) := by
  constructor
  · rintro ⟨h1, h2⟩
    rw [h2, List.getD_eq_getElem?_getD, List.getElem?_eq_getElem (by rw [lg_len]; exact h1)]
    exact List.getElem_mem _
  · rintro rfl hm
    obtain ⟨j, hj, he⟩ := List.mem_iff_getElem.1 hm
    rw [lg_len] at hj
    refine h j hj ?_
    rw [List.getD_eq_getElem?_getD, List.getElem?_eq_getElem (by rw [lg_len]; exact hj)]
    exact he.symm

theorem wordKind_any (s : ByteArray) (hs : 0 < s.size) (w : World) (T : LxTab w) :
    Calls Tryd.prog 41 #[.string s] w fun e w' => e = .returned (.int .i64 (kwP (Ls s))) ∧ w = w' := by
  have hld := strA_cells (l := lgL) (g := 1) (w := w) (fun k hk => T.lg k (by rw [lg_len] at hk; exact hk))
  have HL := Lib.hid hld
  clear hld T
  have IX := idx_lg w
  obtain ⟨A, hA⟩ : ∃ A, A = strA lgL := ⟨_, rfl⟩
  have hsz : A.size = 34 := by rw [hA]; rfl
  rw [← hA] at HL IX
  clear hA
  by_cases c1 : Ls s = [95]
  · have k1 : (s.toList == [95]) = true := by
      have := bytes_eq s [95]; rw [decide_eq_true c1, show (⟨[95].toArray⟩ : ByteArray).toList = [95] from ByteArray.toList_mk _] at this; exact this
    have HK : Hid (kwP (Ls s) = 6) := Lib.hid (by unfold kwP; rw [if_pos c1])
    clear c1 IX
    go_enter Tryd.func41, Tryd.ntmps41
    go_wp2_with fail
    go_ret
    exact ⟨ret_int HK.out.symm, rfl⟩
  · have k1 : (s.toList == [95]) = false := by
      have := bytes_eq s [95]; rw [decide_eq_false c1, show (⟨[95].toArray⟩ : ByteArray).toList = [95] from ByteArray.toList_mk _] at this; exact this
    go_enter Tryd.func41, Tryd.ntmps41
    go_upto_region 3 with fail
    refine wp_region_lit ?_
    refine wpList_load_cells (by rfl) 61 _ (by rfl) 1 (by rfl) A _ HL.out Tryd.underlying61 rfl (by rw [hsz]; kernel_rfl) ?_
    simp only [Act.put, List.setIfInBounds_toArray, List.set_cons_zero, List.set_cons_succ]
    go_wp2_with fail
    go_loop [8] (fun v => ∃ k : Nat, v = .int .i64 k ∧ k ≤ 34 ∧ Hid (∀ j, j < k → Ls s ≠ lgL.getD j [])) (fun v => 34 - (intOf v).toNat)
    case atStart => exact ⟨0, rfl, by omega, Lib.hid fun j hj => absurd hj (by omega)⟩
    case round =>
      obtain ⟨k, rfl, hk, HK⟩ := hrel
      by_cases hlt : k < 34
      · have hi := IX k hlt
        have i1 : (k : Int) < 34 := by omega
        by_cases hw : Ls s = lgL.getD k []
        · have k2 : (s.toList == (⟨(lgL.getD k []).toArray⟩ : ByteArray).toList) = true := by rw [bytes_eq, decide_eq_true hw]
          have HZ : Hid (kwP (Ls s) = 5) := Lib.hid (by unfold kwP; rw [if_neg c1, if_pos ((lg_find _ k hk HK.out).1 ⟨hlt, hw⟩)])
          obtain ⟨x, hx⟩ : ∃ x : ByteArray, x = ⟨(lgL.getD k []).toArray⟩ := ⟨_, rfl⟩
          rw [← hx] at hi k2
          clear IX hw c1 hx HK
          go_wp2_with fail
          go_ret
          exact ⟨ret_int HZ.out.symm, rfl⟩
        · have k2 : (s.toList == (⟨(lgL.getD k []).toArray⟩ : ByteArray).toList) = false := by rw [bytes_eq, decide_eq_false hw]
          have HN : Hid (∀ j, j < k + 1 → Ls s ≠ lgL.getD j []) := Lib.hid fun j hj => by
            rcases Nat.lt_or_ge j k with h | h
            · exact HK.out j h
            · obtain rfl : j = k := by omega
              exact hw
          obtain ⟨x, hx⟩ : ∃ x : ByteArray, x = ⟨(lgL.getD k []).toArray⟩ := ⟨_, rfl⟩
          rw [← hx] at hi k2
          clear IX hw c1 hx HK
          go_wp2_with fail
          exact ⟨⟨k + 1, rfl, by omega, HN⟩, by simp [intOf]; omega⟩
      · obtain rfl : k = 34 := by omega
        have hg : s[0].toNat = byN (Ls s) 0 := get_byN s 0 hs
        have hno : ¬ Ls s ∈ lgL := (lg_find _ 34 hk HK.out).2 rfl
        have HZ : Hid (kwP (Ls s) = if gtN (byN (Ls s) 0) = true then 2 else 1) := Lib.hid (by unfold kwP; rw [if_neg c1, if_neg hno])
        obtain ⟨c, hc⟩ : ∃ c, byN (Ls s) 0 = c := ⟨_, rfl⟩
        rw [hc] at hg HZ
        obtain ⟨b, hb⟩ : ∃ b, gtN c = b := ⟨_, rfl⟩
        have HB := Lib.hid hb
        rw [hb] at HZ
        clear IX c1 hno HK hc hb
        cases b
        · go_wp2_with (go_at_call 40; refine (isGreat_is HB.out _).mono ?_; rintro e w' ⟨rfl, rfl⟩)
          go_ret
          exact ⟨ret_int HZ.out.symm, rfl⟩
        · go_wp2_with (go_at_call 40; refine (isGreat_is HB.out _).mono ?_; rintro e w' ⟨rfl, rfl⟩)
          go_ret
          exact ⟨ret_int HZ.out.symm, rfl⟩
end Go.Proofs.YtlidegofnkmenaaDoor
