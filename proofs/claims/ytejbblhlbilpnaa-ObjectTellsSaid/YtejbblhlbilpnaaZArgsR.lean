/-
  A law's arguments that are slices: of integers ('open_slice_int'), of structs of integers ('open_slice_struct'), as values with their cells.
  Conditions: as each states.
-/
import Derived.Test.YtejbblhlbilpnaaZKeep
import Derived.Deep.Slices
import Derived.Deep.Fields
import Derived.ChangeSame
import Derived.Lib.SmallJoins
namespace Go.Proofs.Ytejbblhlbilpnaa
set_option linter.unusedVariables false
set_option linter.unusedSimpArgs false
open Go.ChangeShapes Go.WideShapes Go.ChangeAt Go.RowKit Go.Deep

section
variable {H : Type} {enc : TypeId × Value → H} {P : Program} {w : World} {base : Nat} {spare : Nat → Bool} {held : Bool}

theorem add_of_cell {a : Addr} {j : Nat} {v : Value} (h0 : (w.cell? (a.add 0)).isSome = true) (h : w.cell? (a.add j) = some v) : w.cell? ⟨a.block, a.off + j, none⟩ = some v := by
  obtain ⟨b, o, s⟩ := a
  cases s with
  | some s =>
    exfalso
    simp only [Addr.add, if_true, World.cell?] at h0
    split at h0
    · simp at h0
    · simp at h0
  | none => rw [← h, Addr.add_lit]

theorem eta_of_cell {a : Addr} (h0 : (w.cell? (a.add 0)).isSome = true) : a = ⟨a.block, a.off, none⟩ := by
  obtain ⟨b, o, s⟩ := a
  cases s with
  | some s =>
    exfalso
    simp only [Addr.add, if_true, World.cell?] at h0
    split at h0
    · simp at h0
    · simp at h0
  | none => rfl

theorem open_slice_int {t e : TypeId} {k : IntKind} {v : Value} {d : DataW H} {ps : List MemPlace} {r : Reach} {b0 : Nat} (ht : P.underlying t = some (.slice e)) (he : P.underlying e = some (.int k)) (hc : P.cellsOf e = 1)
    (hval : Value.okWide P w r b0 t v) (h : DataW.Trod enc P w base spare held t v d ps) :
    ∃ zs : List Int, readsAt w v zs.length (zs.map (Value.int k)) ∧ (∀ z ∈ zs, (Lit.int k z).wf = true) ∧ zs.length ≤ maxLen := by
  obtain ⟨fuel, hf⟩ := h
  have hcs : v.cells.toList = [v] := by
    cases v with
    | agg cs =>
      exfalso
      unfold Value.okWide at hval
      rw [ht] at hval
      rcases open_ints ht he hc hf with ⟨h1, _⟩ | ⟨a, len, cap, zs, h1, _⟩
      all_goals
        simp only [Value.cells] at h1
        obtain ⟨cs⟩ := cs
        simp only at h1
        subst h1
        simp [Cell.okWide, ht, Cell.ok] at hval
    | _ => rfl
  rw [hcs] at hf
  rcases open_ints ht he hc hf with ⟨h1, _⟩ | ⟨a, len, cap, zs, h1, hb, hl, hm, hz, _, hcell, hwf⟩
  · obtain rfl : v = .slice none 0 0 := by simpa using h1
    exact ⟨[], ⟨_, _, rfl, .inl rfl⟩, by simp, Nat.zero_le _⟩
  · obtain rfl : v = .slice (some a) len cap := by simpa using h1
    have hlz : len ≤ zs.length := by rw [hz]; split <;> omega
    have hlen : (zs.take len).length = len := by simp; omega
    refine ⟨zs.take len, ⟨some a, cap, by rw [hlen], ?_⟩, fun z hz' => hwf z (List.mem_of_mem_take hz'), by rw [hlen]; omega⟩
    by_cases h0 : len = 0
    · exact .inl (by rw [hlen]; exact h0)
    · have hs : (w.cell? (a.add 0)).isSome = true := by rw [hcell 0 (by omega)]; rfl
      refine .inr ⟨a.block, a.off, congrArg some (eta_of_cell hs), fun j u hj => ?_⟩
      have hj2 : j < len := by
        have := (List.getElem?_eq_some_iff.1 hj).1
        simp at this
        omega
      have := add_of_cell hs (hcell j (by omega))
      rw [this, ← hj]
      simp [List.getElem?_take, hj2, List.getD_eq_getElem?_getD, List.getElem?_eq_getElem (show j < zs.length by omega)]
/-- v is a slice of n structs of integers: the field j of the i-th is 'f i j', of the kind 'ks[j]'. -/
def structsAt (w : World) (v : Value) (n : Nat) (ks : List IntKind) (f : Nat → Nat → Int) : Prop :=
  ∃ a c, v = .slice a n c ∧ (∀ i j k, i < n → ks[j]? = some k → (Lit.int k (f i j)).wf = true) ∧
    (n = 0 ∨ ∃ b o, a = some ⟨b, o, none⟩ ∧ ∀ i j k, i < n → ks[j]? = some k → w.cell? ⟨b, o + (i * ks.length + j), none⟩ = some (.int k (f i j)))

/-- The fields of a struct are integers of one cell, one behind the other, of these kinds. -/
def intFields (P : Program) (e : TypeId) (ks : List IntKind) : Bool := match P.underlying e with
  | some (.struct fs) => fs.size == ks.length && (List.range ks.length).all fun j => match fs[j]?, ks[j]? with
    | some f, some k => f.offset == j && P.cellsOf f.type == 1 && (match P.underlying f.type with | some (.int q) => decide (q = k) | _ => false)
    | _, _ => false
  | _ => false

theorem intFields_at {e : TypeId} {ks : List IntKind} (h : intFields P e ks = true) :
    ∃ fs, P.underlying e = some (.struct fs) ∧ fs.size = ks.length ∧ ∀ j k, ks[j]? = some k → ∃ f : Field, fs[j]? = some f ∧ f.offset = j ∧ P.cellsOf f.type = 1 ∧ P.underlying f.type = some (.int k) := by
  unfold intFields at h
  split at h
  · rename_i fs hu
    simp only [Bool.and_eq_true, beq_iff_eq, List.all_eq_true, List.mem_range] at h
    refine ⟨fs, hu, h.1, fun j k hk => ?_⟩
    have hj := (List.getElem?_eq_some_iff.1 hk).1
    have h2 := h.2 j hj
    rw [hk] at h2
    split at h2
    · rename_i f k' hf hk'
      cases hk'
      simp only [Bool.and_eq_true, beq_iff_eq] at h2
      refine ⟨f, hf, h2.1.1, h2.1.2, ?_⟩
      have h3 := h2.2
      split at h3
      · rename_i q hq
        rw [hq, of_decide_eq_true h3]
      · cases h3
    · cases h2
  · cases h

theorem open_slice_struct {t e : TypeId} (ks : List IntKind) {v : Value} {d : DataW H} {ps : List MemPlace} {r : Reach} {b0 : Nat} (ht : P.underlying t = some (.slice e)) (hks : intFields P e ks = true) (hC : P.cellsOf e = ks.length) (hpos : ∃ k, ks[0]? = some k)
    (hval : Value.okWide P w r b0 t v) (h : DataW.Trod enc P w base spare held t v d ps) :
    ∃ n f, structsAt w v n ks f ∧ n ≤ maxLen := by
  obtain ⟨fs, hu, hsz, hfs⟩ := intFields_at hks
  obtain ⟨fuel, hf⟩ := h
  have hcs : v.cells.toList = [v] := by
    cases v with
    | agg cs =>
      exfalso
      unfold Value.okWide at hval
      rw [ht] at hval
      rcases DataW.trod_slice ht hf with ⟨h1, _⟩ | ⟨a, len, cap, el, re, n, _, h1, _⟩
      all_goals
        simp only [Value.cells] at h1
        obtain ⟨cs⟩ := cs
        simp only at h1
        subst h1
        simp [Cell.okWide, ht, Cell.ok] at hval
    | _ => rfl
  rw [hcs] at hf
  rcases DataW.trod_slice ht hf with ⟨h1, _⟩ | ⟨a, len, cap, el, re, n, _, h1, _, hb, hl, hm, hlen, hel, _⟩
  · obtain rfl : v = .slice none 0 0 := by simpa using h1
    exact ⟨0, fun _ _ => 0, ⟨_, _, rfl, by intro i j k hi; omega, .inl rfl⟩, Nat.zero_le _⟩
  · obtain rfl : v = .slice (some a) len cap := by simpa using h1
    have each : ∀ i, i < len → ∃ g : Nat → Int, ∀ j k, ks[j]? = some k → w.cell? (a.add (i * ks.length + j)) = some (.int k (g j)) ∧ (Lit.int k (g j)).wf = true := by
      intro i hi
      have h2 := hel i hi
      rw [hC, List.getElem?_eq_getElem (by omega)] at h2
      cases hc : w.cells? base (a.add (i * ks.length)) ks.length with
      | none => rw [hc] at h2; simp at h2
      | some cs =>
        rw [hc] at h2
        simp only [Option.bind_some] at h2
        obtain ⟨_, hcl, hat⟩ := World.cells?_some hc
        obtain ⟨xs, n', _, _, _, hxl, hg⟩ := DataW.trod_struct hu h2
        refine ⟨fun j => intOf (cs.getD j (.bool false)), fun j k hk => ?_⟩
        have hj := (List.getElem?_eq_some_iff.1 hk).1
        obtain ⟨f, hfj, ho, h1c, hui⟩ := hfs j k hk
        have h3 := hg j f hfj
        have hdt : (cs.drop f.offset).take (P.cellsOf f.type) = [cs[j]'(by omega)] := by
          rw [ho, h1c, List.drop_eq_getElem_cons (by omega)]
          rfl
        rw [hdt, List.getElem?_eq_getElem (by omega)] at h3
        obtain ⟨z, hz, _, hw⟩ := DataW.trod_int hui h3
        have hz' : cs[j]'(by omega) = .int k z := by simpa using hz
        have hgd : intOf (cs.getD j (.bool false)) = z := by
          rw [List.getD_eq_getElem?_getD, List.getElem?_eq_getElem (by omega)]
          simp [hz', intOf]
        rw [← Go.Deep.add_add, hat j hj, List.getElem?_eq_getElem (by omega), hz']
        show some (Value.int k z) = some (Value.int k (intOf (cs.getD j (.bool false)))) ∧ (Lit.int k (intOf (cs.getD j (.bool false)))).wf = true
        rw [hgd]
        exact ⟨rfl, hw⟩
    let f : Nat → Nat → Int := fun i => if hi : i < len then Classical.choose (each i hi) else fun _ => 0
    have hff : ∀ i j k, i < len → ks[j]? = some k → w.cell? (a.add (i * ks.length + j)) = some (.int k (f i j)) ∧ (Lit.int k (f i j)).wf = true := by
      intro i j k hi hk
      have := Classical.choose_spec (each i hi) j k hk
      simp only [f, hi, dif_pos]
      exact this
    refine ⟨len, f, ⟨some a, cap, rfl, fun i j k hi hk => (hff i j k hi hk).2, ?_⟩, by omega⟩
    by_cases h0 : len = 0
    · exact .inl h0
    · obtain ⟨k0, hk0⟩ := hpos
      have hs : (w.cell? (a.add 0)).isSome = true := by
        have := (hff 0 0 k0 (by omega) hk0).1
        simp only [Nat.zero_mul, Nat.zero_add] at this
        rw [this]; rfl
      exact .inr ⟨a.block, a.off, congrArg some (eta_of_cell hs), fun i j k hi hk => add_of_cell hs (hff i j k hi hk).1⟩
end
end Go.Proofs.Ytejbblhlbilpnaa

/-
  A law's argument that is a struct of two integers, a slice of integers, a text, by value.
  Conditions: as each states.
-/
namespace Go.Proofs.Ytejbblhlbilpnaa
set_option linter.unusedVariables false
set_option linter.unusedSimpArgs false
open Go.ChangeShapes Go.WideShapes Go.ChangeAt Go.RowKit Go.Deep Go.Joins

section
variable {H : Type} {enc : TypeId × Value → H} {P : Program} {w : World} {base : Nat} {spare : Nat → Bool} {held : Bool}

theorem open_slice_cell {t e : TypeId} {k : IntKind} {v : Value} {fuel : Nat} {x : DataW H × List MemPlace} (ht : P.underlying t = some (.slice e)) (he : P.underlying e = some (.int k)) (hc : P.cellsOf e = 1)
    (hf : DataW.trod enc P w base spare held fuel t [v] = some x) :
    ∃ (a : Option Addr) (c : Nat) (zs : List Int), v = .slice a zs.length c ∧ readsAt w (.slice a zs.length c) zs.length (zs.map (Value.int k)) ∧ (∀ z ∈ zs, (Lit.int k z).wf = true) ∧ zs.length ≤ maxLen := by
  rcases open_ints ht he hc hf with ⟨h1, _⟩ | ⟨a, len, cap, zs, h1, hb, hl, hm, hz, _, hcell, hwf⟩
  · obtain rfl : v = .slice none 0 0 := by simpa using h1
    exact ⟨none, 0, [], rfl, ⟨_, _, rfl, .inl rfl⟩, by simp, Nat.zero_le _⟩
  · obtain rfl : v = .slice (some a) len cap := by simpa using h1
    have hlz : len ≤ zs.length := by rw [hz]; split <;> omega
    have hlen : (zs.take len).length = len := by simp; omega
    refine ⟨some a, cap, zs.take len, by rw [hlen], ⟨some a, cap, rfl, ?_⟩, fun z hz' => hwf z (List.mem_of_mem_take hz'), by rw [hlen]; omega⟩
    by_cases h0 : len = 0
    · exact .inl (by rw [hlen]; exact h0)
    · have hs : (w.cell? (a.add 0)).isSome = true := by rw [hcell 0 (by omega)]; rfl
      refine .inr ⟨a.block, a.off, congrArg some (eta_of_cell hs), fun j u hj => ?_⟩
      have hj2 : j < len := by
        have := (List.getElem?_eq_some_iff.1 hj).1
        simp at this
        omega
      have := add_of_cell hs (hcell j (by omega))
      rw [this, ← hj]
      simp [List.getElem?_take, hj2, List.getD_eq_getElem?_getD, List.getElem?_eq_getElem (show j < zs.length by omega)]

theorem open_obj {r : Reach} {b0 : Nat} {t e : TypeId} {f0 f1 f2 f3 : Field} {v : Value} {d : DataW H} {p : List MemPlace} (hs : P.underlying t = some (.struct #[f0, f1, f2, f3])) (hone : oneCellFields P #[f0, f1, f2, f3] = true) (hC : P.cellsOf t = 4)
    (h0 : P.underlying f0.type = some (.int .i64)) (h1 : P.underlying f1.type = some (.int .i64)) (h2 : P.underlying f2.type = some (.slice e)) (he : P.underlying e = some (.int .u64)) (hc : P.cellsOf e = 1) (h3 : P.underlying f3.type = some .string)
    (hv : Value.okWide P w r b0 t v) (h : DataW.Trod enc P w base spare held t v d p) :
    ∃ (k g : Int) (a : Option Addr) (c : Nat) (xs : List Int) (s : ByteArray), v = .agg #[.int .i64 k, .int .i64 g, .slice a xs.length c, .string s] ∧ (Lit.int .i64 k).wf = true ∧ (Lit.int .i64 g).wf = true ∧
      readsAt w (.slice a xs.length c) xs.length (wordsL xs) ∧ (∀ z ∈ xs, (Lit.int .u64 z).wf = true) ∧ xs.length ≤ maxLen ∧ s.size ≤ maxLen := by
  obtain ⟨v0, v1, v2, v3, y0, y1, y2, y3, n, rfl, _, _, g0, g1, g2, g3⟩ := open_agg4 hs hone hC hv h
  obtain ⟨k, e0, _, w0⟩ := DataW.trod_int h0 g0
  obtain ⟨g, e1, _, w1⟩ := DataW.trod_int h1 g1
  obtain ⟨a, c, xs, rfl, hr, hx, hm⟩ := open_slice_cell h2 he hc g2
  obtain ⟨s, e3, _, hs3⟩ := DataW.trod_string h3 g3
  obtain rfl : v0 = .int .i64 k := by simpa using e0
  obtain rfl : v1 = .int .i64 g := by simpa using e1
  obtain rfl : v3 = .string s := by simpa using e3
  exact ⟨k, g, a, c, xs, s, rfl, w0, w1, hr, hx, hm, hs3⟩
end

theorem under_object : ∃ f0 f1 f2 f3 : Field, Try.prog.underlying 28 = some (.struct #[f0, f1, f2, f3]) ∧ oneCellFields Try.prog #[f0, f1, f2, f3] = true ∧ Try.prog.underlying f0.type = some (.int .i64) ∧ Try.prog.underlying f1.type = some (.int .i64) ∧ f2.type = 22 ∧ Try.prog.underlying f3.type = some .string :=
  ⟨_, _, _, _, Try.underlying28, by kernel_rfl, by kernel_rfl, by kernel_rfl, rfl, by kernel_rfl⟩
end Go.Proofs.Ytejbblhlbilpnaa

/-
  A law's argument that is a region's words beside a heap (stockpotrig.Raw).
  Conditions: as each states.
-/
namespace Go.Proofs.Ytejbblhlbilpnaa
set_option linter.unusedVariables false
set_option linter.unusedSimpArgs false
open Go.ChangeShapes Go.WideShapes Go.ChangeAt Go.RowKit Go.Deep Go.Joins

section
variable {H : Type} {enc : TypeId × Value → H} {P : Program} {w : World} {base : Nat} {spare : Nat → Bool} {held : Bool}

theorem open_raw {r : Reach} {b0 : Nat} {t e th : TypeId} {f0 f1 g0 g1 g2 g3 : Field} {v : Value} {d : DataW H} {p : List MemPlace}
    (hs : P.underlying t = some (.struct #[f0, f1])) (hh : P.underlying f1.type = some (.struct #[g0, g1, g2, g3]))
    (ho : f0.offset = 0 ∧ f1.offset = 1 ∧ g0.offset = 0 ∧ g1.offset = 1 ∧ g2.offset = 2 ∧ g3.offset = 3)
    (hc : P.cellsOf f0.type = 1 ∧ P.cellsOf f1.type = 4 ∧ P.cellsOf g0.type = 1 ∧ P.cellsOf g1.type = 1 ∧ P.cellsOf g2.type = 1 ∧ P.cellsOf g3.type = 1) (hC : P.cellsOf t = 5)
    (h0 : P.underlying f0.type = some (.slice e)) (he : P.underlying e = some (.int .u64)) (hce : P.cellsOf e = 1)
    (i0 : P.underlying g0.type = some (.int .i64)) (i1 : P.underlying g1.type = some (.int .i64)) (i2 : P.underlying g2.type = some (.int .i64)) (i3 : P.underlying g3.type = some (.int .i64))
    (hv : Value.okWide P w r b0 t v) (h : DataW.Trod enc P w base spare held t v d p) :
    ∃ (a : Option Addr) (c : Nat) (xs : List Int) (z0 z1 z2 z3 : Int), v = .agg #[.slice a xs.length c, .int .i64 z0, .int .i64 z1, .int .i64 z2, .int .i64 z3] ∧
      readsAt w (.slice a xs.length c) xs.length (wordsL xs) ∧ (∀ z ∈ xs, (Lit.int .u64 z).wf = true) ∧ xs.length ≤ maxLen ∧
      (Lit.int .i64 z0).wf = true ∧ (Lit.int .i64 z1).wf = true ∧ (Lit.int .i64 z2).wf = true ∧ (Lit.int .i64 z3).wf = true := by
  obtain ⟨cs, rfl, hsz⟩ := okWide_struct hs hv
  obtain ⟨c0, c1, c2, c3, c4, rfl⟩ : ∃ c0 c1 c2 c3 c4, cs = #[c0, c1, c2, c3, c4] := by
    have := hsz.trans hC
    match cs, this with
    | ⟨[c0, c1, c2, c3, c4]⟩, _ => exact ⟨_, _, _, _, _, rfl⟩
  obtain ⟨fuel, hf⟩ := h
  obtain ⟨y0, y1, n, hx, _, k0, k1⟩ := trod_struct2 hs hf
  simp only [ho, hc] at k0 k1
  change DataW.trod enc P w base spare held n f0.type [c0] = some y0 at k0
  change DataW.trod enc P w base spare held n f1.type [c1, c2, c3, c4] = some y1 at k1
  obtain ⟨q0, q1, q2, q3, m, _, _, j0, j1, j2, j3⟩ := trod_struct4 hh k1
  simp only [ho, hc] at j0 j1 j2 j3
  change DataW.trod enc P w base spare held m g0.type [c1] = some q0 at j0
  change DataW.trod enc P w base spare held m g1.type [c2] = some q1 at j1
  change DataW.trod enc P w base spare held m g2.type [c3] = some q2 at j2
  change DataW.trod enc P w base spare held m g3.type [c4] = some q3 at j3
  obtain ⟨a, c, xs, rfl, hr, hx, hm⟩ := open_slice_cell h0 he hce k0
  obtain ⟨z0, e0, _, w0⟩ := DataW.trod_int i0 j0
  obtain ⟨z1, e1, _, w1⟩ := DataW.trod_int i1 j1
  obtain ⟨z2, e2, _, w2⟩ := DataW.trod_int i2 j2
  obtain ⟨z3, e3, _, w3⟩ := DataW.trod_int i3 j3
  obtain rfl : c1 = .int .i64 z0 := by simpa using e0
  obtain rfl : c2 = .int .i64 z1 := by simpa using e1
  obtain rfl : c3 = .int .i64 z2 := by simpa using e2
  obtain rfl : c4 = .int .i64 z3 := by simpa using e3
  exact ⟨a, c, xs, z0, z1, z2, z3, rfl, hr, hx, hm, w0, w1, w2, w3⟩
end

theorem under_raw : ∃ f0 f1 g0 g1 g2 g3 : Field, Try.prog.underlying 26 = some (.struct #[f0, f1]) ∧ Try.prog.underlying f1.type = some (.struct #[g0, g1, g2, g3]) ∧
    (f0.offset = 0 ∧ f1.offset = 1 ∧ g0.offset = 0 ∧ g1.offset = 1 ∧ g2.offset = 2 ∧ g3.offset = 3) ∧
    (Try.prog.cellsOf f0.type = 1 ∧ Try.prog.cellsOf f1.type = 4 ∧ Try.prog.cellsOf g0.type = 1 ∧ Try.prog.cellsOf g1.type = 1 ∧ Try.prog.cellsOf g2.type = 1 ∧ Try.prog.cellsOf g3.type = 1) ∧
    f0.type = 22 ∧ (Try.prog.underlying g0.type = some (.int .i64) ∧ Try.prog.underlying g1.type = some (.int .i64) ∧ Try.prog.underlying g2.type = some (.int .i64) ∧ Try.prog.underlying g3.type = some (.int .i64)) :=
  ⟨_, _, _, _, _, _, Try.underlying26, Try.underlying24, ⟨rfl, rfl, rfl, rfl, rfl, rfl⟩, ⟨by kernel_rfl, by kernel_rfl, by kernel_rfl, by kernel_rfl, by kernel_rfl, by kernel_rfl⟩, rfl, by kernel_rfl, by kernel_rfl, by kernel_rfl, by kernel_rfl⟩
end Go.Proofs.Ytejbblhlbilpnaa
