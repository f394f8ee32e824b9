/-
  A law's argument that is a struct of two integers, a slice of integers, a text, by value.
  Conditions: as each states.
-/
import Derived.Test.YtnjpjhlodamanaaArgs
import Derived.Lib.SmallJoins
import Derived.Test.YtnjpjhlodamanaaReC
import Derived.Test.YtnjpjhlodamanaaOwnO
import Derived.Test.YtnjpjhlodamanaaTwo
import Derived.SizedLaws
namespace Go.Proofs.Ytnjpjhlodamanaa
set_option linter.unusedVariables false
set_option linter.unusedSimpArgs false
open Go.ChangeShapes Go.WideShapes Go.ChangeAt Go.RowKit Go.Deep Go.Joins

section
variable {H : Type} {enc : TypeId × Value → H} {P : Program} {w : World} {base : Nat} {spare : Nat → Bool} {held : Bool}

theorem open_slice_cell {t e : TypeId} {k : IntKind} {v : Value} {fuel : Nat} {x : DataW H × List MemPlace} (ht : P.underlying t = some (.slice e)) (he : P.underlying e = some (.int k)) (hc : P.cellsOf e = 1)
    (hf : DataW.trod enc P w base spare held fuel t [v] = some x) :
    ∃ (a : Option Addr) (c : Nat) (zs : List Int), v = .slice a zs.length c ∧ readsAt w (.slice a zs.length c) zs.length (zs.map (Value.int k)) ∧ (∀ z ∈ zs, (Lit.int k z).wf = true) ∧ zs.length ≤ maxLen := by
  rcases open_ints ht he hc hf with ⟨h1, _⟩ | ⟨a, len, cap, zs, h1, hb, hl, hm, hz, _, hcell, hwf⟩
  · obtain rfl : v = .slice none 0 0 := by simpa using h1
    exact ⟨none, 0, [], rfl, ⟨_, _, rfl, .inl rfl⟩, by simp, Nat.zero_le _⟩
  · obtain rfl : v = .slice (some a) len cap := by simpa using h1
    have hlz : len ≤ zs.length := by rw [hz]; split <;> omega
    have hlen : (zs.take len).length = len := by simp; omega
    refine ⟨some a, cap, zs.take len, by rw [hlen], ⟨some a, cap, rfl, ?_⟩, fun z hz' => hwf z (List.mem_of_mem_take hz'), by rw [hlen]; omega⟩
    by_cases h0 : len = 0
    · exact .inl (by rw [hlen]; exact h0)
    · have hs : (w.cell? (a.add 0)).isSome = true := by rw [hcell 0 (by omega)]; rfl
      refine .inr ⟨a.block, a.off, congrArg some (eta_of_cell hs), fun j u hj => ?_⟩
      have hj2 : j < len := by
        have := (List.getElem?_eq_some_iff.1 hj).1
        simp at this
        omega
      have := add_of_cell hs (hcell j (by omega))
      rw [this, ← hj]
      simp [List.getElem?_take, hj2, List.getD_eq_getElem?_getD, List.getElem?_eq_getElem (show j < zs.length by omega)]

theorem open_obj {r : Reach} {b0 : Nat} {t e : TypeId} {f0 f1 f2 f3 : Field} {v : Value} {d : DataW H} {p : List MemPlace} (hs : P.underlying t = some (.struct #[f0, f1, f2, f3])) (hone : oneCellFields P #[f0, f1, f2, f3] = true) (hC : P.cellsOf t = 4)
    (h0 : P.underlying f0.type = some (.int .i64)) (h1 : P.underlying f1.type = some (.int .i64)) (h2 : P.underlying f2.type = some (.slice e)) (he : P.underlying e = some (.int .u64)) (hc : P.cellsOf e = 1) (h3 : P.underlying f3.type = some .string)
    (hv : Value.okWide P w r b0 t v) (h : DataW.Trod enc P w base spare held t v d p) :
    ∃ (k g : Int) (a : Option Addr) (c : Nat) (xs : List Int) (s : ByteArray), v = .agg #[.int .i64 k, .int .i64 g, .slice a xs.length c, .string s] ∧ (Lit.int .i64 k).wf = true ∧ (Lit.int .i64 g).wf = true ∧
      readsAt w (.slice a xs.length c) xs.length (wordsL xs) ∧ (∀ z ∈ xs, (Lit.int .u64 z).wf = true) ∧ xs.length ≤ maxLen ∧ s.size ≤ maxLen := by
  obtain ⟨v0, v1, v2, v3, y0, y1, y2, y3, n, rfl, _, _, g0, g1, g2, g3⟩ := open_agg4 hs hone hC hv h
  obtain ⟨k, e0, _, w0⟩ := DataW.trod_int h0 g0
  obtain ⟨g, e1, _, w1⟩ := DataW.trod_int h1 g1
  obtain ⟨a, c, xs, rfl, hr, hx, hm⟩ := open_slice_cell h2 he hc g2
  obtain ⟨s, e3, _, hs3⟩ := DataW.trod_string h3 g3
  obtain rfl : v0 = .int .i64 k := by simpa using e0
  obtain rfl : v1 = .int .i64 g := by simpa using e1
  obtain rfl : v3 = .string s := by simpa using e3
  exact ⟨k, g, a, c, xs, s, rfl, w0, w1, hr, hx, hm, hs3⟩
end

theorem under_object : ∃ f0 f1 f2 f3 : Field, Try.prog.underlying 35 = some (.struct #[f0, f1, f2, f3]) ∧ oneCellFields Try.prog #[f0, f1, f2, f3] = true ∧ Try.prog.underlying f0.type = some (.int .i64) ∧ Try.prog.underlying f1.type = some (.int .i64) ∧ f2.type = 30 ∧ Try.prog.underlying f3.type = some .string :=
  ⟨_, _, _, _, Try.underlying35, by kernel_rfl, by kernel_rfl, by kernel_rfl, rfl, by kernel_rfl⟩
end Go.Proofs.Ytnjpjhlodamanaa

/-
  The object that stands at a place of words, as the document reads it (stockpotref03.At): a fielded one.
  Conditions: as each states.
-/
namespace Go.Proofs.Ytnjpjhlodamanaa
set_option linter.unusedVariables false
set_option linter.unusedSimpArgs false
open Go.ChangeShapes Go.WideShapes Go.ChangeAt Go.RowKit
set_option maxRecDepth 100000

theorem owns_five {w : World} {B : Nat} {e : TypeId} {size : Nat} {v : Value} {n : Nat} {xs : List Value} (h : w.ownsRow B e size v n xs) (p : Nat) (hp : ∀ g, v.ownBlock = some g → g ≠ p) (a b c d u : Value) :
    (((((w.setCell ⟨p, 0, none⟩ a).setCell ⟨p, 1, none⟩ b).setCell ⟨p, 2, none⟩ c).setCell ⟨p, 3, none⟩ d).setCell ⟨p, 4, none⟩ u).ownsRow B e size v n xs :=
  owns_of_heap h fun g hg => by
    have hne := hp g hg
    rw [Below.heap_setCell _ _ _ _ hne, Below.heap_setCell _ _ _ _ hne, Below.heap_setCell _ _ _ _ hne, Below.heap_setCell _ _ _ _ hne, Below.heap_setCell _ _ _ _ hne]
end Go.Proofs.Ytnjpjhlodamanaa

/-
  The statements' copy of an object (OwnObject); both arenas' words are the same (Two.Same).
  Conditions: as each states.
-/
namespace Go.Proofs.Ytnjpjhlodamanaa
set_option linter.unusedVariables false
set_option linter.unusedSimpArgs false
open Go.ChangeShapes Go.WideShapes Go.ChangeAt Go.RowKit
set_option maxRecDepth 100000

theorem owns_four {w : World} {B : Nat} {e : TypeId} {size : Nat} {v : Value} {n : Nat} {xs : List Value} (h : w.ownsRow B e size v n xs) (p : Nat) (hp : p < B) (a b c d : Value) :
    ((((w.setCell ⟨p, 0, none⟩ a).setCell ⟨p, 1, none⟩ b).setCell ⟨p, 2, none⟩ c).setCell ⟨p, 3, none⟩ d).ownsRow B e size v n xs :=
  owns_set' (owns_set' (owns_set' (owns_set' h _ _ hp) _ _ hp) _ _ hp) _ _ hp

set_option maxHeartbeats 4000000 in
theorem ownObject_any {w : World} (k t : Int) (a : Option Addr) (c : Nat) (xs : List Int) (s : ByteArray) (hr : readsAt w (.slice a xs.length c) xs.length (wordsL xs)) (hl : xs.length * 8 ≤ 140737488355328) :
    Calls Try.prog 6 #[obj k t a xs.length c s] w fun e w' => ∃ b d, e = .returned (obj k t b xs.length d s) ∧ w'.ownsRow w.heap.size 39 1 (.slice b xs.length d) xs.length (wordsL xs) ∧ Below w.heap.size w w' := by
  have hz : xs.length = 0 ∨ 0 < (wordsL xs).length := by cases xs <;> simp
  have HRD : Hid (∀ W, Below w.heap.size w W → readsAt W (.slice a xs.length c) xs.length (wordsL xs)) := fun W hb => hr.below hz hb
  have HL := Lib.hid hl
  have HOW : Hid (∀ W, readsAt W (.slice a xs.length c) xs.length (wordsL xs) → Calls Try.prog 27 #[.slice a xs.length c] W fun e w' => ∃ b d, e = .returned (.slice b xs.length d) ∧ w'.ownsRow W.heap.size 39 1 (.slice b xs.length d) xs.length (wordsL xs) ∧ Below W.heap.size W w') := fun W hW => ownWords_any hW hl
  clear hr hz hl
  generalize xs.length = n at *
  go_enter Try.func6, Try.ntmps6
  go_wp2_with fail
  refine (HOW.out _ (HRD.out _ (bl_alloc (bl_alloc (Below.refl _ _) _) _))).mono ?_
  rintro e w1 ⟨b, d, rfl, ho, b1⟩
  have r1 : rowAt w1 w.heap.size 35 [.int .i64 k, .int .i64 t, .slice a n c, .string s] := ((rowAt.made w _ _).alloc _).below b1 (by simp <;> omega)
  have r2 : rowAt w1 (w.heap.size + 1) 35 [.int .i64 0, .int .i64 0, .slice none 0 0, .string ⟨#[]⟩] := (rowAt.made_at (w := w.alloc _) _ _ (by simp)).below b1 (by simp <;> omega)
  have HB := Lib.hid (bl_call (bl_alloc (bl_alloc (Below.refl w.heap.size w) _) _) b1)
  replace ho : w1.ownsRow (w.heap.size + 1 + 1) 39 1 (.slice b n d) n (wordsL xs) := by simpa using ho
  have HO := Lib.hid ho
  have c0 := r1.cell 0
  have c1 := r1.cell 1
  have c2 := r1.cell 2
  have c3 := r1.cell 3
  have f2 := r1.free 2
  have l1 := r1.lt
  have z0 := r2.cell 0
  have z1 := r2.cell 1
  have z2 := r2.cell 2
  have z3 := r2.cell 3
  have y0 := r2.free 0
  have y1 := r2.free 1
  have y2 := r2.free 2
  have y3 := r2.free 3
  have l2 := r2.lt
  simp only [List.getElem?_cons_zero, List.getElem?_cons_succ] at c0 c1 c2 c3 z0 z1 z2 z3
  clear r1 r2 b1 ho
  go_wp2
  refine bodyPost_ret (v := obj k t b n d s) ?hres ?hdef ⟨b, d, rfl, ?ho, ?hb⟩
  case hdef => rfl
  case hres => simp [results, Try.results6, go_sem, l2, z0, z1, z2, z3]
  case ho => exact owns_base (owns_four (owns_set' HO.out _ _ (by show w.heap.size < w.heap.size + 1 + 1; omega)) _ (by omega) _ _ _ _) fun g hg => by have := (HO.out.lt g hg).1; omega
  case hb => repeat (first | exact HB.out | refine bl_set ?_ (by simp) _)

end Go.Proofs.Ytnjpjhlodamanaa

/-
  A law's argument that is a list of objects: as plain data, in memory; no list of it longer than memory's reach.
  Conditions: as each states.
-/
namespace Go.Proofs.Ytnjpjhlodamanaa
set_option linter.unusedVariables false
set_option linter.unusedSimpArgs false
open Go.ChangeShapes Go.WideShapes Go.ChangeAt Go.RowKit Go.Deep
set_option maxRecDepth 100000

section
variable {H : Type} {enc : TypeId × Value → H} {P : Program} {w : World} {base : Nat} {spare : Nat → Bool} {held : Bool}
/-- Nothing of it is longer than memory's reach. -/
def WBo (P : Program) (t : TypeId) (d : DataW H) : Prop := ∀ n ∈ d.weights P t, n ≤ reachBytes
theorem wbo_all {e : TypeId} : ∀ (l : List (DataW H)) (d : DataW H), d ∈ l → ∀ n ∈ d.weights P e, n ∈ DataW.weightsAll P e l
  | [], d, h, _, _ => by cases h
  | x :: l, d, h, n, hn => by
    simp only [DataW.weightsAll, List.mem_append]
    rcases List.mem_cons.1 h with rfl | h
    · exact .inl hn
    · exact .inr (wbo_all l d h n hn)
theorem wbo_len {t e : TypeId} {elems rest : List (DataW H)} (hu : P.underlying t = some (.slice e)) (h : WBo P t (.slice elems rest)) : elems.length * P.bytesOf e ≤ reachBytes := by
  have := h ((elems.length + rest.length) * P.bytesOf e) (by simp [DataW.weights, hu])
  have h2 : elems.length * P.bytesOf e ≤ (elems.length + rest.length) * P.bytesOf e := Nat.mul_le_mul_right _ (by omega)
  omega
theorem wbo_el {t e : TypeId} {elems rest : List (DataW H)} (hu : P.underlying t = some (.slice e)) (h : WBo P t (.slice elems rest)) {d : DataW H} (hd : d ∈ elems) : WBo P e d := fun n hn =>
  h n (by simp only [DataW.weights, hu, List.mem_cons, List.mem_append]; exact .inr (.inl (wbo_all _ _ hd n hn)))
theorem wbo_part {t : TypeId} {fs : Array Field} {parts : List (DataW H)} (hu : P.underlying t = some (.struct fs)) (h : WBo P t (.agg parts)) {j : Nat} {f : Field} {d : DataW H} (hj : fs[j]? = some f) (hd : parts[j]? = some d) : WBo P f.type d := fun n hn =>
  h n (by
    simp only [DataW.weights, hu]
    exact DataW.weights_mem_each (j := j) (t := f.type) (by rw [List.getElem?_map]; simp [hj]) hd n hn)
theorem wbo_of {ts ts' : List TypeId} {ds gs : List (DataW H)} (hz : (DataW.weightsEach P (ts ++ ts') (ds ++ gs)).all (· ≤ reachBytes) = true) {j : Nat} {t : TypeId} {d : DataW H} (ht : ts[j]? = some t) (hd : ds[j]? = some d) : WBo P t d := fun n hn => by
  have h1 : (ts ++ ts')[j]? = some t := by rw [List.getElem?_append_left (List.getElem?_eq_some_iff.1 ht).1]; exact ht
  have h2 : (ds ++ gs)[j]? = some d := by rw [List.getElem?_append_left (List.getElem?_eq_some_iff.1 hd).1]; exact hd
  have := List.all_eq_true.1 hz n (DataW.weights_mem_each h1 h2 n hn)
  simpa using this
theorem openO_slice {t e : TypeId} {α : Type} {C B : Nat} {R : List Value → α → Prop} (ht : P.underlying t = some (.slice e)) (hC : P.cellsOf e = C) (hC0 : 0 < C) (hB : P.bytesOf e = B) {cs : List Value} {fuel : Nat} {x : DataW H × List MemPlace} (hw : WBo P t x.1)
    (hf : DataW.trod enc P w base spare held fuel t cs = some x)
    (hel : ∀ (fuel : Nat) (vs : List Value) (y : DataW H × List MemPlace), WBo P e y.1 → vs.length = C → DataW.trod enc P w base spare held fuel e vs = some y → ∃ x : α, R vs x) :
    ∃ (a : Option Addr) (c : Nat) (xs : List α), cs = [.slice a xs.length c] ∧ xs.length * B ≤ reachBytes ∧ (∀ x ∈ xs, ∃ vs, vs.length = C ∧ R vs x) ∧
      (xs.length = 0 ∨ ∃ b o, a = some ⟨b, o, none⟩ ∧ ∀ i x, xs[i]? = some x → ∃ vs, vs.length = C ∧ R vs x ∧ ∀ j u, vs[j]? = some u → w.cell? ⟨b, o + (i * C + j), none⟩ = some u) := by
  subst hB
  rcases DataW.trod_slice ht hf with ⟨h1, _⟩ | ⟨a, len, cap, el, re, n, _, h1, hx, hb, hl, hm, hlen, hall, _⟩
  · exact ⟨none, 0, [], h1, by simp, fun x hx => (by cases hx), .inl rfl⟩
  · have hwx : WBo P t (.slice (el.map (·.1)) (re.map (·.1))) := by rw [hx] at hw; exact hw
    have hlr := wbo_len ht hwx
    rw [List.length_map, hlen] at hlr
    have each : ∀ i, i < len → ∃ (x : α) (vs : List Value), vs.length = C ∧ R vs x ∧ ∀ j u, vs[j]? = some u → w.cell? (a.add (i * C + j)) = some u := by
      intro i hi
      have h2 := hall i hi
      rw [hC, List.getElem?_eq_getElem (by omega)] at h2
      cases hc : w.cells? base (a.add (i * C)) C with
      | none => rw [hc] at h2; simp at h2
      | some vs =>
        rw [hc] at h2
        simp only [Option.bind_some] at h2
        obtain ⟨_, hcl, hat⟩ := World.cells?_some hc
        obtain ⟨x, hR⟩ := hel n vs _ (wbo_el ht hwx (List.mem_map_of_mem (List.getElem_mem (by omega : i < el.length)))) hcl h2
        refine ⟨x, vs, hcl, hR, fun j u hj => ?_⟩
        have hjl := (List.getElem?_eq_some_iff.1 hj).1
        rw [← Go.Deep.add_add, hat j (by omega), hj]
    let f : Fin len → α := fun i => Classical.choose (each i.1 i.2)
    have hff : ∀ i : Fin len, ∃ vs, vs.length = C ∧ R vs (f i) ∧ ∀ j u, vs[j]? = some u → w.cell? (a.add (i.1 * C + j)) = some u := fun i => Classical.choose_spec (each i.1 i.2)
    have hfl : (List.ofFn f).length = len := List.length_ofFn
    refine ⟨some a, cap, List.ofFn f, by rw [hfl]; exact h1, by rw [hfl]; exact hlr, fun x hx => ?_, ?_⟩
    · obtain ⟨i, rfl⟩ := List.mem_ofFn.1 hx
      obtain ⟨vs, h3, h4, _⟩ := hff i
      exact ⟨vs, h3, h4⟩
    · by_cases h0 : len = 0
      · exact .inl (by omega)
      · obtain ⟨vs0, v1, v2, v3⟩ := hff ⟨0, by omega⟩
        have hs : (w.cell? (a.add 0)).isSome = true := by
          have := v3 0 vs0[0] (List.getElem?_eq_getElem (by omega))
          simp only [Nat.zero_mul, Nat.zero_add] at this
          rw [this]; rfl
        refine .inr ⟨a.block, a.off, congrArg some (eta_of_cell hs), fun i x hx => ?_⟩
        have hi : i < len := by have := (List.getElem?_eq_some_iff.1 hx).1; omega
        have hxe : f ⟨i, hi⟩ = x := by
          rw [List.getElem?_eq_getElem (by omega), List.getElem_ofFn] at hx
          exact Option.some.inj hx
        obtain ⟨vs, h3, h4, h5⟩ := hff ⟨i, hi⟩
        rw [hxe] at h4
        exact ⟨vs, h3, h4, fun j u hj => add_of_cell hs (h5 j u hj)⟩
end

/-- An object by value: kind, tag, where its fields lie, their capacity, the fields, the text. -/
structure ObE where
  k : Int
  t : Int
  a : Option Addr
  c : Nat
  fs : List Int
  s : ByteArray
abbrev obV (x : ObE) : Value := obj x.k x.t x.a x.fs.length x.c x.s
abbrev obCs (x : ObE) : List Value := [.int .i64 x.k, .int .i64 x.t, .slice x.a x.fs.length x.c, .string x.s]
def obO (x : ObE) : Ob := ⟨x.k, x.t, x.fs, x.s.data.toList⟩
/-- An argument's object, in memory. -/
structure obOk (w : World) (x : ObE) : Prop where
  rd : readsAt w (.slice x.a x.fs.length x.c) x.fs.length (wordsL x.fs)
  fit : ∀ z ∈ x.fs, fitW z
  len : x.fs.length * 8 ≤ reachBytes
theorem wf_fitO {x : Int} (h : (Lit.int .u64 x).wf = true) : fitW x := by
  simp [Lit.wf, IntKind.min, IntKind.max, IntKind.signed, IntKind.bits] at h
  unfold fitW
  omega
section
variable {H : Type} {enc : TypeId × Value → H} {w : World} {base : Nat} {spare : Nat → Bool} {held : Bool}
theorem fields_ob : ∃ f0 f1 f2 f3 : Field, Try.prog.underlying 35 = some (.struct #[f0, f1, f2, f3]) ∧ f0.offset = 0 ∧ f1.offset = 1 ∧ f2.offset = 2 ∧ f3.offset = 3 ∧ Try.prog.cellsOf f0.type = 1 ∧ Try.prog.cellsOf f1.type = 1 ∧ Try.prog.cellsOf f2.type = 1 ∧ Try.prog.cellsOf f3.type = 1 ∧ Try.prog.underlying f0.type = some (.int .i64) ∧ Try.prog.underlying f1.type = some (.int .i64) ∧ f2.type = 30 ∧ Try.prog.underlying f3.type = some .string :=
  ⟨_, _, _, _, Try.underlying35, rfl, rfl, rfl, rfl, by kernel_rfl, by kernel_rfl, by kernel_rfl, by kernel_rfl, by kernel_rfl, by kernel_rfl, rfl, by kernel_rfl⟩
theorem el_ob {fuel : Nat} {vs : List Value} {y : DataW H × List MemPlace} (hw : WBo Try.prog 35 y.1) (hl : vs.length = 4) (h : DataW.trod enc Try.prog w base spare held fuel 35 vs = some y) : ∃ x : ObE, vs = obCs x ∧ obOk w x := by
  obtain ⟨f0, f1, f2, f3, hu, o0, o1, o2, o3, c0, c1, c2, c3, u0, u1, t2, u3⟩ := fields_ob
  obtain ⟨xs, n, _, hy, _, hxl, hg⟩ := DataW.trod_struct hu h
  have hx3 : xs.length = 4 := hxl
  match vs, hl, hg with
  | [a, b, c, d], _, hg =>
    have q0 := hg 0 f0 rfl
    have q1 := hg 1 f1 rfl
    have q2 := hg 2 f2 rfl
    have q3 := hg 3 f3 rfl
    simp only [o0, o1, o2, o3, c0, c1, c2, c3, List.drop_succ_cons, List.drop_zero, List.take_succ_cons, List.take_zero] at q0 q1 q2 q3
    rw [List.getElem?_eq_getElem (by omega)] at q0 q1 q2 q3
    obtain ⟨z0, e0, _, w0⟩ := DataW.trod_int u0 q0
    obtain ⟨z1, e1, _, w1⟩ := DataW.trod_int u1 q1
    obtain ⟨s, e3, _, w3⟩ := DataW.trod_string u3 q3
    have hw2 : WBo Try.prog 30 xs[2].1 := by
      have := wbo_part hu (j := 2) (f := f2) (d := xs[2].1) (by rw [hy] at hw; exact hw) rfl (by rw [List.getElem?_map, List.getElem?_eq_getElem (by omega)]; rfl)
      rwa [t2] at this
    rw [t2] at q2
    obtain ⟨sa, sc, l, h1, h4, h5, h6⟩ := openO_slice (α := Int) (C := 1) (B := 8) (R := fun vs z => vs = [.int .u64 z] ∧ (Lit.int .u64 z).wf = true) Try.underlying30 (by kernel_rfl) (by decide) (by kernel_rfl) hw2 q2 fun n vs y _ hl hy => by
      obtain ⟨z, hz, _, hwz⟩ := DataW.trod_int Try.underlying39 hy
      exact ⟨z, hz, hwz⟩
    cases e0; cases e1; cases e3; cases h1
    refine ⟨⟨z0, z1, sa, sc, l, s⟩, rfl, ?_, fun z hz => ?_, h4⟩
    · refine ⟨sa, sc, rfl, ?_⟩
      rcases h6 with h6 | ⟨b, o, rfl, h6⟩
      · exact .inl h6
      · refine .inr ⟨b, o, rfl, fun j u hj => ?_⟩
        have hjl : j < l.length := by have := (List.getElem?_eq_some_iff.1 hj).1; simpa using this
        obtain ⟨vs, _, ⟨e, _⟩, hcell⟩ := h6 j _ (List.getElem?_eq_getElem hjl)
        have := hcell 0 _ (by rw [e]; rfl)
        rw [Nat.mul_one, Nat.add_zero] at this
        rw [this, ← hj]
        simp [wordsL, List.getElem?_eq_getElem hjl]
    · obtain ⟨vs, _, _, hF⟩ := h5 z hz
      exact wf_fitO hF
theorem under_obs : Try.prog.underlying 22 = some (.slice 35) := by kernel_rfl
theorem open_objs {v : Value} {d : DataW H} {ps : List MemPlace} {r : Reach} {b0 : Nat} (hw : WBo Try.prog 22 d) (hval : Value.okWide Try.prog w r b0 22 v) (h : DataW.Trod enc Try.prog w base spare held 22 v d ps) :
    ∃ (a : Option Addr) (c : Nat) (l : List ObE), v = .slice a l.length c ∧ (∀ x ∈ l, obOk w x) ∧
      (l.length = 0 ∨ ∃ b o, a = some ⟨b, o, none⟩ ∧ ∀ (i : Nat) (x : ObE), l[i]? = some x → w.cell? ⟨b, o + i * 4, none⟩ = some (.int .i64 x.k) ∧ w.cell? ⟨b, o + i * 4 + 1, none⟩ = some (.int .i64 x.t) ∧ w.cell? ⟨b, o + i * 4 + 2, none⟩ = some (.slice x.a x.fs.length x.c) ∧ w.cell? ⟨b, o + i * 4 + 3, none⟩ = some (.string x.s)) := by
  obtain ⟨fuel, hf⟩ := h
  obtain ⟨a, c, xs, h1, h4, h5, h6⟩ := openO_slice (C := 4) (R := fun vs (x : ObE) => vs = obCs x ∧ obOk w x) under_obs (by kernel_rfl) (by decide) rfl hw hf fun n vs y hw hl hy => el_ob hw hl hy
  have hv : v = .slice a xs.length c := by
    cases v with
    | agg cs =>
      exfalso
      unfold Value.okWide at hval
      rw [under_obs] at hval
      simp only [Value.cells] at h1
      obtain ⟨cs⟩ := cs
      simp only at h1
      subst h1
      simp [Cell.okWide, under_obs, Cell.ok] at hval
    | _ => exact (List.cons.inj h1).1
  subst hv
  refine ⟨a, c, xs, rfl, fun x hx => ?_, ?_⟩
  · obtain ⟨vs, _, _, hF⟩ := h5 x hx
    exact hF
  · refine h6.imp_right fun ⟨b, o, e, hc⟩ => ⟨b, o, e, fun i x hx => ?_⟩
    obtain ⟨vs, _, ⟨e2, _⟩, hcell⟩ := hc i x hx
    rw [e2] at hcell
    refine ⟨?_, ?_, ?_, ?_⟩
    · have := hcell 0 _ rfl; simpa using this
    · have := hcell 1 _ rfl; rwa [← Nat.add_assoc] at this
    · have := hcell 2 _ rfl; rwa [← Nat.add_assoc] at this
    · have := hcell 3 _ rfl; rwa [← Nat.add_assoc] at this
end
end Go.Proofs.Ytnjpjhlodamanaa
