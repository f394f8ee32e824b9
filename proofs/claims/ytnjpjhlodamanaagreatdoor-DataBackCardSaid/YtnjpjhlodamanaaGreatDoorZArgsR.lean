/-
  A law's argument that is a program, or a slice of bytes: as plain data, in memory; no list of it longer than memory's reach.
  Conditions: as each states.
-/
import Derived.Test.YtnjpjhlodamanaaGreatDoorZCoBs
import Derived.Lib.SmallJoins
import Derived.SizedLaws
import Derived.Test.YtnjpjhlodamanaaGreatDoorZApp
namespace Go.Proofs.YtnjpjhlodamanaaGreatDoor
set_option linter.unusedVariables false
set_option linter.unusedSimpArgs false
open Go.ChangeShapes Go.WideShapes Go.ChangeAt Go.RowKit Go.Deep
set_option maxRecDepth 100000

section
variable {H : Type} {enc : TypeId × Value → H} {P : Program} {w : World} {base : Nat} {spare : Nat → Bool} {held : Bool}

/-- Nothing of it is longer than memory's reach. -/
def WB (P : Program) (t : TypeId) (d : DataW H) : Prop := ∀ n ∈ d.weights P t, n ≤ reachBytes
theorem wb_all {e : TypeId} : ∀ (l : List (DataW H)) (d : DataW H), d ∈ l → ∀ n ∈ d.weights P e, n ∈ DataW.weightsAll P e l
  | [], d, h, _, _ => by cases h
  | x :: l, d, h, n, hn => by
    simp only [DataW.weightsAll, List.mem_append]
    rcases List.mem_cons.1 h with rfl | h
    · exact .inl hn
    · exact .inr (wb_all l d h n hn)
theorem wb_len {t e : TypeId} {elems rest : List (DataW H)} (hu : P.underlying t = some (.slice e)) (h : WB P t (.slice elems rest)) (hB : 1 ≤ P.bytesOf e) : elems.length ≤ reachBytes := by
  have := h ((elems.length + rest.length) * P.bytesOf e) (by simp [DataW.weights, hu])
  have h2 : (elems.length + rest.length) * 1 ≤ (elems.length + rest.length) * P.bytesOf e := Nat.mul_le_mul_left _ hB
  omega
theorem wb_el {t e : TypeId} {elems rest : List (DataW H)} (hu : P.underlying t = some (.slice e)) (h : WB P t (.slice elems rest)) {d : DataW H} (hd : d ∈ elems) : WB P e d := fun n hn =>
  h n (by simp only [DataW.weights, hu, List.mem_cons, List.mem_append]; exact .inr (.inl (wb_all _ _ hd n hn)))
theorem wb_part {t : TypeId} {fs : Array Field} {parts : List (DataW H)} (hu : P.underlying t = some (.struct fs)) (h : WB P t (.agg parts)) {j : Nat} {f : Field} {d : DataW H} (hj : fs[j]? = some f) (hd : parts[j]? = some d) : WB P f.type d := fun n hn =>
  h n (by
    simp only [DataW.weights, hu]
    exact DataW.weights_mem_each (j := j) (t := f.type) (by rw [List.getElem?_map]; simp [hj]) hd n hn)

theorem wb_of {ts ts' : List TypeId} {ds gs : List (DataW H)} (hz : (DataW.weightsEach P (ts ++ ts') (ds ++ gs)).all (· ≤ reachBytes) = true) {j : Nat} {t : TypeId} {d : DataW H} (ht : ts[j]? = some t) (hd : ds[j]? = some d) : WB P t d := fun n hn => by
  have h1 : (ts ++ ts')[j]? = some t := by rw [List.getElem?_append_left (List.getElem?_eq_some_iff.1 ht).1]; exact ht
  have h2 : (ds ++ gs)[j]? = some d := by rw [List.getElem?_append_left (List.getElem?_eq_some_iff.1 hd).1]; exact hd
  have := List.all_eq_true.1 hz n (DataW.weights_mem_each h1 h2 n hn)
  simpa using this

theorem open_slice_gen {t e : TypeId} {α : Type} {C : Nat} {R : List Value → α → Prop} (ht : P.underlying t = some (.slice e)) (hC : P.cellsOf e = C) (hC0 : 0 < C) (hB : 1 ≤ P.bytesOf e) {cs : List Value} {fuel : Nat} {x : DataW H × List MemPlace} (hw : WB P t x.1)
    (hf : DataW.trod enc P w base spare held fuel t cs = some x)
    (hel : ∀ (fuel : Nat) (vs : List Value) (y : DataW H × List MemPlace), WB P e y.1 → vs.length = C → DataW.trod enc P w base spare held fuel e vs = some y → ∃ x : α, R vs x) :
    ∃ (a : Option Addr) (c : Nat) (xs : List α), cs = [.slice a xs.length c] ∧ xs.length ≤ c ∧ c ≤ maxLen ∧ xs.length ≤ reachBytes ∧ (∀ x ∈ xs, ∃ vs, vs.length = C ∧ R vs x) ∧
      (xs.length = 0 ∨ ∃ b o, a = some ⟨b, o, none⟩ ∧ ∀ i x, xs[i]? = some x → ∃ vs, vs.length = C ∧ R vs x ∧ ∀ j u, vs[j]? = some u → w.cell? ⟨b, o + (i * C + j), none⟩ = some u) := by
  rcases DataW.trod_slice ht hf with ⟨h1, _⟩ | ⟨a, len, cap, el, re, n, _, h1, hx, hb, hl, hm, hlen, hall, _⟩
  · exact ⟨none, 0, [], h1, Nat.le_refl _, Nat.zero_le _, Nat.zero_le _, fun x hx => (by cases hx), .inl rfl⟩
  · have hwx : WB P t (.slice (el.map (·.1)) (re.map (·.1))) := by rw [hx] at hw; exact hw
    have hlr := wb_len ht hwx hB
    rw [List.length_map, hlen] at hlr
    have each : ∀ i, i < len → ∃ (x : α) (vs : List Value), vs.length = C ∧ R vs x ∧ ∀ j u, vs[j]? = some u → w.cell? (a.add (i * C + j)) = some u := by
      intro i hi
      have h2 := hall i hi
      rw [hC, List.getElem?_eq_getElem (by omega)] at h2
      cases hc : w.cells? base (a.add (i * C)) C with
      | none => rw [hc] at h2; simp at h2
      | some vs =>
        rw [hc] at h2
        simp only [Option.bind_some] at h2
        obtain ⟨_, hcl, hat⟩ := World.cells?_some hc
        obtain ⟨x, hR⟩ := hel n vs _ (wb_el ht hwx (List.mem_map_of_mem (List.getElem_mem (by omega : i < el.length)))) hcl h2
        refine ⟨x, vs, hcl, hR, fun j u hj => ?_⟩
        have hjl := (List.getElem?_eq_some_iff.1 hj).1
        rw [← Go.Deep.add_add, hat j (by omega), hj]
    let f : Fin len → α := fun i => Classical.choose (each i.1 i.2)
    have hff : ∀ i : Fin len, ∃ vs, vs.length = C ∧ R vs (f i) ∧ ∀ j u, vs[j]? = some u → w.cell? (a.add (i.1 * C + j)) = some u := fun i => Classical.choose_spec (each i.1 i.2)
    have hfl : (List.ofFn f).length = len := List.length_ofFn
    refine ⟨some a, cap, List.ofFn f, by rw [hfl]; exact h1, by omega, hm, by omega, fun x hx => ?_, ?_⟩
    · obtain ⟨i, rfl⟩ := List.mem_ofFn.1 hx
      obtain ⟨vs, h3, h4, _⟩ := hff i
      exact ⟨vs, h3, h4⟩
    · by_cases h0 : len = 0
      · exact .inl (by omega)
      · obtain ⟨vs0, v1, v2, v3⟩ := hff ⟨0, by omega⟩
        have hs : (w.cell? (a.add 0)).isSome = true := by
          have := v3 0 vs0[0] (List.getElem?_eq_getElem (by omega))
          simp only [Nat.zero_mul, Nat.zero_add] at this
          rw [this]; rfl
        refine .inr ⟨a.block, a.off, congrArg some (eta_of_cell hs), fun i x hx => ?_⟩
        have hi : i < len := by have := (List.getElem?_eq_some_iff.1 hx).1; omega
        have hxe : f ⟨i, hi⟩ = x := by
          rw [List.getElem?_eq_getElem (by omega), List.getElem_ofFn] at hx
          exact Option.some.inj hx
        obtain ⟨vs, h3, h4, h5⟩ := hff ⟨i, hi⟩
        rw [hxe] at h4
        exact ⟨vs, h3, h4, fun j u hj => add_of_cell hs (h5 j u hj)⟩

theorem gen_rd {α : Type} {C : Nat} {f : α → List Value} (hf : ∀ x, (f x).length = C) {a : Option Addr} {c : Nat} {xs : List α} (hC : 0 < C) (h : xs.length = 0 ∨ ∃ b o, a = some ⟨b, o, none⟩ ∧ ∀ i x, xs[i]? = some x → ∀ j u, (f x)[j]? = some u → w.cell? ⟨b, o + (i * C + j), none⟩ = some u) :
    rdAt (fun _ => False) w (.slice a xs.length c) xs.length (xs.flatMap f) := by
  refine ⟨a, c, rfl, ?_⟩
  rcases h with h | ⟨b, o, rfl, h⟩
  · exact .inl h
  · by_cases h0 : xs.length = 0
    · exact .inl h0
    · have hx0 : xs[0]? = some (xs[0]'(by omega)) := List.getElem?_eq_getElem (by omega)
      have hc0 := h 0 _ hx0 0 _ (List.getElem?_eq_getElem (by rw [hf]; exact hC))
      refine .inr ⟨b, o, rfl, fun t => t, World.block_lt_of_cell? w _ hc0, fun j u hj => ?_⟩
      have hlen : ∀ (l : List α), (l.flatMap f).length = l.length * C := fun l => by
        induction l with
        | nil => simp
        | cons x l ih => rw [List.flatMap_cons, List.length_append, hf, ih, List.length_cons, Nat.add_mul]; omega
      have hjl : j < xs.length * C := by rw [← hlen]; exact (List.getElem?_eq_some_iff.1 hj).1
      have hi : j / C < xs.length := Nat.div_lt_of_lt_mul (by rw [Nat.mul_comm]; exact hjl)
      have hm : j % C < C := Nat.mod_lt _ hC
      have hjj : j / C * C + j % C = j := by rw [Nat.mul_comm]; exact Nat.div_add_mod j C
      have hx : xs[j / C]? = some xs[j / C] := List.getElem?_eq_getElem hi
      have key : ∀ (l : List α) (k : Nat) (x : α) (i : Nat), l[k]? = some x → i < C → (l.flatMap f)[k * C + i]? = (f x)[i]? := by
        intro l
        induction l with
        | nil => intro k x i h _; simp at h
        | cons y l ih =>
          intro k x i h hi
          cases k with
          | zero =>
            simp at h; subst h
            rw [List.flatMap_cons, Nat.zero_mul, Nat.zero_add, List.getElem?_append_left (by rw [hf]; exact hi)]
          | succ k =>
            have := ih k x i (by simpa using h) hi
            rw [List.flatMap_cons, List.getElem?_append_right (by rw [hf, Nat.add_mul]; omega), hf, ← this]
            congr 1
            rw [Nat.add_mul]; omega
      have hq := key xs (j / C) _ (j % C) hx hm
      rw [hjj, hj] at hq
      have := h (j / C) _ hx (j % C) u hq.symm
      rw [hjj] at this
      exact this

theorem open_bytes {t e : TypeId} {v : Value} {d : DataW H} {ps : List MemPlace} {r : Reach} {b0 : Nat} (ht : P.underlying t = some (.slice e)) (he : P.underlying e = some (.int .u8)) (hc : P.cellsOf e = 1) (hB : 1 ≤ P.bytesOf e)
    (hw : WB P t d) (hval : Value.okWide P w r b0 t v) (h : DataW.Trod enc P w base spare held t v d ps) :
    ∃ l : List Int, bySl w.heap.size w v l ∧ (∀ z ∈ l, 0 ≤ z ∧ z < 256) ∧ l.length ≤ reachBytes := by
  obtain ⟨fuel, hf⟩ := h
  obtain ⟨a, c, xs, h1, h2, h3, h4, h5, h6⟩ := open_slice_gen (R := fun vs (z : Int) => vs = [.int .u8 z] ∧ (Lit.int .u8 z).wf = true) ht hc (by decide) hB hw hf fun n vs y _ hl hy => by
    obtain ⟨z, hz, _, hwz⟩ := DataW.trod_int he hy
    exact ⟨z, hz, hwz⟩
  have hv : v = .slice a xs.length c := by
    cases v with
    | agg cs =>
      exfalso
      unfold Value.okWide at hval
      rw [ht] at hval
      simp only [Value.cells] at h1
      obtain ⟨cs⟩ := cs
      simp only at h1
      subst h1
      simp [Cell.okWide, ht, Cell.ok] at hval
    | _ => exact (List.cons.inj h1).1
  subst hv
  refine ⟨xs, ⟨a, c, rfl, h2, h3, ?_⟩, fun z hz => ?_, h4⟩
  · rcases h6 with h6 | ⟨b, o, rfl, h6⟩
    · exact .inl h6
    · by_cases h0 : xs.length = 0
      · exact .inl h0
      · have cell : ∀ j z, xs[j]? = some z → w.cell? ⟨b, o + j, none⟩ = some (.int .u8 z) := fun j z hj => by
          obtain ⟨vs, _, ⟨e, _⟩, hcell⟩ := h6 j z hj
          have := hcell 0 _ (by rw [e]; rfl)
          rwa [Nat.mul_one, Nat.add_zero] at this
        have hlt := World.block_lt_of_cell? w _ (cell 0 _ (List.getElem?_eq_getElem (by omega : 0 < xs.length)))
        exact .inr ⟨b, o, rfl, hlt, hlt, cell⟩
  · obtain ⟨vs, _, _, hwf⟩ := h5 z hz
    simp [Lit.wf, IntKind.min, IntKind.max, IntKind.signed, IntKind.bits] at hwf
    omega

/-- What a function, a form reads as. -/
def FnR (w : World) (vs : List Value) (f : PFn) : Prop := ∃ v, vs = [.int .i64 f.1, .int .i64 f.2.1, v] ∧ rdAt (fun _ => False) w v f.2.2.length (insL f.2.2) ∧ fnF f ∧ f.2.2.length ≤ reachBytes
def FmR (w : World) (vs : List Value) (m : PFm) : Prop := ∃ v, vs = [.int .i64 m.1, .int .i64 m.2.1, .int .i64 m.2.2.1, v] ∧ rdAt (fun _ => False) w v m.2.2.2.length (intL m.2.2.2) ∧ fmF m ∧ m.2.2.2.length ≤ reachBytes
end

section
variable {H : Type} {enc : TypeId × Value → H} {w : World} {base : Nat} {spare : Nat → Bool} {held : Bool}
theorem flat_int (l : List Int) : l.flatMap (fun z : Int => [Value.int .i64 z]) = intL l := by
  induction l with
  | nil => rfl
  | cons z l ih => rw [List.flatMap_cons, ih]; rfl
theorem flat_str (l : List ByteArray) : l.flatMap (fun s : ByteArray => [Value.string s]) = strL l := by
  induction l with
  | nil => rfl
  | cons z l ih => rw [List.flatMap_cons, ih]; rfl
theorem reach_max : reachBytes ≤ maxLen := by decide

theorem fields_ins : ∃ f0 f1 f2 : Field, Tryz.prog.underlying 134 = some (.struct #[f0, f1, f2]) ∧ f0.offset = 0 ∧ f1.offset = 1 ∧ f2.offset = 2 ∧ f0.type = 3 ∧ f1.type = 3 ∧ f2.type = 3 := ⟨_, _, _, Tryz.underlying134, rfl, rfl, rfl, rfl, rfl, rfl⟩
theorem fields_fn : ∃ f0 f1 f2 : Field, Tryz.prog.underlying 137 = some (.struct #[f0, f1, f2]) ∧ f0.offset = 0 ∧ f1.offset = 1 ∧ f2.offset = 2 ∧ f0.type = 3 ∧ f1.type = 3 ∧ f2.type = 135 := ⟨_, _, _, Tryz.underlying137, rfl, rfl, rfl, rfl, rfl, rfl⟩
theorem fields_fm : ∃ f0 f1 f2 f3 : Field, Tryz.prog.underlying 57 = some (.struct #[f0, f1, f2, f3]) ∧ f0.offset = 0 ∧ f1.offset = 1 ∧ f2.offset = 2 ∧ f3.offset = 3 ∧ f0.type = 3 ∧ f1.type = 3 ∧ f2.type = 3 ∧ f3.type = 55 := ⟨_, _, _, _, Tryz.underlying57, rfl, rfl, rfl, rfl, rfl, rfl, rfl, rfl⟩
theorem int_i64 : Tryz.prog.underlying 3 = some (.int .i64) := by kernel_rfl
theorem cells_int : Tryz.prog.cellsOf 3 = 1 := by kernel_rfl

theorem el_ins {fuel : Nat} {vs : List Value} {y : DataW H × List MemPlace} (hl : vs.length = 3) (h : DataW.trod enc Tryz.prog w base spare held fuel 134 vs = some y) : ∃ p : PIns, vs = insC p ∧ insF p := by
  obtain ⟨f0, f1, f2, hu, o0, o1, o2, t0, t1, t2⟩ := fields_ins
  obtain ⟨xs, n, _, hy, _, hxl, hg⟩ := DataW.trod_struct hu h
  match vs, hl, hg with
  | [a, b, c], _, hg =>
    have hx3 : xs.length = 3 := hxl
    have q0 := hg 0 f0 rfl
    have q1 := hg 1 f1 rfl
    have q2 := hg 2 f2 rfl
    simp only [o0, o1, o2, t0, t1, t2, cells_int, List.drop_succ_cons, List.drop_zero, List.take_succ_cons, List.take_zero] at q0 q1 q2
    rw [List.getElem?_eq_getElem (by omega)] at q0 q1 q2
    obtain ⟨z0, e0, _, w0⟩ := DataW.trod_int int_i64 q0
    obtain ⟨z1, e1, _, w1⟩ := DataW.trod_int int_i64 q1
    obtain ⟨z2, e2, _, w2⟩ := DataW.trod_int int_i64 q2
    cases e0; cases e1; cases e2
    exact ⟨(z0, z1, z2), rfl, w0, w1, w2⟩

theorem el_fn {fuel : Nat} {vs : List Value} {y : DataW H × List MemPlace} (hw : WB Tryz.prog 137 y.1) (hl : vs.length = 3) (h : DataW.trod enc Tryz.prog w base spare held fuel 137 vs = some y) : ∃ f : PFn, FnR w vs f := by
  obtain ⟨f0, f1, f2, hu, o0, o1, o2, t0, t1, t2⟩ := fields_fn
  obtain ⟨xs, n, _, hy, _, hxl, hg⟩ := DataW.trod_struct hu h
  have hx3 : xs.length = 3 := hxl
  have c43 : Tryz.prog.cellsOf 135 = 1 := by kernel_rfl
  match vs, hl, hg with
  | [a, b, c], _, hg =>
    have q0 := hg 0 f0 rfl
    have q1 := hg 1 f1 rfl
    have q2 := hg 2 f2 rfl
    simp only [o0, o1, o2, t0, t1, t2, cells_int, c43, List.drop_succ_cons, List.drop_zero, List.take_succ_cons, List.take_zero] at q0 q1 q2
    rw [List.getElem?_eq_getElem (by omega)] at q0 q1 q2
    obtain ⟨z0, e0, _, w0⟩ := DataW.trod_int int_i64 q0
    obtain ⟨z1, e1, _, w1⟩ := DataW.trod_int int_i64 q1
    have hw2 : WB Tryz.prog 135 xs[2].1 := by
      have := wb_part hu (j := 2) (f := f2) (d := xs[2].1) (by rw [hy] at hw; exact hw) rfl (by rw [List.getElem?_map, List.getElem?_eq_getElem (by omega)]; rfl)
      rwa [t2] at this
    obtain ⟨sa, sc, l, h1, h2, h3, h4, h5, h6⟩ := open_slice_gen (α := PIns) (R := fun vs p => vs = insC p ∧ insF p) under_inss (by kernel_rfl) (by decide) (by decide +kernel) hw2 q2 fun n vs y _ hl hy => el_ins hl hy
    cases e0; cases e1; cases h1
    refine ⟨(z0, z1, l), .slice sa l.length sc, rfl, ?_, ⟨w0, w1, fun p hp => ?_, Nat.le_trans h4 reach_max⟩, h4⟩
    · exact gen_rd (C := 3) (f := insC) (fun _ => rfl) (by decide) (h6.imp_right fun ⟨b, o, e, hc⟩ => ⟨b, o, e, fun i x hx => by obtain ⟨vs, _, ⟨e, _⟩, hcell⟩ := hc i x hx; rw [← e]; exact hcell⟩)
    · obtain ⟨vs, _, _, hF⟩ := h5 p hp
      exact hF

theorem el_fm {fuel : Nat} {vs : List Value} {y : DataW H × List MemPlace} (hw : WB Tryz.prog 57 y.1) (hl : vs.length = 4) (h : DataW.trod enc Tryz.prog w base spare held fuel 57 vs = some y) : ∃ m : PFm, FmR w vs m := by
  obtain ⟨f0, f1, f2, f3, hu, o0, o1, o2, o3, t0, t1, t2, t3⟩ := fields_fm
  obtain ⟨xs, n, _, hy, _, hxl, hg⟩ := DataW.trod_struct hu h
  have hx3 : xs.length = 4 := hxl
  have c43 : Tryz.prog.cellsOf 55 = 1 := by kernel_rfl
  match vs, hl, hg with
  | [a, b, c, d], _, hg =>
    have q0 := hg 0 f0 rfl
    have q1 := hg 1 f1 rfl
    have q2 := hg 2 f2 rfl
    have q3 := hg 3 f3 rfl
    simp only [o0, o1, o2, o3, t0, t1, t2, t3, cells_int, c43, List.drop_succ_cons, List.drop_zero, List.take_succ_cons, List.take_zero] at q0 q1 q2 q3
    rw [List.getElem?_eq_getElem (by omega)] at q0 q1 q2 q3
    obtain ⟨z0, e0, _, w0⟩ := DataW.trod_int int_i64 q0
    obtain ⟨z1, e1, _, w1⟩ := DataW.trod_int int_i64 q1
    obtain ⟨z2, e2, _, w2⟩ := DataW.trod_int int_i64 q2
    have hw2 : WB Tryz.prog 55 xs[3].1 := by
      have := wb_part hu (j := 3) (f := f3) (d := xs[3].1) (by rw [hy] at hw; exact hw) rfl (by rw [List.getElem?_map, List.getElem?_eq_getElem (by omega)]; rfl)
      rwa [t3] at this
    obtain ⟨sa, sc, l, h1, h2, h3, h4, h5, h6⟩ := open_slice_gen (α := Int) (R := fun vs z => vs = [.int .i64 z] ∧ (Lit.int .i64 z).wf = true) under_i64s cells_int (by decide) (by decide +kernel) hw2 q3 fun n vs y _ hl hy => by
      obtain ⟨z, hz, _, hwz⟩ := DataW.trod_int int_i64 hy
      exact ⟨z, hz, hwz⟩
    cases e0; cases e1; cases e2; cases h1
    refine ⟨(z0, z1, z2, l), .slice sa l.length sc, rfl, ?_, ⟨w0, w1, w2, fun p hp => ?_, Nat.le_trans h4 reach_max⟩, h4⟩
    · have := gen_rd (C := 1) (f := fun z : Int => [Value.int .i64 z]) (fun _ => rfl) (by decide) (c := sc) (h6.imp_right fun ⟨b, o, e, hc⟩ => ⟨b, o, e, fun i x hx => by obtain ⟨vs, _, ⟨e, _⟩, hcell⟩ := hc i x hx; rw [← e]; exact hcell⟩)
      rwa [flat_int] at this
    · obtain ⟨vs, _, _, hF⟩ := h5 p hp
      exact hF

theorem many_gen {α : Type} {E : (Nat → Prop) → World → Nat → Nat → α → Prop} {C : Nat} {R : List Value → α → Prop} (hC : 0 < C) {a : Option Addr} {c : Nat} {xs : List α}
    (h : xs.length = 0 ∨ ∃ b o, a = some ⟨b, o, none⟩ ∧ ∀ i x, xs[i]? = some x → ∃ vs, vs.length = C ∧ R vs x ∧ ∀ j u, vs[j]? = some u → w.cell? ⟨b, o + (i * C + j), none⟩ = some u)
    (hE : ∀ vs x b o, R vs x → (∀ j u, vs[j]? = some u → w.cell? ⟨b, o + j, none⟩ = some u) → E (fun _ => False) w b o x) : manyAt E C (fun _ => False) w (.slice a xs.length c) xs := by
  refine ⟨a, c, rfl, ?_⟩
  rcases h with h | ⟨b, o, rfl, h⟩
  · exact .inl h
  · by_cases h0 : xs.length = 0
    · exact .inl h0
    · obtain ⟨vs, hl, hR, hc⟩ := h 0 _ (List.getElem?_eq_getElem (by omega : 0 < xs.length))
      have hlt := World.block_lt_of_cell? w _ (hc 0 _ (List.getElem?_eq_getElem (by omega : 0 < vs.length)))
      refine .inr ⟨b, o, rfl, fun t => t, hlt, fun i x hx => ?_⟩
      obtain ⟨vs, hl, hR, hc⟩ := h i x hx
      exact hE vs x b (o + i * C) hR fun j u hj => by rw [Nat.add_assoc]; exact hc j u hj

/-- A program as an argument. -/
theorem open_prog {v : Value} {d : DataW H} {ps : List MemPlace} {r : Reach} {b0 : Nat} (hw : WB Tryz.prog 141 d) (hval : Value.okWide Tryz.prog w r b0 141 v) (h : DataW.Trod enc Tryz.prog w base spare held 141 v d ps) :
    ∃ (v1 v2 v3 : Value) (P : PPr), v = .agg #[v1, v2, v3] ∧ prAt (fun _ => False) w v1 v2 v3 P ∧ prF P ∧ P.1.length ≤ reachBytes ∧ P.2.1.length ≤ reachBytes ∧ P.2.2.length ≤ reachBytes ∧ (∀ f ∈ P.1, f.2.2.length ≤ reachBytes) ∧ ∀ m ∈ P.2.2, m.2.2.2.length ≤ reachBytes := by
  have hp : ∃ f0 f1 f2 : Field, Tryz.prog.underlying 141 = some (.struct #[f0, f1, f2]) ∧ oneCellFields Tryz.prog #[f0, f1, f2] = true ∧ Tryz.prog.cellsOf 141 = 3 ∧ f0.type = 138 ∧ f1.type = 139 ∧ f2.type = 58 :=
    ⟨_, _, _, Tryz.underlying141, by kernel_rfl, by kernel_rfl, rfl, rfl, rfl⟩
  obtain ⟨f0, f1, f2, hs, ho, hc, t0, t1, t2⟩ := hp
  obtain ⟨v0, v1, v2, y0, y1, y2, n, rfl, rfl, _, h0, h1, h2⟩ := Joins.open_agg3 hs ho hc hval h
  have w0 := wb_part hs hw (j := 0) (f := f0) (d := y0.1) rfl rfl
  have w1 := wb_part hs hw (j := 1) (f := f1) (d := y1.1) rfl rfl
  have w2 := wb_part hs hw (j := 2) (f := f2) (d := y2.1) rfl rfl
  rw [t0] at w0 h0
  rw [t1] at w1 h1
  rw [t2] at w2 h2
  obtain ⟨a0, c0, F, e0, _, _, l0, r0, m0⟩ := open_slice_gen (C := 3) (R := FnR w) under_fns (by kernel_rfl) (by decide) (by decide +kernel) w0 h0 fun n vs y hw hl hy => el_fn hw hl hy
  obtain ⟨a1, c1, Q, e1, _, _, l1, r1, m1⟩ := open_slice_gen (C := 1) (R := fun vs (s : ByteArray) => vs = [.string s] ∧ s.size ≤ maxLen) under_strs (by kernel_rfl) (by decide) (by decide +kernel) w1 h1 fun n vs y _ hl hy => by
    obtain ⟨s, hz, _, hwz⟩ := DataW.trod_string under_str hy
    exact ⟨s, hz, hwz⟩
  obtain ⟨a2, c2, M, e2, _, _, l2, r2, m2⟩ := open_slice_gen (C := 4) (R := FmR w) under_fms (by kernel_rfl) (by decide) (by decide +kernel) w2 h2 fun n vs y hw hl hy => el_fm hw hl hy
  cases e0; cases e1; cases e2
  refine ⟨_, _, _, (F, Q, M), rfl, ⟨?_, ?_, ?_⟩, ⟨fun f hf => ?_, fun m hm => ?_, fun s hs => ?_, Nat.le_trans l0 reach_max, Nat.le_trans l1 reach_max, Nat.le_trans l2 reach_max⟩, l0, l1, l2, fun f hf => ?_, fun m hm => ?_⟩
  · exact many_gen (C := 3) (by decide) m0 fun vs x b o ⟨v, e, hr, _⟩ hcl => by subst e; exact ⟨hcl 0 _ rfl, hcl 1 _ rfl, v, hcl 2 _ rfl, hr⟩
  · have := gen_rd (C := 1) (f := fun s : ByteArray => [Value.string s]) (fun _ => rfl) (by decide) (c := c1) (m1.imp_right fun ⟨b, o, e, hc⟩ => ⟨b, o, e, fun i x hx => by obtain ⟨vs, _, ⟨e, _⟩, hcell⟩ := hc i x hx; rw [← e]; exact hcell⟩)
    rwa [flat_str] at this
  · exact many_gen (C := 4) (by decide) m2 fun vs x b o ⟨v, e, hr, _⟩ hcl => by subst e; exact ⟨hcl 0 _ rfl, hcl 1 _ rfl, hcl 2 _ rfl, v, hcl 3 _ rfl, hr⟩
  · obtain ⟨vs, _, v, _, _, hF, _⟩ := r0 f hf; exact hF
  · obtain ⟨vs, _, v, _, _, hF, _⟩ := r2 m hm; exact hF
  · obtain ⟨vs, _, _, hF⟩ := r1 s hs; exact hF
  · obtain ⟨vs, _, v, _, _, _, hF⟩ := r0 f hf; exact hF
  · obtain ⟨vs, _, v, _, _, _, hF⟩ := r2 m hm; exact hF
end
end Go.Proofs.YtnjpjhlodamanaaGreatDoor

/-
  A law's argument that is a message: as plain data, in memory; no longer than memory's reach.
  Conditions: as each states.
-/
namespace Go.Proofs.YtnjpjhlodamanaaGreatDoor
set_option linter.unusedVariables false
set_option linter.unusedSimpArgs false
open Go.ChangeShapes Go.WideShapes Go.ChangeAt Go.RowKit Go.Deep
set_option maxRecDepth 100000

section
variable {H : Type} {enc : TypeId × Value → H} {w : World} {base : Nat} {spare : Nat → Bool} {held : Bool}
theorem fields_ce : ∃ f0 f1 f2 f3 : Field, Tryz.prog.underlying 51 = some (.struct #[f0, f1, f2, f3]) ∧ f0.offset = 0 ∧ f1.offset = 1 ∧ f2.offset = 2 ∧ f3.offset = 3 ∧ f0.type = 3 ∧ f1.type = 3 ∧ f2.type = 2 ∧ f3.type = 9 :=
  ⟨_, _, _, _, Tryz.underlying51, rfl, rfl, rfl, rfl, rfl, rfl, rfl, rfl⟩
theorem int_i64M : Tryz.prog.underlying 3 = some (.int .i64) := by kernel_rfl
theorem int64_i64 : Tryz.prog.underlying 2 = some (.int .i64) := by kernel_rfl
theorem str_str : Tryz.prog.underlying 9 = some .string := by kernel_rfl
theorem cells_intM : Tryz.prog.cellsOf 3 = 1 := by kernel_rfl
theorem cells_int64 : Tryz.prog.cellsOf 2 = 1 := by kernel_rfl
theorem cells_str : Tryz.prog.cellsOf 9 = 1 := by kernel_rfl
theorem el_ce {fuel : Nat} {vs : List Value} {y : DataW H × List MemPlace} (hl : vs.length = 4) (h : DataW.trod enc Tryz.prog w base spare held fuel 51 vs = some y) : ∃ p : PCe, vs = ceC p := by
  obtain ⟨f0, f1, f2, f3, hu, o0, o1, o2, o3, t0, t1, t2, t3⟩ := fields_ce
  obtain ⟨xs, n, _, hy, _, hxl, hg⟩ := DataW.trod_struct hu h
  match vs, hl, hg with
  | [a, b, c, d], _, hg =>
    have hx3 : xs.length = 4 := hxl
    have q0 := hg 0 f0 rfl
    have q1 := hg 1 f1 rfl
    have q2 := hg 2 f2 rfl
    have q3 := hg 3 f3 rfl
    simp only [o0, o1, o2, o3, t0, t1, t2, t3, cells_intM, cells_int64, cells_str, List.drop_succ_cons, List.drop_zero, List.take_succ_cons, List.take_zero] at q0 q1 q2 q3
    rw [List.getElem?_eq_getElem (by omega)] at q0 q1 q2 q3
    obtain ⟨z0, e0, _, w0⟩ := DataW.trod_int int_i64M q0
    obtain ⟨z1, e1, _, w1⟩ := DataW.trod_int int_i64M q1
    obtain ⟨z2, e2, _, w2⟩ := DataW.trod_int int64_i64 q2
    obtain ⟨s, e3, _, w3⟩ := DataW.trod_string str_str q3
    cases e0; cases e1; cases e2; cases e3
    exact ⟨(z0, z1, z2, s), rfl⟩
theorem under_msg : Tryz.prog.underlying 41 = some (.slice 51) := by kernel_rfl
theorem open_msg {v : Value} {d : DataW H} {ps : List MemPlace} {r : Reach} {b0 : Nat} (hw : WB Tryz.prog 41 d) (hval : Value.okWide Tryz.prog w r b0 41 v) (h : DataW.Trod enc Tryz.prog w base spare held 41 v d ps) :
    ∃ (a : Option Addr) (c : Nat) (m : List PCe), v = .slice a m.length c ∧ m.length ≤ c ∧ rdAt (fun _ => False) w v m.length (ceL m) ∧ m.length ≤ reachBytes := by
  obtain ⟨fuel, hf⟩ := h
  obtain ⟨a, c, xs, h1, h2, h3, h4, h5, h6⟩ := open_slice_gen (C := 4) (R := fun vs (p : PCe) => vs = ceC p) under_msg (by kernel_rfl) (by decide) (by decide +kernel) hw hf fun n vs y _ hl hy => el_ce hl hy
  have hv : v = .slice a xs.length c := by
    cases v with
    | agg cs =>
      exfalso
      unfold Value.okWide at hval
      rw [under_msg] at hval
      simp only [Value.cells] at h1
      obtain ⟨cs⟩ := cs
      simp only at h1
      subst h1
      simp [Cell.okWide, under_msg, Cell.ok] at hval
    | _ => exact (List.cons.inj h1).1
  subst hv
  refine ⟨a, c, xs, rfl, h2, ?_, h4⟩
  exact gen_rd (C := 4) (f := ceC) (fun _ => rfl) (by decide) (h6.imp_right fun ⟨b, o, e, hc⟩ => ⟨b, o, e, fun i x hx => by obtain ⟨vs, _, e, hcell⟩ := hc i x hx; rw [← e]; exact hcell⟩)
end
end Go.Proofs.YtnjpjhlodamanaaGreatDoor

/-
  A law's argument that is a list of messages: as plain data, in memory; no list of it longer than memory's reach.
  Conditions: as each states.
-/
namespace Go.Proofs.YtnjpjhlodamanaaGreatDoor
set_option linter.unusedVariables false
set_option linter.unusedSimpArgs false
open Go.ChangeShapes Go.WideShapes Go.ChangeAt Go.RowKit Go.Deep
set_option maxRecDepth 100000

/-- A message's slice: where it begins, its capacity, its cells. -/
abbrev MsE := Option Addr × Nat × List PCe
abbrev msV (x : MsE) : Value := .slice x.1 x.2.2.length x.2.1
def msL (l : List MsE) : List Value := l.map msV
theorem msL_length (l : List MsE) : (msL l).length = l.length := by simp [msL]
theorem msL_app (a b : List MsE) : msL (a ++ b) = msL a ++ msL b := by simp [msL]
theorem msL_get {l : List MsE} {k : Nat} {x : MsE} (h : l[k]? = some x) : (msL l)[k]? = some (msV x) := by simp [msL, h]
theorem msL_one {l : List MsE} : ∀ u ∈ msL l, u.oneCell' = true := by
  intro u hu
  obtain ⟨x, _, rfl⟩ := List.mem_map.1 hu
  rfl
structure msOk (S : Nat → Prop) (w : World) (x : MsE) : Prop where
  cap : x.2.2.length ≤ x.2.1
  rd : rdAt S w (msV x) x.2.2.length (ceL x.2.2)
  len : x.2.2.length ≤ reachBytes

section
variable {H : Type} {enc : TypeId × Value → H} {w : World} {base : Nat} {spare : Nat → Bool} {held : Bool}
theorem el_msg {fuel : Nat} {vs : List Value} {y : DataW H × List MemPlace} (hw : WB Tryz.prog 41 y.1) (hf : DataW.trod enc Tryz.prog w base spare held fuel 41 vs = some y) : ∃ x : MsE, vs = [msV x] ∧ msOk (fun _ => False) w x := by
  obtain ⟨a, c, xs, h1, h2, h3, h4, h5, h6⟩ := open_slice_gen (C := 4) (R := fun vs (p : PCe) => vs = ceC p) under_msg (by kernel_rfl) (by decide) (by decide +kernel) hw hf fun n vs y _ hl hy => el_ce hl hy
  exact ⟨(a, c, xs), h1, h2, gen_rd (C := 4) (f := ceC) (fun _ => rfl) (by decide) (h6.imp_right fun ⟨b, o, e, hc⟩ => ⟨b, o, e, fun i x hx => by obtain ⟨vs, _, e, hcell⟩ := hc i x hx; rw [← e]; exact hcell⟩), h4⟩
theorem under_msgs : Tryz.prog.underlying 27 = some (.slice 41) := by kernel_rfl
theorem flat_ms (l : List MsE) : l.flatMap (fun x : MsE => [msV x]) = msL l := by
  induction l with
  | nil => rfl
  | cons z l ih => rw [List.flatMap_cons, ih]; rfl
theorem open_msgs {v : Value} {d : DataW H} {ps : List MemPlace} {r : Reach} {b0 : Nat} (hw : WB Tryz.prog 27 d) (hval : Value.okWide Tryz.prog w r b0 27 v) (h : DataW.Trod enc Tryz.prog w base spare held 27 v d ps) :
    ∃ (a : Option Addr) (c : Nat) (l : List MsE), v = .slice a l.length c ∧ l.length ≤ c ∧ rdAt (fun _ => False) w v l.length (msL l) ∧ l.length ≤ reachBytes ∧ ∀ x ∈ l, msOk (fun _ => False) w x := by
  obtain ⟨fuel, hf⟩ := h
  obtain ⟨a, c, xs, h1, h2, h3, h4, h5, h6⟩ := open_slice_gen (C := 1) (R := fun vs (x : MsE) => vs = [msV x] ∧ msOk (fun _ => False) w x) under_msgs (by kernel_rfl) (by decide) (by decide +kernel) hw hf fun n vs y hw hl hy => el_msg hw hy
  have hv : v = .slice a xs.length c := by
    cases v with
    | agg cs =>
      exfalso
      unfold Value.okWide at hval
      rw [under_msgs] at hval
      simp only [Value.cells] at h1
      obtain ⟨cs⟩ := cs
      simp only at h1
      subst h1
      simp [Cell.okWide, under_msgs, Cell.ok] at hval
    | _ => exact (List.cons.inj h1).1
  subst hv
  refine ⟨a, c, xs, rfl, h2, ?_, h4, fun x hx => ?_⟩
  · have := gen_rd (C := 1) (f := fun x : MsE => [msV x]) (fun _ => rfl) (by decide) (c := c) (h6.imp_right fun ⟨b, o, e, hc⟩ => ⟨b, o, e, fun i x hx => by obtain ⟨vs, _, ⟨e, _⟩, hcell⟩ := hc i x hx; rw [← e]; exact hcell⟩)
    rwa [flat_ms] at this
  · obtain ⟨vs, _, _, hF⟩ := h5 x hx
    exact hF
end
end Go.Proofs.YtnjpjhlodamanaaGreatDoor

/-
  A law's argument that is a struct of two integers, a slice of integers, a text, by value.
  Conditions: as each states.
-/
namespace Go.Proofs.YtnjpjhlodamanaaGreatDoor
set_option linter.unusedVariables false
set_option linter.unusedSimpArgs false
open Go.ChangeShapes Go.WideShapes Go.ChangeAt Go.RowKit Go.Deep Go.Joins

section
variable {H : Type} {enc : TypeId × Value → H} {P : Program} {w : World} {base : Nat} {spare : Nat → Bool} {held : Bool}

theorem open_slice_cell {t e : TypeId} {k : IntKind} {v : Value} {fuel : Nat} {x : DataW H × List MemPlace} (ht : P.underlying t = some (.slice e)) (he : P.underlying e = some (.int k)) (hc : P.cellsOf e = 1)
    (hf : DataW.trod enc P w base spare held fuel t [v] = some x) :
    ∃ (a : Option Addr) (c : Nat) (zs : List Int), v = .slice a zs.length c ∧ readsAt w (.slice a zs.length c) zs.length (zs.map (Value.int k)) ∧ (∀ z ∈ zs, (Lit.int k z).wf = true) ∧ zs.length ≤ maxLen := by
  rcases open_ints ht he hc hf with ⟨h1, _⟩ | ⟨a, len, cap, zs, h1, hb, hl, hm, hz, _, hcell, hwf⟩
  · obtain rfl : v = .slice none 0 0 := by simpa using h1
    exact ⟨none, 0, [], rfl, ⟨_, _, rfl, .inl rfl⟩, by simp, Nat.zero_le _⟩
  · obtain rfl : v = .slice (some a) len cap := by simpa using h1
    have hlz : len ≤ zs.length := by rw [hz]; split <;> omega
    have hlen : (zs.take len).length = len := by simp; omega
    refine ⟨some a, cap, zs.take len, by rw [hlen], ⟨some a, cap, rfl, ?_⟩, fun z hz' => hwf z (List.mem_of_mem_take hz'), by rw [hlen]; omega⟩
    by_cases h0 : len = 0
    · exact .inl (by rw [hlen]; exact h0)
    · have hs : (w.cell? (a.add 0)).isSome = true := by rw [hcell 0 (by omega)]; rfl
      refine .inr ⟨a.block, a.off, congrArg some (eta_of_cell hs), fun j u hj => ?_⟩
      have hj2 : j < len := by
        have := (List.getElem?_eq_some_iff.1 hj).1
        simp at this
        omega
      have := add_of_cell hs (hcell j (by omega))
      rw [this, ← hj]
      simp [List.getElem?_take, hj2, List.getD_eq_getElem?_getD, List.getElem?_eq_getElem (show j < zs.length by omega)]

theorem open_obj {r : Reach} {b0 : Nat} {t e : TypeId} {f0 f1 f2 f3 : Field} {v : Value} {d : DataW H} {p : List MemPlace} (hs : P.underlying t = some (.struct #[f0, f1, f2, f3])) (hone : oneCellFields P #[f0, f1, f2, f3] = true) (hC : P.cellsOf t = 4)
    (h0 : P.underlying f0.type = some (.int .i64)) (h1 : P.underlying f1.type = some (.int .i64)) (h2 : P.underlying f2.type = some (.slice e)) (he : P.underlying e = some (.int .u64)) (hc : P.cellsOf e = 1) (h3 : P.underlying f3.type = some .string)
    (hv : Value.okWide P w r b0 t v) (h : DataW.Trod enc P w base spare held t v d p) :
    ∃ (k g : Int) (a : Option Addr) (c : Nat) (xs : List Int) (s : ByteArray), v = .agg #[.int .i64 k, .int .i64 g, .slice a xs.length c, .string s] ∧ (Lit.int .i64 k).wf = true ∧ (Lit.int .i64 g).wf = true ∧
      readsAt w (.slice a xs.length c) xs.length (wordsL xs) ∧ (∀ z ∈ xs, (Lit.int .u64 z).wf = true) ∧ xs.length ≤ maxLen ∧ s.size ≤ maxLen := by
  obtain ⟨v0, v1, v2, v3, y0, y1, y2, y3, n, rfl, _, _, g0, g1, g2, g3⟩ := open_agg4 hs hone hC hv h
  obtain ⟨k, e0, _, w0⟩ := DataW.trod_int h0 g0
  obtain ⟨g, e1, _, w1⟩ := DataW.trod_int h1 g1
  obtain ⟨a, c, xs, rfl, hr, hx, hm⟩ := open_slice_cell h2 he hc g2
  obtain ⟨s, e3, _, hs3⟩ := DataW.trod_string h3 g3
  obtain rfl : v0 = .int .i64 k := by simpa using e0
  obtain rfl : v1 = .int .i64 g := by simpa using e1
  obtain rfl : v3 = .string s := by simpa using e3
  exact ⟨k, g, a, c, xs, s, rfl, w0, w1, hr, hx, hm, hs3⟩
end

theorem under_object : ∃ f0 f1 f2 f3 : Field, Tryz.prog.underlying 86 = some (.struct #[f0, f1, f2, f3]) ∧ oneCellFields Tryz.prog #[f0, f1, f2, f3] = true ∧ Tryz.prog.underlying f0.type = some (.int .i64) ∧ Tryz.prog.underlying f1.type = some (.int .i64) ∧ f2.type = 22 ∧ Tryz.prog.underlying f3.type = some .string :=
  ⟨_, _, _, _, Tryz.underlying86, by kernel_rfl, by kernel_rfl, by kernel_rfl, rfl, by kernel_rfl⟩
end Go.Proofs.YtnjpjhlodamanaaGreatDoor

/-
  A law's argument that is a region's words beside a heap (stockpotrig.Raw).
  Conditions: as each states.
-/
namespace Go.Proofs.YtnjpjhlodamanaaGreatDoor
set_option linter.unusedVariables false
set_option linter.unusedSimpArgs false
open Go.ChangeShapes Go.WideShapes Go.ChangeAt Go.RowKit Go.Deep Go.Joins

section
variable {H : Type} {enc : TypeId × Value → H} {P : Program} {w : World} {base : Nat} {spare : Nat → Bool} {held : Bool}

theorem open_raw {r : Reach} {b0 : Nat} {t e th : TypeId} {f0 f1 g0 g1 g2 g3 : Field} {v : Value} {d : DataW H} {p : List MemPlace}
    (hs : P.underlying t = some (.struct #[f0, f1])) (hh : P.underlying f1.type = some (.struct #[g0, g1, g2, g3]))
    (ho : f0.offset = 0 ∧ f1.offset = 1 ∧ g0.offset = 0 ∧ g1.offset = 1 ∧ g2.offset = 2 ∧ g3.offset = 3)
    (hc : P.cellsOf f0.type = 1 ∧ P.cellsOf f1.type = 4 ∧ P.cellsOf g0.type = 1 ∧ P.cellsOf g1.type = 1 ∧ P.cellsOf g2.type = 1 ∧ P.cellsOf g3.type = 1) (hC : P.cellsOf t = 5)
    (h0 : P.underlying f0.type = some (.slice e)) (he : P.underlying e = some (.int .u64)) (hce : P.cellsOf e = 1)
    (i0 : P.underlying g0.type = some (.int .i64)) (i1 : P.underlying g1.type = some (.int .i64)) (i2 : P.underlying g2.type = some (.int .i64)) (i3 : P.underlying g3.type = some (.int .i64))
    (hv : Value.okWide P w r b0 t v) (h : DataW.Trod enc P w base spare held t v d p) :
    ∃ (a : Option Addr) (c : Nat) (xs : List Int) (z0 z1 z2 z3 : Int), v = .agg #[.slice a xs.length c, .int .i64 z0, .int .i64 z1, .int .i64 z2, .int .i64 z3] ∧
      readsAt w (.slice a xs.length c) xs.length (wordsL xs) ∧ (∀ z ∈ xs, (Lit.int .u64 z).wf = true) ∧ xs.length ≤ maxLen ∧
      (Lit.int .i64 z0).wf = true ∧ (Lit.int .i64 z1).wf = true ∧ (Lit.int .i64 z2).wf = true ∧ (Lit.int .i64 z3).wf = true := by
  obtain ⟨cs, rfl, hsz⟩ := okWide_struct hs hv
  obtain ⟨c0, c1, c2, c3, c4, rfl⟩ : ∃ c0 c1 c2 c3 c4, cs = #[c0, c1, c2, c3, c4] := by
    have := hsz.trans hC
    match cs, this with
    | ⟨[c0, c1, c2, c3, c4]⟩, _ => exact ⟨_, _, _, _, _, rfl⟩
  obtain ⟨fuel, hf⟩ := h
  obtain ⟨y0, y1, n, hx, _, k0, k1⟩ := trod_struct2 hs hf
  simp only [ho, hc] at k0 k1
  change DataW.trod enc P w base spare held n f0.type [c0] = some y0 at k0
  change DataW.trod enc P w base spare held n f1.type [c1, c2, c3, c4] = some y1 at k1
  obtain ⟨q0, q1, q2, q3, m, _, _, j0, j1, j2, j3⟩ := trod_struct4 hh k1
  simp only [ho, hc] at j0 j1 j2 j3
  change DataW.trod enc P w base spare held m g0.type [c1] = some q0 at j0
  change DataW.trod enc P w base spare held m g1.type [c2] = some q1 at j1
  change DataW.trod enc P w base spare held m g2.type [c3] = some q2 at j2
  change DataW.trod enc P w base spare held m g3.type [c4] = some q3 at j3
  obtain ⟨a, c, xs, rfl, hr, hx, hm⟩ := open_slice_cell h0 he hce k0
  obtain ⟨z0, e0, _, w0⟩ := DataW.trod_int i0 j0
  obtain ⟨z1, e1, _, w1⟩ := DataW.trod_int i1 j1
  obtain ⟨z2, e2, _, w2⟩ := DataW.trod_int i2 j2
  obtain ⟨z3, e3, _, w3⟩ := DataW.trod_int i3 j3
  obtain rfl : c1 = .int .i64 z0 := by simpa using e0
  obtain rfl : c2 = .int .i64 z1 := by simpa using e1
  obtain rfl : c3 = .int .i64 z2 := by simpa using e2
  obtain rfl : c4 = .int .i64 z3 := by simpa using e3
  exact ⟨a, c, xs, z0, z1, z2, z3, rfl, hr, hx, hm, w0, w1, w2, w3⟩
end

theorem under_raw : ∃ f0 f1 g0 g1 g2 g3 : Field, Tryz.prog.underlying 26 = some (.struct #[f0, f1]) ∧ Tryz.prog.underlying f1.type = some (.struct #[g0, g1, g2, g3]) ∧
    (f0.offset = 0 ∧ f1.offset = 1 ∧ g0.offset = 0 ∧ g1.offset = 1 ∧ g2.offset = 2 ∧ g3.offset = 3) ∧
    (Tryz.prog.cellsOf f0.type = 1 ∧ Tryz.prog.cellsOf f1.type = 4 ∧ Tryz.prog.cellsOf g0.type = 1 ∧ Tryz.prog.cellsOf g1.type = 1 ∧ Tryz.prog.cellsOf g2.type = 1 ∧ Tryz.prog.cellsOf g3.type = 1) ∧
    f0.type = 22 ∧ (Tryz.prog.underlying g0.type = some (.int .i64) ∧ Tryz.prog.underlying g1.type = some (.int .i64) ∧ Tryz.prog.underlying g2.type = some (.int .i64) ∧ Tryz.prog.underlying g3.type = some (.int .i64)) :=
  ⟨_, _, _, _, _, _, Tryz.underlying26, Tryz.underlying24, ⟨rfl, rfl, rfl, rfl, rfl, rfl⟩, ⟨by kernel_rfl, by kernel_rfl, by kernel_rfl, by kernel_rfl, by kernel_rfl, by kernel_rfl⟩, rfl, by kernel_rfl, by kernel_rfl, by kernel_rfl, by kernel_rfl⟩
end Go.Proofs.YtnjpjhlodamanaaGreatDoor
